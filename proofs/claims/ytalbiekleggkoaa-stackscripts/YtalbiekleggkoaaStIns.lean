/-
  slices.Insert of one element of 2 cells, ahead of the end.
-/
import Derived.Test.YtalbiekleggkoaaStRows
import Derived.Test.YtalbiekleggkoaaInsRows
import Derived.Maps.AppendAt
import Derived.Lib.SmallJoins
namespace Go.Proofs.Ytalbiekleggkoaa
open Go.RowKit

theorem stInsInfo : (Try.prog.info? 31).map (fun i => (i.zero, i.size, i.bytes)) = some (some (.agg #[.int .i64 0, .string ⟨#[]⟩]), 2, 24) := by kernel_rfl
theorem stInsApart (w : World) (a b : Addr) (la ca lb cb : Nat) (hne : a.block ≠ b.block) (tA tB : TypeId) (kA kB : Nat) (hsa : w.shape? a.block = some (tA, kA)) (hsb : w.shape? b.block = some (tB, kB)) (hkB : kB ≠ 0) (hfa : w.frozen? a = false) (hfe : w.frozen? ⟨a.block, kA, none⟩ = false) :
    (callFunc 68 #[.slice (some a) la ca, .slice (some b) lb cb]).run Try.prog w = .ok (.value (.bool false)) w := by
  obtain ⟨i0, hi, hz0, hz1, hz2⟩ := info_parts stInsInfo
  have hsz : ∀ w, (sizeOf 31).run Try.prog w = .ok 2 w := fun w => by
    simp [sizeOf, typeInfo, hi, hz1]
  rw [run_callFunc_extern Try.func68 (by kernel_rfl) (by kernel_rfl) (by kernel_rfl) (e := Extern.SlicesOverlaps.overlaps #[24, 24] #[4]) (by kernel_rfl),
    Lib.run_overlaps_apart w 24 4 31 Try.underlying24 2 hsz a b la ca lb cb hne tA tB kA kB hsa hsb hkB hfa hfe]
  rfl

set_option maxRecDepth 100000 in
set_option maxHeartbeats 4000000 in
theorem stIns_shift (B g n cap i vb : Nat) (xs us : List Value) (w : World) (hO : w.ownsRow B 31 2 (.slice (some ⟨g, 0, none⟩) n cap) n xs) (h1 : ∀ u ∈ xs, u.oneCell' = true) (hu : us.length = 2) (hu1 : ∀ u ∈ us, u.oneCell' = true)
    (hv : w.heap[vb]? = some (.cells us.toArray 31 (0, 0))) (hvg : vb ≠ g) (hi : i < n) (hn : n ≤ 1000000) (hroom : n + 1 ≤ cap) :
    Calls Try.prog 44 #[.slice (some ⟨g, 0, none⟩) n cap, .int .i64 (i : Int), .slice (some ⟨vb, 0, none⟩) 1 1] w fun e w' => ∃ g' cap', e = .returned (.slice (some ⟨g', 0, none⟩) (n + 1) cap') ∧ Hid (InsP w B 31 2 g (.slice (some ⟨g', 0, none⟩) (n + 1) cap') (n + 1) (xs.take (i * 2) ++ us ++ xs.drop (i * 2)) w') := by
  obtain ⟨i0, hi0, hz0, hz1, hz2⟩ := info_parts stInsInfo
  have hlen : xs.length = n * 2 := hO.1
  obtain ⟨ys, hys, hO2⟩ := owns_longer hO hroom
  have hO3 : w.drew.ownsRow B 31 2 (.slice (some ⟨g, 0, none⟩) (n + 1) cap) (n + 1) (xs ++ ys) := World.ownsRow.drew hO2
  have hcapm := owns_capm hO
  have hsv : w.shape? vb = some (31, 2) := by simp [World.shape?, hv, hu]
  obtain ⟨kB, hsg, hkB⟩ : ∃ kB, w.shape? g = some (31, kB) ∧ kB ≠ 0 := by
    rcases hO.2 with ⟨e, _⟩ | ⟨g', cap', cur, e, _, hh, _, _, hs, _⟩
    · cases e
    · injection e with e1 _ e3
      injection e1 with e1
      injection e1 with e1 _ _
      subst e1 e3
      exact ⟨cur.size, by simp [World.shape?, hh], by rw [hs]; omega⟩
  have hfv : ∀ j, w.frozen? ⟨vb, j, none⟩ = false := fun j => by simp [World.frozen?, hv]
  have hov : ∀ lb cb o, (callFunc 68 #[.slice (some ⟨vb, 0, none⟩) 1 1, .slice (some ⟨g, o, none⟩) lb cb]).run Try.prog w = .ok (.value (.bool false)) w := fun lb cb o => stInsApart w ⟨vb, 0, none⟩ ⟨g, o, none⟩ 1 1 lb cb hvg _ _ _ _ hsv hsg hkB (hfv 0) (hfv _)
  obtain ⟨W1, hW1⟩ : ∃ W1, W1 = w.drew.setCells g ((i + 1) * 2) (xs.drop (i * 2)) := ⟨_, rfl⟩
  have hO4 : W1.ownsRow B 31 2 (.slice (some ⟨g, 0, none⟩) (n + 1) cap) (n + 1) (setL (xs ++ ys) ((i + 1) * 2) (xs.drop (i * 2))) := by
    rw [hW1]
    exact owns_setCells _ _ _ _ hO3
  have hcp1 : ∀ ty dc sc, (Builtin.copy_ #[24, 24] ty #[.slice (some ⟨g, (i + 1) * 2, none⟩) (n - i) dc, .slice (some ⟨g, i * 2, none⟩) (n + 1 - i) sc]).run Try.prog w.drew = .ok (goInt ((n - i : Nat) : Int)) W1 := fun ty dc sc => by
    rw [hW1]
    refine run_copy_z w.drew _ _ ty 31 i0 2 hi0 hz1 Try.underlying24 g ((i + 1) * 2) (n - i) dc ⟨g, i * 2, none⟩ (n + 1 - i) sc (n - i) (xs.drop (i * 2)) (by simp only [Nat.min_def]; split <;> omega) (by rw [List.length_drop, hlen, Nat.sub_mul]) (fun j u hj => ?_) (fun j hj => ?_) (fun j hj => owns_fz hO3 _) (fun u hu' => h1 u (List.mem_of_mem_drop hu'))
    · rw [List.getElem?_drop] at hj
      have := owns_at (World.ownsRow.drew hO) (i * 2 + j) u hj
      rw [Addr.add_lit]
      exact this
    · rw [List.length_drop, hlen] at hj
      exact owns_there hO3 _ (by omega)
  have hk1 : Kept (fun k => k = g) w W1 := by
    rw [hW1]
    exact kept_setCells (out := fun k => k = g) g rfl _ _ _ ((Kept.refl (fun k => k = g) w).draws 1)
  have hvW : W1.heap[vb]? = some (.cells us.toArray 31 (0, 0)) := (hk1.block vb (Array.getElem?_eq_some_iff.1 hv).1 hvg).trans hv
  have hcp2 : ∀ ty dc, (Builtin.copy_ #[24, 24] ty #[.slice (some ⟨g, i * 2, none⟩) (n + 1 - i) dc, .slice (some ⟨vb, 0, none⟩) 1 1]).run Try.prog W1 = .ok (goInt ((1 : Nat) : Int)) (W1.setCells g (i * 2) us) := fun ty dc => by
    refine run_copy_z W1 _ _ ty 31 i0 2 hi0 hz1 Try.underlying24 g (i * 2) (n + 1 - i) dc ⟨vb, 0, none⟩ 1 1 1 us (by simp only [Nat.min_def]; split <;> omega) (by omega) (fun j u hj => ?_) (fun j hj => ?_) (fun j hj => owns_fz hO4 _) hu1
    · rw [addr_at]
      simp only [World.cell?, hvW]
      simpa using hj
    · rw [hu] at hj
      exact owns_there hO4 _ (by omega)
  have HFIN : Hid (InsP w B 31 2 g (.slice (some ⟨g, 0, none⟩) (n + 1) cap) (n + 1) (xs.take (i * 2) ++ us ++ xs.drop (i * 2)) (W1.setCells g (i * 2) us)) := by
    have h2 := owns_setCells us (i * 2) _ _ hO4
    rw [shift_row hlen hys hu hi] at h2
    exact ⟨h2, kept_setCells (out := fun k => k = g) g rfl _ _ _ hk1, fun k e => by simp only [Value.ownBlock, Option.some.injEq] at e; exact .inl e.symm⟩
  generalize W1.setCells g (i * 2) us = W2 at *
  have e1 : ((i + 1 : Nat) : Int) = (i : Int) + 1 := by simp
  have hiI : (i : Int) < (n : Int) := by omega
  have hneI : ¬ (i : Int) = (n : Int) := by omega
  have hcI : ((n : Nat) : Int) + 1 ≤ (cap : Int) := by omega
  have hncI : ¬ (cap : Int) < (n : Int) + 1 := by omega
  have hb2 : ¬ (cap = i + 1) := by omega
  have hb4 : ¬ (cap = i) := by omega
  have htn : ((i : Int) + 1).toNat = i + 1 := by omega
  have hw1 : IntKind.i64.wrap ((i : Int) + 1) = (i : Int) + 1 := by rw [IntKind.wrap_i64]; omega
  have hb1 : (0 : Int) ≤ (i : Int) + 1 := by omega
  have hb3 : (i : Int) + 1 ≤ (n : Int) + 1 := by omega
  have hb5 : (i : Int) ≤ (n : Int) + 1 := by omega
  have hc63 : (cap : Int) ≤ 9223372036854775807 := by unfold maxLen at hcapm; omega
  clear hO hO2 hO3 hO4 hk1 hvW hv hfv hsv hsg hys hlen h1 hu1 hW1 hcapm
  go_enter Try.func44, Try.ntmps44
  go_wp2_with (simp only [hov])
  go_region_law (refine step_copy_z rfl (.tmp 73) (.tmp 76) 24 24 rfl _ _ (by simp [Act.eval, Act.put]) (by simp [Act.eval, Act.put]) (hcp1 _ _ _) ?_)
  go_wp2_with (at_builtin; refine wpList_copy_z _ rfl _ _ 24 24 rfl _ _ rfl rfl (hcp2 _ _) ?_)
  go_ret
  exact ⟨_, _, rfl, HFIN⟩

set_option maxRecDepth 100000 in
set_option maxHeartbeats 4000000 in
theorem stIns_grow (B g n cap i vb : Nat) (xs us : List Value) (w : World) (hO : w.ownsRow B 31 2 (.slice (some ⟨g, 0, none⟩) n cap) n xs) (h1 : ∀ u ∈ xs, u.oneCell' = true) (hu : us.length = 2) (hu1 : ∀ u ∈ us, u.oneCell' = true)
    (hv : w.heap[vb]? = some (.cells us.toArray 31 (0, 0))) (hi : i < n) (hn : n ≤ 1000000) (hroom : cap < n + 1) :
    Calls Try.prog 44 #[.slice (some ⟨g, 0, none⟩) n cap, .int .i64 (i : Int), .slice (some ⟨vb, 0, none⟩) 1 1] w fun e w' => ∃ g' cap', e = .returned (.slice (some ⟨g', 0, none⟩) (n + 1) cap') ∧ Hid (InsP w B 31 2 g (.slice (some ⟨g', 0, none⟩) (n + 1) cap') (n + 1) (xs.take (i * 2) ++ us ++ xs.drop (i * 2)) w') := by
  obtain ⟨i0, hi0, hz0, hz1, hz2⟩ := info_parts stInsInfo
  have hlen : xs.length = n * 2 := hO.1
  have hgl := owns_lt hO g rfl
  have hnc : n ≤ cap := owns_room hO
  have hold : (Builtin.firstCells i0.size i (.slice (some ⟨g, 0, none⟩) i cap)).run Try.prog w.drew = .ok (xs.take (i * 2)).toArray w.drew := by
    rw [hz1]
    refine run_firstCells_some w.drew 2 i ⟨g, 0, none⟩ i cap (xs.take (i * 2)) (by rw [List.length_take]; omega) (fun j v hj => ?_)
    rw [List.getElem?_take] at hj
    split at hj
    · rw [addr_at]
      exact owns_at (World.ownsRow.drew hO) j v hj
    · cases hj
  obtain ⟨G, hG⟩ : ∃ G, G = grownCap w (n + 1) cap 31 := ⟨_, rfl⟩
  have hGn : n + 1 ≤ G := by rw [hG]; exact grownCap_ge w _ _ _
  have hGm : G ≤ maxLen := by rw [hG]; exact grownCap_le_maxLen w _ _ _ (by unfold maxLen; omega)
  obtain ⟨Z1, hZ1⟩ : ∃ Z1, Z1 = Builtin.zeroCells (.agg #[.int .i64 0, .string ⟨#[]⟩] : Value).cells (n + 1 - i) := ⟨_, rfl⟩
  obtain ⟨Z2, hZ2⟩ : ∃ Z2, Z2 = Builtin.zeroCells (.agg #[.int .i64 0, .string ⟨#[]⟩] : Value).cells (G - (n + 1)) := ⟨_, rfl⟩
  have hZ1l : Z1.size = (n + 1 - i) * 2 := by rw [hZ1]; simp [Builtin.zeroCells, Value.cells]
  have hZ2l : Z2.size = (G - (n + 1)) * 2 := by rw [hZ2]; simp [Builtin.zeroCells, Value.cells]
  have hzl1 : Z1.toList.length = (n + 1 - i) * 2 := by rw [Array.length_toList]; exact hZ1l
  obtain ⟨ROW, hROW⟩ : ∃ ROW : Array Value, ROW = (xs.take (i * 2)).toArray ++ Z1 ++ Z2 := ⟨_, rfl⟩
  have hrz : ∀ ty, (Builtin.append_ #[24, 3] ty #[.slice (some ⟨g, 0, none⟩) i cap, .int .i64 ((n : Int) + 1 - (i : Int))]).run Try.prog w = .ok (.slice (some ⟨w.heap.size, 0, none⟩) (n + 1) G) (w.alloc (.cells ROW 31)).drew := fun ty => by
    have h := Lib.run_append_grow_zeros w 24 3 ty 31 i0 _ .i64 .i64 Try.underlying24 Try.underlying3 hi0 hz0 (some ⟨g, 0, none⟩) i cap (xs.take (i * 2)) hold (n + 1 - i) (by omega) (by omega) (by omega) (by omega) (by rw [hz2]; omega) (by rw [hz2, show i + (n + 1 - i) = n + 1 by omega]; exact growslice_fits hroom (by omega))
    rw [show i + (n + 1 - i) = n + 1 by omega, ← hG, ← hZ1, ← hZ2, ← hROW] at h
    rw [show (n : Int) + 1 - (i : Int) = ((n + 1 - i : Nat) : Int) by omega]
    exact h
  obtain ⟨p, hp⟩ : ∃ p, p = w.heap.size := ⟨_, rfl⟩
  rw [← hp] at hrz
  obtain ⟨W1, hW1⟩ : ∃ W1, W1 = (w.alloc (.cells ROW 31)).drew := ⟨_, rfl⟩
  rw [← hW1] at hrz
  have hb1w : Below w.heap.size w W1 := by rw [hW1]; exact ((Below.refl _ _).alloc (Nat.le_refl _) _).drew
  have hO1 : W1.ownsRow B 31 2 (.slice (some ⟨p, 0, none⟩) (n + 1) G) (n + 1) (xs.take (i * 2) ++ Z1.toList) := by
    refine ⟨by rw [List.length_append, List.length_take, hzl1]; omega, .inr ⟨p, G, ROW, rfl, by omega, ?_, hGn, hGm, ?_, ?_⟩⟩
    · rw [hW1, hp]
      exact heap_alloc_new w _
    · rw [hROW]
      simp only [Array.size_append, List.size_toArray, List.length_take, hZ1l, hZ2l]
      omega
    · rw [hROW]
      simp only [Array.toList_append]
      rw [List.take_append_of_le_length (by simp only [List.length_append, List.length_take, hzl1]; omega), List.take_of_length_le (by simp only [List.length_append, List.length_take, hzl1]; omega)]
  have hvW : W1.heap[vb]? = some (.cells us.toArray 31 (0, 0)) := (hb1w.block vb (Array.getElem?_eq_some_iff.1 hv).1).trans hv
  have hcpA : ∀ ty dc, (Builtin.copy_ #[24, 24] ty #[.slice (some ⟨p, i * 2, none⟩) (n + 1 - i) dc, .slice (some ⟨vb, 0, none⟩) 1 1]).run Try.prog W1 = .ok (goInt ((1 : Nat) : Int)) (W1.setCells p (i * 2) us) := fun ty dc => by
    refine run_copy_z W1 _ _ ty 31 i0 2 hi0 hz1 Try.underlying24 p (i * 2) (n + 1 - i) dc ⟨vb, 0, none⟩ 1 1 1 us (by simp only [Nat.min_def]; split <;> omega) (by omega) (fun j u hj => ?_) (fun j hj => ?_) (fun j hj => owns_fz hO1 _) hu1
    · rw [addr_at]
      simp only [World.cell?, hvW]
      simpa using hj
    · rw [hu] at hj
      exact owns_there hO1 _ (by omega)
  obtain ⟨W2, hW2⟩ : ∃ W2, W2 = W1.setCells p (i * 2) us := ⟨_, rfl⟩
  rw [← hW2] at hcpA
  have hO2 : W2.ownsRow B 31 2 (.slice (some ⟨p, 0, none⟩) (n + 1) G) (n + 1) (setL (xs.take (i * 2) ++ Z1.toList) (i * 2) us) := by
    rw [hW2]
    exact owns_setCells _ _ _ _ hO1
  have hk2 : Kept (fun k => k = p) W1 W2 := by
    rw [hW2]
    exact kept_setCells (out := fun k => k = p) p rfl _ _ _ (Kept.refl _ _)
  have hOg : W2.ownsRow B 31 2 (.slice (some ⟨g, 0, none⟩) n cap) n xs := owns_kept (owns_kept (out := fun _ => False) hO (Kept.below hb1w) (fun _ _ e => e)) hk2 (fun k e => by simp only [Value.ownBlock, Option.some.injEq] at e; omega)
  have hcpB : ∀ ty dc sc, (Builtin.copy_ #[24, 24] ty #[.slice (some ⟨p, (i + 1) * 2, none⟩) (n - i) dc, .slice (some ⟨g, i * 2, none⟩) (n - i) sc]).run Try.prog W2.drew = .ok (goInt ((n - i : Nat) : Int)) (W2.drew.setCells p ((i + 1) * 2) (xs.drop (i * 2))) := fun ty dc sc => by
    refine run_copy_z W2.drew _ _ ty 31 i0 2 hi0 hz1 Try.underlying24 p ((i + 1) * 2) (n - i) dc ⟨g, i * 2, none⟩ (n - i) sc (n - i) (xs.drop (i * 2)) (by simp only [Nat.min_def]; split <;> omega) (by rw [List.length_drop, hlen, Nat.sub_mul]) (fun j u hj => ?_) (fun j hj => ?_) (fun j hj => owns_fz (World.ownsRow.drew hO2) _) (fun u hu' => h1 u (List.mem_of_mem_drop hu'))
    · rw [List.getElem?_drop] at hj
      have := owns_at (World.ownsRow.drew hOg) (i * 2 + j) u hj
      rw [Addr.add_lit]
      exact this
    · rw [List.length_drop, hlen] at hj
      exact owns_there (World.ownsRow.drew hO2) _ (by omega)
  have HFIN : Hid (InsP w B 31 2 g (.slice (some ⟨p, 0, none⟩) (n + 1) G) (n + 1) (xs.take (i * 2) ++ us ++ xs.drop (i * 2)) (W2.drew.setCells p ((i + 1) * 2) (xs.drop (i * 2)))) := by
    have h2 := owns_setCells (xs.drop (i * 2)) ((i + 1) * 2) _ _ (World.ownsRow.drew hO2)
    rw [fill_row hlen hzl1 hu hi] at h2
    have hk3 : Kept (fun k => k = p) W1 (W2.drew.setCells p ((i + 1) * 2) (xs.drop (i * 2))) := kept_setCells (out := fun k => k = p) p rfl _ _ _ (hk2.draws 1)
    refine ⟨h2, ?_, fun k e => by simp only [Value.ownBlock, Option.some.injEq] at e; omega⟩
    exact ⟨hk3.os.trans hb1w.os, hk3.tape.trans hb1w.tape, hk3.output.trans hb1w.output, Nat.le_trans hb1w.size hk3.size, fun j hj _ => (hk3.block j (Nat.lt_of_lt_of_le hj hb1w.size) (by omega)).trans (hb1w.block j hj)⟩
  have HB : Hid (∀ ty dc sc, _) := hcpB
  clear hcpB
  have hcpB := HB.out
  clear HB
  generalize W2.drew.setCells p ((i + 1) * 2) (xs.drop (i * 2)) = W3 at *
  have hiI : (i : Int) < (n : Int) := by omega
  have hneI : ¬ (i : Int) = (n : Int) := by omega
  have hncI : (cap : Int) < (n : Int) + 1 := by omega
  have hc63 : (cap : Int) ≤ 9223372036854775807 := by omega
  have hG63 : (G : Int) ≤ 9223372036854775807 := by unfold maxLen at hGm; omega
  have hGi : ¬ (G = i) := by omega
  have hinI : (i : Int) ≤ (n : Int) := by omega
  have hGim : ¬ (G = i + 1) := by omega
  have hci : ¬ (cap = i) := by omega
  have hciI : (i : Int) ≤ (cap : Int) := by omega
  have hnG : (n : Int) + 1 ≤ (G : Int) := by omega
  have htn : ((i : Int) + 1).toNat = i + 1 := by omega
  have hw1 : IntKind.i64.wrap ((i : Int) + 1) = (i : Int) + 1 := by rw [IntKind.wrap_i64]; omega
  have hb1 : (0 : Int) ≤ (i : Int) + 1 := by omega
  have hb3 : (i : Int) + 1 ≤ (n : Int) + 1 := by omega
  have hb5 : (i : Int) ≤ (n : Int) + 1 := by omega
  clear hO hO1 hO2 hOg hk2 hvW hv hlen h1 hu1 hold hZ1 hZ2 hZ1l hzl1 hZ2l hROW hb1w hgl hG hGm hp hW1 hW2
  go_enter Try.func44, Try.ntmps44
  go_wp2_with (first
    | (at_builtin; refine Lib.wpList_append_run _ rfl _ _ _ _ rfl _ _ rfl rfl _ _ (hrz _) ?_)
    | (at_builtin; refine wpList_copy_z _ rfl _ _ 24 24 rfl _ _ rfl rfl (hcpA _ _) ?_))
  go_region_law (refine step_copy_z rfl (.tmp 50) (.tmp 53) 24 24 rfl _ _ (by simp [Act.eval, Act.put]) (by simp [Act.eval, Act.put]) (hcpB _ _ _) ?_)
  go_wp2
  go_ret
  exact ⟨_, _, rfl, HFIN⟩

theorem stIns_mid (B g n cap i vb : Nat) (xs us : List Value) (w : World) (hO : w.ownsRow B 31 2 (.slice (some ⟨g, 0, none⟩) n cap) n xs) (h1 : ∀ u ∈ xs, u.oneCell' = true) (hu : us.length = 2) (hu1 : ∀ u ∈ us, u.oneCell' = true)
    (hv : w.heap[vb]? = some (.cells us.toArray 31 (0, 0))) (hvg : vb ≠ g) (hi : i < n) (hn : n ≤ 1000000) :
    Calls Try.prog 44 #[.slice (some ⟨g, 0, none⟩) n cap, .int .i64 (i : Int), .slice (some ⟨vb, 0, none⟩) 1 1] w fun e w' => ∃ g' cap', e = .returned (.slice (some ⟨g', 0, none⟩) (n + 1) cap') ∧ Hid (InsP w B 31 2 g (.slice (some ⟨g', 0, none⟩) (n + 1) cap') (n + 1) (xs.take (i * 2) ++ us ++ xs.drop (i * 2)) w') := by
  rcases Nat.lt_or_ge cap (n + 1) with h | h
  · exact stIns_grow B g n cap i vb xs us w hO h1 hu hu1 hv hi hn h
  · exact stIns_shift B g n cap i vb xs us w hO h1 hu hu1 hv hvg hi hn h

set_option maxRecDepth 100000 in
set_option maxHeartbeats 4000000 in
theorem stIns_end (B n vb : Nat) (v : Value) (xs us : List Value) (w : World) (hO : w.ownsRow B 31 2 v n xs) (hu : us.length = 2) (hu1 : ∀ u ∈ us, u.oneCell' = true)
    (hv : w.heap[vb]? = some (.cells us.toArray 31 (0, 0))) (hB : B ≤ w.heap.size) (hn : n ≤ 1000000) :
    Calls Try.prog 44 #[v, .int .i64 (n : Int), .slice (some ⟨vb, 0, none⟩) 1 1] w fun e w' => ∃ g' cap', e = .returned (.slice (some ⟨g', 0, none⟩) (n + 1) cap') ∧ Hid (w'.ownsRow B 31 2 (.slice (some ⟨g', 0, none⟩) (n + 1) cap') (n + 1) (xs ++ us) ∧ w.grownBy w' v.ownBlock ∧ (v.ownBlock = some g' ∨ w.heap.size ≤ g')) := by
  obtain ⟨i0, hi, hz0, hz1, hz2⟩ := info_parts stInsInfo
  have HO : Hid _ := hO
  have hform : (v = .slice none 0 0 ∧ n = 0) ∨ ∃ g cap, v = .slice (some ⟨g, 0, none⟩) n cap ∧ n ≤ cap := by
    rcases hO.2 with ⟨h1, h2⟩ | ⟨g, cap, cur, h1, _, _, h2, _⟩
    · exact .inl ⟨h1, h2⟩
    · exact .inr ⟨g, cap, h1, h2⟩
  have HN : Hid (∀ j u, us[j]? = some u → w.cell? ((⟨vb, 0, none⟩ : Addr).add j) = some u) := by
    intro j u hj
    rw [addr_at]
    simp only [World.cell?, hv]
    simpa using hj
  have HU : Hid _ := hu1
  have HUL : Hid _ := hu
  clear hO hv hu1 hu
  rcases hform with ⟨rfl, rfl⟩ | ⟨g, cap, rfl, hcap⟩
  · have hx : xs = [] := List.length_eq_zero_iff.1 (by have := HO.out.1; omega)
    subst hx
    go_enter Try.func44, Try.ntmps44
    go_wp2_with (at_builtin; refine wpList_append_own_at _ rfl _ _ 24 rfl B 31 i0 (.agg #[.int .i64 0, .string ⟨#[]⟩]) 2 24 Try.underlying24 hi hz0 hz1 hz2 rfl (by decide) _ 0 [] rfl HO.out ⟨vb, 0, none⟩ 1 1 us rfl (by rw [HUL.out]) HN.out HU.out (by unfold maxLen; omega) (by omega) hB ?_)
    intro v' w' hown' hgrow _ hat
    obtain ⟨g', cap', rfl⟩ := Joins.ownsRow_form hown' (by omega)
    have HE : Hid (w'.ownsRow B 31 2 (.slice (some ⟨g', 0, none⟩) (0 + 1) cap') (0 + 1) ([] ++ us) ∧ w.grownBy w' (Value.ownBlock (.slice none 0 0)) ∧ ((Value.slice none 0 0).ownBlock = some g' ∨ w.heap.size ≤ g')) := ⟨hown', hgrow, by
      rcases hat with h | h
      · simp [Value.ownBlock] at h
      · simp only [Value.ownBlock, Option.some.injEq] at h; exact .inr (by omega)⟩
    clear hown' hgrow hat
    go_wp2
    go_ret
    exact ⟨g', cap', rfl, HE⟩
  · have hI : (n : Int) ≤ (cap : Int) := by omega
    go_enter Try.func44, Try.ntmps44
    go_wp2_with (at_builtin; refine wpList_append_own_at _ rfl _ _ 24 rfl B 31 i0 (.agg #[.int .i64 0, .string ⟨#[]⟩]) 2 24 Try.underlying24 hi hz0 hz1 hz2 rfl (by decide) _ n xs rfl HO.out ⟨vb, 0, none⟩ 1 1 us rfl (by rw [HUL.out]) HN.out HU.out (by unfold maxLen; omega) (by omega) hB ?_)
    all_goals
      intro v' w' hown' hgrow _ hat
      obtain ⟨g', cap', rfl⟩ := Joins.ownsRow_form hown' (by omega)
      have HE : Hid (w'.ownsRow B 31 2 (.slice (some ⟨g', 0, none⟩) (n + 1) cap') (n + 1) (xs ++ us) ∧ w.grownBy w' (Value.slice (some ⟨g, 0, none⟩) n cap).ownBlock ∧ ((Value.slice (some ⟨g, 0, none⟩) n cap).ownBlock = some g' ∨ w.heap.size ≤ g')) := ⟨hown', hgrow, by
        rcases hat with h | h
        · exact .inl h.symm
        · simp only [Value.ownBlock, Option.some.injEq] at h; exact .inr (by omega)⟩
      clear hown' hgrow hat
      go_wp2
      go_ret
      exact ⟨g', cap', rfl, HE⟩
end Go.Proofs.Ytalbiekleggkoaa

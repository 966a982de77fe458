/-
  The table of lines: New.
-/
import Derived.Test.YtjfbogjpmieogacDoorPlaceLow
import Derived.Deep.RegionHeld3
namespace Go.Proofs.YtjfbogjpmieogacDoor.Pl
open Go.RowKit

theorem Tryd.infoInt : (Tryd.prog.info? 3).map (fun i => (i.zero, i.size, i.bytes)) = some (some (.int .i64 0), 1, 8) := by kernel_rfl

def brkV (l : List Nat) : List Value := l.map (fun n : Nat => Value.int .i64 (n : Int))

/-- How far New has come: kp scalars' places are laid, kb scalars' newlines are gathered. -/
structure Mk (w wr : World) (n kp kb : Nat) (rs : List (Int × Int)) (vb : Value) : Prop where
  c0 : wr.cell? ⟨w.heap.size + 1, 0, none⟩ = some (.slice (some ⟨w.heap.size, 0, none⟩) n n)
  c1 : wr.cell? ⟨w.heap.size + 1, 1, none⟩ = some vb
  f : ∀ j, wr.frozen? ⟨w.heap.size + 1, j, none⟩ = false
  pl : ∀ i, i < n → wr.cell? ⟨w.heap.size, i, none⟩ = some (.int .i64 (if i < kp then (rs.getD i (0, 0)).2 else 0))
  pf : ∀ i, wr.frozen? ⟨w.heap.size, i, none⟩ = false
  own : wr.ownsRow (w.heap.size + 2) 3 1 vb (brkFrom 0 ((rs.map (·.1)).take kb)).length (brkV (brkFrom 0 ((rs.map (·.1)).take kb)))
  below : Below w.heap.size w wr
  size : w.heap.size + 2 ≤ wr.heap.size

theorem own_below' {w w' : World} {base : Nat} {e : TypeId} {size : Nat} {v : Value} {n : Nat} {xs : List Value} (h : w.ownsRow base e size v n xs) (hb : Below w.heap.size w w') : w'.ownsRow base e size v n xs := by
  obtain ⟨h1, h2⟩ := h
  refine ⟨h1, ?_⟩
  rcases h2 with h2 | ⟨g, cap, cur, hv, hg, hh, r⟩
  · exact Or.inl h2
  · have hgl : g < w.heap.size := by
      rcases Nat.lt_or_ge g w.heap.size with h' | h'
      · exact h'
      · simp [Array.getElem?_eq_none h'] at hh
    exact Or.inr ⟨g, cap, cur, hv, hg, (hb.block g hgl).trans hh, r⟩

theorem own_block_ge' {w : World} {base : Nat} {e : TypeId} {size : Nat} {v : Value} {n : Nat} {xs : List Value} (h : w.ownsRow base e size v n xs) : ∀ k, v.ownBlock = some k → base ≤ k := by
  intro k hk
  rcases h.2 with ⟨rfl, _⟩ | ⟨g, cap, cur, rfl, hg, _⟩
  · cases hk
  · simp only [Value.ownBlock] at hk
    obtain rfl := Option.some.inj hk
    exact hg

theorem Mk.later {w wr wx : World} {n kp kb : Nat} {rs : List (Int × Int)} {vb : Value} (h : Mk w wr n kp kb rs vb) (hb : Below wr.heap.size wr wx) : Mk w wx n kp kb rs vb := by
  have hs := h.size
  exact ⟨(hb.cell (p := ⟨w.heap.size + 1, 0, none⟩) (by show _ + 1 < _; omega)).trans h.c0, (hb.cell (p := ⟨w.heap.size + 1, 1, none⟩) (by show _ + 1 < _; omega)).trans h.c1,
    fun j => (hb.frozen (p := ⟨w.heap.size + 1, j, none⟩) (by show _ + 1 < _; omega)).trans (h.f j),
    fun i hi => (hb.cell (p := ⟨w.heap.size, i, none⟩) (show w.heap.size < wr.heap.size by omega)).trans (h.pl i hi),
    fun i => (hb.frozen (p := ⟨w.heap.size, i, none⟩) (show w.heap.size < wr.heap.size by omega)).trans (h.pf i),
    own_below' h.own hb, h.below.trans (hb.mono (by omega)), Nat.le_trans hs hb.size⟩

theorem Mk.store {w wr : World} {n k kb : Nat} {rs : List (Int × Int)} {vb : Value} (h : Mk w wr n k kb rs vb) (hk : k < n) (a : Int) (ha : (rs.getD k (0, 0)).2 = a) : Mk w (wr.setCell ⟨w.heap.size, k, none⟩ (.int .i64 a)) n (k + 1) kb rs vb := by
  have key : ∀ j, (wr.setCell ⟨w.heap.size, k, none⟩ (.int .i64 a)).cell? ⟨w.heap.size + 1, j, none⟩ = wr.cell? ⟨w.heap.size + 1, j, none⟩ := fun j =>
    World.cell?_setCell_other wr _ _ _ (by intro e; injection e with e _ _; omega)
  refine ⟨(key 0).trans h.c0, (key 1).trans h.c1, fun j => by rw [World.frozen?_setCell]; exact h.f j, fun i hi => ?_, fun i => by rw [World.frozen?_setCell]; exact h.pf i, ownsRow_setCell_below h.own (show w.heap.size < w.heap.size + 2 by omega) _, h.below.setCell (show w.heap.size ≤ w.heap.size from Nat.le_refl _) _, by simpa [World.setCell] using h.size⟩
  by_cases e : i = k
  · subst e
    rw [World.cell?_setCell_same _ _ _ (h.pl i hi), if_pos (by omega), ha]
  · rw [World.cell?_setCell_other wr _ _ _ (by intro x; injection x with _ x _; exact e x.symm), h.pl i hi]
    by_cases l : i < k
    · rw [if_pos l, if_pos (by omega)]
    · rw [if_neg l, if_neg (by omega)]

theorem take_next (rs : List (Int × Int)) (k : Nat) (hk : k < rs.length) : (rs.map (·.1)).take (k + 1) = (rs.map (·.1)).take k ++ [rs[k].1] := by
  rw [List.take_succ_eq_append_getElem (by simpa using hk)]
  simp

theorem Mk.skip {w wr : World} {n kp k : Nat} {rs : List (Int × Int)} {vb : Value} (h : Mk w wr n kp k rs vb) (hk : k < rs.length) (hv : ¬ rs[k].1 = 10) : Mk w wr n kp (k + 1) rs vb := by
  have e : brkFrom 0 ((rs.map (·.1)).take (k + 1)) = brkFrom 0 ((rs.map (·.1)).take k) := by
    rw [take_next rs k hk, brk_snoc, if_neg hv, List.append_nil]
  exact ⟨h.c0, h.c1, h.f, h.pl, h.pf, by rw [e]; exact h.own, h.below, h.size⟩

theorem Mk.add {w wr w1 w' : World} {n kp k : Nat} {rs : List (Int × Int)} {vb vb' : Value} (h0 : Mk w wr n kp k rs vb) (hb : Below wr.heap.size wr w1) (hk : k < rs.length) (hv : rs[k].1 = 10)
    (hown' : w'.ownsRow (w.heap.size + 2) 3 1 vb' ((brkFrom 0 ((rs.map (·.1)).take k)).length + 1) (brkV (brkFrom 0 ((rs.map (·.1)).take k)) ++ [.int .i64 (k : Int)])) (hgrow : w1.grownBy w' vb.ownBlock) :
    (∃ g cap, vb' = .slice (some ⟨g, 0, none⟩) ((brkFrom 0 ((rs.map (·.1)).take k)).length + 1) cap) ∧ w'.cell? ⟨w.heap.size + 1, 1, none⟩ = some vb ∧ (∀ j, w'.frozen? ⟨w.heap.size + 1, j, none⟩ = false) ∧
    Mk w (w'.setCell ⟨w.heap.size + 1, 1, none⟩ vb') n kp (k + 1) rs vb' := by
  have h := h0.later hb
  have hs := h.size
  have hB : Below (w.heap.size + 2) w1 w' := (Below.refl _ _).grown hgrow hs (own_block_ge' h.own)
  have c0 := (hB.cell (p := ⟨w.heap.size + 1, 0, none⟩) (by show _ + 1 < _; omega)).trans h.c0
  have c1 := (hB.cell (p := ⟨w.heap.size + 1, 1, none⟩) (by show _ + 1 < _; omega)).trans h.c1
  have ff : ∀ j, w'.frozen? ⟨w.heap.size + 1, j, none⟩ = false := fun j => (hB.frozen (p := ⟨w.heap.size + 1, j, none⟩) (by show _ + 1 < _; omega)).trans (h.f j)
  have e : brkFrom 0 ((rs.map (·.1)).take (k + 1)) = brkFrom 0 ((rs.map (·.1)).take k) ++ [k] := by
    rw [take_next rs k hk, brk_snoc, if_pos hv, List.length_take, Nat.min_eq_left (by simp; omega)]
  have ro : w'.ownsRow (w.heap.size + 2) 3 1 vb' (brkFrom 0 ((rs.map (·.1)).take (k + 1))).length (brkV (brkFrom 0 ((rs.map (·.1)).take (k + 1)))) := by
    rw [e]
    simpa [brkV] using hown'
  refine ⟨Joins.ownsRow_form hown' (by omega), c1, ff, ?_, World.cell?_setCell_same _ _ _ c1, ?_, ?_, ?_, ownsRow_setCell_below ro (by show _ + 1 < _; omega) _, ?_, ?_⟩
  · rw [World.cell?_setCell_other w' _ _ _ (by intro e; injection e with _ e _; cases e)]; exact c0
  · intro j; rw [World.frozen?_setCell]; exact ff j
  · intro i hi
    rw [World.cell?_setCell_other w' _ _ _ (by intro e; injection e with e _ _; omega)]
    exact (hB.cell (p := ⟨w.heap.size, i, none⟩) (show w.heap.size < w.heap.size + 2 by omega)).trans (h.pl i hi)
  · intro i; rw [World.frozen?_setCell]; exact (hB.frozen (p := ⟨w.heap.size, i, none⟩) (show w.heap.size < w.heap.size + 2 by omega)).trans (h.pf i)
  · exact (h.below.trans (hB.mono (by omega))).setCell (by show _ ≤ _ + 1; omega) _
  · have := hB.size
    simp [World.setCell]
    omega

theorem mk_start (w : World) (n : Nat) (rs : List (Int × Int)) :
    Mk w ((w.alloc (.cells (madeCells #[.int .i64 0] n) 3)).alloc (.cells #[.slice (some ⟨w.heap.size, 0, none⟩) n n, .slice none 0 0] 54)) n 0 0 rs (.slice none 0 0) := by
  refine ⟨World.cell?_alloc_at _ _ _ _ (by simp), World.cell?_alloc_at _ _ _ _ (by simp), fun j => World.frozen?_alloc_at _ _ _ _ (by simp), fun i hi => ?_, fun i => ?_, World.ownsRow_nil _ _ _ _, ((Below.refl _ _).alloc (Nat.le_refl _) _).alloc (by simp) _, by simp⟩
  · rw [World.cell?_alloc_old _ _ _ (by simp), World.cell?_alloc_at _ _ _ _ rfl]
    simp [madeCells, hi, Nat.mod_one]
  · rw [World.frozen?_alloc_old _ _ _ (by simp)]
    exact World.frozen?_alloc_at _ _ _ _ rfl

set_option maxRecDepth 100000 in
set_option maxHeartbeats 2000000 in
theorem new_some (g cap : Nat) (rs : List (Int × Int)) (w : World) (hg : g < w.heap.size) (_hcap : rs.length ≤ cap) (hlen : rs.length ≤ 1099511627776)
    (hc : ∀ p, (hp : p < rs.length) → w.cell? ⟨g, p * 2, none⟩ = some (.int .i64 rs[p].1) ∧ w.cell? ⟨g, p * 2 + 1, none⟩ = some (.int .i64 rs[p].2)) :
    Calls Tryd.prog 10 #[.slice (some ⟨g, 0, none⟩) rs.length cap] w fun e w' => e = .returned (.pointer (some ⟨w.heap.size + 1, 0, none⟩)) ∧ ∃ vb, Mk w w' rs.length rs.length rs.length rs vb := by
  obtain ⟨i0, hi, hz0, hz1, hz2⟩ := info_parts Tryd.infoInt
  have hmk : ∀ w : World, (Instr.makeSlice 50 (.int .i64 (rs.length : Int)) (.int .i64 (rs.length : Int))).run Tryd.prog w = .ok (.slice (some ⟨w.heap.size, 0, none⟩) rs.length rs.length) (w.alloc (.cells (madeCells #[.int .i64 0] rs.length) 3)) := by
    intro w
    have h := run_make (P := Tryd.prog) w 50 3 i0 (.int .i64 0) Tryd.underlying50 hi hz0 .i64 .i64 (rs.length : Int) (rs.length : Int) (by omega) (Int.le_refl _) (by rw [hz2]; omega) (by omega)
    rw [hz1] at h
    simp only [Int.toNat_natCast, Nat.mul_one] at h
    exact h
  have HC : Hid _ := hc
  have HST : Hid _ := mk_start w rs.length rs
  clear hc
  go_enter Tryd.func10, Tryd.ntmps10
  go_wp2
  clear hmk
  go_loopw [13] (fun i wr => ∃ (k : Nat) (vb : Value), k ≤ rs.length ∧ i = .int .i64 k ∧ Mk w wr rs.length k k rs vb) (fun i _ => rs.length - (intOf i).toNat)
  case atStart => exact ⟨0, _, Nat.zero_le _, rfl, HST.out⟩
  case round =>
    clear HST
    obtain ⟨k, vb, hk, rfl, hM⟩ := hrel
    have HM : Hid _ := hM
    by_cases hlt : k < rs.length
    · have hc0 := (hM.below.cell (p := ⟨g, k * 2, none⟩) hg).trans (HC.out k hlt).1
      have hc1 := (hM.below.cell (p := ⟨g, k * 2 + 1, none⟩) hg).trans (HC.out k hlt).2
      have t0 := hM.c0
      have hsz := hM.size
      have HA : Hid ((rs.getD k (0, 0)).2 = rs[k].2) := by show _ = _; simp [List.getD, hlt]
      obtain ⟨v, hv⟩ : ∃ v, rs[k].1 = v := ⟨_, rfl⟩
      obtain ⟨a, ha⟩ : ∃ a, rs[k].2 = a := ⟨_, rfl⟩
      rw [hv] at hc0
      rw [ha] at hc1 HA
      have HV : Hid (rs[k].1 = v) := hv
      clear hv ha hM
      go_upto_region 5 with fail
      have hb1 : ∀ o, Below wr.heap.size wr (wr.alloc o) := fun o => (Below.refl _ _).alloc (Nat.le_refl _) o
      have r0 : (wr.alloc (.cells #[.int .i64 v, .int .i64 a] 30)).cell? ⟨wr.heap.size, 0, none⟩ = some (.int .i64 v) := World.cell?_alloc_at _ _ _ _ rfl
      have r1 : (wr.alloc (.cells #[.int .i64 v, .int .i64 a] 30)).cell? ⟨wr.heap.size, 1, none⟩ = some (.int .i64 a) := World.cell?_alloc_at _ _ _ _ rfl
      have hM1 := HM.out.later (hb1 (.cells #[.int .i64 v, .int .i64 a] 30))
      clear hb1 hc0 hc1 t0
      have hz1 : (wr.alloc (.cells #[.int .i64 v, .int .i64 a] 30)).heap.size = wr.heap.size + 1 := by simp
      revert r0 r1 hM1 hz1
      generalize wr.alloc (.cells #[.int .i64 v, .int .i64 a] 30) = wx
      intro r0 r1 hM1 hz1
      have t0 := hM1.c0
      have tp := hM1.pl k hlt
      have tf := hM1.pf k
      have HM1 : Hid _ := hM1
      have HZ1 : Hid (wx.heap.size = wr.heap.size + 1) := hz1
      have n1 : ¬ w.heap.size = w.heap.size + 1 := by omega
      have n2 : ¬ w.heap.size = wr.heap.size := by omega
      have k0 : (0 : Int) ≤ (k : Int) := by omega
      have k1 : (k : Int) < (rs.length : Int) := by omega
      clear hM1 hz1
      go_cut [] (fun wy => wy.cell? ⟨wr.heap.size, 0, none⟩ = some (.int .i64 v) ∧ Mk w wy rs.length (k + 1) k rs vb ∧ wr.heap.size < wy.heap.size)
      case first =>
        go_region_held3 (fun w' => w'.cell? ⟨w.heap.size + 1, 0, none⟩ = some (.slice (some ⟨w.heap.size, 0, none⟩) rs.length rs.length) ∧ w'.cell? ⟨wr.heap.size, 1, none⟩ = some (.int .i64 a)) (go_keep) (fail)
        all_goals go_wp2
        all_goals go_meet
        all_goals
          have hM2 := HM1.out.store hlt a HA.out
          have hM3 : Mk w (wx.setCell ⟨w.heap.size, k, none⟩ (.int .i64 a)).drew rs.length (k + 1) k rs vb := hM2.later ⟨rfl, rfl, rfl, Nat.le_refl _, fun _ _ => rfl⟩
          refine ⟨?_, hM3, ?_⟩
          · show (wx.setCell ⟨w.heap.size, k, none⟩ (.int .i64 a)).cell? ⟨wr.heap.size, 0, none⟩ = _
            rw [World.cell?_setCell_other _ _ _ _ (by intro e; injection e with e _ _; omega)]
            exact r0
          · have h1 : (wx.setCell ⟨w.heap.size, k, none⟩ (.int .i64 a)).drew.heap.size = wx.heap.size := by simp [World.setCell]
            have h2 := HZ1.out
            omega
      case rest =>
        obtain ⟨r0', hM2, hzw⟩ := hcut
        have HM2 : Hid _ := hM2
        clear r0 r1 t0 tp tf n1 n2
        by_cases hnl : v = 10
        · have hb10 : (v == 10) = true := by simpa using hnl
          have HNL : Hid (v = 10) := hnl
          have t1 := hM2.c1
          have tf := hM2.f
          have hs2 := hM2.size
          have HBL : Hid (∀ o, Below wc.heap.size wc (wc.alloc o)) := fun o => (Below.refl _ _).alloc (Nat.le_refl _) o
          have HL : Hid ((brkFrom 0 ((rs.map (·.1)).take k)).length ≤ k) := by
            show _ ≤ _
            have := brkFrom_len 0 ((rs.map (·.1)).take k)
            rw [List.length_take] at this
            omega
          clear hnl hM2
          go_wp2_with (at_builtin; refine wpList_append_own _ rfl _ _ 50 rfl (w.heap.size + 2) 3 i0 (.int .i64 0) 1 8 Tryd.underlying50 hi hz0 hz1 hz2 rfl (by decide) _ _ _ rfl (own_below' HM2.out.own (HBL.out _)) ⟨wc.heap.size, 0, none⟩ 1 1 [.int .i64 (k : Int)] rfl rfl ?c1 ?c2 ?c3 ?c4 ?c5 ?_)
          case c1 =>
            intro j u hj
            match j, hj with
            | 0, hj => simp at hj; subst hj; simp [Addr.add]
          case c2 => intro u hu; simp at hu; subst hu; rfl
          case c3 => have := HL.out; unfold maxLen; omega
          case c4 => have := HL.out; omega
          case c5 => simp; omega
          intro v' w' hown' hgrow _
          obtain ⟨⟨g', cap', rfl⟩, q1, qf, hM3⟩ := HM2.out.add (HBL.out _) hlt (HV.out.trans HNL.out) hown' hgrow
          have HM3 : Hid _ := hM3
          clear hM3 hown' hgrow t1 tf
          go_wp2
          go_roundw
          case rel => exact ⟨k + 1, _, by omega, by go_num, HM3.out⟩
          case measure => simp [intOf]; omega
        · have hb10 : (v == 10) = false := beq_false_of_ne hnl
          have HM3 : Hid _ := HM2.out.skip hlt (fun h => hnl (HV.out.symm.trans h))
          clear hM2 hnl
          go_wp2
          go_roundw
          case rel => exact ⟨k + 1, _, by omega, by go_num, HM3.out⟩
          case measure => simp [intOf]; omega
    · have hfin : k = rs.length := by omega
      subst hfin
      clear hM
      go_wp2
      go_ret
      exact ⟨rfl, vb, HM.out⟩

set_option maxRecDepth 100000 in
set_option maxHeartbeats 1000000 in
theorem new_none (a : Option Addr) (cap : Nat) (w : World) :
    Calls Tryd.prog 10 #[.slice a 0 cap] w fun e w' => e = .returned (.pointer (some ⟨w.heap.size + 1, 0, none⟩)) ∧ ∃ vb, Mk w w' 0 0 0 [] vb := by
  obtain ⟨i0, hi, hz0, hz1, hz2⟩ := info_parts Tryd.infoInt
  have hmk : ∀ w : World, (Instr.makeSlice 50 (.int .i64 0) (.int .i64 0)).run Tryd.prog w = .ok (.slice (some ⟨w.heap.size, 0, none⟩) 0 0) (w.alloc (.cells (madeCells #[.int .i64 0] 0) 3)) := by
    intro w
    have h := run_make (P := Tryd.prog) w 50 3 i0 (.int .i64 0) Tryd.underlying50 hi hz0 .i64 .i64 0 0 (by omega) (Int.le_refl _) (by rw [hz2]; omega) (by omega)
    rw [hz1] at h
    simp only [Int.toNat_zero, Nat.mul_one] at h
    exact h
  have HST : Hid _ := mk_start w 0 []
  clear hi hz0 hz1 hz2
  go_enter Tryd.func10, Tryd.ntmps10
  go_wp2
  refine wp_loop_rounds 1 ?_
  rw [rounds_succ]
  go_wp2
  go_ret
  exact ⟨rfl, _, HST.out⟩
end Go.Proofs.YtjfbogjpmieogacDoor.Pl

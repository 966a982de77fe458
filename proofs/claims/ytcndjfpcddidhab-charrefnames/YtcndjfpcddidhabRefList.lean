/-
  The names of all references, and what is plain of each of them.
-/
import Derived.Test.YtcndjfpcddidhabRefLook
namespace Go.Proofs.Ytcndjfpcddidhab
open Go.RowKit

theorem Try.infoStr : (Try.prog.info? 9).map (fun i => (i.zero, i.size, i.bytes)) = some (some (.string ByteArray.empty), 1, 16) := by kernel_rfl

/-- k names are laid. -/
structure NamesAt (w wr : World) (b g k : Nat) : Prop where
  ref : RefAt wr b
  cell : ∀ i, i < 109 → wr.cell? ⟨g, i, none⟩ = some (.string (if i < k then nmB i else ByteArray.empty))
  fr : ∀ i, wr.frozen? ⟨g, i, none⟩ = false
  lt : b < g
  gl : g < wr.heap.size
  ge : w.heap.size ≤ g
  below : Below w.heap.size w wr

theorem NamesAt.store {w wr : World} {b g k : Nat} (h : NamesAt w wr b g k) (hk : k < 109) : NamesAt w (wr.setCell ⟨g, k, none⟩ (.string (nmB k))) b g (k + 1) := by
  have key : ∀ j, (wr.setCell ⟨g, k, none⟩ (.string (nmB k))).cell? ⟨b, j, none⟩ = wr.cell? ⟨b, j, none⟩ := fun j =>
    World.cell?_setCell_other wr _ _ _ (by intro e; injection e with e _ _; have := h.lt; omega)
  refine ⟨⟨fun i hi => (key _).trans (h.ref.nm i hi), fun i hi => (key _).trans (h.ref.f i hi), fun i hi => (key _).trans (h.ref.s i hi), by simpa [World.setCell] using h.ref.lt⟩, fun i hi => ?_, fun i => by rw [World.frozen?_setCell]; exact h.fr i, h.lt, by simpa [World.setCell] using h.gl, h.ge, h.below.setCell h.ge _⟩
  by_cases e : i = k
  · subst e
    rw [World.cell?_setCell_same _ _ _ (h.cell i hi), if_pos (by omega)]
  · rw [World.cell?_setCell_other wr _ _ _ (by intro x; injection x with _ x _; exact e x.symm), h.cell i hi]
    by_cases l : i < k
    · rw [if_pos l, if_pos (by omega)]
    · rw [if_neg l, if_neg (by omega)]

set_option maxRecDepth 100000 in
set_option maxHeartbeats 2000000 in
theorem names_any (w : World) :
    Calls Try.prog 16 #[] w fun e w' => ∃ b g, e = .returned (.slice (some ⟨g, 0, none⟩) 109 109) ∧ NamesAt w w' b g 109 := by
  obtain ⟨i0, hi, hz0, hz1, hz2⟩ := info_parts Try.infoStr
  have hmk : ∀ w : World, (Instr.makeSlice 35 (.int .i64 109) (.int .i64 109)).run Try.prog w = .ok (.slice (some ⟨w.heap.size, 0, none⟩) 109 109) (w.alloc (.cells (madeCells #[.string ByteArray.empty] 109) 9)) := by
    intro w
    have h := run_make (P := Try.prog) w 35 9 i0 (.string ByteArray.empty) Try.underlying35 hi hz0 .i64 .i64 109 109 (by omega) (Int.le_refl _) (by rw [hz2]; omega) (by omega)
    rw [hz1] at h
    exact h
  have hz := zero_refs
  clear hi hz0 hz1 hz2
  go_enter Try.func16, Try.ntmps16
  go_upto_region 2 with (first | (go_at_call 18; refine (refs_any _).mono ?_; rintro e w1 ⟨rfl, hb1⟩) | (refine wpList_store_mid rfl 47 (.tmp 1) (.tmp 4) rfl _ 0 refCells.toArray rfl rfl (ref_store _ _ rfl).2.2 (by kernel_rfl) (by kernel_rfl) ?_))
  have hw1 : Below w.heap.size w w1 := by assumption
  obtain ⟨hR, hB2, _⟩ := ref_store w1 _ rfl
  have HB : Hid _ := hw1.trans (hB2.mono hw1.size)
  clear hw1 hB2 hz
  revert hR HB
  generalize (w1.alloc (.cells refZero 47)).setCells w1.heap.size 0 refCells.toArray.toList = w2
  intro hR HB
  have HST : Hid (NamesAt w (w2.alloc (.cells (madeCells #[.string ByteArray.empty] 109) 9)) w1.heap.size w2.heap.size 0) := by
    refine ⟨hR.later ((Below.refl _ _).alloc (Nat.le_refl _) _), fun i hi => ?_, fun i => World.frozen?_alloc_at _ _ _ _ rfl, hR.lt, by simp, HB.out.size, HB.out.alloc HB.out.size _⟩
    rw [World.cell?_alloc_at _ _ _ _ rfl]
    simp [madeCells, hi, Nat.mod_one]
  clear hR
  generalize w1.heap.size = b at HST ⊢
  go_wp2
  clear hmk
  revert HST
  generalize w2.alloc (.cells (madeCells #[.string ByteArray.empty] 109) 9) = w3
  generalize w2.heap.size = g
  intro HST
  go_loopw [6] (fun i wr => ∃ k : Nat, k ≤ 109 ∧ i = .int .i64 k ∧ NamesAt w wr b g k) (fun i _ => 109 - (intOf i).toNat)
  case atStart => exact ⟨0, by omega, rfl, HST.out⟩
  case round =>
    clear HST
    obtain ⟨k, hk, rfl, hN⟩ := hrel
    have HN : Hid _ := hN
    by_cases hlt : k < 109
    · have c0 := hN.ref.nm k hlt
      have c1 := hN.cell k hlt
      have cf := hN.fr k
      have hk9 : (k : Int) < 109 := by omega
      have HN2 : Hid _ := hN.store hlt
      generalize nmB k = nm at c0 HN2
      clear hN
      go_wp2
      go_roundw
      case rel => exact ⟨k + 1, by omega, by go_num, HN2.out⟩
      case measure => simp [intOf]; omega
    · obtain rfl : k = 109 := by omega
      clear hN
      go_wp2
      go_ret
      exact ⟨b, g, rfl, HN.out⟩

/-- What is plain of each name. -/
theorem list_facts : (List.range 109).all (fun k => (downPre refNames (refNames.getD k []) 109 == some k) && decide (2 ≤ (refNames.getD k []).length) && decide ((refNames.getD k []).length < 100) && (((refNames.getD k []).getD ((refNames.getD k []).length - 1) 0 == 59) ||
    ((downPre refNames (refNames.getD k [] ++ [59]) 109 == some (k + 1)) && (refNames.getD (k + 1) [] == refNames.getD k [] ++ [59]) && decide (refF (k + 1) = refF k) && decide (refS (k + 1) = refS k)))) = true := by decide +kernel

theorem list_fact (k : Nat) (hk : k < 109) : longK (nmB k) = some k ∧ 2 ≤ (refNames.getD k []).length ∧ (refNames.getD k []).length < 100 ∧ ((refNames.getD k []).getD ((refNames.getD k []).length - 1) 0 = 59 ∨
    (downPre refNames (refNames.getD k [] ++ [59]) 109 = some (k + 1) ∧ refNames.getD (k + 1) [] = refNames.getD k [] ++ [59] ∧ refF (k + 1) = refF k ∧ refS (k + 1) = refS k)) := by
  have h := List.all_eq_true.1 list_facts k (List.mem_range.2 hk)
  simp only [Bool.and_eq_true, Bool.or_eq_true, beq_iff_eq, decide_eq_true_eq] at h
  refine ⟨?_, h.1.1.2, h.1.2, ?_⟩
  · unfold longK
    rw [nmB_data]
    exact h.1.1.1
  · rcases h.2 with h2 | h2
    · exact .inl h2
    · exact .inr ⟨h2.1.1.1, h2.1.1.2, h2.1.2, h2.2⟩

theorem scal_len (k : Nat) : 1 ≤ (refScal k).length ∧ (refScal k).length ≤ 2 := by
  unfold refScal
  split <;> simp

theorem nmB_next (k : Nat) (h : refNames.getD (k + 1) [] = refNames.getD k [] ++ [59]) : nmB (k + 1) = nmB k ++ ⟨#[59]⟩ := by
  apply ByteArray.ext
  rw [ByteArray.data_append]
  apply Array.toList_inj.1
  rw [Array.toList_append, nmB_data, nmB_data, h]

theorem nmB_size (k : Nat) : (nmB k).size = (refNames.getD k []).length := by
  have := nmB_data k
  rw [← this]
  simp

theorem long_some {t : ByteArray} {W w' : World} {e : Ending} {k : Nat} (h : LongIs t W w' e) (hk : longK t = some k) :
    ∃ g, e = .returned (.tuple #[.string (nmB k), .slice (some ⟨g, 0, none⟩) (refScal k).length (refScal k).length]) ∧ Scal W w' (refScal k) g := by
  rcases h with ⟨h1, _⟩ | ⟨k', g, h1, h2, h3⟩
  · rw [hk] at h1; cases h1
  · rw [hk] at h1
    obtain rfl := Option.some.inj h1
    exact ⟨g, h2, h3⟩

theorem drewN_below' {B : Nat} {a w : World} (h : Below B a w) (n : Nat) : Below B a (w.drewN n) := h.trans ⟨rfl, rfl, rfl, Nat.le_refl _, fun _ _ => rfl⟩

theorem last_eq (b : ByteArray) (L : List UInt8) (h : b.data.toList = L) (hh : b.size - 1 < b.size) : (b[b.size - 1]'hh).toNat = (L.getD (L.length - 1) 0).toNat := by
  subst h
  rw [getD_at _ _ _ (by simpa using hh)]
  simp [ByteArray.getElem_eq_getElem_data]

set_option maxRecDepth 100000 in
set_option maxHeartbeats 4000000 in
theorem list_law (x : Int) (w : World) :
    Calls Try.prog 5 #[.int .i64 x] w fun e w' => e = .returned (.bool true) ∧ Below w.heap.size w w' := by
  obtain ⟨r, hr⟩ : ∃ r, x.tmod 109 = r := ⟨_, rfl⟩
  have hr1 : r < 109 := by rw [← hr]; exact Int.tmod_lt_of_pos x (by decide)
  have hr2 : -109 < r := by rw [← hr]; exact Int.lt_tmod_of_pos x (by decide)
  obtain ⟨k, hkq⟩ : ∃ k : Nat, (r + 109).tmod 109 = (k : Int) := ⟨((r + 109).tmod 109).toNat, by have := Int.tmod_nonneg 109 (show 0 ≤ r + 109 by omega); omega⟩
  have hk : k < 109 := by have := Int.tmod_lt_of_pos (r + 109) (show (0 : Int) < 109 by decide); omega
  have HNM : Hid _ := names_any w
  obtain ⟨f1, f2, f3, f4⟩ := list_fact k hk
  have HF1 : Hid _ := f1
  have HF4 : Hid _ := f4
  clear f1 f4
  go_enter Try.func5, Try.ntmps5
  go_wp2_with fail
  refine Calls.mono HNM.out ?_
  rintro e w1 ⟨b, g, rfl, hN⟩
  have HN : Hid _ := hN
  have ck := hN.cell k hk
  rw [if_pos hk] at ck
  have HL : Hid _ := longest_any (nmB k) w1
  have hk9 : (k : Int) < 109 := by omega
  have hk0 : (0 : Int) ≤ (k : Int) := by omega
  clear HNM hN
  go_wp2_with fail
  refine Calls.mono HL.out ?_
  rintro e w2 hl
  have hl2 : ∃ g2, e = .returned (.tuple #[.string (nmB k), .slice (some ⟨g2, 0, none⟩) (refScal k).length (refScal k).length]) ∧ Scal w1 w2 (refScal k) g2 := by
    rcases hl with ⟨h1, _⟩ | ⟨k', g2, h1, h2, h3⟩
    · rw [HF1.out] at h1; cases h1
    · rw [HF1.out] at h1
      obtain rfl := Option.some.inj h1
      exact ⟨g2, h2, h3⟩
  obtain ⟨g2, rfl, hS⟩ := hl2
  clear hl HL ck hr hr1 hr2 hkq
  have ck := (hS.below.cell (p := ⟨g, k, none⟩) HN.out.gl).trans (HN.out.cell k hk)
  rw [if_pos hk] at ck
  have HB2 : Hid (Below w.heap.size w w2) := HN.out.below.trans (hS.below.mono HN.out.below.size)
  have HS : Hid _ := hS
  have hsl := scal_len k
  have HSC : Hid ((refScal k).length = (refScal k).length) := rfl
  obtain ⟨n, hn⟩ : ∃ n, (refScal k).length = n := ⟨_, rfl⟩
  have HNN : Hid ((refScal k).length = n) := hn
  rw [hn] at hsl ⊢
  clear hn HSC
  have HN1 : Hid (1 ≤ n ∧ n ≤ 2) := hsl
  have n1 : decide ((n : Int) < 1) = false := by simp; omega
  have n2 : decide (2 < n) = false := by simp; omega
  have n3 : decide (n < 1) = false := by simp; omega
  have n4 : decide ((2 : Int) < (n : Int)) = false := by simp; omega
  have n5 : (n == 0) = false := beq_false_of_ne (by omega)
  have sz := nmB_size k
  have z1 : (2 : Int) ≤ ((nmB k).size : Int) := by omega
  have z2 : ((nmB k).size : Int) < 100 := by omega
  have HLAST : Hid (∀ h, ((nmB k)[(nmB k).size - 1]'h).toNat = ((refNames.getD k []).getD ((refNames.getD k []).length - 1) 0).toNat) := fun h => last_eq (nmB k) _ (nmB_data k) h
  clear sz hsl f2 f3 hS
  obtain ⟨L, hL1, hL3⟩ : ∃ L : Nat, ((nmB k).size : Int) - 1 = (L : Int) ∧ L = (nmB k).size - 1 := ⟨(nmB k).size - 1, by omega, rfl⟩
  have hL2 : (L : Int) < ((nmB k).size : Int) := by omega
  have hL0 : (0 : Int) ≤ (L : Int) := by omega
  rw [← hL3] at HLAST
  clear hL3
  have hLn : L < (nmB k).size := by omega
  obtain ⟨c, hc⟩ : ∃ c, (nmB k)[L]'hLn = c := ⟨_, rfl⟩
  have HCL : Hid (c.toNat = ((refNames.getD k []).getD ((refNames.getD k []).length - 1) 0).toNat) := by
    show _ = _
    rw [← hc]
    exact HLAST.out hLn
  clear HLAST
  have hcase : (decide (0 < k) = false) ∨ (decide (0 < k) = true ∧ ∃ m : Nat, (k : Int) - 1 = (m : Int) ∧ m + 1 = k) := by
    rcases Nat.eq_zero_or_pos k with h | h
    · left; simp; omega
    · right; exact ⟨by simpa using h, k - 1, by omega, by omega⟩
  rcases hcase with kb | ⟨kb, m, km, hmk⟩
  · skip
    go_wp2_with fail
    go_quiet (fail)
    go_wp2_with fail
    go_quiet (fail)
    by_cases h59 : c = 59
    · subst h59
      go_wp2
      go_ret
      exact ⟨rfl, drewN_below' (drewN_below' HB2.out _) _⟩
    · have c1 : (c.toNat == 59) = false := beq_false_of_ne (fun h => h59 (UInt8.toNat_inj.1 h))
      have c2 : ((c.toNat : Int) == 59) = false := beq_false_of_ne (fun h => h59 (UInt8.toNat_inj.1 (by show c.toNat = 59; omega)))
      obtain ⟨q1, q2, q3, q4⟩ := HF4.out.resolve_left (fun h => h59 (UInt8.toNat_inj.1 (HCL.out.trans (by rw [h]))))
      have hnx := nmB_next k q2
      have HLK : Hid (longK (nmB k ++ ⟨#[59]⟩) = some (k + 1)) := by
        show _ = _
        rw [← hnx]
        unfold longK
        rw [nmB_data, q2]
        exact q1
      have HSC2 : Hid (refScal (k + 1) = refScal k) := by show _ = _; unfold refScal; rw [q3, q4]
      have HNX : Hid _ := hnx
      have HL2 : Hid (∀ W, Calls Try.prog 11 #[.string (nmB k ++ ⟨#[59]⟩)] W fun e w' => LongIs (nmB k ++ ⟨#[59]⟩) W w' e) := fun W => longest_any _ W
      clear q1 q2 q3 q4 hnx h59
      go_wp2_with fail
      refine Calls.mono (HL2.out _) ?_
      rintro e w4 hl4
      obtain ⟨g3, he5, hS4⟩ := long_some hl4 HLK.out
      rw [HNX.out, HSC2.out, HNN.out] at he5
      rw [HSC2.out] at hS4
      subst he5
      have hnp : 0 < (refScal k).length := by have := HNN.out; have := HN1.out; omega
      have d0 := hS4.cell 0 hnp
      have d1 := (hS4.below.cell (p := ⟨g2, 0, none⟩) HS.out.lt).trans (HS.out.cell 0 hnp)
      have d2 := (hS4.below.cell (p := ⟨g, k, none⟩) (Nat.lt_of_lt_of_le HN.out.gl HS.out.below.size)).trans ck
      have hn0 : (0 : Int) < (n : Int) := by have := HN1.out; omega
      have HB4 : Hid (Below w.heap.size w w4) := (drewN_below' HB2.out _).trans (hS4.below.mono HB2.out.size)
      generalize (refScal k)[0] = v0 at d0 d1
      clear hl4 ck hS4 HL2 HLK HNX HSC2
      go_wp2_with fail
      go_quiet (fail)
      go_wp2
      go_ret
      exact ⟨rfl, drewN_below' HB4.out _⟩
  · have cm := (HS.out.below.cell (p := ⟨g, m, none⟩) HN.out.gl).trans (HN.out.cell m (by omega))
    rw [if_pos (by omega)] at cm
    have m9 : (m : Int) < 109 := by omega
    have m0 : (0 : Int) ≤ (m : Int) := by omega
    have hbl : Op.bytesLess (nmB m).toList (nmB k).toList = true := by
      have hl := refNames_len
      rw [nmB_list, nmB_list, getD_at _ _ _ (by omega), getD_at _ _ _ (by omega)]
      exact List.pairwise_iff_getElem.1 refNames_rise m k (by omega) (by omega) (by omega)
    clear hmk
    go_wp2_with fail
    go_quiet (fail)
    go_wp2_with fail
    go_quiet (fail)
    by_cases h59 : c = 59
    · subst h59
      go_wp2
      go_ret
      exact ⟨rfl, drewN_below' (drewN_below' HB2.out _) _⟩
    · have c1 : (c.toNat == 59) = false := beq_false_of_ne (fun h => h59 (UInt8.toNat_inj.1 h))
      have c2 : ((c.toNat : Int) == 59) = false := beq_false_of_ne (fun h => h59 (UInt8.toNat_inj.1 (by show c.toNat = 59; omega)))
      obtain ⟨q1, q2, q3, q4⟩ := HF4.out.resolve_left (fun h => h59 (UInt8.toNat_inj.1 (HCL.out.trans (by rw [h]))))
      have hnx := nmB_next k q2
      have HLK : Hid (longK (nmB k ++ ⟨#[59]⟩) = some (k + 1)) := by
        show _ = _
        rw [← hnx]
        unfold longK
        rw [nmB_data, q2]
        exact q1
      have HSC2 : Hid (refScal (k + 1) = refScal k) := by show _ = _; unfold refScal; rw [q3, q4]
      have HNX : Hid _ := hnx
      have HL2 : Hid (∀ W, Calls Try.prog 11 #[.string (nmB k ++ ⟨#[59]⟩)] W fun e w' => LongIs (nmB k ++ ⟨#[59]⟩) W w' e) := fun W => longest_any _ W
      clear q1 q2 q3 q4 hnx h59
      go_wp2_with fail
      refine Calls.mono (HL2.out _) ?_
      rintro e w4 hl4
      obtain ⟨g3, he5, hS4⟩ := long_some hl4 HLK.out
      rw [HNX.out, HSC2.out, HNN.out] at he5
      rw [HSC2.out] at hS4
      subst he5
      have hnp : 0 < (refScal k).length := by have := HNN.out; have := HN1.out; omega
      have d0 := hS4.cell 0 hnp
      have d1 := (hS4.below.cell (p := ⟨g2, 0, none⟩) HS.out.lt).trans (HS.out.cell 0 hnp)
      have d2 := (hS4.below.cell (p := ⟨g, k, none⟩) (Nat.lt_of_lt_of_le HN.out.gl HS.out.below.size)).trans ck
      have hn0 : (0 : Int) < (n : Int) := by have := HN1.out; omega
      have HB4 : Hid (Below w.heap.size w w4) := (drewN_below' HB2.out _).trans (hS4.below.mono HB2.out.size)
      generalize (refScal k)[0] = v0 at d0 d1
      clear hl4 ck hS4 HL2 HLK HNX HSC2
      go_wp2_with fail
      go_quiet (fail)
      go_wp2
      go_ret
      exact ⟨rfl, drewN_below' HB4.out _⟩
end Go.Proofs.Ytcndjfpcddidhab

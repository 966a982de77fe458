/-
  What stands behind the longest name changes nothing but by a longer name: the law's walk.
-/
import Derived.Test.YtcndjfpcddidhabRefMore
namespace Go.Proofs.Ytcndjfpcddidhab
open Go.RowKit

/-- What is asked of a name, if it is told. -/
theorem beg_of (k : Nat) (hk : k < 109) (W : World) : Calls Try.prog 14 #[.string ((nmB k).extract 0 ((nmB k).size - 1))] W fun e w' => e = .returned (.bool true) ∧ Below W.heap.size W w' := by
  have h := begins_any ((nmB k).extract 0 ((nmB k).size - 1)) W
  rw [nmB_begins k hk ((nmB k).extract 0 ((nmB k).size - 1)) (by rw [cut_take, nmB_data, nmB_size])] at h
  exact h

theorem nmB_full (k : Nat) (hk : k < 109) : (nmB k).toList.isEmpty = false ∧ 2 ≤ (nmB k).size ∧ (nmB k).size < 100 := by
  have h := list_fact k hk
  rw [nmB_list, nmB_size]
  refine ⟨?_, h.2.1, h.2.2.1⟩
  cases hh : refNames.getD k [] with
  | nil => rw [hh] at h; simp at h
  | cons c l => rfl

set_option maxRecDepth 100000 in
set_option maxHeartbeats 4000000 in
theorem longer_law (t m : ByteArray) (w : World) (ht : t.size ≤ 140737488351232) (hm : m.size ≤ 140737488351232) :
    Calls Try.prog 6 #[.string t, .string m] w fun e w' => e = .returned (.bool true) ∧ Below w.heap.size w w' := by
  have HS : Hid _ := speaks4_any w
  by_cases h200 : (200 : Int) < (t.size : Int) + (m.size : Int)
  · go_enter Try.func6, Try.ntmps6
    go_wp2_with fail
    refine Calls.mono HS.out ?_
    rintro e w1 ⟨rfl, hb1⟩
    go_wp2
    go_ret
    exact ⟨rfl, hb1⟩
  have hsum : (t.size : Int) + (m.size : Int) ≤ 200 := by omega
  clear ht hm
  have HL1 : Hid (∀ W, Calls Try.prog 11 #[.string t] W fun e w' => LongIs t W w' e) := fun W => longest_any t W
  have HL2 : Hid (∀ W, Calls Try.prog 11 #[.string (t ++ m)] W fun e w' => LongIs (t ++ m) W w' e) := fun W => longest_any (t ++ m) W
  go_enter Try.func6, Try.ntmps6
  go_wp2_with fail
  refine Calls.mono HS.out ?_
  rintro e w1 ⟨rfl, hb1⟩
  go_wp2_with fail
  refine Calls.mono (HL1.out _) ?_
  rintro e w2 hl1
  have HL1' : Hid _ := hl1
  clear hl1 HS HL1
  have hsz : (t ++ m).size = t.size + m.size := ByteArray.size_append
  cases hk1 : longK t with
  | none =>
    obtain ⟨he, hb2⟩ := long_none HL1'.out hk1
    subst he
    have HB2 : Hid (Below w.heap.size w w2) := hb1.trans (hb2.mono hb1.size)
    have HK1 : Hid _ := hk1
    clear hk1 HL1' hb1 hb2
    go_wp2_with fail
    refine Calls.mono (HL2.out _) ?_
    rintro e w3 hl2
    cases hk2 : longK (t ++ m) with
    | none =>
      obtain ⟨he, hb3⟩ := long_none hl2 hk2
      subst he
      have HB3 : Hid (Below w.heap.size w w3) := HB2.out.trans (hb3.mono HB2.out.size)
      clear hk2 hl2 hb3 HL2 hsz
      go_wp2
      go_ret
      exact ⟨rfl, HB3.out⟩
    | some b =>
      obtain ⟨g, he, hS⟩ := long_some hl2 hk2
      have hgt := longer_none HK1.out hk2
      obtain ⟨hbl, hbe⟩ := nmB_fit hk2
      have hb9 := (longK_pre hk2).1
      obtain ⟨hne, hb2, _⟩ := nmB_full b hb9
      rw [← nmB_size] at hgt
      rw [hsz] at hbl
      have hsl := (scal_len b).1
      have HB3 : Hid (Below w.heap.size w w3) := HB2.out.trans (hS.below.mono HB2.out.size)
      subst he
      have HBG : Hid (∀ W, Calls Try.prog 14 #[.string ((nmB b).extract 0 ((nmB b).size - 1))] W fun e w' => e = .returned (.bool true) ∧ Below W.heap.size W w') := fun W => beg_of b hb9 W
      generalize (refScal b).length = n at hsl ⊢
      generalize nmB b = B at hgt hbl hbe hb2 HBG hne ⊢
      have n0 : ((n : Int) == 0) = false := beq_false_of_ne (by omega)
      have i1 : (t.size : Int) < (B.size : Int) := by omega
      have i2 : (B.size : Int) ≤ (t.size : Int) + (m.size : Int) := by omega
      have i3 : (2 : Int) ≤ (B.size : Int) := by omega
      clear hS hl2 hk2 HL2 HK1 hgt hbl hb9 hsl hb2
      go_wp2_with fail
      refine Calls.mono (HBG.out _) ?_
      rintro e w4 ⟨rfl, hb4⟩
      have HB4 : Hid (Below w.heap.size w w4) := HB3.out.trans (hb4.mono HB3.out.size)
      clear hb4 HBG
      go_wp2
      go_ret
      exact ⟨rfl, HB4.out⟩
  | some a =>
    obtain ⟨g1, he, hS1⟩ := long_some HL1'.out hk1
    obtain ⟨b, hk2, hab, heq⟩ := longer_some (m := m) hk1
    obtain ⟨hal, hae⟩ := nmB_fit hk1
    have ha9 := (longK_pre hk1).1
    obtain ⟨hane, ha2, _⟩ := nmB_full a ha9
    have hsa := (scal_len a).1
    have HB2 : Hid (Below w.heap.size w w2) := hb1.trans (hS1.below.mono hb1.size)
    subst he
    have HBA : Hid (∀ W, Calls Try.prog 14 #[.string ((nmB a).extract 0 ((nmB a).size - 1))] W fun e w' => e = .returned (.bool true) ∧ Below W.heap.size W w') := fun W => beg_of a ha9 W
    rw [← nmB_size, ← nmB_size] at hab
    rw [← nmB_size] at heq
    have HEQ : Hid (¬ t.size < (nmB b).size → nmB b = nmB a) := fun h => by rw [heq (by omega)]
    have HK2 : Hid _ := hk2
    clear hk1 HL1' hb1 hS1 hk2 heq
    obtain ⟨hbl, hbe⟩ := nmB_fit HK2.out
    rw [hsz] at hbl
    have hb9 := (longK_pre HK2.out).1
    obtain ⟨hbne, hb2, _⟩ := nmB_full b hb9
    have hsb := (scal_len b).1
    have HBG : Hid (∀ W, Calls Try.prog 14 #[.string ((nmB b).extract 0 ((nmB b).size - 1))] W fun e w' => e = .returned (.bool true) ∧ Below W.heap.size W w') := fun W => beg_of b hb9 W
    go_wp2_with fail
    refine Calls.mono (HL2.out _) ?_
    rintro e w3 hl2
    obtain ⟨g2, he, hS2⟩ := long_some hl2 HK2.out
    subst he
    have HB3 : Hid (Below w.heap.size w w3) := HB2.out.trans (hS2.below.mono HB2.out.size)
    clear hl2 hS2 HK2 HL2 HB2
    generalize (refScal a).length = n at hsa ⊢
    generalize (refScal b).length = n' at hsb ⊢
    generalize nmB a = A at *
    generalize nmB b = B at *
    have n0 : ((n : Int) == 0) = false := beq_false_of_ne (by omega)
    have n0' : ((n' : Int) == 0) = false := beq_false_of_ne (by omega)
    have i0 : (A.size : Int) ≤ (t.size : Int) := by omega
    have i2 : (B.size : Int) ≤ (t.size : Int) + (m.size : Int) := by omega
    have i3 : (2 : Int) ≤ (B.size : Int) := by omega
    have i4 : (2 : Int) ≤ (A.size : Int) := by omega
    have i5 : (A.size : Int) ≤ (B.size : Int) := by omega
    clear hal hbl ha9 hb9 hsa hsb hb2 ha2 hab
    by_cases hgt : t.size < B.size
    · have i1 : (t.size : Int) < (B.size : Int) := by omega
      clear hgt HEQ
      go_wp2_with fail
      refine Calls.mono (HBA.out _) ?_
      rintro e w4 ⟨rfl, hb4⟩
      have HB4 : Hid (Below w.heap.size w w4) := HB3.out.trans (hb4.mono HB3.out.size)
      clear hb4 HBA
      go_wp2_with fail
      refine Calls.mono (HBG.out _) ?_
      rintro e w5 ⟨rfl, hb5⟩
      have HB5 : Hid (Below w.heap.size w w5) := HB4.out.trans (hb5.mono HB4.out.size)
      clear hb5 HBG
      go_wp2
      go_ret
      exact ⟨rfl, HB5.out⟩
    · obtain rfl := HEQ.out hgt
      have i1 : ¬ (t.size : Int) < (B.size : Int) := by omega
      clear hgt HEQ
      go_wp2_with fail
      refine Calls.mono (HBA.out _) ?_
      rintro e w4 ⟨rfl, hb4⟩
      have HB4 : Hid (Below w.heap.size w w4) := HB3.out.trans (hb4.mono HB3.out.size)
      clear hb4
      go_wp2_with fail
      refine Calls.mono (HBA.out _) ?_
      rintro e w5 ⟨rfl, hb5⟩
      have HB5 : Hid (Below w.heap.size w w5) := HB4.out.trans (hb5.mono HB4.out.size)
      clear hb5 HBA
      go_wp2
      go_ret
      exact ⟨rfl, HB5.out⟩
end Go.Proofs.Ytcndjfpcddidhab

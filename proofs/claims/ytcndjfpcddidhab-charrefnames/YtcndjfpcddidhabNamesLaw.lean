/-
  The longest name with which any text begins: the law's walk.
-/
import Derived.Test.YtcndjfpcddidhabRefRef
namespace Go.Proofs.Ytcndjfpcddidhab
open Go.RowKit

def begF (t : ByteArray) (x : List UInt8) : Bool := decide (t.data.toList.length < x.length) && t.data.toList.isPrefixOf x

theorem beg_take (t : ByteArray) (k : Nat) (hk : k < 109) : (refNames.take (k + 1)).any (begF t) = ((refNames.take k).any (begF t) || begF t (refNames.getD k [])) := by
  have hl := refNames_len
  rw [List.take_succ_eq_append_getElem (by omega), List.any_append, getD_at _ _ _ (by omega)]
  simp

theorem beg_cut (t : ByteArray) (k : Nat) : (((nmB k).extract 0 t.size).toList == t.toList) = t.data.toList.isPrefixOf (refNames.getD k []) := by
  rw [Lib.toList_data, Lib.toList_data, cut_take, nmB_data, Bool.eq_iff_iff, List.isPrefixOf_iff_prefix, List.prefix_iff_eq_take]
  simp only [beq_iff_eq]
  have e : t.data.toList.length = t.size := by simp
  rw [e]
  exact ⟨fun h => h.symm, fun h => h.symm⟩

set_option maxRecDepth 100000 in
set_option maxHeartbeats 4000000 in
theorem names_law (t : ByteArray) (w : World) :
    Calls Try.prog 4 #[.string t] w fun e w' => e = .returned (.bool true) ∧ Below w.heap.size w w' := by
  have HS : Hid _ := speaks4_any w
  have HL : Hid (∀ W, Calls Try.prog 11 #[.string t] W fun e w' => LongIs t W w' e) := fun W => longest_any t W
  have HR : Hid (∀ W, Calls Try.prog 13 #[.string t] W fun e w' => e = .returned (.int .i64 (bestI (longK t))) ∧ Below W.heap.size W w') := fun W => rLongest_any t W
  have HBG : Hid (∀ W, Calls Try.prog 14 #[.string t] W fun e w' => e = .returned (.bool (refNames.any (begF t))) ∧ Below W.heap.size W w') := fun W => begins_any t W
  go_enter Try.func4, Try.ntmps4
  go_wp2_with fail
  refine Calls.mono HS.out ?_
  rintro e w1 ⟨rfl, hb1⟩
  go_wp2_with fail
  refine Calls.mono (HL.out _) ?_
  rintro e w2 hl
  obtain ⟨s, v, n, he, hb2, HLI⟩ : ∃ s v n, e = .returned (.tuple #[.string s, .slice v n n]) ∧ Below w1.heap.size w1 w2 ∧ Hid ((longK t = none ∧ s = ByteArray.empty ∧ n = 0) ∨ ∃ k g, longK t = some k ∧ s = nmB k ∧ v = some ⟨g, 0, none⟩ ∧ n = (refScal k).length ∧ Scal w1 w2 (refScal k) g) := by
    rcases hl with ⟨h1, h2, h3⟩ | ⟨k, g, h1, h2, h3⟩
    · exact ⟨_, _, _, h2, h3, .inl ⟨h1, rfl, rfl⟩⟩
    · exact ⟨_, _, _, h2, h3.below, .inr ⟨k, g, h1, rfl, rfl, rfl, h3⟩⟩
  subst he
  have HB2 : Hid (Below w.heap.size w w2) := hb1.trans (hb2.mono hb1.size)
  have HRN : Hid _ := rNames_any w2
  clear hl hb1 hb2 HS HL
  go_wp2_with fail
  refine Calls.mono HRN.out ?_
  rintro e w3 ⟨rfl, hN, hb3⟩
  have HN3 : Hid _ := hN
  have HB23 : Hid _ := hb3
  generalize w2.heap.size = g at HN3 ⊢
  clear hN hb3 HRN
  go_wp2_with fail
  refine Calls.mono (HR.out _) ?_
  rintro e w4 ⟨rfl, hb4⟩
  have HN4 : Hid _ := HN3.out.later hb4
  have HB24 : Hid (Below w2.heap.size w2 w4) := HB23.out.trans (hb4.mono HB23.out.size)
  clear hb4 HN3 HB23 HR
  go_wp2
  go_loopw [7, 8] (fun m i wr => ∃ k : Nat, k ≤ 109 ∧ i = .int .i64 k ∧ m = .bool ((refNames.take k).any (begF t)) ∧ wr = w4) (fun _ i _ => 109 - (intOf i).toNat)
  case atStart => exact ⟨0, by omega, rfl, rfl, rfl⟩
  case round =>
    obtain ⟨k, hk, rfl, rfl, rfl⟩ := hrel
    by_cases hlt : k < 109
    · have ck := HN4.out.cell k hlt
      have hk9 : (k : Int) < 109 := by omega
      have HT : Hid _ := beg_take t k hlt
      have hcut := beg_cut t k
      have hsz := nmB_size k
      generalize (refNames.take k).any (begF t) = tb at HT ⊢
      cases tb with
      | true =>
        clear hcut hsz
        generalize nmB k = nm at *
        go_wp2
        go_roundw
        case rel => exact ⟨k + 1, by omega, by go_num, by rw [HT.out]; rfl, by simp⟩
        case measure => simp [intOf]; omega
      | false =>
        have HT2 : Hid ((refNames.take (k + 1)).any (begF t) = (decide (t.size < (nmB k).size) && t.data.toList.isPrefixOf (refNames.getD k []))) := by
          show _ = _
          rw [HT.out, hsz, Bool.false_or]
          show (decide (t.data.toList.length < _) && _) = _
          rw [show t.data.toList.length = t.size by simp]
        clear HT hsz
        generalize t.data.toList.isPrefixOf (refNames.getD k []) = pb at hcut HT2
        by_cases hl : t.size < (nmB k).size
        · have hlI : (t.size : Int) < ((nmB k).size : Int) := by omega
          have HT3 : Hid ((refNames.take (k + 1)).any (begF t) = pb) := by show _ = _; rw [HT2.out]; simp [hl]
          clear hl HT2
          generalize nmB k = nm at *
          go_wp2
          go_roundw
          case rel => exact ⟨k + 1, by omega, by go_num, by rw [HT3.out], by simp⟩
          case measure => simp [intOf]; omega
        · have hlI : ¬ (t.size : Int) < ((nmB k).size : Int) := by omega
          have HT3 : Hid ((refNames.take (k + 1)).any (begF t) = false) := by show _ = _; rw [HT2.out]; simp [hl]
          clear hl HT2 hcut
          generalize nmB k = nm at *
          go_wp2
          go_roundw
          case rel => exact ⟨k + 1, by omega, by go_num, by rw [HT3.out], by simp⟩
          case measure => simp [intOf]; omega
    · obtain rfl : k = 109 := by omega
      have e : refNames.take 109 = refNames := List.take_of_length_le (by rw [refNames_len]; exact Nat.le_refl _)
      rw [e]
      clear e hlt hk
      go_wp2_with fail
      refine Calls.mono (HBG.out _) ?_
      rintro e w5 ⟨rfl, hb5⟩
      have HB25 : Hid (Below w2.heap.size w2 w5) := HB24.out.trans (hb5.mono HB24.out.size)
      have HB5 : Hid (Below w.heap.size w w5) := HB2.out.trans (HB25.out.mono HB2.out.size)
      have HN5 : Hid _ := HN4.out.later hb5
      clear hb5 HBG HN4 HB24
      generalize refNames.any (begF t) = any
      have hany : (any != any) = false := by simp
      rcases HLI.out with ⟨h1, h2, h3⟩ | ⟨k, g2, h1, h2, h3, h4, h5⟩
      · subst h2 h3
        rw [h1, show bestI none = -1 from rfl]
        clear h1 HLI HN5
        go_wp2
        go_ret
        exact ⟨rfl, HB5.out⟩
      · subst h2 h3 h4
        rw [h1, show bestI (some k) = (k : Int) from rfl]
        have hk9 := (longK_pre h1).1
        have ck := HN5.out.cell k hk9
        have HSC : Hid _ := rScal_any k hk9 w5
        have HC : Hid (∀ j, (h : j < (refScal k).length) → w5.cell? ⟨g2, j, none⟩ = some (.int .i64 (refScal k)[j])) := fun j h => (HB25.out.cell (p := ⟨g2, j, none⟩) h5.lt).trans (h5.cell j h)
        have HG2 : Hid (g2 < w5.heap.size) := Nat.lt_of_lt_of_le h5.lt HB25.out.size
        have k0 : ¬ (k : Int) < 0 := by omega
        have k9 : (k : Int) < 109 := by omega
        clear h1 h5 HLI
        go_wp2_with fail
        refine Calls.mono HSC.out ?_
        rintro e w6 ⟨g3, rfl, hS⟩
        have HB6 : Hid (Below w.heap.size w w6) := HB5.out.trans (hS.below.mono HB5.out.size)
        have ck6 := (hS.below.cell (p := ⟨g, k, none⟩) HN5.out.lt).trans ck
        have HC6 : Hid (∀ j, (h : j < (refScal k).length) → w6.cell? ⟨g2, j, none⟩ = some (.int .i64 (refScal k)[j]) ∧ w6.cell? ⟨g3, j, none⟩ = some (.int .i64 (refScal k)[j])) := fun j h => ⟨(hS.below.cell (p := ⟨g2, j, none⟩) HG2.out).trans (HC.out j h), hS.cell j h⟩
        have hsl := (scal_len k).2
        generalize refScal k = R at *
        clear ck HSC HC HG2 HN5 HB25 HB5 hS
        go_wp2
        go_loopw [10] (fun i wr => ∃ j : Nat, ∃ q : Nat, j ≤ R.length ∧ i = .int .i64 j ∧ wr = w6.drewN q) (fun i _ => R.length - (intOf i).toNat)
        case atStart => exact ⟨0, 0, by omega, rfl, rfl⟩
        case round =>
          obtain ⟨j, q, hj, rfl, rfl⟩ := hrel
          by_cases hjl : j < R.length
          · obtain ⟨c1, c2⟩ := HC6.out j hjl
            have hjI : (j : Int) < (R.length : Int) := by omega
            generalize R[j] = y at *
            go_wp2_with fail
            go_quiet (fail)
            go_wp2
            go_roundw
            case rel => exact ⟨j + 1, q + nq, by omega, by go_num, by simp⟩
            case measure => simp [intOf]; omega
          · go_wp2
            go_ret
            exact ⟨rfl, drewN_below' HB6.out _⟩
end Go.Proofs.Ytcndjfpcddidhab

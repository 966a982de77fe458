/-
  Plain facts on a text and a longer one; what every statement on references asks first.
-/
import Derived.Test.YtcndjfpcddidhabRefList
namespace Go.Proofs.Ytcndjfpcddidhab
open Go.RowKit

theorem downPre_max (ns : List (List UInt8)) (t : List UInt8) (j : Nat) (hj : j < ns.length) (hp : (ns.getD j []).isPrefixOf t = true) : ∀ k, j < k → ∃ m, downPre ns t k = some m ∧ j ≤ m := by
  intro k
  induction k with
  | zero => intro h; omega
  | succ k ih =>
    intro h
    unfold downPre
    split
    · exact ⟨k, rfl, by omega⟩
    · rename_i hn
      rcases Nat.lt_or_ge j k with h1 | h1
      · exact ih h1
      · obtain rfl : j = k := by omega
        rw [hp] at hn
        simp [hj] at hn

theorem names_longer (a b : Nat) (hab : a < b) (hb : b < 109) (t : List UInt8) (ha : (refNames.getD a []).isPrefixOf t = true) (hbp : (refNames.getD b []).isPrefixOf t = true) : (refNames.getD a []).length < (refNames.getD b []).length := by
  have hl := refNames_len
  refine pre_longer _ _ t ha hbp ?_
  rw [getD_at _ _ _ (by omega), getD_at _ _ _ (by omega)]
  exact List.pairwise_iff_getElem.1 refNames_rise a b (by omega) (by omega) hab

theorem longK_pre {t : ByteArray} {k : Nat} (h : longK t = some k) : k < 109 ∧ (refNames.getD k []).isPrefixOf t.data.toList = true := by
  have := downPre_some _ _ _ _ h
  rw [refNames_len] at this
  exact ⟨this.1, this.2.2⟩

theorem data_app (t m : ByteArray) : (t ++ m).data.toList = t.data.toList ++ m.data.toList := by
  rw [ByteArray.data_append, Array.toList_append]

theorem pre_app {p t m : List UInt8} (h : p.isPrefixOf t = true) : p.isPrefixOf (t ++ m) = true := by
  rw [List.isPrefixOf_iff_prefix] at *
  exact List.IsPrefix.trans h (List.prefix_append _ _)

theorem pre_cut {p t m : List UInt8} (h : p.isPrefixOf (t ++ m) = true) (hl : p.length ≤ t.length) : p.isPrefixOf t = true := by
  rw [List.isPrefixOf_iff_prefix] at *
  exact List.prefix_of_prefix_length_le h (List.prefix_append _ _) hl

/-- Behind a name that is told a longer text tells one that is no shorter; where it isn't longer than the text, it is the same. -/
theorem longer_some {t m : ByteArray} {a : Nat} (h : longK t = some a) : ∃ b, longK (t ++ m) = some b ∧ (refNames.getD a []).length ≤ (refNames.getD b []).length ∧ ((refNames.getD b []).length ≤ t.size → b = a) := by
  obtain ⟨ha, hp⟩ := longK_pre h
  have hp2 : (refNames.getD a []).isPrefixOf (t ++ m).data.toList = true := by rw [data_app]; exact pre_app hp
  obtain ⟨b, hb, hab⟩ := downPre_max refNames (t ++ m).data.toList a (by rw [refNames_len]; exact ha) hp2 109 ha
  obtain ⟨hb9, hbp⟩ := longK_pre hb
  refine ⟨b, hb, ?_, fun hl => ?_⟩
  · rcases Nat.lt_or_ge a b with h1 | h1
    · exact Nat.le_of_lt (names_longer a b h1 hb9 _ hp2 hbp)
    · obtain rfl : a = b := by omega
      exact Nat.le_refl _
  · rw [data_app] at hbp
    have hbt := pre_cut hbp (by simpa using hl)
    obtain ⟨c, hc, hbc⟩ := downPre_max refNames t.data.toList b (by rw [refNames_len]; exact hb9) hbt 109 hb9
    have : longK t = some c := hc
    rw [h] at this
    have := Option.some.inj this
    omega

theorem longer_none {t m : ByteArray} {b : Nat} (h : longK t = none) (hb : longK (t ++ m) = some b) : t.size < (refNames.getD b []).length := by
  rcases Nat.lt_or_ge t.size (refNames.getD b []).length with h1 | h1
  · exact h1
  · obtain ⟨hb9, hbp⟩ := longK_pre hb
    rw [data_app] at hbp
    have hbt := pre_cut hbp (by simpa using h1)
    obtain ⟨c, hc, _⟩ := downPre_max refNames t.data.toList b (by rw [refNames_len]; exact hb9) hbt 109 hb9
    have h2 : longK t = some c := hc
    rw [h] at h2
    cases h2

theorem cut_take (t : ByteArray) (n : Nat) : (t.extract 0 n).data.toList = t.data.toList.take n := by
  rw [ByteArray.data_extract]
  simp

theorem nmB_fit {t : ByteArray} {k : Nat} (h : longK t = some k) : (nmB k).size ≤ t.size ∧ t.extract 0 (nmB k).size = nmB k := by
  obtain ⟨_, hp⟩ := longK_pre h
  rw [List.isPrefixOf_iff_prefix] at hp
  have hl : (refNames.getD k []).length ≤ t.size := by have := hp.length_le; simpa using this
  refine ⟨by rw [nmB_size]; exact hl, ?_⟩
  apply ByteArray.ext
  apply Array.toList_inj.1
  rw [cut_take, nmB_size, nmB_data]
  exact (List.prefix_iff_eq_take.1 hp).symm

/-- A name without its last sign is the beginning of a longer name. -/
theorem nmB_begins (k : Nat) (hk : k < 109) (s : ByteArray) (hs : s.data.toList = (refNames.getD k []).take ((refNames.getD k []).length - 1)) : refNames.any (fun x => decide (s.data.toList.length < x.length) && s.data.toList.isPrefixOf x) = true := by
  have h2 := (list_fact k hk).2.1
  rw [List.any_eq_true]
  refine ⟨refNames.getD k [], ?_, ?_⟩
  · rw [getD_at _ _ _ (by rw [refNames_len]; exact hk)]
    exact List.getElem_mem _
  · rw [hs]
    simp only [Bool.and_eq_true, decide_eq_true_eq, List.length_take]
    refine ⟨by omega, ?_⟩
    rw [List.isPrefixOf_iff_prefix]
    exact List.take_prefix _ _

theorem long_none {t : ByteArray} {W w' : World} {e : Ending} (h : LongIs t W w' e) (hk : longK t = none) : e = .returned (.tuple #[.string ByteArray.empty, .slice none 0 0]) ∧ Below W.heap.size W w' := by
  rcases h with ⟨_, h2, h3⟩ | ⟨k', g, h1, _⟩
  · exact ⟨h2, h3⟩
  · rw [hk] at h1; cases h1

theorem notit : longK ⟨#[110, 111, 116, 105, 116, 59]⟩ = some 70 ∧ nmB 70 = ⟨#[110, 111, 116]⟩ ∧ refScal 70 = [172] := by
  refine ⟨by decide +kernel, ?_, by decide +kernel⟩
  unfold nmB
  have : refNames.getD 70 [] = [110, 111, 116] := by decide +kernel
  rw [this]

set_option maxRecDepth 100000 in
set_option maxHeartbeats 1000000 in
theorem speaks4_any (w : World) : Calls Try.prog 10 #[] w fun e w' => e = .returned (.bool true) ∧ Below w.heap.size w w' := by
  have HL : Hid _ := longest_any ⟨#[110, 111, 116, 105, 116, 59]⟩ w
  obtain ⟨n1, n2, n3⟩ := notit
  have HN : Hid _ := n1
  have HN2 : Hid _ := n2
  have HN3 : Hid _ := n3
  clear n1 n2 n3
  go_enter Try.func10, Try.ntmps10
  go_wp2_with fail
  refine Calls.mono HL.out ?_
  rintro e w1 hl
  obtain ⟨g, he, hS⟩ := long_some hl HN.out
  rw [HN2.out, HN3.out] at he
  rw [HN3.out] at hS
  subst he
  have d0 : w1.cell? ⟨g, 0, none⟩ = some (.int .i64 172) := hS.cell 0 (by simp)
  have HB : Hid _ := hS.below
  clear hl hS HL
  go_wp2
  go_ret
  exact ⟨rfl, HB.out⟩
end Go.Proofs.Ytcndjfpcddidhab

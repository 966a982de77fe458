/-
  Plain facts on going on by one place.
-/
import Derived.Test.YtcndjfpcddidhabPlaceRow
namespace Go.Proofs.Ytcndjfpcddidhab
open Go.RowKit

theorem ahead_next (rs : List (Int × Int)) (h : (rs.map (·.2)).Pairwise (· < ·)) (q : Int) : aheadOf rs (q + 1) = aheadOf rs q + (rs.any (fun r => r.2 == q)).toNat := by
  unfold aheadOf
  induction rs with
  | nil => rfl
  | cons r rs ih =>
    simp only [List.map_cons, List.pairwise_cons] at h
    obtain ⟨h1, h2⟩ := h
    have ih := ih h2
    simp only [List.map_cons, List.any_cons]
    have hno : q ≤ r.2 → (rs.map (·.2)).countP (fun y => !decide (q + 1 ≤ y)) = 0 ∧ (rs.map (·.2)).countP (fun y => !decide (q ≤ y)) = 0 := by
      intro hq
      refine ⟨countP_no _ _ (fun y hy => ?_), countP_no _ _ (fun y hy => ?_)⟩
      · have := h1 y hy; simp; omega
      · have := h1 y hy; simp; omega
    by_cases c1 : r.2 < q
    · have e1 : (r.2 :: rs.map (·.2)).countP (fun y => !decide (q + 1 ≤ y)) = (rs.map (·.2)).countP (fun y => !decide (q + 1 ≤ y)) + 1 := List.countP_cons_of_pos (by simp; omega)
      have e2 : (r.2 :: rs.map (·.2)).countP (fun y => !decide (q ≤ y)) = (rs.map (·.2)).countP (fun y => !decide (q ≤ y)) + 1 := List.countP_cons_of_pos (by simp; omega)
      have e3 : (r.2 == q) = false := beq_false_of_ne (by omega)
      rw [e1, e2, e3, Bool.false_or, ih]
      omega
    · obtain ⟨n1, n2⟩ := hno (by omega)
      have e2 : (r.2 :: rs.map (·.2)).countP (fun y => !decide (q ≤ y)) = (rs.map (·.2)).countP (fun y => !decide (q ≤ y)) := List.countP_cons_of_neg (by simp; omega)
      by_cases c2 : r.2 = q
      · have e1 : (r.2 :: rs.map (·.2)).countP (fun y => !decide (q + 1 ≤ y)) = (rs.map (·.2)).countP (fun y => !decide (q + 1 ≤ y)) + 1 := List.countP_cons_of_pos (by simp; omega)
        have e3 : (r.2 == q) = true := by simpa using c2
        rw [e1, e2, n1, n2, e3]
        rfl
      · have e1 : (r.2 :: rs.map (·.2)).countP (fun y => !decide (q + 1 ≤ y)) = (rs.map (·.2)).countP (fun y => !decide (q + 1 ≤ y)) := List.countP_cons_of_neg (by simp; omega)
        have e3 : (r.2 == q) = false := beq_false_of_ne c2
        have e4 : rs.any (fun r => r.2 == q) = false := by
          rw [List.any_eq_false]
          intro x hx
          have := h1 x.2 (List.mem_map_of_mem hx)
          simp
          omega
        rw [e1, e2, n1, n2, e3, e4]
        rfl

theorem lineCol_bound (l : List Int) : 1 ≤ (lineCol l).1 ∧ (lineCol l).1 ≤ 1 + l.length ∧ 1 ≤ (lineCol l).2 ∧ (lineCol l).2 ≤ 1 + l.length := by
  have key : ∀ n (l : List Int), l.length = n → 1 ≤ (lineCol l).1 ∧ (lineCol l).1 ≤ 1 + l.length ∧ 1 ≤ (lineCol l).2 ∧ (lineCol l).2 ≤ 1 + l.length := by
    intro n
    induction n with
    | zero =>
      intro l hl
      obtain rfl : l = [] := List.length_eq_zero_iff.1 hl
      decide
    | succ n ih =>
      intro l hl
      obtain ⟨l', v, rfl⟩ : ∃ l' v, l = l' ++ [v] := ⟨l.dropLast, l.getLast (by intro h; rw [h] at hl; cases hl), (List.dropLast_concat_getLast _).symm⟩
      have := ih l' (by simpa using hl)
      rw [lineCol_snoc]
      unfold stepLC
      split <;> simp <;> omega
  exact key _ l rfl

/-- Going on by one place: nothing turns where no scalar stands, else one step. -/
theorem rise_step (rs : List (Int × Int)) (h : (rs.map (·.2)).Pairwise (· < ·)) (q : Int) :
    (rs.any (fun r => r.2 == q) = false → lineCol ((rs.map (·.1)).take (aheadOf rs (q + 1))) = lineCol ((rs.map (·.1)).take (aheadOf rs q))) ∧
    (rs.any (fun r => r.2 == q) = true → lineCol ((rs.map (·.1)).take (aheadOf rs (q + 1))) = ((lineCol ((rs.map (·.1)).take (aheadOf rs q))).1, (lineCol ((rs.map (·.1)).take (aheadOf rs q))).2 + 1) ∨
      lineCol ((rs.map (·.1)).take (aheadOf rs (q + 1))) = ((lineCol ((rs.map (·.1)).take (aheadOf rs q))).1 + 1, 1)) := by
  have hn := ahead_next rs h q
  constructor
  · intro hf
    rw [hf] at hn
    rw [hn]
    rfl
  · intro ht
    rw [ht] at hn
    simp only [Bool.toNat_true] at hn
    have hl := ahead_le rs (q + 1)
    have hk : aheadOf rs q < rs.length := by omega
    rw [hn, take_next rs _ hk, lineCol_snoc]
    unfold stepLC
    split
    · right; rfl
    · left; rfl
end Go.Proofs.Ytcndjfpcddidhab

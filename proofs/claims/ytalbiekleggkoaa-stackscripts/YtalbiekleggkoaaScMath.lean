/-
  Scopes within scopes.
-/
import Derived.Test.YtalbiekleggkoaaStSpeaks
namespace Go.Proofs.Ytalbiekleggkoaa
open Go.RowKit

/-- What is in a scope, item by item. -/
def inRec (sc : Int) (nm : ByteArray) (cs : List Itm) : Nat → Bool
  | 0 => false
  | k + 1 => match cs[k]? with
    | some c => if c.name.toList == nm.toList then true else if endsOf sc c.name then false else inRec sc nm cs k
    | none => inRec sc nm cs k

theorem inOf_rec (sc : Int) (nm : ByteArray) (cs : List Itm) (n : Nat) : (match cs[(lastOf (inP sc nm) cs n).toNat]? with
    | some c => decide (0 ≤ lastOf (inP sc nm) cs n) && c.name.toList == nm.toList
    | none => false) = inRec sc nm cs n := by
  induction n with
  | zero =>
    rw [lastOf, inRec]
    split
    · rfl
    · rfl
  | succ n ih =>
    rw [inRec]
    cases hc : cs[n]? with
    | none =>
      rw [lastOf, hc]
      exact ih
    | some c =>
      rw [lastOf_at hc]
      simp only []
      cases hn : (c.name.toList == nm.toList)
      · cases he : endsOf sc c.name
        · simp only [inP, hn, he, Bool.or_self, Bool.false_eq_true, if_false]
          exact ih
        · simp only [inP, hn, he, Bool.or_true, if_true, Int.toNat_natCast, hc]
          simp
      · simp only [inP, hn, Bool.true_or, if_true, Int.toNat_natCast, hc]
        simp

theorem inOf_eq (sc : Int) (nm : ByteArray) (cs : List Itm) : inOf sc nm cs = inRec sc nm cs cs.length := inOf_rec sc nm cs cs.length

theorem inRec_mono {sc sc' : Int} (nm : ByteArray) (cs : List Itm) (h : ∀ s, endsOf sc s = true → endsOf sc' s = true) (n : Nat) : inRec sc' nm cs n = true → inRec sc nm cs n = true := by
  induction n with
  | zero => intro e; exact e
  | succ n ih =>
    rw [inRec, inRec]
    cases hc : cs[n]? with
    | none => exact ih
    | some c =>
      simp only []
      cases hn : (c.name.toList == nm.toList)
      · simp only [Bool.false_eq_true, if_false]
        cases he' : endsOf sc' c.name
        · have he : endsOf sc c.name = false := by
            cases he : endsOf sc c.name
            · rfl
            · rw [h _ he] at he'
              cases he'
          simp only [he, Bool.false_eq_true, if_false]
          exact ih
        · simp
      · simp

theorem ends_narrow {sc sc' : Int} (h3 : sc = 3 ∨ sc' ≠ 3) (h1 : sc = 1 → sc' = 1) (h2 : sc = 2 → sc' = 2) (s : ByteArray) : endsOf sc s = true → endsOf sc' s = true := by
  unfold endsOf
  split
  · exact id
  · split
    · intro h
      simp only [bne_iff_ne, ne_eq] at h ⊢
      rcases h3 with h3 | h3
      · exact absurd h3 h
      · exact h3
    · split
      · intro h
        simp only [beq_iff_eq] at h ⊢
        exact h1 h
      · split
        · intro h
          simp only [beq_iff_eq] at h ⊢
          exact h2 h
        · exact id

theorem in_narrow {sc sc' : Int} (nm : ByteArray) (cs : List Itm) (h3 : sc = 3 ∨ sc' ≠ 3) (h1 : sc = 1 → sc' = 1) (h2 : sc = 2 → sc' = 2) (h : inOf sc' nm cs = true) : inOf sc nm cs = true := by
  rw [inOf_eq] at h ⊢
  exact inRec_mono nm cs (ends_narrow h3 h1 h2) _ h

theorem in_most (nm : ByteArray) (cs : List Itm) : inOf 99 nm cs = inOf 0 nm cs := by
  rw [Bool.eq_iff_iff]
  exact ⟨in_narrow nm cs (.inr (by decide)) (by decide) (by decide), in_narrow nm cs (.inr (by decide)) (by decide) (by decide)⟩
end Go.Proofs.Ytalbiekleggkoaa

/-
  Plain facts on the order of what is wrong. No program stands in it.
-/
import GoSem.Op.String
import Derived.Laws.Strings
namespace Go.Proofs.Ytjfbogjpmieogaa
open Go

def less (a b : List UInt8) : Bool := Op.bytesLess a b

theorem less_nil (a : List UInt8) : less a [] = false := by cases a <;> rfl
theorem less_cons (a b : UInt8) (x y : List UInt8) : less (a :: x) (b :: y) = (decide (a < b) || (a == b && less x y)) := rfl

theorem less_irrefl : ∀ a : List UInt8, less a a = false
  | [] => rfl
  | a :: x => by rw [less_cons, less_irrefl x]; simp

theorem less_trans : ∀ a b c : List UInt8, less a b = true → less b c = true → less a c = true
  | _, [], _, h, _ => by rw [less_nil] at h; cases h
  | _, _ :: _, [], _, h => by rw [less_nil] at h; cases h
  | [], _ :: _, _ :: _, _, _ => rfl
  | a :: x, b :: y, c :: z, h1, h2 => by
    rw [less_cons] at h1 h2 ⊢
    simp only [Bool.or_eq_true, decide_eq_true_eq, Bool.and_eq_true, beq_iff_eq, UInt8.lt_iff_toNat_lt] at h1 h2 ⊢
    rcases h1 with h1 | ⟨rfl, h1⟩
    · rcases h2 with h2 | ⟨rfl, h2⟩
      · left; omega
      · left; exact h1
    · rcases h2 with h2 | ⟨rfl, h2⟩
      · left; exact h2
      · right; exact ⟨rfl, less_trans x y z h1 h2⟩

theorem less_tri : ∀ a b : List UInt8, less a b = true ∨ a = b ∨ less b a = true
  | [], [] => .inr (.inl rfl)
  | [], _ :: _ => .inl rfl
  | _ :: _, [] => .inr (.inr rfl)
  | a :: x, b :: y => by
    rw [less_cons, less_cons]
    simp only [Bool.or_eq_true, decide_eq_true_eq, Bool.and_eq_true, beq_iff_eq, UInt8.lt_iff_toNat_lt]
    by_cases h1 : a.toNat < b.toNat
    · left; left; exact h1
    · by_cases h2 : b.toNat < a.toNat
      · right; right; left; exact h2
      · have e : a = b := UInt8.toNat_inj.1 (by omega)
        subst e
        rcases less_tri x y with h | rfl | h
        · left; right; exact ⟨rfl, h⟩
        · right; left; rfl
        · right; right; right; exact ⟨rfl, h⟩

/-- What is wrong: its code, its place, its node. -/
structure Dg where
  c : Int
  a : Int
  n : ByteArray

theorem bytes_ext {x y : ByteArray} (h : x.toList = y.toList) : x = y := by
  rw [ByteArray.toList_eq, ByteArray.toList_eq] at h
  exact ByteArray.ext (Array.toList_inj.1 h)

/-- The order in which they are told. -/
def dl (x y : Dg) : Bool := if x.a = y.a then (if x.c = y.c then less x.n.toList y.n.toList else decide (x.c < y.c)) else decide (x.a < y.a)

theorem dl_irrefl (x : Dg) : dl x x = false := by simp [dl, less_irrefl]

theorem dl_trans (x y z : Dg) (h1 : dl x y = true) (h2 : dl y z = true) : dl x z = true := by
  unfold dl at *
  by_cases a1 : x.a = y.a
  · by_cases a2 : y.a = z.a
    · rw [if_pos a1] at h1
      rw [if_pos a2] at h2
      rw [if_pos (a1.trans a2)]
      by_cases c1 : x.c = y.c
      · by_cases c2 : y.c = z.c
        · rw [if_pos c1] at h1
          rw [if_pos c2] at h2
          rw [if_pos (c1.trans c2)]
          exact less_trans _ _ _ h1 h2
        · rw [if_neg c2] at h2
          rw [if_neg (c1 ▸ c2), c1]
          exact h2
      · rw [if_neg c1] at h1
        by_cases c2 : y.c = z.c
        · rw [if_neg (c2 ▸ c1), ← c2]
          exact h1
        · rw [if_neg c2] at h2
          simp only [decide_eq_true_eq] at h1 h2
          rw [if_neg (by omega)]
          exact decide_eq_true (by omega)
    · rw [if_neg a2] at h2
      rw [if_neg (a1 ▸ a2), a1]
      exact h2
  · rw [if_neg a1] at h1
    by_cases a2 : y.a = z.a
    · rw [if_neg (a2 ▸ a1), ← a2]
      exact h1
    · rw [if_neg a2] at h2
      simp only [decide_eq_true_eq] at h1 h2
      rw [if_neg (by omega)]
      exact decide_eq_true (by omega)

theorem dl_tri (x y : Dg) : dl x y = true ∨ x = y ∨ dl y x = true := by
  unfold dl
  by_cases ha : x.a = y.a
  · rw [if_pos ha, if_pos ha.symm]
    by_cases hc : x.c = y.c
    · rw [if_pos hc, if_pos hc.symm]
      rcases less_tri x.n.toList y.n.toList with h | h | h
      · exact .inl h
      · have := bytes_ext h
        right; left
        cases x; cases y; simp_all
      · exact .inr (.inr h)
    · rw [if_neg hc, if_neg (Ne.symm hc)]
      simp only [decide_eq_true_eq]
      omega
  · rw [if_neg ha, if_neg (Ne.symm ha)]
    simp only [decide_eq_true_eq]
    omega

theorem dl_asymm (x y : Dg) (h : dl x y = true) : dl y x = false := by
  cases h2 : dl y x with
  | false => rfl
  | true => have := dl_trans _ _ _ h h2; rw [dl_irrefl] at this; cases this
end Go.Proofs.Ytjfbogjpmieogaa

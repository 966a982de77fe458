/-
  Of no tree: nothing.
-/
import Derived.Test.YtjbfgiicaaljjaaDmKidsA
namespace Go.Proofs.Ytjbfgiicaaljjaa
open Go.RowKit

theorem drewN_below {B : Nat} {a w : World} (h : Below B a w) (n : Nat) : Below B a (w.drewN n) := h.trans ⟨rfl, rfl, rfl, Nat.le_refl _, fun _ _ => rfl⟩

set_option maxRecDepth 100000 in
theorem has_none (n : Int) (w : World) : Calls Try.prog 47 #[.pointer none, .int .i64 n] w fun e w' => e = .returned (.bool false) ∧ w' = w := by
  go_enter Try.func47, Try.ntmps47
  go_wp2
  go_ret
  exact ⟨rfl, rfl⟩

set_option maxRecDepth 100000 in
theorem get_none (n : Int) (w : World) : Calls Try.prog 20 #[.pointer none, .int .i64 n] w fun e w' => e = .returned (.tuple #[.agg #[.int .i64 0, .int .i64 0, .string ⟨#[]⟩, .string ⟨#[]⟩, .slice none 0 0], .bool false]) ∧ Below w.heap.size w w' := by
  have HB : Hid (∀ o, Below w.heap.size w (w.alloc o)) := fun o => (Below.refl _ _).alloc (Nat.le_refl _) o
  have HB0 : Hid (Below w.heap.size w w) := Below.refl _ _
  have HB2 : Hid (∀ o o', Below w.heap.size w ((w.alloc o).alloc o')) := fun o o' => ((Below.refl _ _).alloc (Nat.le_refl _) o).alloc (by simp) o'
  have HC : Hid (∀ w, _) := fun w => has_none n w
  go_enter Try.func20, Try.ntmps20
  go_wp2_with fail
  refine Calls.mono (HC.out _) ?_
  rintro e w1 ⟨rfl, hw1⟩
  subst hw1
  clear HC
  go_wp2
  first
    | (go_ret; exact ⟨rfl, by first | exact HB0.out | exact HB.out _ | exact HB2.out _ _⟩)
    | exact bodyPost_ret (v := .tuple #[.agg #[.int .i64 0, .int .i64 0, .string ⟨#[]⟩, .string ⟨#[]⟩, .slice none 0 0], .bool false]) (by simp [results, Try.results20, go_sem]) rfl ⟨rfl, by first | exact HB0.out | exact HB.out _ | exact HB2.out _ _⟩

set_option maxRecDepth 100000 in
theorem parent_none (n : Int) (w : World) : Calls Try.prog 28 #[.pointer none, .int .i64 n] w fun e w' => e = .returned (.int .i64 (-1)) ∧ Below w.heap.size w w' := by
  have HB : Hid (∀ o, Below w.heap.size w (w.alloc o)) := fun o => (Below.refl _ _).alloc (Nat.le_refl _) o
  have HB0 : Hid (Below w.heap.size w w) := Below.refl _ _
  have HB2 : Hid (∀ o o', Below w.heap.size w ((w.alloc o).alloc o')) := fun o o' => ((Below.refl _ _).alloc (Nat.le_refl _) o).alloc (by simp) o'
  have HC : Hid (∀ w, _) := fun w => has_none n w
  go_enter Try.func28, Try.ntmps28
  go_wp2_with fail
  refine Calls.mono (HC.out _) ?_
  rintro e w1 ⟨rfl, hw1⟩
  subst hw1
  clear HC
  go_wp2
  first
    | (go_ret; exact ⟨rfl, by first | exact HB0.out | exact HB.out _ | exact HB2.out _ _⟩)
    | exact bodyPost_ret (v := .int .i64 (-1)) (by simp [results, Try.results28, go_sem]) rfl ⟨rfl, by first | exact HB0.out | exact HB.out _ | exact HB2.out _ _⟩

set_option maxRecDepth 100000 in
theorem kids_none (n : Int) (w : World) : Calls Try.prog 22 #[.pointer none, .int .i64 n] w fun e w' => e = .returned (.slice none 0 0) ∧ Below w.heap.size w w' := by
  have HB : Hid (∀ o, Below w.heap.size w (w.alloc o)) := fun o => (Below.refl _ _).alloc (Nat.le_refl _) o
  have HB0 : Hid (Below w.heap.size w w) := Below.refl _ _
  have HB2 : Hid (∀ o o', Below w.heap.size w ((w.alloc o).alloc o')) := fun o o' => ((Below.refl _ _).alloc (Nat.le_refl _) o).alloc (by simp) o'
  have HC : Hid (∀ w, _) := fun w => has_none n w
  go_enter Try.func22, Try.ntmps22
  go_wp2_with fail
  refine Calls.mono (HC.out _) ?_
  rintro e w1 ⟨rfl, hw1⟩
  subst hw1
  clear HC
  go_wp2
  first
    | (go_ret; exact ⟨rfl, by first | exact HB0.out | exact HB.out _ | exact HB2.out _ _⟩)
    | exact bodyPost_ret (v := .slice none 0 0) (by simp [results, Try.results22, go_sem]) rfl ⟨rfl, by first | exact HB0.out | exact HB.out _ | exact HB2.out _ _⟩

end Go.Proofs.Ytjbfgiicaaljjaa

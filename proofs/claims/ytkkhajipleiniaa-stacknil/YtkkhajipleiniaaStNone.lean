/-
  No stack: what each call answers.
-/
import Derived.Test.YtkkhajipleiniaaStIn
namespace Go.Proofs.Ytkkhajipleiniaa
open Go.RowKit

set_option maxRecDepth 100000 in
theorem top_none (w : World) : Calls Try.prog 10 #[.pointer none] w fun e w' => e = .returned (.tuple #[.agg #[.int .i64 0, .string ⟨#[]⟩], .bool false]) ∧ Below w.heap.size w w' := by
  have HB : Hid (∀ o, Below w.heap.size w (w.alloc o)) := fun o => (Below.refl _ _).alloc (Nat.le_refl _) o
  have HB0 : Hid (Below w.heap.size w w) := Below.refl _ _
  have HB2 : Hid (∀ o o', Below w.heap.size w ((w.alloc o).alloc o')) := fun o o' => ((Below.refl _ _).alloc (Nat.le_refl _) o).alloc (by simp) o'
  go_enter Try.func10, Try.ntmps10
  go_wp2
  first
    | (go_ret; exact ⟨rfl, by first | exact HB0.out | exact HB.out _ | exact HB2.out _ _ | exact below_drawn (HB2.out _ _) _⟩)
    | exact bodyPost_ret (v := .tuple #[.agg #[.int .i64 0, .string ⟨#[]⟩], .bool false]) (by simp [results, Try.results10, go_sem]) rfl ⟨rfl, by first | exact HB0.out | exact HB.out _ | exact HB2.out _ _⟩

set_option maxRecDepth 100000 in
theorem items_none (w : World) : Calls Try.prog 23 #[.pointer none] w fun e w' => e = .returned (.slice none 0 0) ∧ Below w.heap.size w w' := by
  have HB : Hid (∀ o, Below w.heap.size w (w.alloc o)) := fun o => (Below.refl _ _).alloc (Nat.le_refl _) o
  have HB0 : Hid (Below w.heap.size w w) := Below.refl _ _
  have HB2 : Hid (∀ o o', Below w.heap.size w ((w.alloc o).alloc o')) := fun o o' => ((Below.refl _ _).alloc (Nat.le_refl _) o).alloc (by simp) o'
  go_enter Try.func23, Try.ntmps23
  go_wp2
  first
    | (go_ret; exact ⟨rfl, by first | exact HB0.out | exact HB.out _ | exact HB2.out _ _ | exact below_drawn (HB2.out _ _) _⟩)
    | exact bodyPost_ret (v := .slice none 0 0) (by simp [results, Try.results23, go_sem]) rfl ⟨rfl, by first | exact HB0.out | exact HB.out _ | exact HB2.out _ _⟩

set_option maxRecDepth 100000 in
theorem find_none (n : Int) (w : World) : Calls Try.prog 24 #[.pointer none, .int .i64 n] w fun e w' => e = .returned (.int .i64 (-1)) ∧ Below w.heap.size w w' := by
  have HB : Hid (∀ o, Below w.heap.size w (w.alloc o)) := fun o => (Below.refl _ _).alloc (Nat.le_refl _) o
  have HB0 : Hid (Below w.heap.size w w) := Below.refl _ _
  have HB2 : Hid (∀ o o', Below w.heap.size w ((w.alloc o).alloc o')) := fun o o' => ((Below.refl _ _).alloc (Nat.le_refl _) o).alloc (by simp) o'
  go_enter Try.func24, Try.ntmps24
  go_wp2_with fail
  refine Calls.mono (last_none _ _) ?_
  rintro e w1 ⟨rfl, rfl⟩
  go_wp2
  first
    | (go_ret; exact ⟨rfl, by first | exact HB0.out | exact HB.out _ | exact HB2.out _ _ | exact below_drawn (HB2.out _ _) _⟩)
    | exact bodyPost_ret (v := .int .i64 (-1)) (by simp [results, Try.results24, go_sem]) rfl ⟨rfl, by first | exact HB0.out | exact HB.out _ | exact HB2.out _ _⟩

set_option maxRecDepth 100000 in
theorem cut_none (n : Int) (w : World) : Calls Try.prog 12 #[.pointer none, .int .i64 n] w fun e w' => e = .returned (.bool false) ∧ Below w.heap.size w w' := by
  have HB : Hid (∀ o, Below w.heap.size w (w.alloc o)) := fun o => (Below.refl _ _).alloc (Nat.le_refl _) o
  have HB0 : Hid (Below w.heap.size w w) := Below.refl _ _
  have HB2 : Hid (∀ o o', Below w.heap.size w ((w.alloc o).alloc o')) := fun o o' => ((Below.refl _ _).alloc (Nat.le_refl _) o).alloc (by simp) o'
  go_enter Try.func12, Try.ntmps12
  go_wp2
  first
    | (go_ret; exact ⟨rfl, by first | exact HB0.out | exact HB.out _ | exact HB2.out _ _ | exact below_drawn (HB2.out _ _) _⟩)
    | exact bodyPost_ret (v := .bool false) (by simp [results, Try.results12, go_sem]) rfl ⟨rfl, by first | exact HB0.out | exact HB.out _ | exact HB2.out _ _⟩

set_option maxRecDepth 100000 in
theorem lay_none (w : World) : Calls Try.prog 13 #[.pointer none, .int .i64 0, .agg #[.int .i64 0, .string ⟨#[]⟩]] w fun e w' => e = .returned (.bool false) ∧ Below w.heap.size w w' := by
  have HB : Hid (∀ o, Below w.heap.size w (w.alloc o)) := fun o => (Below.refl _ _).alloc (Nat.le_refl _) o
  have HB0 : Hid (Below w.heap.size w w) := Below.refl _ _
  have HB2 : Hid (∀ o o', Below w.heap.size w ((w.alloc o).alloc o')) := fun o o' => ((Below.refl _ _).alloc (Nat.le_refl _) o).alloc (by simp) o'
  go_enter Try.func13, Try.ntmps13
  go_wp2
  first
    | (go_ret; exact ⟨rfl, by first | exact HB0.out | exact HB.out _ | exact HB2.out _ _ | exact below_drawn (HB2.out _ _) _⟩)
    | exact bodyPost_ret (v := .bool false) (by simp [results, Try.results13, go_sem]) rfl ⟨rfl, by first | exact HB0.out | exact HB.out _ | exact HB2.out _ _⟩

set_option maxRecDepth 100000 in
theorem in_none (n : Int) (s : ByteArray) (w : World) : Calls Try.prog 20 #[.pointer none, .int .i64 n, .string s] w fun e w' => e = .returned (.bool false) ∧ Below w.heap.size w w' := by
  have HB : Hid (∀ o, Below w.heap.size w (w.alloc o)) := fun o => (Below.refl _ _).alloc (Nat.le_refl _) o
  have HB0 : Hid (Below w.heap.size w w) := Below.refl _ _
  have HB2 : Hid (∀ o o', Below w.heap.size w ((w.alloc o).alloc o')) := fun o o' => ((Below.refl _ _).alloc (Nat.le_refl _) o).alloc (by simp) o'
  go_enter Try.func20, Try.ntmps20
  go_wp2_with fail
  refine Calls.mono (last_none _ _) ?_
  rintro e w1 ⟨rfl, rfl⟩
  go_wp2_with fail
  go_quiet (fail)
  go_wp2
  first
    | (go_ret; exact ⟨rfl, by first | exact HB0.out | exact HB.out _ | exact HB2.out _ _ | exact below_drawn (HB2.out _ _) _⟩)
    | exact bodyPost_ret (v := .bool false) (by simp [results, Try.results20, go_sem]) rfl ⟨rfl, by first | exact HB0.out | exact HB.out _ | exact HB2.out _ _⟩

set_option maxRecDepth 100000 in
theorem drop_none (n : Int) (w : World) : Calls Try.prog 51 #[.pointer none, .int .i64 n] w fun e w' => e = .returned (.slice none 0 0) ∧ Below w.heap.size w w' := by
  have HB : Hid (∀ o, Below w.heap.size w (w.alloc o)) := fun o => (Below.refl _ _).alloc (Nat.le_refl _) o
  have HB0 : Hid (Below w.heap.size w w) := Below.refl _ _
  have HB2 : Hid (∀ o o', Below w.heap.size w ((w.alloc o).alloc o')) := fun o o' => ((Below.refl _ _).alloc (Nat.le_refl _) o).alloc (by simp) o'
  go_enter Try.func51, Try.ntmps51
  go_wp2
  first
    | (go_ret; exact ⟨rfl, by first | exact HB0.out | exact HB.out _ | exact HB2.out _ _ | exact below_drawn (HB2.out _ _) _⟩)
    | exact bodyPost_ret (v := .slice none 0 0) (by simp [results, Try.results51, go_sem]) rfl ⟨rfl, by first | exact HB0.out | exact HB.out _ | exact HB2.out _ _⟩

set_option maxRecDepth 100000 in
theorem until_none (s : ByteArray) (w : World) : Calls Try.prog 16 #[.pointer none, .string s] w fun e w' => e = .returned (.slice none 0 0) ∧ Below w.heap.size w w' := by
  have HB : Hid (∀ o, Below w.heap.size w (w.alloc o)) := fun o => (Below.refl _ _).alloc (Nat.le_refl _) o
  have HB0 : Hid (Below w.heap.size w w) := Below.refl _ _
  have HB2 : Hid (∀ o o', Below w.heap.size w ((w.alloc o).alloc o')) := fun o o' => ((Below.refl _ _).alloc (Nat.le_refl _) o).alloc (by simp) o'
  go_enter Try.func16, Try.ntmps16
  go_wp2_with fail
  refine Calls.mono (last_none _ _) ?_
  rintro e w1 ⟨rfl, rfl⟩
  go_wp2
  first
    | (go_ret; exact ⟨rfl, by first | exact HB0.out | exact HB.out _ | exact HB2.out _ _ | exact below_drawn (HB2.out _ _) _⟩)
    | exact bodyPost_ret (v := .slice none 0 0) (by simp [results, Try.results16, go_sem]) rfl ⟨rfl, by first | exact HB0.out | exact HB.out _ | exact HB2.out _ _⟩

set_option maxRecDepth 100000 in
theorem implied_none (s : ByteArray) (w : World) : Calls Try.prog 19 #[.pointer none, .string s] w fun e w' => e = .returned (.slice none 0 0) ∧ Below w.heap.size w w' := by
  have HB : Hid (∀ o, Below w.heap.size w (w.alloc o)) := fun o => (Below.refl _ _).alloc (Nat.le_refl _) o
  have HB0 : Hid (Below w.heap.size w w) := Below.refl _ _
  have HB2 : Hid (∀ o o', Below w.heap.size w ((w.alloc o).alloc o')) := fun o o' => ((Below.refl _ _).alloc (Nat.le_refl _) o).alloc (by simp) o'
  go_enter Try.func19, Try.ntmps19
  go_wp2_with fail
  refine Calls.mono (last_none _ _) ?_
  rintro e w1 ⟨rfl, rfl⟩
  go_wp2
  first
    | (go_ret; exact ⟨rfl, by first | exact HB0.out | exact HB.out _ | exact HB2.out _ _ | exact below_drawn (HB2.out _ _) _⟩)
    | exact bodyPost_ret (v := .slice none 0 0) (by simp [results, Try.results19, go_sem]) rfl ⟨rfl, by first | exact HB0.out | exact HB.out _ | exact HB2.out _ _⟩

end Go.Proofs.Ytkkhajipleiniaa

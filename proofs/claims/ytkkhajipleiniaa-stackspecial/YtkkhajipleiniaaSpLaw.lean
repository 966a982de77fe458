/-
  The elements that formatting doesn't pass: the reference, and the law.
-/
import Derived.Test.YtkkhajipleiniaaAmong
namespace Go.Proofs.Ytkkhajipleiniaa
open Go.RowKit

def spCells : List Value := spRow.map fun b => .string b

theorem spRow_len : spRow.length = 83 := by decide +kernel

set_option maxRecDepth 1000000 in
set_option maxHeartbeats 4000000 in
theorem rSpecial_any (y : ByteArray) (w : World) : Calls Try.prog 26 #[.string y] w fun e w' => e = .returned (.bool (isOne spRow y)) ∧ Below w.heap.size w w' := by
  obtain ⟨r, hr⟩ : ∃ r, isOne spRow y = r := ⟨_, rfl⟩
  rw [hr]
  have HR : Hid (isOne spRow y = r) := hr
  clear hr
  go_enter Try.func26, Try.ntmps26
  go_upto_region 1 with fail
  refine wp_region_lit ?_
  refine wpList_value (v := .slice (some ⟨w.heap.size, 0, none⟩) 83 83) (w' := w.alloc (.cells spCells.toArray 9)) rfl (by kernel_rfl) ?_
  have hN : TextsAt (w.alloc (.cells spCells.toArray 9)) w.heap.size spRow := by
    refine ⟨fun i hi => ?_, by simp⟩
    rw [World.cell?_alloc_at _ _ _ _ rfl]
    simp [spCells, hi]
  have HB : Hid (Below w.heap.size w (w.alloc (.cells spCells.toArray 9))) := (Below.refl _ _).alloc (Nat.le_refl _) _
  have HA : Hid _ := among_any w.heap.size 83 spRow y _ hN (by rw [spRow_len]; omega)
  rw [spRow_len, HR.out] at HA
  clear hN HR
  generalize w.alloc (.cells spCells.toArray 9) = w2 at *
  go_wp2_with fail
  refine Calls.mono HA.out ?_
  rintro e w3 ⟨rfl, rfl⟩
  go_wp2
  go_ret
  exact ⟨rfl, HB.out⟩

theorem div_special : isOne spRow ⟨#[100, 105, 118]⟩ = true := by decide +kernel
theorem b_special : isOne spRow ⟨#[98]⟩ = false := by decide +kernel

set_option maxRecDepth 100000 in
set_option maxHeartbeats 2000000 in
theorem special_law (y : ByteArray) (w : World) : Calls Try.prog 4 #[.string y] w fun e w' => e = .returned (.bool true) ∧ Below w.heap.size w w' := by
  have H1 : Hid (∀ w, _) := fun w => special_any ⟨#[100, 105, 118]⟩ w
  have H2 : Hid (∀ w, _) := fun w => special_any ⟨#[98]⟩ w
  rw [div_special] at H1
  rw [b_special] at H2
  have H3 : Hid (∀ w, _) := fun w => special_any y w
  have H4 : Hid (∀ w, _) := fun w => rSpecial_any y w
  generalize isOne spRow y = r at *
  go_enter Try.func4, Try.ntmps4
  go_wp2_with fail
  refine Calls.mono (H1.out _) ?_
  rintro e w1 ⟨rfl, rfl⟩
  go_wp2_with fail
  refine Calls.mono (H2.out _) ?_
  rintro e w2 ⟨rfl, rfl⟩
  go_wp2_with fail
  refine Calls.mono (H3.out _) ?_
  rintro e w3 ⟨rfl, rfl⟩
  go_wp2_with fail
  refine Calls.mono (H4.out _) ?_
  rintro e w4 ⟨rfl, hb⟩
  have HB : Hid _ := hb
  clear hb H1 H2 H3 H4
  cases r
  · go_wp2
    go_ret
    exact ⟨rfl, HB.out⟩
  · go_wp2
    go_ret
    exact ⟨rfl, HB.out⟩
end Go.Proofs.Ytkkhajipleiniaa

/-
  What every statement on references asks first.
-/
import Derived.Test.YtcndjfpcddidhacDoorRefLook0
namespace Go.Proofs.YtcndjfpcddidhacDoor
open Go.RowKit

theorem long_some {t : ByteArray} {W w' : World} {e : Ending} {k : Nat} (h : LongIs t W w' e) (hk : longK t = some k) :
    ∃ g, e = .returned (.tuple #[.string (nmB k), .slice (some ⟨g, 0, none⟩) (refScal k).length (refScal k).length]) ∧ Scal W w' (refScal k) g := by
  rcases h with ⟨h1, _⟩ | ⟨k', g, h1, h2, h3⟩
  · rw [hk] at h1; cases h1
  · rw [hk] at h1
    obtain rfl := Option.some.inj h1
    exact ⟨g, h2, h3⟩

theorem notit : longK ⟨#[110, 111, 116, 105, 116, 59]⟩ = some 70 ∧ nmB 70 = ⟨#[110, 111, 116]⟩ ∧ refScal 70 = [172] := by
  refine ⟨by decide +kernel, ?_, by decide +kernel⟩
  unfold nmB
  have : refNames.getD 70 [] = [110, 111, 116] := by decide +kernel
  rw [this]

set_option maxRecDepth 100000 in
set_option maxHeartbeats 1000000 in
theorem speaks4_any (w : World) : Calls Tryd.prog 7 #[] w fun e w' => e = .returned (.bool true) ∧ Below w.heap.size w w' := by
  have HL : Hid _ := longest_any ⟨#[110, 111, 116, 105, 116, 59]⟩ w
  obtain ⟨n1, n2, n3⟩ := notit
  have HN : Hid _ := n1
  have HN2 : Hid _ := n2
  have HN3 : Hid _ := n3
  clear n1 n2 n3
  go_enter Tryd.func7, Tryd.ntmps7
  go_wp2_with fail
  refine Calls.mono HL.out ?_
  rintro e w1 hl
  obtain ⟨g, he, hS⟩ := long_some hl HN.out
  rw [HN2.out, HN3.out] at he
  rw [HN3.out] at hS
  subst he
  have d0 : w1.cell? ⟨g, 0, none⟩ = some (.int .i64 172) := hS.cell 0 (by simp)
  have HB : Hid _ := hS.below
  clear hl hS HL
  go_wp2
  go_ret
  exact ⟨rfl, HB.out⟩
end Go.Proofs.YtcndjfpcddidhacDoor

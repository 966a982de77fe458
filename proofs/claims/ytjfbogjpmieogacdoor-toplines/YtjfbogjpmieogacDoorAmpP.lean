/-
  The reference that the statements on the layers ask first.
-/
import Derived.Test.YtjfbogjpmieogacDoorRefLook0
namespace Go.Proofs.YtjfbogjpmieogacDoor.Ch
open Go.RowKit

theorem long_some {t : ByteArray} {W w' : World} {e : Ending} {k : Nat} (h : LongIs t W w' e) (hk : longK t = some k) :
    ∃ g, e = .returned (.tuple #[.string (nmB k), .slice (some ⟨g, 0, none⟩) (refScal k).length (refScal k).length]) ∧ Scal W w' (refScal k) g := by
  rcases h with ⟨h1, _⟩ | ⟨k', g, h1, h2, h3⟩
  · rw [hk] at h1; cases h1
  · rw [hk] at h1
    obtain rfl := Option.some.inj h1
    exact ⟨g, h2, h3⟩

theorem ampx : longK ⟨#[97, 109, 112, 59, 120]⟩ = some (refNames.findIdx (· == [97, 109, 112, 59])) ∧ nmB (refNames.findIdx (· == [97, 109, 112, 59])) = ⟨#[97, 109, 112, 59]⟩ ∧ refScal (refNames.findIdx (· == [97, 109, 112, 59])) = [38] := by
  refine ⟨by decide +kernel, ?_, by decide +kernel⟩
  unfold nmB
  have : refNames.getD (refNames.findIdx (· == [97, 109, 112, 59])) [] = [97, 109, 112, 59] := by decide +kernel
  rw [this]

/-- The reference that the statements on the layers ask first. -/
theorem amp_any (w : World) : Calls Tryd.prog 19 #[.string ⟨#[97, 109, 112, 59, 120]⟩] w fun e w' => ∃ g, e = .returned (.tuple #[.string ⟨#[97, 109, 112, 59]⟩, .slice (some ⟨g, 0, none⟩) 1 1]) ∧ w'.cell? ⟨g, 0, none⟩ = some (.int .i64 38) ∧ Below w.heap.size w w' := by
  refine (longest_any ⟨#[97, 109, 112, 59, 120]⟩ w).mono ?_
  rintro e w1 hl
  obtain ⟨n1, n2, n3⟩ := ampx
  obtain ⟨g, he, hS⟩ := long_some hl n1
  rw [n2, n3] at he
  rw [n3] at hS
  exact ⟨g, he, hS.cell 0 (by simp), hS.below⟩
end Go.Proofs.YtjfbogjpmieogacDoor.Ch

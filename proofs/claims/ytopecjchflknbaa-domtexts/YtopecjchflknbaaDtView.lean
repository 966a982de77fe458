/-
  An argument that is a slice, opened: where its elements lie.
-/
import Derived.Test.YtopecjchflknbaaDtLaw
import Derived.ProofKit
import Derived.OpenShut
import Derived.Deep.Grids
namespace Go.Proofs.Ytopecjchflknbaa
open Go.ChangeShapes Go.WideShapes Go.ChangeAt Go.RowKit

theorem Try.cells3 : Try.prog.cellsOf 3 = 1 := by kernel_rfl

theorem view_ints {H : Type} {enc : TypeId × Value → H} {W : World} {fuel : Nat} {a0 : Option Addr} {len cap : Nat} {d : DataW H} {p : List MemPlace}
    (hf : DataW.trod enc Try.prog W 0 (fun _ => true) true fuel 43 (Value.slice a0 len cap).cells.toList = some (d, p)) :
    ∃ Z : List Int, Z.length = len ∧ IntsAt W a0 Z ∧ (d = .nil ∧ len = 0 ∨ ∃ sp, d = .slice (lits .i64 Z) sp) := by
  rcases Go.ChangeShapes.open_ints Try.underlying43 Try.underlying3 Try.cells3 hf with ⟨hcs, hx⟩ | ⟨a, len', cap', zs, hcs, _, hl, hm, hz, hx, hcell, hwz⟩
  · simp [Value.cells] at hcs
    obtain ⟨rfl, rfl, rfl⟩ := hcs
    simp only [Prod.mk.injEq] at hx
    obtain ⟨rfl, rfl⟩ := hx
    exact ⟨[], rfl, ⟨fun t h => absurd h (by simp)⟩, Or.inl ⟨rfl, rfl⟩⟩
  · simp [Value.cells] at hcs
    obtain ⟨rfl, rfl, rfl⟩ := hcs
    simp only [Prod.mk.injEq] at hx
    obtain ⟨rfl, rfl⟩ := hx
    simp only [if_true] at hz
    refine ⟨zs.take len, (by simp; omega), ⟨fun t ht => ⟨a, rfl, ?_⟩⟩, Or.inr ⟨_, rfl⟩⟩
    have ht' : t < len := by simp at ht; omega
    rw [hcell t (by omega)]
    simp [List.getD, show t < zs.length by omega]

end Go.Proofs.Ytopecjchflknbaa

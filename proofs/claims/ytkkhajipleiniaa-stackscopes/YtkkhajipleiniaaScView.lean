/-
  An argument that is a slice of texts, opened: where its elements lie.
-/
import Derived.Test.YtkkhajipleiniaaScLaw
import Derived.ProofKit
import Derived.OpenShut
import Derived.SliceStrings
namespace Go.Proofs.Ytkkhajipleiniaa
open Go.ChangeShapes Go.WideShapes Go.ChangeAt Go.RowKit

theorem Try.cells9 : Try.prog.cellsOf 9 = 1 := by kernel_rfl

theorem view_strs {H : Type} {enc : TypeId × Value → H} {W : World} {fuel : Nat} {a0 : Option Addr} {len cap : Nat} {d : DataW H} {p : List MemPlace}
    (hf : DataW.trod enc Try.prog W 0 (fun _ => true) true fuel 48 (Value.slice a0 len cap).cells.toList = some (d, p)) :
    ∃ Z : List ByteArray, Z.length = len ∧ StrsAt W a0 Z := by
  rcases open_strings Try.underlying48 Try.underlying9 Try.cells9 hf with ⟨hcs, hx⟩ | ⟨a, len', cap', zs, hcs, _, hl, hm, hz, hx, hcell, hwz⟩
  · simp [Value.cells] at hcs
    obtain ⟨rfl, rfl, rfl⟩ := hcs
    exact ⟨[], rfl, ⟨fun t h => absurd h (by simp)⟩⟩
  · simp [Value.cells] at hcs
    obtain ⟨rfl, rfl, rfl⟩ := hcs
    simp only [if_true] at hz
    refine ⟨zs.take len, (by simp; omega), ⟨fun t ht => ⟨a, rfl, ?_⟩⟩⟩
    have ht' : t < len := by simp at ht; omega
    rw [hcell t (by omega)]
    simp [List.getD, show t < zs.length by omega]
end Go.Proofs.Ytkkhajipleiniaa

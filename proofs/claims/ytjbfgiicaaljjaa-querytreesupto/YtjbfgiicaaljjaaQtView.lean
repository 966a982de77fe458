/-
  An argument that is a row of names, opened.
-/
import Derived.Test.YtjbfgiicaaljjaaTmViewD
import Derived.Test.YtjbfgiicaaljjaaTuUnd
import Derived.ProofKit
import Derived.OpenShut
import Derived.SliceStrings
namespace Go.Proofs.Ytjbfgiicaaljjaa
open Go.ChangeShapes Go.WideShapes Go.ChangeAt Go.RowKit

theorem spot_none {W : World} {a : Addr} {v : Value} (h : W.cell? a = some v) : a.spot = none := by
  unfold World.cell? at h
  split at h
  · cases hs : a.spot with
    | none => rfl
    | some x => rw [hs] at h; simp at h
  · cases h

theorem view_strs {H : Type} {enc : TypeId × Value → H} {W : World} {fuel : Nat} {a0 : Option Addr} {len cap : Nat} {d : DataW H} {p : List MemPlace}
    (hf : DataW.trod enc Try.prog W 0 (fun _ => true) true fuel 23 (Value.slice a0 len cap).cells.toList = some (d, p)) :
    ∃ Z : List ByteArray, Z.length = len ∧ NmAt W a0 len Z := by
  rcases open_strings Try.underlying23 Try.underlying9 strCells hf with ⟨hcs, hx⟩ | ⟨a, len', cap', zs, hcs, _, hl, hm, hz, hx, hcell, hwz⟩
  · simp [Value.cells] at hcs
    obtain ⟨rfl, rfl, rfl⟩ := hcs
    exact ⟨[], rfl, rfl, .inl rfl⟩
  · simp [Value.cells] at hcs
    obtain ⟨rfl, rfl, rfl⟩ := hcs
    simp only [if_true] at hz
    have hzl : (zs.take len).length = len := by simp; omega
    have hC : ∀ t, t < len → W.cell? (a.add t) = some (.string ((zs.take len).getD t ByteArray.empty)) := fun t ht' => by
      rw [hcell t (by omega)]
      simp [List.getD, ht', show t < zs.length by omega]
    refine ⟨zs.take len, hzl, hzl.symm, ?_⟩
    by_cases h0 : len = 0
    · left
      exact List.length_eq_zero_iff.1 (by rw [hzl]; exact h0)
    · right
      have hs := hC 0 (by omega)
      rw [show a.add 0 = a from rfl] at hs
      have hsp := spot_none hs
      obtain ⟨b, off, sp⟩ := a
      simp only at hsp
      subst hsp
      refine ⟨b, off, rfl, fun j hj => ?_⟩
      rw [hzl] at hj
      rw [← hC j hj]
      congr 1
      unfold Addr.add
      split
      · rename_i h; rw [h]; rfl
      · rfl
end Go.Proofs.Ytjbfgiicaaljjaa

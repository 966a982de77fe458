/-
  An argument that is a slice, opened: where its elements lie.
-/
import Derived.Test.YtjfbogjpmieogaaDoorPathProg
import Derived.Test.YtjfbogjpmieogaaDoorRows
import Derived.ProofKit
import Derived.OpenShut
import Derived.Deep.Grids
namespace Go.Proofs.YtjfbogjpmieogaaDoor
open Go.ChangeShapes Go.WideShapes Go.ChangeAt Go.RowKit

theorem Tryd.cells3 : Tryd.prog.cellsOf 3 = 1 := by kernel_rfl

theorem view_ints {H : Type} {enc : TypeId × Value → H} {W : World} {fuel : Nat} {a0 : Option Addr} {len cap : Nat} {d : DataW H} {p : List MemPlace}
    (hf : DataW.trod enc Tryd.prog W 0 (fun _ => true) true fuel 38 (Value.slice a0 len cap).cells.toList = some (d, p)) :
    ∃ Z : List Int, Z.length = len ∧ IntsAt W a0 Z ∧ (d = .nil ∧ len = 0 ∨ ∃ sp, d = .slice (lits .i64 Z) sp) ∧ (a0 = none → cap = 0) ∧ ∀ z ∈ Z, -9223372036854775808 ≤ z ∧ z < 9223372036854775808 := by
  rcases Go.ChangeShapes.open_ints Tryd.underlying38 Tryd.underlying3 Tryd.cells3 hf with ⟨hcs, hx⟩ | ⟨a, len', cap', zs, hcs, _, hl, hm, hz, hx, hcell, hwz⟩
  · simp [Value.cells] at hcs
    obtain ⟨rfl, rfl, rfl⟩ := hcs
    simp only [Prod.mk.injEq] at hx
    obtain ⟨rfl, rfl⟩ := hx
    exact ⟨[], rfl, ⟨fun t h => absurd h (by simp)⟩, Or.inl ⟨rfl, rfl⟩, fun _ => rfl, by simp⟩
  · simp [Value.cells] at hcs
    obtain ⟨rfl, rfl, rfl⟩ := hcs
    simp only [Prod.mk.injEq] at hx
    obtain ⟨rfl, rfl⟩ := hx
    simp only [if_true] at hz
    refine ⟨zs.take len, (by simp; omega), ⟨fun t ht => ⟨a, rfl, ?_⟩⟩, Or.inr ⟨_, rfl⟩, (fun h => by cases h), fun z hz => by have := bounds_i64 (hwz z (List.mem_of_mem_take hz)); omega⟩
    have ht' : t < len := by simp at ht; omega
    rw [hcell t (by omega)]
    simp [List.getD, show t < zs.length by omega]

theorem bulk_ints {H : Type} (Z : List Int) : Rows.uptoBulkAll (lits .i64 Z : List (DataW H)) = Z.length := by
  induction Z with
  | nil => simp [lits, Rows.uptoBulkAll]
  | cons z Z ih =>
    simp only [lits, List.map_cons, Rows.uptoBulkAll, Rows.uptoBulk, List.length_cons] at ih ⊢
    omega

theorem bulk_slice {H : Type} (Z : List Int) (sp : List (DataW H)) : Z.length < Rows.uptoBulk (.slice (lits .i64 Z) sp : DataW H) := by
  simp only [Rows.uptoBulk]
  have := bulk_ints (H := H) Z
  omega
end Go.Proofs.YtjfbogjpmieogaaDoor

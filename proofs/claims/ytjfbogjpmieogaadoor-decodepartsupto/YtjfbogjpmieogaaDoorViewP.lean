/-
  Arguments of DecodeParts, opened.
-/
import Derived.Test.YtjfbogjpmieogaaDoorDpParts
import Derived.Test.YtjfbogjpmieogaaDoorRows
import Derived.ProofKit
import Derived.OpenShut
import Derived.Deep.Grids
namespace Go.Proofs.YtjfbogjpmieogaaDoor
open Go.ChangeShapes Go.WideShapes Go.ChangeAt Go.RowKit

theorem Tryd.cells3 : Tryd.prog.cellsOf 3 = 1 := by kernel_rfl
theorem Tryd.cellsTwo : Tryd.prog.cellsOf 39 = 2 := by kernel_rfl

theorem view_ints {H : Type} {enc : TypeId × Value → H} {W : World} {fuel : Nat} {a0 : Option Addr} {len cap : Nat} {d : DataW H} {p : List MemPlace}
    (hf : DataW.trod enc Tryd.prog W 0 (fun _ => true) true fuel 38 (Value.slice a0 len cap).cells.toList = some (d, p)) :
    ∃ Z : List Int, Z.length = len ∧ IntsAt W a0 Z ∧ (d = .nil ∧ len = 0 ∨ ∃ sp, d = .slice (lits .i64 Z) sp) := by
  rcases Go.ChangeShapes.open_ints Tryd.underlying38 Tryd.underlying3 Tryd.cells3 hf with ⟨hcs, hx⟩ | ⟨a, len', cap', zs, hcs, _, hl, hm, hz, hx, hcell, hwz⟩
  · simp [Value.cells] at hcs
    obtain ⟨rfl, rfl, rfl⟩ := hcs
    simp only [Prod.mk.injEq] at hx
    obtain ⟨rfl, rfl⟩ := hx
    exact ⟨[], rfl, ⟨fun t h => absurd h (by simp)⟩, Or.inl ⟨rfl, rfl⟩⟩
  · simp [Value.cells] at hcs
    obtain ⟨rfl, rfl, rfl⟩ := hcs
    simp only [Prod.mk.injEq] at hx
    obtain ⟨rfl, rfl⟩ := hx
    simp only [if_true] at hz
    refine ⟨zs.take len, (by simp; omega), ⟨fun t ht => ⟨a, rfl, ?_⟩⟩, Or.inr ⟨_, rfl⟩⟩
    have ht' : t < len := by simp at ht; omega
    rw [hcell t (by omega)]
    simp [List.getD, show t < zs.length by omega]

theorem bulk_ints {H : Type} (Z : List Int) : Rows.uptoBulkAll (lits .i64 Z : List (DataW H)) = Z.length := by
  induction Z with
  | nil => simp [lits, Rows.uptoBulkAll]
  | cons z Z ih =>
    simp only [lits, List.map_cons, Rows.uptoBulkAll, Rows.uptoBulk, List.length_cons] at ih ⊢
    omega
theorem bulk_slice {H : Type} (Z : List Int) (sp : List (DataW H)) : Z.length < Rows.uptoBulk (.slice (lits .i64 Z) sp : DataW H) := by
  simp only [Rows.uptoBulk]
  have := bulk_ints (H := H) Z
  omega

/-- Two whole numbers side by side. -/
theorem two_of {P : Program} {t e : TypeId} (hu : P.underlying t = some (.array 2 e)) (he : P.underlying e = some (.int .i64)) (hct : P.cellsOf t = 2) (hce : P.cellsOf e = 1)
    {H : Type} {enc : TypeId × Value → H} {W : World} {b0 : Nat} {v : Value} {d : DataW H} {p : List MemPlace} (hv : Value.okWide P W .any b0 t v)
    (h : DataW.Trod enc P W 0 (fun _ => true) true t v d p) : ∃ x y : Int, v = .agg #[.int .i64 x, .int .i64 y] := by
  obtain ⟨cs, rfl, hsz⟩ : ∃ cs, v = .agg cs ∧ cs.size = P.cellsOf t := by
    simp only [Value.okWide, hu] at hv
    obtain ⟨cs, h1, h2, _⟩ := hv
    exact ⟨cs, h1, h2⟩
  rw [hct] at hsz
  obtain ⟨c0, c1, rfl⟩ := Joins.array2 hsz
  obtain ⟨fuel, hf⟩ := h
  obtain ⟨xs, m, _, _, _, hl, hi⟩ := DataW.trod_array hu hf
  have h0 := hi 0 (by omega)
  have h1 := hi 1 (by omega)
  rw [hce] at h0 h1
  have e0 : xs[0]? = some (xs[0]'(by omega)) := by simp
  have e1 : xs[1]? = some (xs[1]'(by omega)) := by simp
  rw [e0] at h0
  rw [e1] at h1
  obtain ⟨x, hx, _⟩ := DataW.trod_int he h0
  obtain ⟨y, hy, _⟩ := DataW.trod_int he h1
  simp [Value.cells] at hx hy
  exact ⟨x, y, by rw [hx, hy]⟩
end Go.Proofs.YtjfbogjpmieogaaDoor

/-
  An argument that is a row of steps (three numbers and a text each), opened.
-/
import Derived.Test.YtalbiekleggkoaaSsLaw
import Derived.ProofKit
import Derived.OpenShut
import Derived.Deep.SlicePairs
namespace Go.Proofs.Ytalbiekleggkoaa
open Go.ChangeShapes Go.WideShapes Go.ChangeAt Go.RowKit Go.Deep

theorem actCells : Try.prog.cellsOf 29 = 4 := by kernel_rfl
theorem intCells : Try.prog.cellsOf 3 = 1 := by kernel_rfl
theorem strCells : Try.prog.cellsOf 9 = 1 := by kernel_rfl

set_option maxRecDepth 100000 in
theorem view_step {H : Type} {enc : TypeId × Value → H} {W : World} {fuel : Nat} {l : List Value} {x : DataW H × List MemPlace} (hsz : l.length = 4)
    (hf : DataW.trod enc Try.prog W 0 (fun _ => true) true fuel 29 l = some x) :
    ∃ wh at' nd nm, l = [.int .i64 wh, .int .i64 at', .int .i64 nd, .string nm] := by
  obtain ⟨xs, n, _, _, _, hxl, hfd⟩ := DataW.trod_struct Try.underlying29 hf
  match l, hsz, xs, hxl with
  | [c0, c1, c2, c3], _, [y0, y1, y2, y3], _ =>
    have g0 : DataW.trod enc Try.prog W 0 (fun _ => true) true n 3 [c0] = some y0 := by
      have h := hfd 0 _ rfl
      change DataW.trod enc _ W 0 _ true n 3 ((List.drop 0 [c0, c1, c2, c3]).take (Try.prog.cellsOf 3)) = some y0 at h
      rw [intCells] at h
      exact h
    have g1 : DataW.trod enc Try.prog W 0 (fun _ => true) true n 3 [c1] = some y1 := by
      have h := hfd 1 _ rfl
      change DataW.trod enc _ W 0 _ true n 3 ((List.drop 1 [c0, c1, c2, c3]).take (Try.prog.cellsOf 3)) = some y1 at h
      rw [intCells] at h
      exact h
    have g2 : DataW.trod enc Try.prog W 0 (fun _ => true) true n 3 [c2] = some y2 := by
      have h := hfd 2 _ rfl
      change DataW.trod enc _ W 0 _ true n 3 ((List.drop 2 [c0, c1, c2, c3]).take (Try.prog.cellsOf 3)) = some y2 at h
      rw [intCells] at h
      exact h
    have g3 : DataW.trod enc Try.prog W 0 (fun _ => true) true n 9 [c3] = some y3 := by
      have h := hfd 3 _ rfl
      change DataW.trod enc _ W 0 _ true n 9 ((List.drop 3 [c0, c1, c2, c3]).take (Try.prog.cellsOf 9)) = some y3 at h
      rw [strCells] at h
      exact h
    obtain ⟨k0, e0, _, _⟩ := DataW.trod_int Try.underlying3 g0
    obtain ⟨k1, e1, _, _⟩ := DataW.trod_int Try.underlying3 g1
    obtain ⟨k2, e2, _, _⟩ := DataW.trod_int Try.underlying3 g2
    obtain ⟨k3, e3, _, _⟩ := DataW.trod_string Try.underlying9 g3
    simp only [List.cons.injEq, and_true] at e0 e1 e2 e3
    subst e0 e1 e2 e3
    exact ⟨k0, k1, k2, k3, rfl⟩

theorem add_one4 (a : Addr) (n j : Nat) (hj : 0 < j) : (a.add n).add j = ⟨(a.add n).block, (a.add n).off + j, none⟩ := by
  rw [Addr.add, if_neg (by omega)]

theorem view_script {H : Type} {enc : TypeId × Value → H} {W : World} {fuel : Nat} {a0 : Option Addr} {len cap : Nat} {d : DataW H} {p : List MemPlace}
    (hf : DataW.trod enc Try.prog W 0 (fun _ => true) true fuel 22 (Value.slice a0 len cap).cells.toList = some (d, p)) :
    ∃ Z : List Stp, Z.length = len ∧ StpsAt W a0 Z := by
  rcases open_slice Try.underlying22 hf with ⟨hcs, _⟩ | ⟨a, len', cap', m, n, D, Pl, hcs, _, hl, _, hm, _, hx⟩
  · simp [Value.cells] at hcs
    obtain ⟨rfl, rfl, rfl⟩ := hcs
    exact ⟨[], rfl, ⟨fun i q h => by simp at h⟩⟩
  · simp [Value.cells] at hcs
    obtain ⟨rfl, rfl, rfl⟩ := hcs
    simp only [if_true] at hm
    rw [actCells] at hx
    have each : ∀ i, i < len → ∃ q : Stp, W.cell? (a.add (i * 4)) = some (.int .i64 q.what) ∧ W.cell? ⟨(a.add (i * 4)).block, (a.add (i * 4)).off + 1, none⟩ = some (.int .i64 q.at') ∧ W.cell? ⟨(a.add (i * 4)).block, (a.add (i * 4)).off + 2, none⟩ = some (.int .i64 q.node) ∧
        W.cell? ⟨(a.add (i * 4)).block, (a.add (i * 4)).off + 3, none⟩ = some (.string q.name) := by
      intro i hi
      obtain ⟨cs', h1, h2⟩ := hx i (by omega)
      obtain ⟨_, hlen, hcell⟩ := World.cells?_some h1
      obtain ⟨wh, at', nd, nm, rfl⟩ := view_step hlen h2
      have g0 := hcell 0 (by omega)
      have g1 := hcell 1 (by omega)
      have g2 := hcell 2 (by omega)
      have g3 := hcell 3 (by omega)
      rw [add_one4 _ _ _ (by omega)] at g1 g2 g3
      exact ⟨⟨wh, at', nd, nm⟩, g0, g1, g2, g3⟩
    obtain ⟨q, hq⟩ := @choose_lt Stp ⟨⟨0, 0, 0, ⟨#[]⟩⟩⟩ _ _ each
    refine ⟨(List.range len).map q, by simp, ⟨fun i z hi => ?_⟩⟩
    have hi' : i < len := by
      have := (List.getElem?_eq_some_iff.1 hi).1
      simpa using this
    rw [List.getElem?_map, List.getElem?_range hi'] at hi
    simp only [Option.map_some, Option.some.injEq] at hi
    subst hi
    obtain ⟨h0, h1, h2, h3⟩ := hq i hi'
    exact ⟨a, rfl, h0, h1, h2, h3⟩
end Go.Proofs.Ytalbiekleggkoaa

/-
  An argument that is a row of steps (three numbers, a text, a row of attributes each), opened.
-/
import Derived.Test.YtalbiekleggkoaaMmLaw
import Derived.ProofKit
import Derived.OpenShut
import Derived.Deep.SlicePairs
namespace Go.Proofs.Ytalbiekleggkoaa
open Go.ChangeShapes Go.WideShapes Go.ChangeAt Go.RowKit Go.Deep

theorem actCells : Try.prog.cellsOf 55 = 5 := by kernel_rfl
theorem attrCells : Try.prog.cellsOf 92 = 2 := by kernel_rfl
theorem rowCells : Try.prog.cellsOf 53 = 1 := by kernel_rfl
theorem intCells : Try.prog.cellsOf 3 = 1 := by kernel_rfl
theorem strCells : Try.prog.cellsOf 9 = 1 := by kernel_rfl

theorem view_row {H : Type} {enc : TypeId × Value → H} {W : World} {fuel : Nat} {c : Value} {x : DataW H × List MemPlace}
    (hf : DataW.trod enc Try.prog W 0 (fun _ => true) true fuel 53 [c] = some x) :
    ∃ ia icap L, c = .slice ia L.length icap ∧ InAt W ia L ∧ ∀ q ∈ L, AtrOk q := by
  rcases open_slice_pairs Try.underlying53 Try.underlying92 attrCells rfl rfl strCells strCells hf with ⟨hc, _⟩ | ⟨a, len, cap, m, n, V0, V1, D0, D1, P0, P1, hc, _, hl, _, hm, _, hx⟩
  · simp only [List.cons.injEq, and_true] at hc
    subst hc
    exact ⟨none, 0, [], rfl, ⟨fun i p h => by simp at h⟩, fun q hq => by cases hq⟩
  · simp only [List.cons.injEq, and_true] at hc
    subst hc
    simp only [if_true] at hm
    have each : ∀ i, i < len → ∃ p : Atr, W.cell? (a.add (i * 2)) = some (.string p.1) ∧ W.cell? (a.add (i * 2 + 1)) = some (.string p.2) ∧ AtrOk p := by
      intro i hi
      obtain ⟨h0, h1, g0, g1⟩ := hx i (by omega)
      obtain ⟨s0, e0, _, b0⟩ := DataW.trod_string Try.underlying9 g0
      obtain ⟨s1, e1, _, b1⟩ := DataW.trod_string Try.underlying9 g1
      simp only [List.cons.injEq, and_true] at e0 e1
      rw [e0] at h0
      rw [e1] at h1
      exact ⟨(s0, s1), h0, h1, b0, b1⟩
    obtain ⟨q, hq⟩ := choose_lt each
    refine ⟨some a, cap, (List.range len).map q, by simp, ⟨fun i p hi => ?_⟩, fun p hp => ?_⟩
    · have hi' : i < len := by
        have := (List.getElem?_eq_some_iff.1 hi).1
        simpa using this
      rw [List.getElem?_map, List.getElem?_range hi'] at hi
      simp only [Option.map_some, Option.some.injEq] at hi
      subst hi
      exact ⟨a, rfl, (hq i hi').1, (hq i hi').2.1⟩
    · obtain ⟨i, hi, rfl⟩ := List.mem_map.1 hp
      exact (hq i (List.mem_range.1 hi)).2.2

set_option maxRecDepth 100000 in
theorem view_step {H : Type} {enc : TypeId × Value → H} {W : World} {fuel : Nat} {l : List Value} {x : DataW H × List MemPlace} (hsz : l.length = 5)
    (hf : DataW.trod enc Try.prog W 0 (fun _ => true) true fuel 55 l = some x) :
    ∃ wh at' nd nm ia icap L, l = [.int .i64 wh, .int .i64 at', .int .i64 nd, .string nm, .slice ia (L : List Atr).length icap] ∧ InAt W ia L ∧ ∀ q ∈ L, AtrOk q := by
  obtain ⟨xs, n, _, _, _, hxl, hfd⟩ := DataW.trod_struct Try.underlying55 hf
  match l, hsz, xs, hxl with
  | [c0, c1, c2, c3, c4], _, [y0, y1, y2, y3, y4], _ =>
    have g0 : DataW.trod enc Try.prog W 0 (fun _ => true) true n 3 [c0] = some y0 := by
      have h := hfd 0 _ rfl
      change DataW.trod enc _ W 0 _ true n 3 ((List.drop 0 [c0, c1, c2, c3, c4]).take (Try.prog.cellsOf 3)) = some y0 at h
      rw [intCells] at h
      exact h
    have g1 : DataW.trod enc Try.prog W 0 (fun _ => true) true n 3 [c1] = some y1 := by
      have h := hfd 1 _ rfl
      change DataW.trod enc _ W 0 _ true n 3 ((List.drop 1 [c0, c1, c2, c3, c4]).take (Try.prog.cellsOf 3)) = some y1 at h
      rw [intCells] at h
      exact h
    have g2 : DataW.trod enc Try.prog W 0 (fun _ => true) true n 3 [c2] = some y2 := by
      have h := hfd 2 _ rfl
      change DataW.trod enc _ W 0 _ true n 3 ((List.drop 2 [c0, c1, c2, c3, c4]).take (Try.prog.cellsOf 3)) = some y2 at h
      rw [intCells] at h
      exact h
    have g3 : DataW.trod enc Try.prog W 0 (fun _ => true) true n 9 [c3] = some y3 := by
      have h := hfd 3 _ rfl
      change DataW.trod enc _ W 0 _ true n 9 ((List.drop 3 [c0, c1, c2, c3, c4]).take (Try.prog.cellsOf 9)) = some y3 at h
      rw [strCells] at h
      exact h
    have g4 : DataW.trod enc Try.prog W 0 (fun _ => true) true n 53 [c4] = some y4 := by
      have h := hfd 4 _ rfl
      change DataW.trod enc _ W 0 _ true n 53 ((List.drop 4 [c0, c1, c2, c3, c4]).take (Try.prog.cellsOf 53)) = some y4 at h
      rw [rowCells] at h
      exact h
    obtain ⟨k0, e0, _, _⟩ := DataW.trod_int Try.underlying3 g0
    obtain ⟨k1, e1, _, _⟩ := DataW.trod_int Try.underlying3 g1
    obtain ⟨k2, e2, _, _⟩ := DataW.trod_int Try.underlying3 g2
    obtain ⟨k3, e3, _, _⟩ := DataW.trod_string Try.underlying9 g3
    obtain ⟨ia, icap, L, e4, hI, hO⟩ := view_row (c := c4) g4
    simp only [List.cons.injEq, and_true] at e0 e1 e2 e3
    subst e0 e1 e2 e3 e4
    exact ⟨k0, k1, k2, k3, ia, icap, L, rfl, hI, hO⟩

theorem add_one5 (a : Addr) (n j : Nat) (hj : 0 < j) : (a.add n).add j = ⟨(a.add n).block, (a.add n).off + j, none⟩ := by
  rw [Addr.add, if_neg (by omega)]

theorem view_script {H : Type} {enc : TypeId × Value → H} {W : World} {fuel : Nat} {a0 : Option Addr} {len cap : Nat} {d : DataW H} {p : List MemPlace}
    (hf : DataW.trod enc Try.prog W 0 (fun _ => true) true fuel 47 (Value.slice a0 len cap).cells.toList = some (d, p)) :
    ∃ Z : List Actn, Z.length = len ∧ ScrAt W a0 Z := by
  rcases open_slice Try.underlying47 hf with ⟨hcs, _⟩ | ⟨a, len', cap', m, n, D, Pl, hcs, _, hl, _, hm, _, hx⟩
  · simp [Value.cells] at hcs
    obtain ⟨rfl, rfl, rfl⟩ := hcs
    exact ⟨[], rfl, ⟨fun i q h => by simp at h, fun q hq => by cases hq⟩⟩
  · simp [Value.cells] at hcs
    obtain ⟨rfl, rfl, rfl⟩ := hcs
    simp only [if_true] at hm
    rw [actCells] at hx
    have each : ∀ i, i < len → ∃ q : Actn, W.cell? (a.add (i * 5)) = some (.int .i64 q.what) ∧ W.cell? ⟨(a.add (i * 5)).block, (a.add (i * 5)).off + 1, none⟩ = some (.int .i64 q.at') ∧ W.cell? ⟨(a.add (i * 5)).block, (a.add (i * 5)).off + 2, none⟩ = some (.int .i64 q.node) ∧
        W.cell? ⟨(a.add (i * 5)).block, (a.add (i * 5)).off + 3, none⟩ = some (.string q.name) ∧ W.cell? ⟨(a.add (i * 5)).block, (a.add (i * 5)).off + 4, none⟩ = some (.slice q.ia q.l.length q.icap) ∧ InAt W q.ia q.l ∧ ∀ z ∈ q.l, AtrOk z := by
      intro i hi
      obtain ⟨cs', h1, h2⟩ := hx i (by omega)
      obtain ⟨_, hlen, hcell⟩ := World.cells?_some h1
      obtain ⟨wh, at', nd, nm, ia, icap, L, rfl, hI, hO⟩ := view_step hlen h2
      have g0 := hcell 0 (by omega)
      have g1 := hcell 1 (by omega)
      have g2 := hcell 2 (by omega)
      have g3 := hcell 3 (by omega)
      have g4 := hcell 4 (by omega)
      rw [add_one5 _ _ _ (by omega)] at g1 g2 g3 g4
      exact ⟨⟨wh, at', nd, nm, ia, icap, L⟩, g0, g1, g2, g3, g4, hI, hO⟩
    obtain ⟨q, hq⟩ := @choose_lt Actn ⟨⟨0, 0, 0, ⟨#[]⟩, none, 0, []⟩⟩ _ _ each
    refine ⟨(List.range len).map q, by simp, ⟨fun i z hi => ?_, fun z hz => ?_⟩⟩
    · have hi' : i < len := by
        have := (List.getElem?_eq_some_iff.1 hi).1
        simpa using this
      rw [List.getElem?_map, List.getElem?_range hi'] at hi
      simp only [Option.map_some, Option.some.injEq] at hi
      subst hi
      obtain ⟨h0, h1, h2, h3, h4, hI, _⟩ := hq i hi'
      exact ⟨a, rfl, h0, h1, h2, h3, h4, hI⟩
    · obtain ⟨i, hi, rfl⟩ := List.mem_map.1 hz
      exact (hq i (List.mem_range.1 hi)).2.2.2.2.2.2
end Go.Proofs.Ytalbiekleggkoaa

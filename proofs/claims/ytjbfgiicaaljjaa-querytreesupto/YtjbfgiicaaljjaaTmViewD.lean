/-
  An argument that is a row of nodes to make, opened: and what it weighs.
-/
import Derived.Test.YtjbfgiicaaljjaaTmView
import Derived.Test.YtjbfgiicaaljjaaTmMid
namespace Go.Proofs.Ytjbfgiicaaljjaa
open Go.ChangeShapes Go.WideShapes Go.ChangeAt Go.RowKit Go.Deep

theorem bulk_sum {H : Type} (f : Nat → Nat) (D : Nat → DataW H) : ∀ l : List Nat, (∀ i ∈ l, f i ≤ Rows.uptoBulk (D i)) → (l.map f).sum ≤ Rows.uptoBulkAll (l.map D)
  | [], _ => Nat.zero_le _
  | i :: l, h => by
    have h1 := h i (by simp)
    have h2 := bulk_sum f D l (fun j hj => h j (by simp [hj]))
    simp only [List.map_cons, List.sum_cons, Rows.uptoBulkAll]
    omega

set_option maxRecDepth 100000 in
theorem view_madeD {H : Type} {enc : TypeId × Value → H} {W : World} {fuel : Nat} {l : List Value} {x : DataW H × List MemPlace} (hsz : l.length = 6)
    (hf : DataW.trod enc Try.prog W 0 (fun _ => true) true fuel 75 l = some x) :
    ∃ m : Mr, l = [.int .i64 m.kind, .int .i64 m.par, .string m.name, .string m.data, .string m.attr, .string m.value] ∧ m.data.size ≤ maxLen ∧ m.data.size ≤ Rows.uptoBulk x.1 := by
  obtain ⟨xs, n, _, hxe, _, hxl, hfd⟩ := DataW.trod_struct Try.underlying75 hf
  match l, hsz, xs, hxl with
  | [c0, c1, c2, c3, c4, c5], _, [y0, y1, y2, y3, y4, y5], _ =>
    have g0 : DataW.trod enc Try.prog W 0 (fun _ => true) true n 3 [c0] = some y0 := by
      have h := hfd 0 _ rfl
      change DataW.trod enc _ W 0 _ true n 3 ((List.drop 0 [c0, c1, c2, c3, c4, c5]).take (Try.prog.cellsOf 3)) = some y0 at h
      rw [intCells] at h
      exact h
    have g1 : DataW.trod enc Try.prog W 0 (fun _ => true) true n 3 [c1] = some y1 := by
      have h := hfd 1 _ rfl
      change DataW.trod enc _ W 0 _ true n 3 ((List.drop 1 [c0, c1, c2, c3, c4, c5]).take (Try.prog.cellsOf 3)) = some y1 at h
      rw [intCells] at h
      exact h
    have g2 : DataW.trod enc Try.prog W 0 (fun _ => true) true n 9 [c2] = some y2 := by
      have h := hfd 2 _ rfl
      change DataW.trod enc _ W 0 _ true n 9 ((List.drop 2 [c0, c1, c2, c3, c4, c5]).take (Try.prog.cellsOf 9)) = some y2 at h
      rw [strCells] at h
      exact h
    have g3 : DataW.trod enc Try.prog W 0 (fun _ => true) true n 9 [c3] = some y3 := by
      have h := hfd 3 _ rfl
      change DataW.trod enc _ W 0 _ true n 9 ((List.drop 3 [c0, c1, c2, c3, c4, c5]).take (Try.prog.cellsOf 9)) = some y3 at h
      rw [strCells] at h
      exact h
    have g4 : DataW.trod enc Try.prog W 0 (fun _ => true) true n 9 [c4] = some y4 := by
      have h := hfd 4 _ rfl
      change DataW.trod enc _ W 0 _ true n 9 ((List.drop 4 [c0, c1, c2, c3, c4, c5]).take (Try.prog.cellsOf 9)) = some y4 at h
      rw [strCells] at h
      exact h
    have g5 : DataW.trod enc Try.prog W 0 (fun _ => true) true n 9 [c5] = some y5 := by
      have h := hfd 5 _ rfl
      change DataW.trod enc _ W 0 _ true n 9 ((List.drop 5 [c0, c1, c2, c3, c4, c5]).take (Try.prog.cellsOf 9)) = some y5 at h
      rw [strCells] at h
      exact h
    obtain ⟨k0, e0, _, b0⟩ := DataW.trod_int Try.underlying3 g0
    obtain ⟨k1, e1, _, b1⟩ := DataW.trod_int Try.underlying3 g1
    obtain ⟨k2, e2, _, b2⟩ := DataW.trod_string Try.underlying9 g2
    obtain ⟨k3, e3, f3, b3⟩ := DataW.trod_string Try.underlying9 g3
    obtain ⟨k4, e4, _, b4⟩ := DataW.trod_string Try.underlying9 g4
    obtain ⟨k5, e5, _, b5⟩ := DataW.trod_string Try.underlying9 g5
    simp only [List.cons.injEq, and_true] at e0 e1 e2 e3 e4 e5
    subst e0 e1 e2 e3 e4 e5
    refine ⟨⟨k0, k1, k2, k3, k4, k5⟩, rfl, b3, ?_⟩
    rw [hxe, f3]
    have hk : k3.data.toList.length = k3.size := (Lib.size_eq k3).symm
    simp only [List.map_cons, List.map_nil, Rows.uptoBulk, Rows.uptoBulkAll]
    omega

theorem view_madesD {H : Type} {enc : TypeId × Value → H} {W : World} {fuel : Nat} {a0 : Option Addr} {len cap : Nat} {d : DataW H} {p : List MemPlace}
    (hf : DataW.trod enc Try.prog W 0 (fun _ => true) true fuel 22 (Value.slice a0 len cap).cells.toList = some (d, p)) :
    ∃ Z : List Mr, Z.length = len ∧ len ≤ maxLen ∧ MrsAt W a0 Z ∧ (∀ m ∈ Z, m.data.size ≤ maxLen) ∧ sumD Z ≤ Rows.uptoBulk d := by
  rcases open_slice Try.underlying22 hf with ⟨hcs, _⟩ | ⟨a, len', cap', m, n, D, Pl, hcs, _, hl, hcap, hm, hxd, hx⟩
  · simp [Value.cells] at hcs
    obtain ⟨rfl, rfl, rfl⟩ := hcs
    exact ⟨[], rfl, Nat.zero_le _, ⟨fun i q h => by simp at h⟩, (fun q h => (by cases h)), Nat.zero_le _⟩
  · simp [Value.cells] at hcs
    obtain ⟨rfl, rfl, rfl⟩ := hcs
    simp only [if_true] at hm
    rw [madeCells] at hx
    have each : ∀ i, i < len → ∃ q : Mr, W.cell? (a.add (i * 6)) = some (.int .i64 q.kind) ∧ W.cell? ⟨(a.add (i * 6)).block, (a.add (i * 6)).off + 1, none⟩ = some (.int .i64 q.par) ∧ W.cell? ⟨(a.add (i * 6)).block, (a.add (i * 6)).off + 2, none⟩ = some (.string q.name) ∧
        W.cell? ⟨(a.add (i * 6)).block, (a.add (i * 6)).off + 3, none⟩ = some (.string q.data) ∧ W.cell? ⟨(a.add (i * 6)).block, (a.add (i * 6)).off + 4, none⟩ = some (.string q.attr) ∧ W.cell? ⟨(a.add (i * 6)).block, (a.add (i * 6)).off + 5, none⟩ = some (.string q.value) ∧ q.data.size ≤ maxLen ∧ q.data.size ≤ Rows.uptoBulk (D i) := by
      intro i hi
      obtain ⟨cs', h1, h2⟩ := hx i (by omega)
      obtain ⟨_, hlen, hcell⟩ := World.cells?_some h1
      obtain ⟨q, rfl, hq⟩ := view_madeD hlen h2
      have g0 := hcell 0 (by omega)
      have g1 := hcell 1 (by omega)
      have g2 := hcell 2 (by omega)
      have g3 := hcell 3 (by omega)
      have g4 := hcell 4 (by omega)
      have g5 := hcell 5 (by omega)
      rw [add_one6 _ _ _ (by omega)] at g1 g2 g3 g4 g5
      exact ⟨q, g0, g1, g2, g3, g4, g5, hq⟩
    obtain ⟨q, hq⟩ := @choose_lt Mr ⟨⟨0, 0, ⟨#[]⟩, ⟨#[]⟩, ⟨#[]⟩, ⟨#[]⟩⟩⟩ _ _ each
    refine ⟨(List.range len).map q, by simp, Nat.le_trans hl hcap, ⟨fun i z hi => ?_⟩, fun z hz => ?_, ?_⟩
    · have hi' : i < len := by
        have := (List.getElem?_eq_some_iff.1 hi).1
        simpa using this
      rw [List.getElem?_map, List.getElem?_range hi'] at hi
      simp only [Option.map_some, Option.some.injEq] at hi
      subst hi
      obtain ⟨h0, h1, h2, h3, h4, h5, _⟩ := hq i hi'
      exact ⟨a, rfl, h0, h1, h2, h3, h4, h5⟩
    · obtain ⟨i, hi, rfl⟩ := List.mem_map.1 hz
      exact (hq i (List.mem_range.1 hi)).2.2.2.2.2.2.1
    · injection hxd with hxd _
      rw [hxd]
      have := bulk_sum (fun i => (q i).data.size) D (List.range len) (fun i hi => (hq i (List.mem_range.1 hi)).2.2.2.2.2.2.2)
      unfold sumD
      rw [List.map_map]
      simp only [Rows.uptoBulk]
      exact Nat.le_trans this (by omega)
end Go.Proofs.Ytjbfgiicaaljjaa

/-
  A stack's own cells: a row of items, each of two words.
-/
import Derived.Test.YtalbiekleggkoaaStKept
namespace Go.Proofs.Ytalbiekleggkoaa
open Go.RowKit

/-- A node's number and its element's name. -/
structure Itm where
  node : Int
  name : ByteArray
def itmC (c : Itm) : List Value := [.int .i64 c.node, .string c.name]
theorem itmC_len (c : Itm) : (itmC c).length = 2 := rfl

theorem iflat_len (cs : List Itm) : (cs.flatMap itmC).length = cs.length * 2 := by
  induction cs with
  | nil => rfl
  | cons c cs ih => rw [List.flatMap_cons, List.length_append, ih, itmC_len]; simp; omega
theorem iflat_at (cs : List Itm) (i j : Nat) (c : Itm) (u : Value) (hi : cs[i]? = some c) (hj : (itmC c)[j]? = some u) : (cs.flatMap itmC)[i * 2 + j]? = some u := by
  have hj10 : j < 2 := by
    have := (List.getElem?_eq_some_iff.1 hj).1
    rw [itmC_len] at this
    exact this
  induction cs generalizing i with
  | nil => cases hi
  | cons d cs ih =>
    rw [List.flatMap_cons]
    match i, hi with
    | 0, hi =>
      obtain rfl : d = c := by simpa using hi
      rw [List.getElem?_append_left (by rw [itmC_len]; omega)]
      simpa using hj
    | i + 1, hi =>
      rw [List.getElem?_append_right (by rw [itmC_len]; omega), itmC_len]
      have := ih i (by simpa using hi)
      rw [← this]
      congr 1
      omega

/-- A stack lies in block s; its items are its own row. -/
structure StackAt (w : World) (s B : Nat) (v : Value) (cs : List Itm) : Prop where
  blk : w.heap[s]? = some (.cells #[v] 26 (0, 0))
  own : w.ownsRow B 31 2 v cs.length (cs.flatMap itmC)
  sB : B ≤ s

section
variable {w : World} {s B : Nat} {v : Value} {cs : List Itm}
theorem StackAt.c0 (h : StackAt w s B v cs) : w.cell? ⟨s, 0, none⟩ = some v := by simp [World.cell?, h.blk]
theorem StackAt.f0 (h : StackAt w s B v cs) : w.frozen? ⟨s, 0, none⟩ = false := by simp [World.frozen?, h.blk]
theorem StackAt.slt (h : StackAt w s B v cs) : s < w.heap.size := (Array.getElem?_eq_some_iff.1 h.blk).1
theorem StackAt.le (h : StackAt w s B v cs) : B ≤ w.heap.size := by have := h.slt; have := h.sB; omega
theorem StackAt.off (h : StackAt w s B v cs) : v.ownBlock ≠ some s := by
  intro e1
  rcases h.own.2 with ⟨rfl, _⟩ | ⟨g', cap', cur, rfl, _, hh, _⟩
  · cases e1
  · simp only [Value.ownBlock, Option.some.injEq] at e1
    subst e1
    have := h.blk
    rw [hh] at this
    simp only [Option.some.injEq, Obj.cells.injEq] at this
    exact absurd this.2.1 (by decide)
theorem StackAt.form (h : StackAt w s B v cs) : ∃ a c, v = .slice a cs.length c := by
  rcases h.own.2 with ⟨h1, h2⟩ | ⟨g1, c1, _, h1, _⟩
  · exact ⟨none, 0, by rw [h1, h2]⟩
  · exact ⟨_, c1, h1⟩
theorem StackAt.form2 (h : StackAt w s B v cs) : (v = .slice none 0 0 ∧ cs = []) ∨ ∃ g c, v = .slice (some ⟨g, 0, none⟩) cs.length c ∧ cs.length ≤ c := by
  rcases h.own.2 with ⟨h1, h2⟩ | ⟨g1, c1, _, h1, _, _, h2, _⟩
  · exact .inl ⟨h1, List.length_eq_zero_iff.1 h2⟩
  · exact .inr ⟨_, c1, h1, h2⟩
theorem StackAt.kept {w' : World} {out : Nat → Prop} (h : StackAt w s B v cs) (hk : Kept out w w') (hs : ¬ out s) (hg : ∀ k, v.ownBlock = some k → ¬ out k) : StackAt w' s B v cs :=
  ⟨(hk.block s h.slt hs).trans h.blk, owns_kept h.own hk hg, h.sB⟩
theorem StackAt.below {w' : World} (h : StackAt w s B v cs) (hb : Below w.heap.size w w') : StackAt w' s B v cs := h.kept (out := fun _ => False) (Kept.below hb) (fun e => e) (fun _ _ e => e)
theorem StackAt.draws (h : StackAt w s B v cs) (q : Nat) : StackAt (w.drewN q) s B v cs := ⟨h.blk, h.own, h.sB⟩
end
theorem StackAt.at {w : World} {s B g n cap : Nat} {cs : List Itm} (h : StackAt w s B (.slice (some ⟨g, 0, none⟩) n cap) cs) {i j : Nat} {c : Itm} {u : Value} (hi : cs[i]? = some c) (hj : (itmC c)[j]? = some u) : w.cell? ⟨g, i * 2 + j, none⟩ = some u := by
  have hn : n = cs.length := by
    obtain ⟨a, c', e⟩ := h.form
    injection e
  subst hn
  exact owns_at h.own _ _ (iflat_at cs i j c u hi hj)
end Go.Proofs.Ytalbiekleggkoaa

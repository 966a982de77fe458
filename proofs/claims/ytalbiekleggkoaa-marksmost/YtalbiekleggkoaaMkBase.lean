/-
  A list's own cells: a row of bare entries (without attributes), each of three words.
-/
import Derived.Test.YtalbiekleggkoaaMkDel
namespace Go.Proofs.Ytalbiekleggkoaa
open Go.RowKit

/-- An entry: a node's number and its element's name. -/
structure Ent where
  node : Int
  name : ByteArray
def entC (c : Ent) : List Value := [.int .i64 c.node, .string c.name, .slice none 0 0]
theorem entC_len (c : Ent) : (entC c).length = 3 := rfl

theorem eflat_len (cs : List Ent) : (cs.flatMap entC).length = cs.length * 3 := by
  induction cs with
  | nil => rfl
  | cons c cs ih => rw [List.flatMap_cons, List.length_append, ih, entC_len]; simp; omega
theorem eflat_at (cs : List Ent) (i j : Nat) (c : Ent) (u : Value) (hi : cs[i]? = some c) (hj : (entC c)[j]? = some u) : (cs.flatMap entC)[i * 3 + j]? = some u := by
  have hj10 : j < 3 := by
    have := (List.getElem?_eq_some_iff.1 hj).1
    rw [entC_len] at this
    exact this
  induction cs generalizing i with
  | nil => cases hi
  | cons d cs ih =>
    rw [List.flatMap_cons]
    match i, hi with
    | 0, hi =>
      obtain rfl : d = c := by simpa using hi
      rw [List.getElem?_append_left (by rw [entC_len]; omega)]
      simpa using hj
    | i + 1, hi =>
      rw [List.getElem?_append_right (by rw [entC_len]; omega), entC_len]
      have := ih i (by simpa using hi)
      rw [← this]
      congr 1
      omega

/-- A list lies in block s; its entries are its own row. -/
structure ListAt (w : World) (s B : Nat) (v : Value) (cs : List Ent) : Prop where
  blk : w.heap[s]? = some (.cells #[v] 51 (0, 0))
  own : w.ownsRow B 58 3 v cs.length (cs.flatMap entC)
  sB : B ≤ s

section
variable {w : World} {s B : Nat} {v : Value} {cs : List Ent}
theorem ListAt.c0 (h : ListAt w s B v cs) : w.cell? ⟨s, 0, none⟩ = some v := by simp [World.cell?, h.blk]
theorem ListAt.f0 (h : ListAt w s B v cs) : w.frozen? ⟨s, 0, none⟩ = false := by simp [World.frozen?, h.blk]
theorem ListAt.slt (h : ListAt w s B v cs) : s < w.heap.size := (Array.getElem?_eq_some_iff.1 h.blk).1
theorem ListAt.le (h : ListAt w s B v cs) : B ≤ w.heap.size := by have := h.slt; have := h.sB; omega
theorem ListAt.off (h : ListAt w s B v cs) : v.ownBlock ≠ some s := by
  intro e1
  rcases h.own.2 with ⟨rfl, _⟩ | ⟨g', cap', cur, rfl, _, hh, _⟩
  · cases e1
  · simp only [Value.ownBlock, Option.some.injEq] at e1
    subst e1
    have := h.blk
    rw [hh] at this
    simp only [Option.some.injEq, Obj.cells.injEq] at this
    exact absurd this.2.1 (by decide)
theorem ListAt.form (h : ListAt w s B v cs) : ∃ a c, v = .slice a cs.length c := by
  rcases h.own.2 with ⟨h1, h2⟩ | ⟨g1, c1, _, h1, _⟩
  · exact ⟨none, 0, by rw [h1, h2]⟩
  · exact ⟨_, c1, h1⟩
theorem ListAt.form2 (h : ListAt w s B v cs) : (v = .slice none 0 0 ∧ cs = []) ∨ ∃ g c, v = .slice (some ⟨g, 0, none⟩) cs.length c ∧ cs.length ≤ c := by
  rcases h.own.2 with ⟨h1, h2⟩ | ⟨g1, c1, _, h1, _, _, h2, _⟩
  · exact .inl ⟨h1, List.length_eq_zero_iff.1 h2⟩
  · exact .inr ⟨_, c1, h1, h2⟩
theorem ListAt.kept {w' : World} {out : Nat → Prop} (h : ListAt w s B v cs) (hk : Kept out w w') (hs : ¬ out s) (hg : ∀ k, v.ownBlock = some k → ¬ out k) : ListAt w' s B v cs :=
  ⟨(hk.block s h.slt hs).trans h.blk, owns_kept h.own hk hg, h.sB⟩
theorem ListAt.below {w' : World} (h : ListAt w s B v cs) (hb : Below w.heap.size w w') : ListAt w' s B v cs := h.kept (out := fun _ => False) (Kept.below hb) (fun e => e) (fun _ _ e => e)
theorem ListAt.draws (h : ListAt w s B v cs) (q : Nat) : ListAt (w.drewN q) s B v cs := ⟨h.blk, h.own, h.sB⟩
end
theorem ListAt.at {w : World} {s B g n cap : Nat} {cs : List Ent} (h : ListAt w s B (.slice (some ⟨g, 0, none⟩) n cap) cs) {i j : Nat} {c : Ent} {u : Value} (hi : cs[i]? = some c) (hj : (entC c)[j]? = some u) : w.cell? ⟨g, i * 3 + j, none⟩ = some u := by
  have hn : n = cs.length := by
    obtain ⟨a, c', e⟩ := h.form
    injection e
  subst hn
  exact owns_at h.own _ _ (eflat_at cs i j c u hi hj)
end Go.Proofs.Ytalbiekleggkoaa

/-
  A list's own cells: a row of entries with their attributes.
-/
import Derived.Test.YtalbiekleggkoaaMmMath
namespace Go.Proofs.Ytalbiekleggkoaa
open Go.RowKit

/-- Attributes, at the head of a block of their own kind. -/
structure AtrRow (w : World) (a : Option Addr) (cap : Nat) (l : List Atr) : Prop where
  row : AtrsAt w a l
  form : (a = none ∧ l = [] ∧ cap = 0) ∨ ∃ g, a = some ⟨g, 0, none⟩ ∧ l.length ≤ cap ∧ cap ≤ maxLen ∧ ∃ xs r, w.heap[g]? = some (.cells xs 93 r)
theorem AtrRow.typed {w : World} {a : Option Addr} {cap : Nat} {l : List Atr} (h : AtrRow w a cap l) {g : Nat} (hg : a = some ⟨g, 0, none⟩) : g < w.heap.size ∧ ∃ xs r, w.heap[g]? = some (.cells xs 93 r) := by
  rcases h.form with ⟨e, _⟩ | ⟨g', e, _, _, xs, r, hx⟩
  · rw [e] at hg
    cases hg
  · rw [e] at hg
    injection hg with hg
    injection hg with hg _ _
    subst hg
    exact ⟨(Array.getElem?_eq_some_iff.1 hx).1, xs, r, hx⟩
theorem AtrRow.kept {w w' : World} {out : Nat → Prop} {a : Option Addr} {cap : Nat} {l : List Atr} (h : AtrRow w a cap l) (hk : Kept out w w') (hn : ∀ g, a = some ⟨g, 0, none⟩ → ¬ out g) : AtrRow w' a cap l := by
  refine ⟨⟨fun i p hi => ?_⟩, ?_⟩
  · obtain ⟨g, e1, e2, e3⟩ := h.row.at' i p hi
    exact ⟨g, e1, (hk.cell ⟨g, i * 2, none⟩ (World.block_lt_of_cell? _ _ e2) (hn g e1)).trans e2, (hk.cell ⟨g, i * 2 + 1, none⟩ (World.block_lt_of_cell? _ _ e3) (hn g e1)).trans e3⟩
  · rcases h.form with e | ⟨g, e, h1, h2, xs, r, hx⟩
    · exact .inl e
    · exact .inr ⟨g, e, h1, h2, xs, r, (hk.block g (Array.getElem?_eq_some_iff.1 hx).1 (hn g e)).trans hx⟩
theorem AtrRow.below {w w' : World} {a : Option Addr} {cap : Nat} {l : List Atr} (h : AtrRow w a cap l) (hb : Below w.heap.size w w') : AtrRow w' a cap l := h.kept (out := fun _ => False) (Kept.below hb) (fun _ _ e => e)
theorem AtrRow.bare (w : World) : AtrRow w none 0 [] := ⟨⟨fun i p h => by simp at h⟩, .inl ⟨rfl, rfl, rfl⟩⟩

def enrC (c : Enr) : List Value := [.int .i64 c.node, .string c.name, .slice c.a c.l.length c.cap]
def enrV (c : Enr) : Value := .agg #[.int .i64 c.node, .string c.name, .slice c.a c.l.length c.cap]
theorem enrC_len (c : Enr) : (enrC c).length = 3 := rfl

theorem rflat_len (cs : List Enr) : (cs.flatMap enrC).length = cs.length * 3 := by
  induction cs with
  | nil => rfl
  | cons c cs ih => rw [List.flatMap_cons, List.length_append, ih, enrC_len]; simp; omega
theorem rflat_at (cs : List Enr) (i j : Nat) (c : Enr) (u : Value) (hi : cs[i]? = some c) (hj : (enrC c)[j]? = some u) : (cs.flatMap enrC)[i * 3 + j]? = some u := by
  have hj10 : j < 3 := by
    have := (List.getElem?_eq_some_iff.1 hj).1
    rw [enrC_len] at this
    exact this
  induction cs generalizing i with
  | nil => cases hi
  | cons d cs ih =>
    rw [List.flatMap_cons]
    match i, hi with
    | 0, hi =>
      obtain rfl : d = c := by simpa using hi
      rw [List.getElem?_append_left (by rw [enrC_len]; omega)]
      simpa using hj
    | i + 1, hi =>
      rw [List.getElem?_append_right (by rw [enrC_len]; omega), enrC_len]
      have := ih i (by simpa using hi)
      rw [← this]
      congr 1
      omega

theorem rflat_take (cs : List Enr) : ∀ (i : Nat), (cs.flatMap enrC).take (i * 3) = (cs.take i).flatMap enrC := by
  induction cs with
  | nil => intro i; simp
  | cons c cs ih =>
    intro i
    match i with
    | 0 => simp
    | i + 1 =>
      rw [List.flatMap_cons, List.take_append, enrC_len, List.take_of_length_le (by rw [enrC_len]; omega), show (i + 1) * 3 - 3 = i * 3 by omega, ih i]
      simp
theorem rflat_drop (cs : List Enr) : ∀ (i : Nat), (cs.flatMap enrC).drop (i * 3) = (cs.drop i).flatMap enrC := by
  induction cs with
  | nil => intro i; simp
  | cons c cs ih =>
    intro i
    match i with
    | 0 => simp
    | i + 1 =>
      rw [List.flatMap_cons, List.drop_append, enrC_len, List.drop_of_length_le (by rw [enrC_len]; omega), show (i + 1) * 3 - 3 = i * 3 by omega, ih i]
      simp
theorem enr_one (cs : List Enr) : ∀ u ∈ cs.flatMap enrC, u.oneCell' = true := by
  intro u hu
  rw [List.mem_flatMap] at hu
  obtain ⟨c, _, h⟩ := hu
  simp [enrC] at h
  rcases h with rfl | rfl | rfl <;> rfl

/-- A list lies in block s; its entries are its own row. -/
structure RListAt (w : World) (s B : Nat) (v : Value) (cs : List Enr) : Prop where
  blk : w.heap[s]? = some (.cells #[v] 51 (0, 0))
  own : w.ownsRow B 58 3 v cs.length (cs.flatMap enrC)
  sB : B ≤ s
  ents : ∀ c ∈ cs, AtrRow w c.a c.cap c.l

section
variable {w : World} {s B : Nat} {v : Value} {cs : List Enr}
theorem RListAt.c0 (h : RListAt w s B v cs) : w.cell? ⟨s, 0, none⟩ = some v := by simp [World.cell?, h.blk]
theorem RListAt.f0 (h : RListAt w s B v cs) : w.frozen? ⟨s, 0, none⟩ = false := by simp [World.frozen?, h.blk]
theorem RListAt.slt (h : RListAt w s B v cs) : s < w.heap.size := (Array.getElem?_eq_some_iff.1 h.blk).1
theorem RListAt.le (h : RListAt w s B v cs) : B ≤ w.heap.size := by have := h.slt; have := h.sB; omega
theorem RListAt.off (h : RListAt w s B v cs) : v.ownBlock ≠ some s := by
  intro e1
  rcases h.own.2 with ⟨rfl, _⟩ | ⟨g', cap', cur, rfl, _, hh, _⟩
  · cases e1
  · simp only [Value.ownBlock, Option.some.injEq] at e1
    subst e1
    have := h.blk
    rw [hh] at this
    simp only [Option.some.injEq, Obj.cells.injEq] at this
    exact absurd this.2.1 (by decide)
theorem RListAt.form (h : RListAt w s B v cs) : ∃ a c, v = .slice a cs.length c := by
  rcases h.own.2 with ⟨h1, h2⟩ | ⟨g1, c1, _, h1, _⟩
  · exact ⟨none, 0, by rw [h1, h2]⟩
  · exact ⟨_, c1, h1⟩
theorem RListAt.form2 (h : RListAt w s B v cs) : (v = .slice none 0 0 ∧ cs = []) ∨ ∃ g c, v = .slice (some ⟨g, 0, none⟩) cs.length c ∧ cs.length ≤ c := by
  rcases h.own.2 with ⟨h1, h2⟩ | ⟨g1, c1, _, h1, _, _, h2, _⟩
  · exact .inl ⟨h1, List.length_eq_zero_iff.1 h2⟩
  · exact .inr ⟨_, c1, h1, h2⟩
theorem RListAt.off_s (h : RListAt w s B v cs) {c : Enr} (hc : c ∈ cs) {g : Nat} (hg : c.a = some ⟨g, 0, none⟩) : g ≠ s := by
  obtain ⟨_, xs, r, hx⟩ := (h.ents c hc).typed hg
  intro e
  subst e
  rw [h.blk] at hx
  simp only [Option.some.injEq, Obj.cells.injEq] at hx
  exact absurd hx.2.1 (by decide)
theorem RListAt.off_r (h : RListAt w s B v cs) {c : Enr} (hc : c ∈ cs) {g : Nat} (hg : c.a = some ⟨g, 0, none⟩) : v.ownBlock ≠ some g := by
  obtain ⟨_, xs, r, hx⟩ := (h.ents c hc).typed hg
  intro e1
  rcases h.own.2 with ⟨rfl, _⟩ | ⟨g', cap', cur, rfl, _, hh, _⟩
  · cases e1
  · simp only [Value.ownBlock, Option.some.injEq] at e1
    subst e1
    rw [hh] at hx
    simp only [Option.some.injEq, Obj.cells.injEq] at hx
    exact absurd hx.2.1 (by decide)
theorem RListAt.kept {w' : World} {out : Nat → Prop} (h : RListAt w s B v cs) (hk : Kept out w w') (hs : ¬ out s) (hg : ∀ k, v.ownBlock = some k → ¬ out k) (he : ∀ c ∈ cs, ∀ g, c.a = some ⟨g, 0, none⟩ → ¬ out g) : RListAt w' s B v cs :=
  ⟨(hk.block s h.slt hs).trans h.blk, owns_kept h.own hk hg, h.sB, fun c hc => (h.ents c hc).kept hk (he c hc)⟩
theorem RListAt.below {w' : World} (h : RListAt w s B v cs) (hb : Below w.heap.size w w') : RListAt w' s B v cs := h.kept (out := fun _ => False) (Kept.below hb) (fun e => e) (fun _ _ e => e) (fun _ _ _ _ e => e)
theorem RListAt.draws (h : RListAt w s B v cs) (q : Nat) : RListAt (w.drewN q) s B v cs := h.below (mk_drawn (Below.refl _ _) q)
end
theorem RListAt.at {w : World} {s B g n cap : Nat} {cs : List Enr} (h : RListAt w s B (.slice (some ⟨g, 0, none⟩) n cap) cs) {i j : Nat} {c : Enr} {u : Value} (hi : cs[i]? = some c) (hj : (enrC c)[j]? = some u) : w.cell? ⟨g, i * 3 + j, none⟩ = some u := by
  have hn : n = cs.length := by
    obtain ⟨a, c', e⟩ := h.form
    injection e
  subst hn
  exact owns_at h.own _ _ (rflat_at cs i j c u hi hj)
end Go.Proofs.Ytalbiekleggkoaa

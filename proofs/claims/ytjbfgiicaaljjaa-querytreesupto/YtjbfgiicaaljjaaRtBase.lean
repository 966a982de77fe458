/-
  The reference's tree: a row of nodes of seven words, and all its rows.
-/
import Derived.Test.YtjbfgiicaaljjaaTfBase
namespace Go.Proofs.Ytjbfgiicaaljjaa
open Go.RowKit

structure RCel where
  kind : Int
  at' : Int
  name : ByteArray
  data : ByteArray
  attrs : Value
  parent : Int
  kids : Value
def rcC (c : RCel) : List Value := [.int .i64 c.kind, .int .i64 c.at', .string c.name, .string c.data, c.attrs, .int .i64 c.parent, c.kids]
theorem rcC_len (c : RCel) : (rcC c).length = 7 := rfl
theorem rflat_len (cs : List RCel) : (cs.flatMap rcC).length = cs.length * 7 := by
  induction cs with
  | nil => rfl
  | cons c cs ih => rw [List.flatMap_cons, List.length_append, ih, rcC_len]; simp; omega
theorem rflat_at (cs : List RCel) (i j : Nat) (c : RCel) (u : Value) (hi : cs[i]? = some c) (hj : (rcC c)[j]? = some u) : (cs.flatMap rcC)[i * 7 + j]? = some u := by
  have hj10 : j < 7 := by
    have := (List.getElem?_eq_some_iff.1 hj).1
    rw [rcC_len] at this
    exact this
  induction cs generalizing i with
  | nil => cases hi
  | cons d cs ih =>
    rw [List.flatMap_cons]
    match i, hi with
    | 0, hi =>
      obtain rfl : d = c := by simpa using hi
      rw [List.getElem?_append_left (by rw [rcC_len]; omega)]
      simpa using hj
    | i + 1, hi =>
      rw [List.getElem?_append_right (by rw [rcC_len]; omega), rcC_len]
      have := ih i (by simpa using hi)
      rw [← this]
      congr 1
      omega
theorem rflat_set (cs : List RCel) (i j : Nat) (c c' : RCel) (u : Value) (hi : cs[i]? = some c) (hj : j < 7) (hc : rcC c' = (rcC c).set j u) : (cs.flatMap rcC).set (i * 7 + j) u = (cs.set i c').flatMap rcC := by
  induction cs generalizing i with
  | nil => cases hi
  | cons d cs ih =>
    match i, hi with
    | 0, hi =>
      obtain rfl : d = c := by simpa using hi
      rw [List.set_cons_zero, List.flatMap_cons, List.flatMap_cons, hc, List.set_append_left _ _ (by rw [rcC_len]; omega)]
      simp
    | i + 1, hi =>
      rw [List.set_cons_succ, List.flatMap_cons, List.flatMap_cons, List.set_append_right _ _ (by rw [rcC_len]; omega), rcC_len]
      have := ih i (by simpa using hi)
      rw [← this]
      congr 2
      omega

/-- The reference's tree: its block t holds a row of nodes, in block g. -/
structure RTreeAt (w : World) (t B g cap : Nat) (cs : List RCel) : Prop where
  blk : w.heap[t]? = some (.cells #[.slice (some ⟨g, 0, none⟩) cs.length cap] 35 (0, 0))
  own : w.ownsRow B 80 7 (.slice (some ⟨g, 0, none⟩) cs.length cap) cs.length (cs.flatMap rcC)
  tB : B ≤ t
  few : cs.length ≤ 1000000

section
variable {w : World} {t B g cap : Nat} {cs : List RCel}
theorem RTreeAt.c0 (h : RTreeAt w t B g cap cs) : w.cell? ⟨t, 0, none⟩ = some (.slice (some ⟨g, 0, none⟩) cs.length cap) := by simp [World.cell?, h.blk]
theorem RTreeAt.f0 (h : RTreeAt w t B g cap cs) : w.frozen? ⟨t, 0, none⟩ = false := by simp [World.frozen?, h.blk]
theorem RTreeAt.tlt (h : RTreeAt w t B g cap cs) : t < w.heap.size := (Array.getElem?_eq_some_iff.1 h.blk).1
theorem RTreeAt.gB (h : RTreeAt w t B g cap cs) : B ≤ g ∧ g < w.heap.size := owns_lt h.own g rfl
theorem RTreeAt.le (h : RTreeAt w t B g cap cs) : B ≤ w.heap.size := by have := h.gB; omega
theorem RTreeAt.off (h : RTreeAt w t B g cap cs) {B' : Nat} {e : TypeId} {sz n : Nat} {v : Value} {xs : List Value} (ho : w.ownsRow B' e sz v n xs) (he : e ≠ 35) : v.ownBlock ≠ some t := by
  intro e1
  rcases ho.2 with ⟨rfl, _⟩ | ⟨g', cap', cur, rfl, _, hh, _⟩
  · cases e1
  · simp only [Value.ownBlock, Option.some.injEq] at e1
    subst e1
    have := h.blk
    rw [hh] at this
    simp only [Option.some.injEq, Obj.cells.injEq] at this
    exact he this.2.1
theorem RTreeAt.ne (h : RTreeAt w t B g cap cs) : t ≠ g := fun e => h.off h.own (by decide) (by rw [e]; rfl)
theorem RTreeAt.at (h : RTreeAt w t B g cap cs) {i j : Nat} {c : RCel} {u : Value} (hi : cs[i]? = some c) (hj : (rcC c)[j]? = some u) : w.cell? ⟨g, i * 7 + j, none⟩ = some u := owns_at h.own _ _ (rflat_at cs i j c u hi hj)
theorem RTreeAt.fz (h : RTreeAt w t B g cap cs) (j : Nat) : w.frozen? ⟨g, j, none⟩ = false := owns_fz h.own j
end
theorem RTreeAt.kept {w w' : World} {t B g cap : Nat} {cs : List RCel} {out : Nat → Prop} (h : RTreeAt w t B g cap cs) (hk : Kept out w w') (ht : ¬ out t) (hg : ¬ out g) : RTreeAt w' t B g cap cs :=
  ⟨(hk.block t h.tlt ht).trans h.blk, owns_kept h.own hk (by intro k e; simp only [Value.ownBlock, Option.some.injEq] at e; subst e; exact hg), h.tB, h.few⟩
theorem RTreeAt.below {w w' : World} {t B g cap : Nat} {cs : List RCel} (h : RTreeAt w t B g cap cs) (hb : Below w.heap.size w w') : RTreeAt w' t B g cap cs := h.kept (out := fun _ => False) (Kept.below hb) (fun e => e) (fun e => e)
theorem RTreeAt.set {w : World} {t B g cap : Nat} {cs : List RCel} (h : RTreeAt w t B g cap cs) {i j : Nat} {c c' : RCel} {u : Value} (hi : cs[i]? = some c) (hj : j < 7) (hc : rcC c' = (rcC c).set j u) : RTreeAt (w.setCell ⟨g, i * 7 + j, none⟩ u) t B g cap (cs.set i c') := by
  have hlen : (cs.set i c').length = cs.length := List.length_set ..
  refine ⟨?_, ?_, h.tB, by rw [hlen]; exact h.few⟩
  · rw [hlen, Below.heap_setCell _ _ _ _ (by show t ≠ g; exact h.ne)]
    exact h.blk
  · rw [hlen, ← rflat_set cs i j c c' u hi hj hc]
    exact owns_set h.own _ _

structure RCelOf (c : RCel) (x : Nd) : Prop where
  kind : c.kind = x.kind
  at' : c.at' = x.at'
  name : c.name = x.name
  data : c.data = x.data
  parent : c.parent = x.parent

structure RFamAt (w : World) (t B g cap : Nat) (ns : List Nd) (cs : List RCel) : Prop where
  tree : RTreeAt w t B g cap cs
  len : cs.length = ns.length
  cel : ∀ (i : Nat) (c : RCel) (x : Nd), cs[i]? = some c → ns[i]? = some x → RCelOf c x
  kids : ∀ (i : Nat) (c : RCel) (x : Nd), cs[i]? = some c → ns[i]? = some x → w.ownsRow B 3 1 c.kids x.kids.length (intC x.kids)
  atts : ∀ (i : Nat) (c : RCel) (x : Nd), cs[i]? = some c → ns[i]? = some x → w.ownsRow B 77 2 c.attrs x.atts.length (x.atts.flatMap attC)
  bare : ∀ (i : Nat) (c : RCel) (x : Nd), cs[i]? = some c → ns[i]? = some x → x.kids = [] → c.kids = .slice none 0 0

theorem RFamAt.keep {w w' : World} {t B g cap : Nat} {ns : List Nd} {cs : List RCel} {out : Nat → Prop} (h : RFamAt w t B g cap ns cs) (hk : Kept out w w') (ho : ∀ k, B ≤ k → k < w.heap.size → ¬ out k) : RFamAt w' t B g cap ns cs :=
  ⟨h.tree.kept hk (ho _ h.tree.tB h.tree.tlt) (ho _ h.tree.gB.1 h.tree.gB.2), h.len, h.cel, fun i c x hc hx => owns_kept (h.kids i c x hc hx) hk (fun k e => ho k (owns_lt (h.kids i c x hc hx) k e).1 (owns_lt (h.kids i c x hc hx) k e).2), fun i c x hc hx => owns_kept (h.atts i c x hc hx) hk (fun k e => ho k (owns_lt (h.atts i c x hc hx) k e).1 (owns_lt (h.atts i c x hc hx) k e).2), h.bare⟩
theorem RFamAt.below {w w' : World} {t B g cap : Nat} {ns : List Nd} {cs : List RCel} (h : RFamAt w t B g cap ns cs) (hb : Below w.heap.size w w') : RFamAt w' t B g cap ns cs := h.keep (out := fun _ => False) (Kept.below hb) (fun _ _ _ e => e)
theorem RFamAt.cell {w : World} {t B g cap : Nat} {ns : List Nd} {cs : List RCel} (h : RFamAt w t B g cap ns cs) {i : Nat} {x : Nd} (hx : ns[i]? = some x) : ∃ c, cs[i]? = some c ∧ RCelOf c x := by
  have hlt := (List.getElem?_eq_some_iff.1 hx).1
  have hc : cs[i]? = some (cs[i]'(by rw [h.len]; exact hlt)) := List.getElem?_eq_getElem _
  exact ⟨_, hc, h.cel i _ x hc hx⟩
end Go.Proofs.Ytjbfgiicaaljjaa

/-
  Two trees of the same nodes, step by step.
-/
import Derived.Test.YtjbfgiicaaljjaaRtMake
import Derived.Test.YtjbfgiicaaljjaaTfMath
namespace Go.Proofs.Ytjbfgiicaaljjaa
open Go.RowKit

def RKidB (cs : List RCel) (k : Nat) : Prop := ∃ (i : Nat) (c : RCel), cs[i]? = some c ∧ c.kids.ownBlock = some k

/-- Of which elements a block is. -/
def OfTy (w : World) (k : Nat) (e : TypeId) : Prop := ∃ cur f, w.heap[k]? = some (.cells cur e f)
theorem row_ty {w : World} {B : Nat} {e : TypeId} {sz n : Nat} {v : Value} {xs : List Value} (h : w.ownsRow B e sz v n xs) {k : Nat} (hk : v.ownBlock = some k) : OfTy w k e := by
  rcases h.2 with ⟨rfl, _⟩ | ⟨g, cap, cur, rfl, _, hg, _⟩
  · cases hk
  · simp only [Value.ownBlock, Option.some.injEq] at hk
    subst hk
    exact ⟨cur, _, hg⟩
theorem OfTy.uniq {w : World} {k : Nat} {e e' : TypeId} (h : OfTy w k e) (h' : OfTy w k e') : e = e' := by
  obtain ⟨c, f, h⟩ := h
  obtain ⟨c', f', h'⟩ := h'
  rw [h] at h'
  simp only [Option.some.injEq, Obj.cells.injEq] at h'
  exact h'.2.1

theorem FamAt.keepT {w w' : World} {t B g cap : Nat} {ns : List Nd} {cs : List Cel} {out : Nat → Prop} (h : FamAt w t B g cap ns cs) (hk : Kept out w w')
    (ho : ∀ k, out k → (¬ OfTy w k 104 ∧ ¬ OfTy w k 101 ∧ ¬ OfTy w k 67) ∧ ¬ KidB cs k) : FamAt w' t B g cap ns cs := by
  have hkids : ∀ (i : Nat) (c : Cel) (x : Nd), cs[i]? = some c → ns[i]? = some x → w'.ownsRow B 3 1 c.kids x.kids.length (intC x.kids) := fun i c x hc hx => owns_kept (h.kids i c x hc hx) hk (fun k e e2 => (ho k e2).2 ⟨i, c, hc, e⟩)
  have hatts : ∀ (i : Nat) (c : Cel) (x : Nd), cs[i]? = some c → ns[i]? = some x → w'.ownsRow B 67 2 c.attrs x.atts.length (x.atts.flatMap attC) := fun i c x hc hx => owns_kept (h.atts i c x hc hx) hk (fun k e e2 => (ho k e2).1.2.2 (row_ty (h.atts i c x hc hx) e))
  exact ⟨h.tree.kept hk (fun e => (ho _ e).1.1 ⟨_, _, h.tree.blk⟩) (fun e => (ho _ e).1.2.1 (row_ty h.tree.own rfl)), h.len, h.cel, hkids, hatts, h.apart, h.bare⟩
theorem RFamAt.keepT {w w' : World} {t B g cap : Nat} {ns : List Nd} {cs : List RCel} {out : Nat → Prop} (h : RFamAt w t B g cap ns cs) (hk : Kept out w w')
    (ho : ∀ k, out k → (¬ OfTy w k 35 ∧ ¬ OfTy w k 80 ∧ ¬ OfTy w k 77) ∧ ¬ RKidB cs k) : RFamAt w' t B g cap ns cs := by
  have hkids : ∀ (i : Nat) (c : RCel) (x : Nd), cs[i]? = some c → ns[i]? = some x → w'.ownsRow B 3 1 c.kids x.kids.length (intC x.kids) := fun i c x hc hx => owns_kept (h.kids i c x hc hx) hk (fun k e e2 => (ho k e2).2 ⟨i, c, hc, e⟩)
  have hatts : ∀ (i : Nat) (c : RCel) (x : Nd), cs[i]? = some c → ns[i]? = some x → w'.ownsRow B 77 2 c.attrs x.atts.length (x.atts.flatMap attC) := fun i c x hc hx => owns_kept (h.atts i c x hc hx) hk (fun k e e2 => (ho k e2).1.2.2 (row_ty (h.atts i c x hc hx) e))
  exact ⟨h.tree.kept hk (fun e => (ho _ e).1.1 ⟨_, _, h.tree.blk⟩) (fun e => (ho _ e).1.2.1 (row_ty h.tree.own rfl)), h.len, h.cel, hkids, hatts, h.bare⟩

theorem FamAt.kidTy {w : World} {t B g cap : Nat} {ns : List Nd} {cs : List Cel} (h : FamAt w t B g cap ns cs) {k : Nat} (hk : KidB cs k) : OfTy w k 3 ∧ B ≤ k ∧ k < w.heap.size := by
  obtain ⟨i, c, hc, e⟩ := hk
  have hlt := (List.getElem?_eq_some_iff.1 hc).1
  have hx : ns[i]? = some (ns[i]'(by rw [← h.len]; exact hlt)) := List.getElem?_eq_getElem _
  have := h.kids i c _ hc hx
  exact ⟨row_ty this e, owns_lt this k e⟩
theorem RFamAt.kidTy {w : World} {t B g cap : Nat} {ns : List Nd} {cs : List RCel} (h : RFamAt w t B g cap ns cs) {k : Nat} (hk : RKidB cs k) : OfTy w k 3 ∧ B ≤ k ∧ k < w.heap.size := by
  obtain ⟨i, c, hc, e⟩ := hk
  have hlt := (List.getElem?_eq_some_iff.1 hc).1
  have hx : ns[i]? = some (ns[i]'(by rw [← h.len]; exact hlt)) := List.getElem?_eq_getElem _
  have := h.kids i c _ hc hx
  exact ⟨row_ty this e, owns_lt this k e⟩

theorem rfam_make {w w' : World} {t B g cap : Nat} {ns : List Nd} {cs : List RCel} {kind at' : Int} {name data : ByteArray} {aa : Option Addr} {na ca : Nat} {al : List Att} (h : RFamAt w t B g cap ns cs) (hA : w.ownsRow B 77 2 (.slice aa na ca) na (al.flatMap attC)) (hm : RMakeP w t B g cs ⟨kind, at', name, data, .slice aa na ca, -1, .slice none 0 0⟩ w') :
    ∃ g' cap', RFamAt w' t B g' cap' (ns ++ [newNd kind at' name data al]) (cs ++ [⟨kind, at', name, data, .slice aa na ca, -1, .slice none 0 0⟩]) := by
  obtain ⟨⟨g', cap', hT, _⟩, hk⟩ := hm
  have hna : na = al.length := by have := hA.1; rw [attflat_len] at this; omega
  have hkeep : ∀ {e : TypeId} {sz n : Nat} {v : Value} {xs : List Value}, w.ownsRow B e sz v n xs → e ≠ 35 → e ≠ 80 → w'.ownsRow B e sz v n xs := fun ho he1 he2 => owns_kept ho hk (fun k e e2 => by
    rcases e2 with e2 | e2
    · subst e2
      exact h.tree.off ho he1 e
    · subst e2
      rcases owns_apart ho h.tree.own he2 with h0 | h0
      · rw [h0] at e; cases e
      · exact h0 e)
  have hl := h.len
  refine ⟨g', cap', hT, by simp [hl], fun i c x hc hx => ?_, fun i c x hc hx => ?_, fun i c x hc hx => ?_, fun i c x hc hx => ?_⟩
  · rcases get_snoc hc with ⟨h1, h2⟩ | ⟨h1, rfl⟩
    · rcases get_snoc hx with ⟨h3, h4⟩ | ⟨h3, rfl⟩
      · exact h.cel i c x h2 h4
      · omega
    · rcases get_snoc hx with ⟨h3, h4⟩ | ⟨h3, rfl⟩
      · omega
      · exact ⟨rfl, rfl, rfl, rfl, rfl⟩
  · rcases get_snoc hc with ⟨h1, h2⟩ | ⟨h1, rfl⟩
    · rcases get_snoc hx with ⟨h3, h4⟩ | ⟨h3, rfl⟩
      · exact hkeep (h.kids i c x h2 h4) (by decide) (by decide)
      · omega
    · rcases get_snoc hx with ⟨h3, h4⟩ | ⟨h3, rfl⟩
      · omega
      · exact World.ownsRow_nil _ _ _ _
  · rcases get_snoc hc with ⟨h1, h2⟩ | ⟨h1, rfl⟩
    · rcases get_snoc hx with ⟨h3, h4⟩ | ⟨h3, rfl⟩
      · exact hkeep (h.atts i c x h2 h4) (by decide) (by decide)
      · omega
    · rcases get_snoc hx with ⟨h3, h4⟩ | ⟨h3, rfl⟩
      · omega
      · have := hkeep hA (by decide) (by decide)
        rw [hna] at this ⊢
        exact this
  · rcases get_snoc hc with ⟨h1, h2⟩ | ⟨h1, rfl⟩
    · rcases get_snoc hx with ⟨h3, h4⟩ | ⟨h3, rfl⟩
      · exact h.bare i c x h2 h4
      · omega
    · intro _
      rfl

theorem rfam_put {w w' : World} {t B g cap n p : Nat} {ns : List Nd} {cs : List RCel} {c cp : RCel} {x xp : Nd} (h : RFamAt w t B g cap ns cs) (hc : cs[n]? = some c) (hcp : cs[p]? = some cp) (hx : ns[n]? = some x) (hxp : ns[p]? = some xp) (hne : n ≠ p) (hput : RLayP w t B g cap cs n p c cp xp.kids w') :
    ∃ cs', RFamAt w' t B g cap (putNd ns n p x xp) cs' ∧ ∀ k, RKidB cs' k → RKidB cs k ∨ w.heap.size ≤ k := by
  obtain ⟨⟨v', hT, hrow⟩, hk⟩ := hput
  have hnl := (List.getElem?_eq_some_iff.1 hc).1
  have hpl := (List.getElem?_eq_some_iff.1 hcp).1
  have hl := h.len
  have hkeep : ∀ {e : TypeId} {sz n : Nat} {v : Value} {xs : List Value}, w.ownsRow B e sz v n xs → e ≠ 80 → w'.ownsRow B e sz v n xs := fun ho he2 => owns_kept ho hk (fun k e e2 => by
    subst e2
    rcases owns_apart ho h.tree.own he2 with h0 | h0
    · rw [h0] at e; cases e
    · exact h0 e)
  have hle := h.tree.le
  have hlook : ∀ (i : Nat) (ci : RCel), ((cs.set p { cp with kids := v' }).set n { c with parent := (p : Int) })[i]? = some ci → (i = n ∧ ci = { c with parent := (p : Int) }) ∨ (i = p ∧ i ≠ n ∧ ci = { cp with kids := v' }) ∨ (i ≠ n ∧ i ≠ p ∧ cs[i]? = some ci) := fun i ci h1 => get_set2 hnl hpl (fun e => hne e.symm) h1
  refine ⟨_, ⟨hT, by simp [putNd, hl], fun i ci xi h1 h2 => ?_, fun i ci xi h1 h2 => ?_, fun i ci xi h1 h2 => ?_, fun i ci xi h1 h2 => ?_⟩, fun k hk2 => ?_⟩
  · rcases hlook i ci h1 with ⟨e1, rfl⟩ | ⟨e1, e2, rfl⟩ | ⟨e1, e2, e3⟩
    · rcases get_set2 (by omega) (by omega) hne h2 with ⟨f1, _⟩ | ⟨f1, f2, rfl⟩ | ⟨_, f1, _⟩
      · omega
      · have := h.cel n c x hc hx
        exact ⟨this.1, this.2, this.3, this.4, rfl⟩
      · omega
    · rcases get_set2 (by omega) (by omega) hne h2 with ⟨_, rfl⟩ | ⟨f1, _, _⟩ | ⟨f1, _, _⟩
      · have := h.cel p cp xp hcp hxp
        exact ⟨this.1, this.2, this.3, this.4, this.5⟩
      · omega
      · omega
    · rcases get_set2 (by omega) (by omega) hne h2 with ⟨f1, _⟩ | ⟨f1, _, _⟩ | ⟨_, _, f3⟩
      · omega
      · omega
      · exact h.cel i ci xi e3 f3
  · rcases hlook i ci h1 with ⟨e1, rfl⟩ | ⟨e1, e2, rfl⟩ | ⟨e1, e2, e3⟩
    · rcases get_set2 (by omega) (by omega) hne h2 with ⟨f1, _⟩ | ⟨f1, f2, rfl⟩ | ⟨_, f1, _⟩
      · omega
      · exact hkeep (h.kids n c x hc hx) (by decide)
      · omega
    · rcases get_set2 (by omega) (by omega) hne h2 with ⟨_, rfl⟩ | ⟨f1, _, _⟩ | ⟨f1, _, _⟩
      · exact owns_base hrow hle
      · omega
      · omega
    · rcases get_set2 (by omega) (by omega) hne h2 with ⟨f1, _⟩ | ⟨f1, _, _⟩ | ⟨_, _, f3⟩
      · omega
      · omega
      · exact hkeep (h.kids i ci xi e3 f3) (by decide)
  · rcases hlook i ci h1 with ⟨e1, rfl⟩ | ⟨e1, e2, rfl⟩ | ⟨e1, e2, e3⟩
    · rcases get_set2 (by omega) (by omega) hne h2 with ⟨f1, _⟩ | ⟨f1, f2, rfl⟩ | ⟨_, f1, _⟩
      · omega
      · exact hkeep (h.atts n c x hc hx) (by decide)
      · omega
    · rcases get_set2 (by omega) (by omega) hne h2 with ⟨_, rfl⟩ | ⟨f1, _, _⟩ | ⟨f1, _, _⟩
      · exact hkeep (h.atts p cp xp hcp hxp) (by decide)
      · omega
      · omega
    · rcases get_set2 (by omega) (by omega) hne h2 with ⟨f1, _⟩ | ⟨f1, _, _⟩ | ⟨_, _, f3⟩
      · omega
      · omega
      · exact hkeep (h.atts i ci xi e3 f3) (by decide)
  · rcases hlook i ci h1 with ⟨e1, rfl⟩ | ⟨e1, e2, rfl⟩ | ⟨e1, e2, e3⟩
    · rcases get_set2 (by omega) (by omega) hne h2 with ⟨f1, _⟩ | ⟨f1, f2, rfl⟩ | ⟨_, f1, _⟩
      · omega
      · exact h.bare n c x hc hx
      · omega
    · rcases get_set2 (by omega) (by omega) hne h2 with ⟨_, rfl⟩ | ⟨f1, _, _⟩ | ⟨f1, _, _⟩
      · intro e
        have := congrArg List.length e
        simp at this
      · omega
      · omega
    · rcases get_set2 (by omega) (by omega) hne h2 with ⟨f1, _⟩ | ⟨f1, _, _⟩ | ⟨_, _, f3⟩
      · omega
      · omega
      · exact h.bare i ci xi e3 f3
  · obtain ⟨i, ci, h1, e⟩ := hk2
    rcases hlook i ci h1 with ⟨e1, rfl⟩ | ⟨e1, e2, rfl⟩ | ⟨e1, e2, e3⟩
    · exact .inl ⟨n, c, hc, e⟩
    · exact .inr (owns_lt hrow k e).1
    · exact .inl ⟨i, ci, e3, e⟩
end Go.Proofs.Ytjbfgiicaaljjaa

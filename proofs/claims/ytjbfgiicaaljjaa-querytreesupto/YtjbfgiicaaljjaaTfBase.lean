/-
  A tree and all its rows: the nodes as plain data.
-/
import Derived.Test.YtjbfgiicaaljjaaDmNoneA
namespace Go.Proofs.Ytjbfgiicaaljjaa
open Go.RowKit

/-- A node, as plain data. -/
structure Nd where
  kind : Int
  at' : Int
  name : ByteArray
  data : ByteArray
  atts : List Att
  parent : Int
  ahead : Nat
  kids : List Nat

/-- What a node's cells say, but for its rows. -/
structure CelOf (c : Cel) (x : Nd) : Prop where
  kind : c.kind = x.kind
  at' : c.at' = x.at'
  name : c.name = x.name
  data : c.data = x.data
  parent : c.parent = x.parent
  ahead : c.ahead = (x.ahead : Int)
  more : c.more = .slice none 0 0

/-- A tree, its rows of kids and of attributes, all apart. -/
structure FamAt (w : World) (t B g cap : Nat) (ns : List Nd) (cs : List Cel) : Prop where
  tree : TreeAt w t B g cap cs
  len : cs.length = ns.length
  cel : ∀ (i : Nat) (c : Cel) (x : Nd), cs[i]? = some c → ns[i]? = some x → CelOf c x
  kids : ∀ (i : Nat) (c : Cel) (x : Nd), cs[i]? = some c → ns[i]? = some x → w.ownsRow B 3 1 c.kids x.kids.length (intC x.kids)
  atts : ∀ (i : Nat) (c : Cel) (x : Nd), cs[i]? = some c → ns[i]? = some x → w.ownsRow B 67 2 c.attrs x.atts.length (x.atts.flatMap attC)
  apart : ∀ (i j : Nat) (ci cj : Cel) (k : Nat), cs[i]? = some ci → cs[j]? = some cj → i ≠ j → ci.kids.ownBlock = some k → cj.kids.ownBlock ≠ some k
  bare : ∀ (i : Nat) (c : Cel) (x : Nd), cs[i]? = some c → ns[i]? = some x → x.kids = [] → c.kids = .slice none 0 0

theorem owns_base {w : World} {B B' : Nat} {e : TypeId} {sz n : Nat} {v : Value} {xs : List Value} (h : w.ownsRow B e sz v n xs) (hb : B' ≤ B) : w.ownsRow B' e sz v n xs := by
  refine ⟨h.1, ?_⟩
  rcases h.2 with h2 | ⟨g, cap, cur, hv, hg, rest⟩
  · exact .inl h2
  · exact .inr ⟨g, cap, cur, hv, Nat.le_trans hb hg, rest⟩

theorem FamAt.keep {w w' : World} {t B g cap : Nat} {ns : List Nd} {cs : List Cel} {out : Nat → Prop} (h : FamAt w t B g cap ns cs) (hk : Kept out w w') (ho : ∀ k, k < w.heap.size → ¬ out k) : FamAt w' t B g cap ns cs :=
  ⟨h.tree.kept hk (ho _ h.tree.tlt) (ho _ h.tree.gB.2), h.len, h.cel, fun i c x hc hx => owns_kept (h.kids i c x hc hx) hk (fun k e => ho k (owns_lt (h.kids i c x hc hx) k e).2), fun i c x hc hx => owns_kept (h.atts i c x hc hx) hk (fun k e => ho k (owns_lt (h.atts i c x hc hx) k e).2), h.apart, h.bare⟩
theorem FamAt.below {w w' : World} {t B g cap : Nat} {ns : List Nd} {cs : List Cel} (h : FamAt w t B g cap ns cs) (hb : Below w.heap.size w w') : FamAt w' t B g cap ns cs := h.keep (out := fun _ => False) (Kept.below hb) (fun _ _ e => e)
theorem FamAt.cell {w : World} {t B g cap : Nat} {ns : List Nd} {cs : List Cel} (h : FamAt w t B g cap ns cs) {i : Nat} {x : Nd} (hx : ns[i]? = some x) : ∃ c, cs[i]? = some c ∧ CelOf c x := by
  have hlt := (List.getElem?_eq_some_iff.1 hx).1
  have hc : cs[i]? = some (cs[i]'(by rw [h.len]; exact hlt)) := List.getElem?_eq_getElem _
  exact ⟨_, hc, h.cel i _ x hc hx⟩

/-- A node more. -/
def newNd (kind at' : Int) (name data : ByteArray) (atts : List Att) : Nd := ⟨kind, at', name, data, atts, -1, 0, []⟩

theorem get_snoc {α : Type} {l : List α} {a : α} {i : Nat} {x : α} (h : (l ++ [a])[i]? = some x) : (i < l.length ∧ l[i]? = some x) ∨ (i = l.length ∧ x = a) := by
  by_cases hi : i < l.length
  · rw [List.getElem?_append_left hi] at h
    exact .inl ⟨hi, h⟩
  · rw [List.getElem?_append_right (by omega)] at h
    have : i - l.length = 0 := by
      have := (List.getElem?_eq_some_iff.1 h).1
      simp at this
      omega
    rw [this] at h
    simp at h
    exact .inr ⟨by omega, h.symm⟩

theorem fam_make {w w' : World} {t B g cap : Nat} {ns : List Nd} {cs : List Cel} {kind at' : Int} {name data : ByteArray} {a2 : Option Addr} {na c2 : Nat} {al : List Att} (h : FamAt w t B g cap ns cs) (hm : MadeP w t B g cs { newCel kind at' name data with attrs := .slice a2 na c2 } na al w') :
    ∃ g' cap', FamAt w' t B g' cap' (ns ++ [newNd kind at' name data al]) (cs ++ [{ newCel kind at' name data with attrs := .slice a2 na c2 }]) := by
  obtain ⟨⟨⟨g', cap', hT, _⟩, hk⟩, hrow⟩ := hm
  have hle := h.tree.le
  have hna : na = al.length := by have := hrow.1; rw [attflat_len] at this; omega
  have hkeep : ∀ {e : TypeId} {sz n : Nat} {v : Value} {xs : List Value}, w.ownsRow B e sz v n xs → e ≠ 104 → e ≠ 101 → w'.ownsRow B e sz v n xs := fun ho he1 he2 => owns_kept ho hk (fun k e e2 => by
    rcases e2 with e2 | e2
    · subst e2
      exact h.tree.off ho he1 e
    · subst e2
      rcases owns_apart ho h.tree.own he2 with h0 | h0
      · rw [h0] at e; cases e
      · exact h0 e)
  have hl := h.len
  refine ⟨g', cap', hT, by simp [hl], fun i c x hc hx => ?_, fun i c x hc hx => ?_, fun i c x hc hx => ?_, fun i j ci cj k hi hj hne e => ?_, fun i c x hc hx => ?_⟩
  · rcases get_snoc hc with ⟨h1, h2⟩ | ⟨h1, rfl⟩
    · rcases get_snoc hx with ⟨h3, h4⟩ | ⟨h3, rfl⟩
      · exact h.cel i c x h2 h4
      · omega
    · rcases get_snoc hx with ⟨h3, h4⟩ | ⟨h3, rfl⟩
      · omega
      · exact ⟨rfl, rfl, rfl, rfl, rfl, rfl, rfl⟩
  · rcases get_snoc hc with ⟨h1, h2⟩ | ⟨h1, rfl⟩
    · rcases get_snoc hx with ⟨h3, h4⟩ | ⟨h3, rfl⟩
      · exact hkeep (h.kids i c x h2 h4) (by decide) (by decide)
      · omega
    · rcases get_snoc hx with ⟨h3, h4⟩ | ⟨h3, rfl⟩
      · omega
      · exact World.ownsRow_nil _ _ _ _
  · rcases get_snoc hc with ⟨h1, h2⟩ | ⟨h1, rfl⟩
    · rcases get_snoc hx with ⟨h3, h4⟩ | ⟨h3, rfl⟩
      · exact hkeep (h.atts i c x h2 h4) (by decide) (by decide)
      · omega
    · rcases get_snoc hx with ⟨h3, h4⟩ | ⟨h3, rfl⟩
      · omega
      · have := owns_base hrow (B' := B) (by omega)
        rw [hna] at this ⊢
        exact this
  · rcases get_snoc hi with ⟨h1, h2⟩ | ⟨h1, rfl⟩
    · rcases get_snoc hj with ⟨h3, h4⟩ | ⟨h3, rfl⟩
      · exact h.apart i j ci cj k h2 h4 hne e
      · intro e2; cases e2
    · cases e
  · rcases get_snoc hc with ⟨h1, h2⟩ | ⟨h1, rfl⟩
    · rcases get_snoc hx with ⟨h3, h4⟩ | ⟨h3, rfl⟩
      · exact h.bare i c x h2 h4
      · omega
    · intro _
      rfl

/-- A node behind the kids of another one. -/
def putNd (ns : List Nd) (n p : Nat) (x xp : Nd) : List Nd := (ns.set n { x with parent := (p : Int), ahead := xp.kids.length }).set p { xp with kids := xp.kids ++ [n] }

theorem get_set2 {α : Type} {l : List α} {n p : Nat} {a b x : α} {i : Nat} (hp : p < l.length) (hn : n < l.length) (hne : n ≠ p) (h : ((l.set n a).set p b)[i]? = some x) : (i = p ∧ x = b) ∨ (i = n ∧ i ≠ p ∧ x = a) ∨ (i ≠ p ∧ i ≠ n ∧ l[i]? = some x) := by
  by_cases h1 : i = p
  · subst h1
    rw [List.getElem?_set_self (by simpa using hp)] at h
    exact .inl ⟨rfl, by injection h with h; exact h.symm⟩
  · rw [List.getElem?_set_ne (fun e => h1 e.symm)] at h
    by_cases h2 : i = n
    · subst h2
      rw [List.getElem?_set_self hn] at h
      exact .inr (.inl ⟨rfl, h1, by injection h with h; exact h.symm⟩)
    · rw [List.getElem?_set_ne (fun e => h2 e.symm)] at h
      exact .inr (.inr ⟨h1, h2, h⟩)

theorem fam_put {w w' : World} {t B g cap n p : Nat} {ns : List Nd} {cs : List Cel} {c cp : Cel} {x xp : Nd} (h : FamAt w t B g cap ns cs) (hc : cs[n]? = some c) (hcp : cs[p]? = some cp) (hx : ns[n]? = some x) (hxp : ns[p]? = some xp) (hne : n ≠ p) (hxk : x.kids = []) (hck : c.kids = .slice none 0 0) (hput : PutP w t B g cap cs n p c cp xp.kids w') :
    ∃ cs', FamAt w' t B g cap (putNd ns n p x xp) cs' ∧ Kept (fun k => k = g ∨ cp.kids.ownBlock = some k) w w' ∧ ∀ (i : Nat) (ci : Cel) (k : Nat), cs'[i]? = some ci → ci.kids.ownBlock = some k → (∃ (j : Nat) (cj : Cel), cs[j]? = some cj ∧ cj.kids.ownBlock = some k) ∨ w.heap.size ≤ k := by
  obtain ⟨⟨v', hT, hrow, hlies⟩, hk⟩ := hput
  have hnl := (List.getElem?_eq_some_iff.1 hc).1
  have hpl := (List.getElem?_eq_some_iff.1 hcp).1
  have hl := h.len
  have hk9 := h.kids p cp xp hcp hxp
  have hkeepA : ∀ {n : Nat} {v : Value} {xs : List Value}, w.ownsRow B 67 2 v n xs → w'.ownsRow B 67 2 v n xs := fun ho => owns_kept ho hk (fun k e e2 => by
    rcases e2 with e2 | e2
    · subst e2
      rcases owns_apart ho h.tree.own (by decide) with h0 | h0
      · rw [h0] at e; cases e
      · exact h0 e
    · rcases owns_apart ho hk9 (by decide) with h0 | h0
      · rw [h0] at e; cases e
      · exact h0 (by rw [e, e2]))
  have hkeepK : ∀ i ci xi, i ≠ p → cs[i]? = some ci → ns[i]? = some xi → w'.ownsRow B 3 1 ci.kids xi.kids.length (intC xi.kids) := fun i ci xi hi h1 h2 => owns_kept (h.kids i ci xi h1 h2) hk (fun k e e2 => by
    rcases e2 with e2 | e2
    · subst e2
      rcases owns_apart (h.kids i ci xi h1 h2) h.tree.own (by decide) with h0 | h0
      · rw [h0] at e; cases e
      · exact h0 e
    · exact h.apart i p ci cp k h1 hcp hi e e2)
  refine ⟨_, ⟨hT, by simp [putNd, hl], fun i ci xi h1 h2 => ?_, fun i ci xi h1 h2 => ?_, fun i ci xi h1 h2 => ?_, fun i j ci cj k h1 h2 hij e => ?_, fun i ci xi h1 h2 => ?_⟩, hk, fun i ci k h1 e => ?_⟩
  · rcases get_set2 hpl hnl hne h1 with ⟨e1, rfl⟩ | ⟨e1, e2, rfl⟩ | ⟨e1, e2, e3⟩
    · rcases get_set2 (by omega) (by omega) hne h2 with ⟨_, rfl⟩ | ⟨f1, f2, _⟩ | ⟨f1, _, _⟩
      · have := h.cel p cp xp hcp hxp
        exact ⟨this.1, this.2, this.3, this.4, this.5, this.6, this.7⟩
      · omega
      · omega
    · rcases get_set2 (by omega) (by omega) hne h2 with ⟨f1, _⟩ | ⟨_, _, rfl⟩ | ⟨_, f2, _⟩
      · omega
      · have := h.cel n c x hc hx
        exact ⟨this.1, this.2, this.3, this.4, rfl, rfl, this.7⟩
      · omega
    · rcases get_set2 (by omega) (by omega) hne h2 with ⟨f1, _⟩ | ⟨f1, _, _⟩ | ⟨_, _, f3⟩
      · omega
      · omega
      · exact h.cel i ci xi e3 f3
  · rcases get_set2 hpl hnl hne h1 with ⟨e1, rfl⟩ | ⟨e1, e2, rfl⟩ | ⟨e1, e2, e3⟩
    · rcases get_set2 (by omega) (by omega) hne h2 with ⟨_, rfl⟩ | ⟨f1, f2, _⟩ | ⟨f1, _, _⟩
      · exact hrow
      · omega
      · omega
    · rcases get_set2 (by omega) (by omega) hne h2 with ⟨f1, _⟩ | ⟨_, _, rfl⟩ | ⟨_, f2, _⟩
      · omega
      · show w'.ownsRow B 3 1 c.kids x.kids.length (intC x.kids)
        rw [hck, hxk]
        exact World.ownsRow_nil _ _ _ _
      · omega
    · rcases get_set2 (by omega) (by omega) hne h2 with ⟨f1, _⟩ | ⟨f1, _, _⟩ | ⟨_, _, f3⟩
      · omega
      · omega
      · exact hkeepK i ci xi e1 e3 f3
  · rcases get_set2 hpl hnl hne h1 with ⟨e1, rfl⟩ | ⟨e1, e2, rfl⟩ | ⟨e1, e2, e3⟩
    · rcases get_set2 (by omega) (by omega) hne h2 with ⟨_, rfl⟩ | ⟨f1, f2, _⟩ | ⟨f1, _, _⟩
      · exact hkeepA (h.atts p cp xp hcp hxp)
      · omega
      · omega
    · rcases get_set2 (by omega) (by omega) hne h2 with ⟨f1, _⟩ | ⟨_, _, rfl⟩ | ⟨_, f2, _⟩
      · omega
      · exact hkeepA (h.atts n c x hc hx)
      · omega
    · rcases get_set2 (by omega) (by omega) hne h2 with ⟨f1, _⟩ | ⟨f1, _, _⟩ | ⟨_, _, f3⟩
      · omega
      · omega
      · exact hkeepA (h.atts i ci xi e3 f3)
  · have hblt : ∀ (i : Nat) (ci : Cel), cs[i]? = some ci → ∀ k, ci.kids.ownBlock = some k → k < w.heap.size := fun i ci h1 k e => by
      have hlt := (List.getElem?_eq_some_iff.1 h1).1
      have hx1 : ns[i]? = some (ns[i]'(by omega)) := List.getElem?_eq_getElem _
      exact (owns_lt (h.kids i ci _ h1 hx1) k e).2
    rcases get_set2 hpl hnl hne h1 with ⟨e1, rfl⟩ | ⟨e1, e2, rfl⟩ | ⟨e1, e2, e3⟩
    · rcases get_set2 hpl hnl hne h2 with ⟨f1, _⟩ | ⟨f1, f2, rfl⟩ | ⟨f1, f2, f3⟩
      · omega
      · show c.kids.ownBlock ≠ some k
        rw [hck]
        intro e2; cases e2
      · intro e2
        rcases hlies with h0 | h0
        · exact h.apart p j cp cj k hcp f3 (fun e => f1 e.symm) (by rw [← h0]; exact e) e2
        · have := h0 k e
          have := hblt j cj f3 k e2
          omega
    · have : c.kids.ownBlock = some k := e
      rw [hck] at this
      cases this
    · rcases get_set2 hpl hnl hne h2 with ⟨f1, rfl⟩ | ⟨f1, f2, rfl⟩ | ⟨f1, f2, f3⟩
      · intro e4
        rcases hlies with h0 | h0
        · exact h.apart i p ci cp k e3 hcp e1 e (by rw [← h0]; exact e4)
        · have := h0 k e4
          have := hblt i ci e3 k e
          omega
      · show c.kids.ownBlock ≠ some k
        rw [hck]
        intro e2; cases e2
      · exact h.apart i j ci cj k e3 f3 hij e
  · rcases get_set2 hpl hnl hne h1 with ⟨e1, rfl⟩ | ⟨e1, e2, rfl⟩ | ⟨e1, e2, e3⟩
    · rcases get_set2 (by omega) (by omega) hne h2 with ⟨_, rfl⟩ | ⟨f1, f2, _⟩ | ⟨f1, _, _⟩
      · intro e
        have := congrArg List.length e
        simp at this
      · omega
      · omega
    · rcases get_set2 (by omega) (by omega) hne h2 with ⟨f1, _⟩ | ⟨_, _, rfl⟩ | ⟨_, f2, _⟩
      · omega
      · intro _
        exact hck
      · omega
    · rcases get_set2 (by omega) (by omega) hne h2 with ⟨f1, _⟩ | ⟨f1, _, _⟩ | ⟨_, _, f3⟩
      · omega
      · omega
      · exact h.bare i ci xi e3 f3
  · rcases get_set2 hpl hnl hne h1 with ⟨e1, rfl⟩ | ⟨e1, e2, rfl⟩ | ⟨e1, e2, e3⟩
    · rcases hlies with h0 | h0
      · exact .inl ⟨p, cp, hcp, by rw [← h0]; exact e⟩
      · exact .inr (h0 k e)
    · exact .inl ⟨n, c, hc, e⟩
    · exact .inl ⟨i, ci, e3, e⟩
end Go.Proofs.Ytjbfgiicaaljjaa

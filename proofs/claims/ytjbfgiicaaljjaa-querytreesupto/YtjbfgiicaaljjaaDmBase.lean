/-
  The tree's own cells: a row of nodes, each of ten words.
-/
import Derived.Test.YtjbfgiicaaljjaaRows
import Derived.Below
import Derived.Carry
import Derived.OwnWalk
import Derived.WalkKit
import Derived.WalkSpells
import Derived.WalkLawsBesides
import Derived.Deep.RegionLaw
import Derived.Deep.DeepCutAuto
import Derived.Deep.QuietTactic
import Derived.BigQuiet
import Derived.BigRegion
import Derived.RegionTactic
import Derived.Deep.RegionWith
import Derived.Deep.RegionHeld3
import Derived.Deep.AppendLies
import Derived.Maps.AppendAt
import Derived.Lib.SmallJoins
namespace Go.Proofs.Ytjbfgiicaaljjaa
open Go.RowKit

/-- A node and where it stands. -/
structure Cel where
  kind : Int
  at' : Int
  name : ByteArray
  data : ByteArray
  attrs : Value
  more : Value
  names : Value
  parent : Int
  ahead : Int
  kids : Value
def celC (c : Cel) : List Value := [.int .i64 c.kind, .int .i64 c.at', .string c.name, .string c.data, c.attrs, c.more, c.names, .int .i64 c.parent, .int .i64 c.ahead, c.kids]
theorem celC_len (c : Cel) : (celC c).length = 10 := rfl

theorem flat_len (cs : List Cel) : (cs.flatMap celC).length = cs.length * 10 := by
  induction cs with
  | nil => rfl
  | cons c cs ih => rw [List.flatMap_cons, List.length_append, ih, celC_len]; simp; omega
theorem flat_at (cs : List Cel) (i j : Nat) (c : Cel) (u : Value) (hi : cs[i]? = some c) (hj : (celC c)[j]? = some u) : (cs.flatMap celC)[i * 10 + j]? = some u := by
  have hj10 : j < 10 := by
    have := (List.getElem?_eq_some_iff.1 hj).1
    rw [celC_len] at this
    exact this
  induction cs generalizing i with
  | nil => cases hi
  | cons d cs ih =>
    rw [List.flatMap_cons]
    match i, hi with
    | 0, hi =>
      obtain rfl : d = c := by simpa using hi
      rw [List.getElem?_append_left (by rw [celC_len]; omega)]
      simpa using hj
    | i + 1, hi =>
      rw [List.getElem?_append_right (by rw [celC_len]; omega), celC_len]
      have := ih i (by simpa using hi)
      rw [← this]
      congr 1
      omega
theorem flat_set (cs : List Cel) (i j : Nat) (c c' : Cel) (u : Value) (hi : cs[i]? = some c) (hj : j < 10) (hc : celC c' = (celC c).set j u) : (cs.flatMap celC).set (i * 10 + j) u = (cs.set i c').flatMap celC := by
  induction cs generalizing i with
  | nil => cases hi
  | cons d cs ih =>
    match i, hi with
    | 0, hi =>
      obtain rfl : d = c := by simpa using hi
      rw [List.set_cons_zero, List.flatMap_cons, List.flatMap_cons, hc, List.set_append_left _ _ (by rw [celC_len]; omega)]
      simp
    | i + 1, hi =>
      rw [List.set_cons_succ, List.flatMap_cons, List.flatMap_cons, List.set_append_right _ _ (by rw [celC_len]; omega), celC_len]
      have := ih i (by simpa using hi)
      rw [← this]
      congr 2
      omega

/-- A cell of an owned row is stored. -/
theorem owns_set {w : World} {B : Nat} {e : TypeId} {sz g n cap : Nat} {xs : List Value} (h : w.ownsRow B e sz (.slice (some ⟨g, 0, none⟩) n cap) n xs) (j : Nat) (u : Value) : (w.setCell ⟨g, j, none⟩ u).ownsRow B e sz (.slice (some ⟨g, 0, none⟩) n cap) n (xs.set j u) := by
  obtain ⟨h1, h2⟩ := h
  refine ⟨by rw [List.length_set]; exact h1, ?_⟩
  rcases h2 with ⟨hv, _⟩ | ⟨g', cap', cur, hv, hg, hh, hn, hm, hs, ht⟩
  · cases hv
  · injection hv with hv1 hv2 hv3
    injection hv1 with hv1
    injection hv1 with hv1 _ _
    subst hv1 hv3
    refine .inr ⟨g, cap, cur.setIfInBounds j u, rfl, hg, ?_, hn, hm, by simpa using hs, ?_⟩
    · have hlt := (Array.getElem?_eq_some_iff.1 hh).1
      simp only [World.setCell, Array.getElem?_modify, hh]
      simp
    · rw [← ht]
      rw [Array.toList_setIfInBounds, List.take_set]

theorem owns_lt {w : World} {B : Nat} {e : TypeId} {sz n : Nat} {v : Value} {xs : List Value} (h : w.ownsRow B e sz v n xs) : ∀ k, v.ownBlock = some k → B ≤ k ∧ k < w.heap.size := by
  intro k hk
  rcases h.2 with ⟨rfl, _⟩ | ⟨g, cap, cur, rfl, hg, hh, _⟩
  · cases hk
  · simp only [Value.ownBlock, Option.some.injEq] at hk
    subst hk
    exact ⟨hg, (Array.getElem?_eq_some_iff.1 hh).1⟩

theorem addr_at (g j : Nat) : (⟨g, 0, none⟩ : Addr).add j = ⟨g, j, none⟩ := by cases j <;> simp [Addr.add]
theorem owns_at {w : World} {base g cap n : Nat} {e : TypeId} {sz : Nat} {xs : List Value} (h : w.ownsRow base e sz (.slice (some ⟨g, 0, none⟩) n cap) n xs) (j : Nat) (u : Value) (hj : xs[j]? = some u) : w.cell? ⟨g, j, none⟩ = some u := by
  have := h.cells rfl j u hj
  rw [addr_at] at this
  exact this
theorem owns_fz {w : World} {base g cap n : Nat} {e : TypeId} {sz : Nat} {xs : List Value} (h : w.ownsRow base e sz (.slice (some ⟨g, 0, none⟩) n cap) n xs) (j : Nat) : w.frozen? ⟨g, j, none⟩ = false := by
  rcases h.2 with ⟨hv, _⟩ | ⟨g', cap', cur, hv, hg, hh, hn, hm, hs, ht⟩
  · cases hv
  · injection hv with hv1 hv2 hv3
    injection hv1 with hv1
    injection hv1 with hv1 _ _
    subst hv1
    simp [World.frozen?, hh]
theorem owns_room {w : World} {base g cap n : Nat} {e : TypeId} {sz : Nat} {xs : List Value} (h : w.ownsRow base e sz (.slice (some ⟨g, 0, none⟩) n cap) n xs) : n ≤ cap := by
  rcases h.2 with ⟨hv, _⟩ | ⟨g', cap', cur, hv, _, _, hn, _⟩
  · cases hv
  · injection hv with _ _ e
    omega
/-- Rows of other elements lie in other blocks. -/
theorem owns_apart {w : World} {base base' : Nat} {e e' : TypeId} {size size' : Nat} {v v' : Value} {n n' : Nat} {xs xs' : List Value} (h : w.ownsRow base e size v n xs) (h' : w.ownsRow base' e' size' v' n' xs') (he : e ≠ e') : v.ownBlock = none ∨ v.ownBlock ≠ v'.ownBlock := by
  rcases h.2 with ⟨rfl, _⟩ | ⟨g, cap, cur, rfl, hg, hh, _⟩
  · exact .inl rfl
  · refine .inr ?_
    intro hk
    rcases h'.2 with ⟨rfl, _⟩ | ⟨g', cap', cur', rfl, hg', hh', _⟩
    · cases hk
    · simp only [Value.ownBlock, Option.some.injEq] at hk
      subst hk
      rw [hh] at hh'
      simp only [Option.some.injEq, Obj.cells.injEq] at hh'
      exact he hh'.2.1

/-- All blocks but some are as they were. -/
structure Kept (out : Nat → Prop) (w w' : World) : Prop where
  os : w'.os = w.os
  tape : w'.tape = w.tape
  output : w'.output = w.output
  size : w.heap.size ≤ w'.heap.size
  block : ∀ k, k < w.heap.size → ¬ out k → w'.heap[k]? = w.heap[k]?
theorem Kept.refl (out : Nat → Prop) (w : World) : Kept out w w := ⟨rfl, rfl, rfl, Nat.le_refl _, fun _ _ _ => rfl⟩
theorem Kept.trans {out : Nat → Prop} {a b c : World} (h : Kept out a b) (k : Kept out b c) : Kept out a c :=
  ⟨k.os.trans h.os, k.tape.trans h.tape, k.output.trans h.output, Nat.le_trans h.size k.size, fun i hi ho => (k.block i (Nat.lt_of_lt_of_le hi h.size) ho).trans (h.block i hi ho)⟩
theorem Kept.mono {out out' : Nat → Prop} {w w' : World} (h : Kept out w w') (ho : ∀ k, k < w.heap.size → out k → out' k) : Kept out' w w' := ⟨h.os, h.tape, h.output, h.size, fun k hk hn => h.block k hk (fun e => hn (ho k hk e))⟩
theorem Kept.below {out : Nat → Prop} {w w' : World} (h : Below w.heap.size w w') : Kept out w w' := ⟨h.os, h.tape, h.output, h.size, fun k hk _ => h.block k hk⟩
theorem Kept.store {out : Nat → Prop} {a w : World} (h : Kept out a w) (p : Addr) (hp : out p.block) (u : Value) : Kept out a (w.setCell p u) :=
  h.trans ⟨rfl, rfl, rfl, by simp [World.setCell], fun k _ hd => Below.heap_setCell _ _ _ _ (by intro e; exact hd (e ▸ hp))⟩
theorem Kept.grown {out : Nat → Prop} {row : Option Nat} {w w' : World} (h : w.grownBy w' row) (hr : ∀ k, row = some k → out k) : Kept out w w' := ⟨h.os, h.tape, h.output, h.size, fun k hk hn => h.block k hk (fun e => hn (hr k e.symm))⟩
theorem Kept.draws {out : Nat → Prop} {a w : World} (h : Kept out a w) (q : Nat) : Kept out a (w.drewN q) := ⟨h.os, h.tape, h.output, h.size, h.block⟩
theorem Kept.from_draws {out : Nat → Prop} {a w : World} {q : Nat} (h : Kept out (a.drewN q) w) : Kept out a w := ⟨h.os, h.tape, h.output, h.size, h.block⟩
theorem Kept.cell {out : Nat → Prop} {w w' : World} (h : Kept out w w') (p : Addr) (hk : p.block < w.heap.size) (ho : ¬ out p.block) : w'.cell? p = w.cell? p := World.cell?_of_block (h.block _ hk ho)
theorem Kept.frozen {out : Nat → Prop} {w w' : World} (h : Kept out w w') (p : Addr) (hk : p.block < w.heap.size) (ho : ¬ out p.block) : w'.frozen? p = w.frozen? p := by
  have key := h.block _ hk ho
  simp only [World.frozen?, key]
theorem owns_kept {out : Nat → Prop} {w w' : World} {B : Nat} {e : TypeId} {sz n : Nat} {v : Value} {xs : List Value} (h : w.ownsRow B e sz v n xs) (hk : Kept out w w') (hr : ∀ k, v.ownBlock = some k → ¬ out k) : w'.ownsRow B e sz v n xs := by
  refine ⟨h.1, ?_⟩
  rcases h.2 with hn | ⟨g, cap, cur, rfl, hg, hgg, rest⟩
  · exact .inl hn
  · refine .inr ⟨g, cap, cur, rfl, hg, ?_, rest⟩
    rw [hk.block g (Array.getElem?_eq_some_iff.1 hgg).1 (hr g rfl)]
    exact hgg

/-- A tree: its block t holds a row of nodes, in block g. -/
structure TreeAt (w : World) (t B g cap : Nat) (cs : List Cel) : Prop where
  blk : w.heap[t]? = some (.cells #[.slice (some ⟨g, 0, none⟩) cs.length cap] 104 (0, 0))
  own : w.ownsRow B 101 10 (.slice (some ⟨g, 0, none⟩) cs.length cap) cs.length (cs.flatMap celC)
  tB : B ≤ t
  few : cs.length ≤ 1000000

section
variable {w : World} {t B g cap : Nat} {cs : List Cel}
theorem TreeAt.c0 (h : TreeAt w t B g cap cs) : w.cell? ⟨t, 0, none⟩ = some (.slice (some ⟨g, 0, none⟩) cs.length cap) := by simp [World.cell?, h.blk]
theorem TreeAt.f0 (h : TreeAt w t B g cap cs) : w.frozen? ⟨t, 0, none⟩ = false := by simp [World.frozen?, h.blk]
theorem TreeAt.tlt (h : TreeAt w t B g cap cs) : t < w.heap.size := (Array.getElem?_eq_some_iff.1 h.blk).1
theorem TreeAt.gB (h : TreeAt w t B g cap cs) : B ≤ g ∧ g < w.heap.size := owns_lt h.own g rfl
theorem TreeAt.le (h : TreeAt w t B g cap cs) : B ≤ w.heap.size := by have := h.gB; omega
/-- A row of other things doesn't lie in the tree's own block. -/
theorem TreeAt.off (h : TreeAt w t B g cap cs) {B' : Nat} {e : TypeId} {sz n : Nat} {v : Value} {xs : List Value} (ho : w.ownsRow B' e sz v n xs) (he : e ≠ 104) : v.ownBlock ≠ some t := by
  intro e1
  rcases ho.2 with ⟨rfl, _⟩ | ⟨g', cap', cur, rfl, _, hh, _⟩
  · cases e1
  · simp only [Value.ownBlock, Option.some.injEq] at e1
    subst e1
    have := h.blk
    rw [hh] at this
    simp only [Option.some.injEq, Obj.cells.injEq] at this
    exact he this.2.1
theorem TreeAt.ne (h : TreeAt w t B g cap cs) : t ≠ g := fun e => h.off h.own (by decide) (by rw [e]; rfl)
theorem TreeAt.at (h : TreeAt w t B g cap cs) {i j : Nat} {c : Cel} {u : Value} (hi : cs[i]? = some c) (hj : (celC c)[j]? = some u) : w.cell? ⟨g, i * 10 + j, none⟩ = some u := owns_at h.own _ _ (flat_at cs i j c u hi hj)
theorem TreeAt.fz (h : TreeAt w t B g cap cs) (j : Nat) : w.frozen? ⟨g, j, none⟩ = false := owns_fz h.own j
end
theorem TreeAt.kept {w w' : World} {t B g cap : Nat} {cs : List Cel} {out : Nat → Prop} (h : TreeAt w t B g cap cs) (hk : Kept out w w') (ht : ¬ out t) (hg : ¬ out g) : TreeAt w' t B g cap cs :=
  ⟨(hk.block t h.tlt ht).trans h.blk, owns_kept h.own hk (by intro k e; simp only [Value.ownBlock, Option.some.injEq] at e; subst e; exact hg), h.tB, h.few⟩
theorem TreeAt.below {w w' : World} {t B g cap : Nat} {cs : List Cel} (h : TreeAt w t B g cap cs) (hb : Below w.heap.size w w') : TreeAt w' t B g cap cs := h.kept (out := fun _ => False) (Kept.below hb) (fun e => e) (fun e => e)
theorem TreeAt.draws {w : World} {t B g cap : Nat} {cs : List Cel} (h : TreeAt w t B g cap cs) (q : Nat) : TreeAt (w.drewN q) t B g cap cs := ⟨h.blk, h.own, h.tB, h.few⟩
theorem TreeAt.set {w : World} {t B g cap : Nat} {cs : List Cel} (h : TreeAt w t B g cap cs) {i j : Nat} {c c' : Cel} {u : Value} (hi : cs[i]? = some c) (hj : j < 10) (hc : celC c' = (celC c).set j u) : TreeAt (w.setCell ⟨g, i * 10 + j, none⟩ u) t B g cap (cs.set i c') := by
  have hlen : (cs.set i c').length = cs.length := List.length_set ..
  refine ⟨?_, ?_, h.tB, by rw [hlen]; exact h.few⟩
  · rw [hlen, Below.heap_setCell _ _ _ _ (by show t ≠ g; exact h.ne)]
    exact h.blk
  · rw [hlen, ← flat_set cs i j c c' u hi hj hc]
    exact owns_set h.own _ _
end Go.Proofs.Ytjbfgiicaaljjaa

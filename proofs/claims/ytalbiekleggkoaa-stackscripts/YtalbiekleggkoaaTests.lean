/-
  A row of tests of one text against many: how it runs.
-/
import Derived.Test.YtalbiekleggkoaaRows
import Derived.Below
import Derived.Carry
import Derived.OwnWalk
import Derived.WalkKit
import Derived.WalkSpells
import Derived.WalkLawsBesides
namespace Go.Proofs.Ytalbiekleggkoaa
open Go.RowKit

theorem wpList_value {P : Program} {ops : Array Oper} {Q : Exit → Act → World → Prop} {rest : List Oper} {o : Oper} {a : Act} {w w' : World} {v : Value} (hg : o.guard = none) (h : (execOp a.eval o).run P w = .ok (.value v) w')
    (k : wpList P ops Q rest (a.put o.dst v) w') : wpList P ops Q (o :: rest) a w :=
  wpList_plain hg fun K hK => by
    unfold Oper.wp
    rw [h]
    exact hK _ _ k

/-- One test: the text that is compared. -/
def readOne (m x sw : Nat) (ks : List Nat) : List Oper → Option ByteArray
  | [o1, o2] =>
    match o1.op, o1.dst, o2.op, o2.dst with
    | .binOp .eql 9 (.tmp x') (.const (.string c)) _, some d, .assign (.tmp d'), some sw' =>
      if x' = x ∧ d' = d ∧ sw' = sw ∧ d < m ∧ sw < m ∧ (ks.all fun k => k != d && k != sw) = true ∧ o1.guard.isNone = true ∧ o2.guard.isNone = true then some c else none
    | _, _, _, _ => none
  | _ => none

theorem eval_put_same (a : Act) (d : Nat) (v : Value) (h : d < a.tmps.size) : (a.put (some d) v).eval (.tmp d) = v := by
  simp [Act.put, Act.eval, h]
theorem eval_put_other (a : Act) (d j : Nat) (v : Value) (h : j ≠ d) : (a.put (some d) v).eval (.tmp j) = a.eval (.tmp j) := by
  simp only [Act.put, Act.eval, Array.getD_eq_getD_getElem?]
  rw [Array.getElem?_setIfInBounds_ne (by omega)]
theorem size_put (a : Act) (d : Nat) (v : Value) : (a.put (some d) v).tmps.size = a.tmps.size := by simp [Act.put]
theorem defers_put (a : Act) (d : Nat) (v : Value) : (a.put (some d) v).defers = a.defers := rfl

/-- What a row of tests leaves. -/
structure Tested (m x sw : Nat) (ks : List Nat) (a : Act) (r : Bool) (a' : Act) : Prop where
  size : a'.tmps.size = m
  defers : a'.defers = a.defers
  kept : ∀ j, j ∈ ks → a'.eval (.tmp j) = a.eval (.tmp j)
  said : a'.eval (.tmp sw) = .bool r

theorem one_wp {P : Program} {m x sw : Nat} {ks : List Nat} {ops : List Oper} {c : ByteArray} (h : readOne m x sw ks ops = some c) (id : Nat) (Q : Exit → Act → World → Prop) (a : Act) (w : World) (s : ByteArray) (hm : a.tmps.size = m) (hx : a.eval (.tmp x) = .string s)
    (hQ : ∀ a', Tested m x sw ks a (s.toList == c.toList) a' → Q .normal a' w) : (Code.region id ops.toArray false).wp P Q a w := by
  unfold readOne at h
  split at h
  · rename_i o1 o2
    split at h
    · rename_i x' c' t d d' sw' e1 e2 e3 e4
      split at h
      · rename_i hc
        obtain ⟨rfl, rfl, rfl, hd, hsw, hk, hg1, hg2⟩ := hc
        obtain rfl : c' = c := by simpa using h
        refine wp_region_lit ?_
        refine wpList_value (v := .bool (s.toList == c'.toList)) (w' := w) (by simpa using hg1) ?_ ?_
        · unfold execOp
          simp only [e1, hx, show a.eval (.const (.string c')) = .string c' from rfl]
          simp [go_sem]
        rw [e2]
        refine wpList_value (v := .bool (s.toList == c'.toList)) (w' := w) (by simpa using hg2) ?_ ?_
        · have hd2 : d' < a.tmps.size := Nat.lt_of_lt_of_eq hd hm.symm
          unfold execOp
          simp only [e3, eval_put_same _ _ _ hd2]
          rfl
        rw [e4]
        refine wpList_nil (hQ _ ⟨?_, ?_, ?_, ?_⟩)
        · rw [size_put, size_put]; exact hm
        · rw [defers_put, defers_put]
        · intro j hj
          have := List.all_eq_true.1 hk j hj
          simp only [Bool.and_eq_true, bne_iff_ne, ne_eq] at this
          rw [eval_put_other _ _ _ _ this.2, eval_put_other _ _ _ _ this.1]
        · exact eval_put_same _ _ _ (by rw [size_put]; exact Nat.lt_of_lt_of_eq hsw hm.symm)
      · cases h
    · cases h
  · cases h

/-- The texts of a row of tests. -/
def readTests (m x sw : Nat) (ks : List Nat) : Code → Option (List ByteArray)
  | .region _ ops false => (readOne m x sw ks ops.toList).map (fun c => [c])
  | .seq (.region _ ops false) (.cond (.tmp t) .skip k) => if t = sw then (readOne m x sw ks ops.toList).bind (fun c => (readTests m x sw ks k).map (fun cs => c :: cs)) else none
  | _ => none

theorem tests_wp {P : Program} (m x sw : Nat) (ks : List Nat) (hxk : x ∈ ks) (k : Code) : ∀ (cs : List ByteArray), readTests m x sw ks k = some cs → ∀ (Q : Exit → Act → World → Prop) (a : Act) (w : World) (s : ByteArray), a.tmps.size = m → a.eval (.tmp x) = .string s →
    (∀ a', Tested m x sw ks a (cs.any fun c => s.toList == c.toList) a' → Q .normal a' w) → k.wp P Q a w := by
  induction k using readTests.induct (sw := sw) with
  | case1 id ops =>
    intro cs h Q a w s hm hx hQ
    rw [readTests] at h
    obtain ⟨c, hc, rfl⟩ := Option.map_eq_some_iff.1 h
    refine one_wp (ops := ops.toList) hc id Q a w s hm hx ?_
    simpa using hQ
  | case2 id ops k ih =>
    intro cs h Q a w s hm hx hQ
    rw [readTests] at h
    split at h
    · 
      obtain ⟨c, hc, h2⟩ := Option.bind_eq_some_iff.1 h
      obtain ⟨cs', hcs, rfl⟩ := Option.map_eq_some_iff.1 h2
      refine wp_seq ?_
      refine one_wp (ops := ops.toList) hc id _ a w s hm hx ?_
      intro a' ha
      show Code.wp P _ Q a' w
      refine wp_cond ha.said ?_
      cases hb : (s.toList == c.toList)
      · simp only [Bool.false_eq_true, if_false]
        refine ih cs' hcs Q a' w s ha.size (by rw [ha.kept x hxk]; exact hx) ?_
        intro a'' h''
        refine hQ a'' ⟨h''.size, h''.defers.trans ha.defers, fun j hj => (h''.kept j hj).trans (ha.kept j hj), ?_⟩
        rw [h''.said]
        simp [hb]
      · simp only [if_true]
        refine wp_skip (hQ a' ⟨ha.size, ha.defers, ha.kept, ?_⟩)
        rw [ha.said]
        simp [hb]
    · rename_i hn
      exact absurd rfl hn
  | case3 id ops t k hne =>
    intro cs h
    rw [readTests, if_neg hne] at h
    cases h
  | case4 k h1 h2 =>
    intro cs h
    rw [readTests] at h
    · cases h
    · exact h1
    · exact h2

end Go.Proofs.Ytalbiekleggkoaa

/-
  The scopes' ends; what is in a scope; a node's place.
-/
import Derived.Test.YtalbiekleggkoaaStLast
import Derived.Test.YtalbiekleggkoaaTests
namespace Go.Proofs.Ytalbiekleggkoaa
open Go.RowKit

/-- Is a text one of many? -/
def isAm (l : List ByteArray) (s : ByteArray) : Bool := l.any fun c => s.toList == c.toList
def endsA : List ByteArray := [⟨#[104, 116, 109, 108]⟩, ⟨#[116, 97, 98, 108, 101]⟩, ⟨#[116, 101, 109, 112, 108, 97, 116, 101]⟩]
def endsB : List ByteArray := [⟨#[116, 100]⟩, ⟨#[116, 104]⟩, ⟨#[99, 97, 112, 116, 105, 111, 110]⟩, ⟨#[109, 97, 114, 113, 117, 101, 101]⟩, ⟨#[111, 98, 106, 101, 99, 116]⟩, ⟨#[97, 112, 112, 108, 101, 116]⟩]
def endsC : List ByteArray := [⟨#[111, 108]⟩, ⟨#[117, 108]⟩]
def endsD : List ByteArray := [⟨#[98, 117, 116, 116, 111, 110]⟩]
/-- Does an element of a name end a scope? -/
def endsOf (sc : Int) (s : ByteArray) : Bool := if isAm endsA s then true else if isAm endsB s then sc != 3 else if isAm endsC s then sc == 1 else if isAm endsD s then sc == 2 else false

theorem run_assign {P : Program} {o : Oper} {a : Act} {w : World} {x : Operand} {v : Value} (ho : o.op = .assign x) (h : a.eval x = v) : (execOp a.eval o).run P w = .ok (.value v) w := by
  subst h
  unfold execOp
  simp only [ho]
  rfl
theorem run_move {P : Program} {o : Oper} {a : Act} {w : World} {x : Operand} {v : Value} (ho : o.op = .move x) (h : a.eval x = v) : (execOp a.eval o).run P w = .ok (.value v) w := by
  subst h
  unfold execOp
  simp only [ho]
  rfl
theorem run_neq {P : Program} {o : Oper} {a : Act} {w : World} {x : Operand} {n k : Int} {ty : TypeId} (ho : o.op = .binOp .neq 3 x (.const (.int .i64 k)) ty) (h : a.eval x = .int .i64 n) : (execOp a.eval o).run P w = .ok (.value (.bool (n != k))) w := by
  unfold execOp
  simp only [ho, h, show a.eval (.const (.int .i64 k)) = .int .i64 k from rfl]
  simp [go_sem]
theorem run_eql {P : Program} {o : Oper} {a : Act} {w : World} {x : Operand} {n k : Int} {ty : TypeId} (ho : o.op = .binOp .eql 3 x (.const (.int .i64 k)) ty) (h : a.eval x = .int .i64 n) : (execOp a.eval o).run P w = .ok (.value (.bool (n == k))) w := by
  unfold execOp
  simp only [ho, h, show a.eval (.const (.int .i64 k)) = .int .i64 k from rfl]
  simp [go_sem]

/-- A value is told. -/
theorem wp_say {P : Program} {fn : Func} {R : Ending → World → Prop} {Q : Exit → Act → World → Prop} {a : Act} {w : World} {d m : Nat} {v : Value} (hres : fn.results = #[.tmp d]) (hm : a.tmps.size = m) (hd : d < m) (hdf : a.defers = []) (hR : R (.returned v) w) (hQ : ∀ a', bodyPost P fn R .ret a' w → Q .ret a' w) : Code.ret.wp P Q (a.put (some d) v) w := by
  refine wp_ret (hQ _ (bodyPost_ret (v := v) ?_ hdf hR))
  have hd2 : d < a.tmps.size := Nat.lt_of_lt_of_eq hd hm.symm
  simp [results, hres, go_sem, Act.put, hd2]

set_option maxRecDepth 100000 in
set_option maxHeartbeats 4000000 in
theorem ends_any (sc : Int) (y : ByteArray) (w : World) : Calls Try.prog 52 #[.int .i64 sc, .string y] w fun e w' => e = .returned (.bool (endsOf sc y)) ∧ w' = w := by
  obtain ⟨r, hr⟩ : ∃ r, endsOf sc y = r := ⟨_, rfl⟩
  rw [hr]
  go_enter Try.func52, Try.ntmps52
  refine wp_seq ?_
  refine wp_region_lit (wpList_value rfl rfl (wpList_nil ?_))
  show Code.wp _ _ _ _ w
  refine wp_seq ?_
  refine wp_seq ?_
  refine wp_region_lit (wpList_value rfl rfl (wpList_nil ?_))
  show Code.wp _ _ _ _ w
  refine wp_block ?_
  refine wp_seq ?_
  refine tests_wp 28 5 6 [0, 5] (by decide) _ endsA (by kernel_rfl) _ _ w y rfl rfl ?_
  intro a1 h1
  show Code.wp _ _ _ a1 w
  refine wp_cond h1.said ?_
  change Code.wp _ (if isAm endsA y = true then _ else _) _ _ _
  cases e1 : isAm endsA y
  · simp only [Bool.false_eq_true, if_false]
    refine wp_seq ?_
    refine tests_wp 28 5 10 [0, 5] (by decide) _ endsB (by kernel_rfl) _ _ w y h1.size (h1.kept 5 (by decide)) ?_
    intro a2 h2
    show Code.wp _ _ _ a2 w
    refine wp_cond h2.said ?_
    change Code.wp _ (if isAm endsB y = true then _ else _) _ _ _
    cases e2 : isAm endsB y
    · simp only [Bool.false_eq_true, if_false]
      refine wp_seq ?_
      refine tests_wp 28 5 19 [0, 5] (by decide) _ endsC (by kernel_rfl) _ _ w y h2.size ((h2.kept 5 (by decide)).trans (h1.kept 5 (by decide))) ?_
      intro a3 h3
      show Code.wp _ _ _ a3 w
      refine wp_cond h3.said ?_
      change Code.wp _ (if isAm endsC y = true then _ else _) _ _ _
      cases e3 : isAm endsC y
      · simp only [Bool.false_eq_true, if_false]
        refine wp_seq ?_
        refine tests_wp 28 5 24 [0, 5] (by decide) _ endsD (by kernel_rfl) _ _ w y h3.size ((h3.kept 5 (by decide)).trans ((h2.kept 5 (by decide)).trans (h1.kept 5 (by decide)))) ?_
        intro a4 h4
        show Code.wp _ _ _ a4 w
        refine wp_cond h4.said ?_
        change Code.wp _ (if isAm endsD y = true then _ else _) _ _ _
        cases e4 : isAm endsD y
        · simp only [Bool.false_eq_true, if_false]
          have hr2 : r = false := by rw [← hr]; simp [endsOf, e1, e2, e3, e4]
          subst hr2
          refine wp_skip ?_
          show Code.wp _ _ _ a4 w
          refine wp_seq ?_
          refine wp_region_lit (wpList_value rfl (run_assign rfl rfl) (wpList_nil ?_))
          exact wp_say (fn := Try.f52) (R := fun e w' => e = .returned (.bool false) ∧ w' = w) (v := .bool false) Try.results52 h4.size (by decide) (h4.defers.trans (h3.defers.trans (h2.defers.trans h1.defers))) ⟨rfl, rfl⟩ (fun _ h => h)
        · simp only [if_true]
          have hr2 : r = (sc == 2) := by rw [← hr]; simp [endsOf, e1, e2, e3, e4]
          subst hr2
          refine wp_seq ?_
          refine wp_region_lit (wpList_value rfl (run_move rfl ((h4.kept 0 (by decide)).trans ((h3.kept 0 (by decide)).trans ((h2.kept 0 (by decide)).trans (h1.kept 0 (by decide)))))) (wpList_value (v := .bool (sc == 2)) rfl (run_eql rfl (eval_put_same _ _ _ (Nat.lt_of_lt_of_eq (by decide) h4.size.symm))) (wpList_value rfl (run_assign rfl (eval_put_same _ _ _ (Nat.lt_of_lt_of_eq (by decide) ((size_put _ _ _).trans h4.size).symm))) (wpList_nil ?_))))
          exact wp_say (fn := Try.f52) (R := fun e w' => e = .returned (.bool (sc == 2)) ∧ w' = w) (v := .bool (sc == 2)) Try.results52 ((size_put _ _ _).trans ((size_put _ _ _).trans h4.size)) (by decide) (h4.defers.trans (h3.defers.trans (h2.defers.trans h1.defers))) ⟨rfl, rfl⟩ (fun _ h => by simpa only [Exit.inBlock, Exit.then] using h)
      · simp only [if_true]
        have hr2 : r = (sc == 1) := by rw [← hr]; simp [endsOf, e1, e2, e3]
        subst hr2
        refine wp_seq ?_
        refine wp_region_lit (wpList_value rfl (run_move rfl ((h3.kept 0 (by decide)).trans ((h2.kept 0 (by decide)).trans (h1.kept 0 (by decide))))) (wpList_value (v := .bool (sc == 1)) rfl (run_eql rfl (eval_put_same _ _ _ (Nat.lt_of_lt_of_eq (by decide) h3.size.symm))) (wpList_value rfl (run_assign rfl (eval_put_same _ _ _ (Nat.lt_of_lt_of_eq (by decide) ((size_put _ _ _).trans h3.size).symm))) (wpList_nil ?_))))
        exact wp_say (fn := Try.f52) (R := fun e w' => e = .returned (.bool (sc == 1)) ∧ w' = w) (v := .bool (sc == 1)) Try.results52 ((size_put _ _ _).trans ((size_put _ _ _).trans h3.size)) (by decide) (h3.defers.trans (h2.defers.trans h1.defers)) ⟨rfl, rfl⟩ (fun _ h => by simpa only [Exit.inBlock, Exit.then] using h)
    · simp only [if_true]
      have hr2 : r = (sc != 3) := by rw [← hr]; simp [endsOf, e1, e2]
      subst hr2
      refine wp_seq ?_
      refine wp_region_lit (wpList_value rfl (run_move rfl ((h2.kept 0 (by decide)).trans (h1.kept 0 (by decide)))) (wpList_value (v := .bool (sc != 3)) rfl (run_neq rfl (eval_put_same _ _ _ (Nat.lt_of_lt_of_eq (by decide) h2.size.symm))) (wpList_value rfl (run_assign rfl (eval_put_same _ _ _ (Nat.lt_of_lt_of_eq (by decide) ((size_put _ _ _).trans h2.size).symm))) (wpList_nil ?_))))
      exact wp_say (fn := Try.f52) (R := fun e w' => e = .returned (.bool (sc != 3)) ∧ w' = w) (v := .bool (sc != 3)) Try.results52 ((size_put _ _ _).trans ((size_put _ _ _).trans h2.size)) (by decide) (h2.defers.trans h1.defers) ⟨rfl, rfl⟩ (fun _ h => by simpa only [Exit.inBlock, Exit.then] using h)
  · simp only [if_true]
    have hr2 : r = true := by rw [← hr]; simp [endsOf, e1]
    subst hr2
    refine wp_seq ?_
    refine wp_region_lit (wpList_value rfl (run_assign rfl rfl) (wpList_nil ?_))
    exact wp_say (fn := Try.f52) (R := fun e w' => e = .returned (.bool true) ∧ w' = w) (v := .bool true) Try.results52 h1.size (by decide) h1.defers ⟨rfl, rfl⟩ (fun _ h => by simpa only [Exit.inBlock, Exit.then] using h)
end Go.Proofs.Ytalbiekleggkoaa

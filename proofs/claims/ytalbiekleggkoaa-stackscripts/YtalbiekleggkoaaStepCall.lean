/-
  A call of a Go function as one operation of a region that draws its order.
-/
import Derived.Test.YtalbiekleggkoaaRows
import Derived.Deep.RegionLaw
import Derived.Shelf.Abstract
namespace Go.Proofs.Ytalbiekleggkoaa

theorem step_call {P : Program} {ops : Array Oper} {o : Oper} {a : Act} {w : World} {K : Act → World → Prop} {Q : Exit → Act → World → Prop} {E : Prop} (hgd : o.guard = none) (F : FuncId) (xs : Array Operand) (ts : Array TypeId)
    (ho : o.op = .call { callee := .value (.func F), args := xs, argTypes := ts }) (args : Array Value) (hargs : xs.map a.eval = args) (heg : ∀ w, (callFunc F args).run P w = .ok (.enter F args) w) {R : Ending → World → Prop} (hc : Calls P F args w R)
    (hR : ∀ e w', R e w' → ∃ v, e = .returned v ∧ K (a.put o.dst v) w') :
    if Region.wanted o (yielded ops a.tmps) = true then Oper.wp P o a w K Q else E := by
  have hw : Region.wanted o (yielded ops a.tmps) = true := by simp [Region.wanted, hgd]
  rw [if_pos hw]
  have hrun : (execOp a.eval o).run P w = .ok (.enter F args) w := by
    unfold execOp
    simp only [ho]
    simp [resolve, invoke, Act.eval, hargs, heg, Deferred.ofValue, go_sem]
  unfold Oper.wp
  rw [hrun, Oper.upon_enter]
  refine hc.mono ?_
  intro e w' h
  obtain ⟨v, rfl, hk⟩ := hR e w' h
  exact hk
end Go.Proofs.Ytalbiekleggkoaa

/-
  A new lexer.
-/
import Derived.Test.YtgdjknbbjpcoiaaGreatDoorLxNone
namespace Go.Proofs.YtgdjknbbjpcoiaaGreatDoor
open Go.RowKit

/-- A new lexer's cells. -/
def lexNew : List Value := [.slice none 0 0, .int .i64 0, .bool false, .int .i64 0, .bool false, .int .i64 0, .string ⟨#[]⟩, .nilFunc,
  .int .i64 0, .int .i64 0, .int .i64 0, .string ⟨#[]⟩, .string ⟨#[]⟩, .slice none 0 0, .bool false, .bool false,
  .int .i64 0, .int .i64 0, .slice none 0 0, .int .i64 0, .int .i64 0, .slice none 0 0, .map none,
  .int .i64 0, .nilFunc, .slice none 0 0, .int .i64 0, .int .i64 0, .bool false, .bool false, .int .i64 0, .slice none 0 0, .slice none 0 0, .slice none 0 0]

set_option maxRecDepth 100000 in
set_option maxHeartbeats 2000000 in
theorem lexNew_any (w : World) : Calls Tryz.prog 17 #[] w fun e w' => e = .returned (.pointer (some ⟨w.heap.size, 0, none⟩)) ∧ w' = w.alloc (.cells lexNew.toArray 100) := by
  go_enter Tryz.func17, Tryz.ntmps17
  go_wp2
  go_ret
  exact ⟨rfl, rfl⟩

theorem lexNew_at (w : World) (t : TypeId) : LexAt (w.alloc (.cells lexNew.toArray t)) w.heap.size lexNew := by
  have e0 : (w.alloc (.cells lexNew.toArray t)).heap[w.heap.size]? = some (.cells lexNew.toArray t (0, 0)) := heap_alloc_new w _
  refine ⟨rfl, fun j v hv => ?_, fun j => ?_⟩
  · rw [cell_of_row _ _ j lexNew.toArray t (0, 0) e0]; simpa using hv
  · show (match (w.alloc (.cells lexNew.toArray t)).heap[w.heap.size]? with | some (.cells _ _ (lo, hi)) => decide (lo ≤ j) && decide (j < hi) | _ => false) = false
    rw [e0]
    simp
end Go.Proofs.YtgdjknbbjpcoiaaGreatDoor

/-
  The reference's decoder, walked: Rows, value, one, Windows.
-/
import Derived.Test.YtjfbogjpmieogaaDoorDpPlain
import Derived.Laws.Bits64
namespace Go.Proofs.YtjfbogjpmieogaaDoor
open Go.RowKit

/-- The rows' cells: four low ones, four high ones, how many. -/
def rowCells (r : List (Int × Int)) : List Value := [Value.int .i64 (r.getD 0 (0, 0)).1, .int .i64 (r.getD 1 (0, 0)).1, .int .i64 (r.getD 2 (0, 0)).1, .int .i64 (r.getD 3 (0, 0)).1, .int .i64 (r.getD 0 (0, 0)).2, .int .i64 (r.getD 1 (0, 0)).2, .int .i64 (r.getD 2 (0, 0)).2, .int .i64 (r.getD 3 (0, 0)).2, .int .i64 (r.length : Int)]
def rowsC : Array Value := (rowsT.flatMap rowCells).toArray

set_option maxRecDepth 100000 in
set_option maxHeartbeats 2000000 in
theorem rows_any (w : World) : Calls Tryd.prog 56 #[] w fun e w' => e = .returned (.slice (some ⟨w.heap.size, 0, none⟩) 9 9) ∧ w' = w.alloc (.cells rowsC 122) := by
  go_enter Tryd.func56, Tryd.ntmps56
  go_wp2
  go_ret
  exact ⟨rfl, rfl⟩
end Go.Proofs.YtjfbogjpmieogaaDoor

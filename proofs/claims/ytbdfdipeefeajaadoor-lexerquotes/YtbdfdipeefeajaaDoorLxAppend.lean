/-
  A scalar behind a row of bytes.
-/
import Derived.Test.YtbdfdipeefeajaaDoorLxState
import Derived.Shelf.Utf8.AppendRunePlain
namespace Go.Proofs.YtbdfdipeefeajaaDoor
open Go.RowKit Go.Shelf

def arRen : Go.Shelf.Ren := ⟨fun | 242 => 66 | 278 => 76 | n => n, fun | 4 => 4 | 5 => 5 | 21 => 21 | 37 => 39 | 46 => 87 | 51 => 99 | n => n, fun | n => n⟩
theorem arLays : Go.Proofs.Lays.n242 Tryd.prog arRen := {
  mixed := by kernel_rfl
  f242 := Tryd.func66.trans (congrArg some (by kernel_rfl))
  f278 := Tryd.func76.trans (congrArg some (by kernel_rfl))
  t4 := Tryd.underlying4
  a4 := Tryd.isAgg4
  z4 := Tryd.sizeOf4
  v4 := Tryd.zeroValue4
  t5 := Tryd.underlying5
  a5 := Tryd.isAgg5
  z5 := Tryd.sizeOf5
  v5 := Tryd.zeroValue5
  t21 := Tryd.underlying21
  a21 := Tryd.isAgg21
  z21 := Tryd.sizeOf21
  v21 := Tryd.zeroValue21
  t37 := Tryd.underlying39
  a37 := Tryd.isAgg39
  z37 := Tryd.sizeOf39
  v37 := Tryd.zeroValue39
  t46 := Tryd.underlying87
  a46 := Tryd.isAgg87
  z46 := Tryd.sizeOf87
  v46 := Tryd.zeroValue87
  t51 := Tryd.underlying99
  a51 := Tryd.isAgg99
  z51 := Tryd.sizeOf99
  v51 := Tryd.zeroValue99 }

theorem appendRune_any (B : Nat) (v : Value) (n : Nat) (xs : List Value) (r : Int) (hr0 : 0 ≤ r) (hr1 : r ≤ 2147483647) (w : World) (hown : w.ownsRow B 5 1 v n xs) (hlen : n + 4 ≤ 140737488355328) (hBw : B ≤ w.heap.size) :
    Calls Tryd.prog 66 #[v, .int .i32 r] w fun e w' => ∃ v', e = .returned v' ∧ w'.ownsRow B 5 1 v' (n + (Lib.runeCells r).length) (xs ++ Lib.runeCells r) ∧ w.grownBy w' v.ownBlock := by
  refine Calls.mono (Any.utf8_AppendRune_plain arLays (by kernel_rfl) B v n xs r (by omega) hr1 w hown hlen hBw) ?_
  rintro e w' ⟨v', he, ho, o, hg⟩
  refine ⟨v', he, ho, hg.os, hg.tape, hg.output, Nat.le_trans (by simp) hg.size, fun k hk hn => ?_⟩
  rw [hg.block k (by simp; omega) hn]
  exact heap_alloc_old w o hk

set_option maxRecDepth 100000 in
set_option maxHeartbeats 2000000 in
theorem appendScalar_any (B : Nat) (v : Value) (n : Nat) (xs : List Value) (c : Int) (hc0 : 0 ≤ c) (hc1 : c ≤ 1114111) (w : World) (hown : w.ownsRow B 5 1 v n xs) (hlen : n + 4 ≤ 140737488355328) (hBw : B ≤ w.heap.size) :
    Calls Tryd.prog 52 #[v, .int .i64 c] w fun e w' => ∃ v', e = .returned v' ∧ w'.ownsRow B 5 1 v' (n + (Lib.runeCells c).length) (xs ++ Lib.runeCells c) ∧ w.grownBy w' v.ownBlock := by
  have HA : Hid _ := appendRune_any B v n xs c hc0 (by omega) w hown hlen hBw
  have hw : IntKind.i32.wrap c = c := by simp [IntKind.wrap, IntKind.bits, IntKind.signed]; omega
  clear hown hlen hBw
  go_enter Tryd.func52, Tryd.ntmps52
  go_wp2_with fail
  first | refine Calls.mono HA.out ?_ | (trace_state; fail)
  rintro e w1 ⟨v', rfl, ho, hg⟩
  go_wp2
  go_ret
  exact ⟨v', rfl, ho, hg⟩
end Go.Proofs.YtbdfdipeefeajaaDoor

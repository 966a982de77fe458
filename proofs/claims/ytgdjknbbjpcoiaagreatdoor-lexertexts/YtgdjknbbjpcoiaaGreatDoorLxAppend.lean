/-
  A scalar behind a row of bytes.
-/
import Derived.Test.YtgdjknbbjpcoiaaGreatDoorLxState
import Derived.Shelf.Utf8.AppendRunePlain
namespace Go.Proofs.YtgdjknbbjpcoiaaGreatDoor
open Go.RowKit Go.Shelf

def arRen : Go.Shelf.Ren := ⟨fun | 242 => 174 | 278 => 198 | n => n, fun | 4 => 4 | 5 => 5 | 21 => 21 | 37 => 87 | 46 => 147 | 51 => 191 | n => n, fun | n => n⟩
theorem arLays : Go.Proofs.Lays.n242 Tryz.prog arRen := {
  mixed := by kernel_rfl
  f242 := Tryz.func174.trans (congrArg some (by kernel_rfl))
  f278 := Tryz.func198.trans (congrArg some (by kernel_rfl))
  t4 := Tryz.underlying4
  a4 := Tryz.isAgg4
  z4 := Tryz.sizeOf4
  v4 := Tryz.zeroValue4
  t5 := Tryz.underlying5
  a5 := Tryz.isAgg5
  z5 := Tryz.sizeOf5
  v5 := Tryz.zeroValue5
  t21 := Tryz.underlying21
  a21 := Tryz.isAgg21
  z21 := Tryz.sizeOf21
  v21 := Tryz.zeroValue21
  t37 := Tryz.underlying87
  a37 := Tryz.isAgg87
  z37 := Tryz.sizeOf87
  v37 := Tryz.zeroValue87
  t46 := Tryz.underlying147
  a46 := Tryz.isAgg147
  z46 := Tryz.sizeOf147
  v46 := Tryz.zeroValue147
  t51 := Tryz.underlying191
  a51 := Tryz.isAgg191
  z51 := Tryz.sizeOf191
  v51 := Tryz.zeroValue191 }

theorem appendRune_any (B : Nat) (v : Value) (n : Nat) (xs : List Value) (r : Int) (hr0 : 0 ≤ r) (hr1 : r ≤ 2147483647) (w : World) (hown : w.ownsRow B 5 1 v n xs) (hlen : n + 4 ≤ 140737488355328) (hBw : B ≤ w.heap.size) :
    Calls Tryz.prog 174 #[v, .int .i32 r] w fun e w' => ∃ v', e = .returned v' ∧ w'.ownsRow B 5 1 v' (n + (Lib.runeCells r).length) (xs ++ Lib.runeCells r) ∧ w.grownBy w' v.ownBlock := by
  refine Calls.mono (Any.utf8_AppendRune_plain arLays (by kernel_rfl) B v n xs r (by omega) hr1 w hown hlen hBw) ?_
  rintro e w' ⟨v', he, ho, o, hg⟩
  refine ⟨v', he, ho, hg.os, hg.tape, hg.output, Nat.le_trans (by simp) hg.size, fun k hk hn => ?_⟩
  rw [hg.block k (by simp; omega) hn]
  exact heap_alloc_old w o hk

set_option maxRecDepth 100000 in
set_option maxHeartbeats 2000000 in
theorem appendScalar_any (B : Nat) (v : Value) (n : Nat) (xs : List Value) (c : Int) (hc0 : 0 ≤ c) (hc1 : c ≤ 1114111) (w : World) (hown : w.ownsRow B 5 1 v n xs) (hlen : n + 4 ≤ 140737488355328) (hBw : B ≤ w.heap.size) :
    Calls Tryz.prog 147 #[v, .int .i64 c] w fun e w' => ∃ v', e = .returned v' ∧ w'.ownsRow B 5 1 v' (n + (Lib.runeCells c).length) (xs ++ Lib.runeCells c) ∧ w.grownBy w' v.ownBlock := by
  have HA : Hid _ := appendRune_any B v n xs c hc0 (by omega) w hown hlen hBw
  have hw : IntKind.i32.wrap c = c := by simp [IntKind.wrap, IntKind.bits, IntKind.signed]; omega
  clear hown hlen hBw
  go_enter Tryz.func147, Tryz.ntmps147
  go_wp2_with fail
  first | refine Calls.mono HA.out ?_ | (trace_state; fail)
  rintro e w1 ⟨v', rfl, ho, hg⟩
  go_wp2
  go_ret
  exact ⟨v', rfl, ho, hg⟩
end Go.Proofs.YtgdjknbbjpcoiaaGreatDoor

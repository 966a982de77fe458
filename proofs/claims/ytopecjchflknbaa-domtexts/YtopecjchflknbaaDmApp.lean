/-
  A scalar behind a row of bytes.
-/
import Derived.Test.YtopecjchflknbaaDmNew
import Derived.Shelf.Utf8.AppendRunePlain
namespace Go.Proofs.Ytopecjchflknbaa
open Go.RowKit Go.Shelf

def arRen : Go.Shelf.Ren := ⟨fun | 242 => 53 | 278 => 66 | n => n, fun | 4 => 4 | 5 => 5 | 21 => 21 | 37 => 62 | 46 => 101 | 51 => 100 | n => n, fun | n => n⟩
theorem arLays : Go.Proofs.Lays.n242 Try.prog arRen := {
  mixed := by kernel_rfl
  f242 := Try.func53.trans (congrArg some (by kernel_rfl))
  f278 := Try.func66.trans (congrArg some (by kernel_rfl))
  t4 := Try.underlying4
  a4 := Try.isAgg4
  z4 := Try.sizeOf4
  v4 := Try.zeroValue4
  t5 := Try.underlying5
  a5 := Try.isAgg5
  z5 := Try.sizeOf5
  v5 := Try.zeroValue5
  t21 := Try.underlying21
  a21 := Try.isAgg21
  z21 := Try.sizeOf21
  v21 := Try.zeroValue21
  t37 := Try.underlying62
  a37 := Try.isAgg62
  z37 := Try.sizeOf62
  v37 := Try.zeroValue62
  t46 := Try.underlying101
  a46 := Try.isAgg101
  z46 := Try.sizeOf101
  v46 := Try.zeroValue101
  t51 := Try.underlying100
  a51 := Try.isAgg100
  z51 := Try.sizeOf100
  v51 := Try.zeroValue100 }

theorem appendRune_any (B : Nat) (v : Value) (n : Nat) (xs : List Value) (r : Int) (hr0 : 0 ≤ r) (hr1 : r ≤ 2147483647) (w : World) (hown : w.ownsRow B 5 1 v n xs) (hlen : n + 4 ≤ 140737488355328) (hBw : B ≤ w.heap.size) :
    Calls Try.prog 53 #[v, .int .i32 r] w fun e w' => ∃ v', e = .returned v' ∧ w'.ownsRow B 5 1 v' (n + (Lib.runeCells r).length) (xs ++ Lib.runeCells r) ∧ w.grownBy w' v.ownBlock := by
  refine Calls.mono (Any.utf8_AppendRune_plain arLays (by kernel_rfl) B v n xs r (by omega) hr1 w hown hlen hBw) ?_
  rintro e w' ⟨v', he, ho, o, hg⟩
  refine ⟨v', he, ho, hg.os, hg.tape, hg.output, Nat.le_trans (by simp) hg.size, fun k hk hn => ?_⟩
  rw [hg.block k (by simp; omega) hn]
  exact heap_alloc_old w o hk

end Go.Proofs.Ytopecjchflknbaa

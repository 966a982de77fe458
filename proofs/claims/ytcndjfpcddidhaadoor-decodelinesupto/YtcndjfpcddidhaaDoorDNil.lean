/-
  Newlines in one form: the law's walk at no scalars, and at any.
-/
import Derived.Test.YtcndjfpcddidhaaDoorDLaw
namespace Go.Proofs.YtcndjfpcddidhaaDoor
open Go.RowKit

set_option maxRecDepth 100000 in
set_option maxHeartbeats 4000000 in
theorem dlines_nil (za : Option Addr) (zcap : Nat) (w : World) (hW : IsWin w) :
    Calls Tryd.prog 5 #[.slice za 0 zcap] w fun e w' => e = .returned (.bool true) ∧ Below w.heap.size w w' := by
  have HS : Hid _ := speaks_any w hW
  have HP : Hid (∀ lb W, Calls Tryd.prog 13 #[.pointer (some ⟨lb, 0, none⟩), .slice none 0 0] W fun e w' => e = .returned (.slice none 0 0) ∧ Below W.heap.size W w') := pass_zero
  have HF : Hid (∀ s W, Calls Tryd.prog 11 #[.pointer none, .string s] W fun e w' => e = .returned (.tuple #[.slice none 0 0, .slice none 0 0]) ∧ Below W.heap.size W w') := feed_nil
  have HE : Hid (∀ W, Calls Tryd.prog 12 #[.pointer none] W fun e w' => e = .returned (.tuple #[.slice none 0 0, .slice none 0 0]) ∧ Below W.heap.size W w') := end_nil
  have HN : Hid (∀ W, Calls Tryd.prog 13 #[.pointer none, .slice none 0 0] W fun e w' => e = .returned (.slice none 0 0) ∧ Below W.heap.size W w') := passN_nil
  clear hW
  go_enter Tryd.func5, Tryd.ntmps5
  go_wp2_with fail
  refine Calls.mono HS.out ?_
  rintro e w1 ⟨rfl, hb1⟩
  have HB1 : Hid _ := hb1
  have HUP : Hid (∀ o o', Below w1.heap.size w1 ((w1.alloc o).alloc o')) := fun o o' => ((Below.refl w1.heap.size w1).alloc (Nat.le_refl _) o).alloc (by simp) o'
  have HUP1 : Hid (∀ o, Below w1.heap.size w1 (w1.alloc o)) := fun o => (Below.refl w1.heap.size w1).alloc (Nat.le_refl _) o
  clear hb1 HS
  go_wp2
  refine wp_loop_rounds 1 ?_
  rw [rounds_succ]
  go_wp2_with fail
  refine Calls.mono (HP.out _ _) ?_
  rintro e w2 ⟨rfl, hb2⟩
  have HB2 : Hid (Below w.heap.size w w2) := by
    first
      | exact HB1.out.trans (((HUP.out _ _).trans (hb2.mono (HUP.out _ _).size)).mono HB1.out.size)
      | exact HB1.out.trans (((HUP1.out _).trans (hb2.mono (HUP1.out _).size)).mono HB1.out.size)
  clear hb2 HB1 HUP HUP1 HP
  go_wp2
  refine wp_loop_rounds 1 ?_
  rw [rounds_succ]
  go_wp2
  refine wp_loop_rounds 1 ?_
  rw [rounds_succ]
  go_wp2_with fail
  refine Calls.mono (HF.out _ _) ?_
  rintro e w3 ⟨rfl, hb3⟩
  have HB3 : Hid (Below w.heap.size w w3) := HB2.out.trans (hb3.mono HB2.out.size)
  clear hb3 HB2
  go_wp2_with fail
  refine Calls.mono (HE.out _) ?_
  rintro e w4 ⟨rfl, hb4⟩
  have HB4 : Hid (Below w.heap.size w w4) := HB3.out.trans (hb4.mono HB3.out.size)
  clear hb4 HB3
  go_wp2_with fail
  refine Calls.mono (HN.out _) ?_
  rintro e w5 ⟨rfl, hb5⟩
  have HB5 : Hid (Below w.heap.size w w5) := HB4.out.trans (hb5.mono HB4.out.size)
  clear hb5 HB4
  go_wp2
  go_ret
  exact ⟨rfl, HB5.out⟩

theorem dlines_any (za : Option Addr) (zcap : Nat) (Z : List Int) (w : World) (hZ : IntsAt w za Z) (hz : Z.length ≤ 1048576) (hW : IsWin w) :
    Calls Tryd.prog 5 #[.slice za Z.length zcap] w fun e w' => e = .returned (.bool true) ∧ Below w.heap.size w w' := by
  rcases Nat.eq_zero_or_pos Z.length with h | h
  · rw [h]
    exact dlines_nil za zcap w hW
  · exact dlines_law za zcap Z w hZ hz h hW
end Go.Proofs.YtcndjfpcddidhaaDoor

/-
  A start tag is told.
-/
import Derived.Test.YtgdjknbbjpcoiaaGreatDoorLxVal
namespace Go.Proofs.YtgdjknbbjpcoiaaGreatDoor
open Go.RowKit

set_option maxRecDepth 100000 in
set_option maxHeartbeats 2000000 in
theorem tellTag_open (l : Nat) (cs : List Value) (t : Tok) (w : World) (hL : LexAt w l cs) (hT : TokAt cs t) (hk : t.kind = 2) (hl : l < w.heap.size) :
    Calls Tryz.prog 171 #[.pointer (some ⟨l, 0, none⟩)] w fun e w' => e = .returned .nilFunc ∧ LexAt w' l (withTok cs t) ∧ But l w.heap.size w w' := by
  have HB : Hid (∀ o, Below w.heap.size w (w.alloc o)) := fun o => (Below.refl _ _).alloc (Nat.le_refl _) o
  have HT : Hid (∀ o, _) := fun o => lxTell l cs t t (w.alloc o) (hL.below (HB.out o) hl) hT (by simp; omega)
  have c8 := hL.c 8 _ hT.t0
  have c9 := hL.c 9 _ hT.t1
  have c10 := hL.c 10 _ hT.t2
  have c11 := hL.c 11 _ hT.t3
  have c12 := hL.c 12 _ hT.t4
  have c13 := hL.c 13 _ hT.t5
  have c14 := hL.c 14 _ hT.t6
  have c15 := hL.c 15 _ hT.t7
  rw [hk] at c8
  unfold tokV at HT
  rw [hk] at HT
  clear hL hT hk
  go_enter Tryz.func171, Tryz.ntmps171
  go_wp2_with fail
  refine Calls.mono (HT.out _) ?_
  rintro e w1 ⟨rfl, hL1, hb1⟩
  go_wp2
  go_ret
  exact ⟨rfl, hL1, (But.of (HB.out _)).trans (hb1.mono (by simp))⟩

set_option maxRecDepth 100000 in
set_option maxHeartbeats 2000000 in
theorem inTag_gt (l : Nat) (cs : List Value) (t : Tok) (g o n cap pos : Nat) (a : Int) (w : World) (hL : LexAt w l cs) (hN : NextIs w cs g o n cap pos 62 a) (h29 : cs[29]? = some (.bool false)) (hT : TokAt cs t) (hk : t.kind = 2) (hl : l < w.heap.size) :
    Calls Tryz.prog 146 #[.pointer (some ⟨l, 0, none⟩)] w fun e w' => e = .returned .nilFunc ∧ LexAt w' l (withTok (cs.set 1 (.int .i64 ((pos + 1 : Nat) : Int))) t) ∧ But l w.heap.size w w' := by
  have HP : Hid _ := peek_any l cs g o n cap pos 62 a w hL hN
  have HB : Hid (∀ w, _) := fun w => isBlank_any 62 w
  rw [show blankI 62 = false by decide] at HB
  have HT : Hid (∀ w1 : World, (∃ q, w1 = w.drewN q) → _) := fun w1 h => take_off l cs g o n cap pos 62 a w1 (by obtain ⟨q, rfl⟩ := h; exact hL.draws q) (by obtain ⟨q, rfl⟩ := h; exact hN.draws q) h29
  have HL : Hid _ := hL
  have HK : Hid (∀ w1 : World, LexAt w1 l (cs.set 1 (.int .i64 ((pos + 1 : Nat) : Int))) → l < w1.heap.size → _) := fun w1 h1 h2 => tellTag_open l (cs.set 1 (.int .i64 ((pos + 1 : Nat) : Int))) t w1 h1 (tok_set hT 1 _ (by omega)) hk h2
  clear hL hN h29 hT hk
  go_enter Tryz.func146, Tryz.ntmps146
  go_wp2_with fail
  refine Calls.mono HP.out ?_
  rintro e w1 ⟨rfl, hq⟩
  have HQ : Hid _ := hq
  clear HP hq
  go_wp2_with fail
  refine Calls.mono (HB.out w1) ?_
  rintro e w2 ⟨rfl, hw2⟩
  subst hw2
  go_wp2_with fail
  refine Calls.mono (HT.out _ HQ.out) ?_
  rintro e w3 ⟨rfl, q3, hw3⟩
  have HE : Hid (LexAt w3 l (cs.set 1 (.int .i64 ((pos + 1 : Nat) : Int))) ∧ But l w.heap.size w w3) := by
    obtain ⟨q, hq⟩ := HQ.out
    rw [hw3, hq]
    exact ⟨((HL.out.draws q).draws q3).set 1 (by omega) _, (But.of (drewN_below (drewN_below (Below.refl _ _) q) q3)).store 1 _⟩
  clear hw3 HT HL HQ HB
  go_wp2_with fail
  refine Calls.mono (HK.out w3 HE.out.1 (Nat.lt_of_lt_of_le hl HE.out.2.size)) ?_
  rintro e w4 ⟨rfl, hL4, hb4⟩
  go_wp2
  go_ret
  exact ⟨rfl, hL4, HE.out.2.trans (hb4.mono HE.out.2.size)⟩
end Go.Proofs.YtgdjknbbjpcoiaaGreatDoor

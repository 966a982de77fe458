/-
  The state ahead of every token.
-/
import Derived.Test.YtgdjknbbjpcoiaaGreatDoorLxText
namespace Go.Proofs.YtgdjknbbjpcoiaaGreatDoor
open Go.RowKit

theorem tok_set {cs : List Value} {t : Tok} (h : TokAt cs t) (j : Nat) (u : Value) (hj : j < 8 ∨ 15 < j) : TokAt (cs.set j u) t := by
  refine ⟨?_, ?_, ?_, ?_, ?_, ?_, ?_, ?_⟩ <;> rw [List.getElem?_set_ne (by omega)]
  · exact h.t0
  · exact h.t1
  · exact h.t2
  · exact h.t3
  · exact h.t4
  · exact h.t5
  · exact h.t6
  · exact h.t7

set_option maxRecDepth 100000 in
set_option maxHeartbeats 2000000 in
/-- A scalar that begins nothing is text. -/
theorem text_plain (l : Nat) (cs : List Value) (o' : Tok) (g o n cap pos : Nat) (c a m : Int) (w : World) (hL : LexAt w l cs) (hN : NextIs w cs g o n cap pos c a) (hT : TokAt cs o') (h29 : cs[29]? = some (.bool false)) (h5 : cs[5]? = some (.int .i64 m)) (hl : l < w.heap.size) (hc : ¬ c = 0) (h60 : ¬ c = 60) (h38 : ¬ c = 38) :
    Calls Tryz.prog 39 #[.pointer (some ⟨l, 0, none⟩)] w fun e w' => e = .returned .nilFunc ∧ LexAt w' l (withTok (cs.set 1 (.int .i64 ((pos + 1 : Nat) : Int))) { tok0 with kind := 1, value := c, at' := a }) ∧ But l w.heap.size w w' := by
  have HP : Hid _ := peek_any l cs g o n cap pos c a w hL hN
  have HO : Hid (∀ q, _) := fun q => oneText_off l cs o' g o n cap pos c a m (w.drewN q) (hL.draws q) ⟨hN.rs, hN.ps, hN.lt, hN.le, hN.cv, hN.ca⟩ hT h29 h5 hl hc
  have b60 : (c == 60) = false := by simpa using h60
  have b38 : (c == 38) = false := by simpa using h38
  clear hL hN hT h29 h5 hc h60 h38
  go_enter Tryz.func39, Tryz.ntmps39
  go_wp2_with fail
  refine Calls.mono HP.out ?_
  rintro e w1 ⟨rfl, q, hw1⟩
  have HO1 : Hid _ := HO.out q
  rw [← hw1] at HO1
  have HB1 : Hid (But l w.heap.size w w1) := by rw [hw1]; exact But.of (drewN_below (Below.refl _ _) q)
  clear hw1 HO HP
  go_wp2_with fail
  refine Calls.mono HO1.out ?_
  rintro e w2 ⟨rfl, hL2, hb2⟩
  go_wp2
  go_ret
  exact ⟨rfl, hL2, HB1.out.trans (hb2.mono HB1.out.size)⟩

set_option maxRecDepth 100000 in
set_option maxHeartbeats 2000000 in
/-- The end of the document. -/
theorem text_end (l : Nat) (cs : List Value) (o' : Tok) (ad : Option Addr) (n cap : Nat) (en : Int) (b4 : Bool) (w : World) (hL : LexAt w l cs) (h0 : cs[0]? = some (.slice ad n cap)) (h1 : cs[1]? = some (.int .i64 (n : Int))) (hT : TokAt cs o') (h3 : cs[3]? = some (.int .i64 en)) (h4 : cs[4]? = some (.bool b4)) (hl : l < w.heap.size) :
    Calls Tryz.prog 39 #[.pointer (some ⟨l, 0, none⟩)] w fun e w' => e = .returned .nilFunc ∧ LexAt w' l (withTok (cs.set 4 (.bool true)) { tok0 with at' := en }) ∧ But l w.heap.size w w' := by
  have HP : Hid _ := peek_end l cs ad n cap w hL h0 h1
  have HL : Hid _ := hL
  have HT : Hid _ := hT
  have hlen := hL.len
  have h3' : (cs.set 4 (.bool true))[3]? = some (.int .i64 en) := by rw [List.getElem?_set_ne (by omega)]; exact h3
  clear hL hT
  go_enter Tryz.func39, Tryz.ntmps39
  go_wp2_with fail
  refine Calls.mono HP.out ?_
  rintro e w1 ⟨rfl, q, hw1⟩
  have hL1 : LexAt w1 l cs := by rw [hw1]; exact HL.out.draws q
  have hB1 : But l w.heap.size w w1 := by rw [hw1]; exact But.of (drewN_below (Below.refl _ _) q)
  have hs1 := hB1.size
  have c3 := hL1.c 3 _ h3
  have c4 := hL1.c 4 _ h4
  have f4 := hL1.fz 4
  have HTL : Hid _ := lxTell l _ o' { tok0 with at' := en } (w1.setCell ⟨l, 4, none⟩ (.bool true)) (hL1.set 4 (by omega) _) (tok_set HT.out 4 _ (by omega)) (by simp [World.setCell]; omega)
  have HB2 : Hid (But l w.heap.size w (w1.setCell ⟨l, 4, none⟩ (.bool true))) := hB1.store 4 _
  unfold tokV tok0 at HTL
  clear hw1 HP hL1 hB1 HL
  go_wp2_with fail
  refine Calls.mono HTL.out ?_
  rintro e w2 ⟨rfl, hL2, hb2⟩
  go_wp2
  go_ret
  exact ⟨rfl, hL2, HB2.out.trans (hb2.mono HB2.out.size)⟩

set_option maxRecDepth 100000 in
set_option maxHeartbeats 2000000 in
/-- A sign that may begin markup, in Data. -/
theorem text_less (l : Nat) (cs : List Value) (g o n cap pos : Nat) (a x : Int) (w : World) (hL : LexAt w l cs) (hN : NextIs w cs g o n cap pos 60 a) (h29 : cs[29]? = some (.bool false)) (h5 : cs[5]? = some (.int .i64 0)) (h16 : cs[16]? = some (.int .i64 x)) (hlg : l ≠ g) :
    Calls Tryz.prog 39 #[.pointer (some ⟨l, 0, none⟩)] w fun e w' => e = .returned (.func (.func 63) #[] #[]) ∧ LexAt w' l ((cs.set 16 (.int .i64 (pos : Int))).set 1 (.int .i64 ((pos + 1 : Nat) : Int))) ∧ But l w.heap.size w w' := by
  have HP : Hid _ := peek_any l cs g o n cap pos 60 a w hL hN
  have HL : Hid _ := hL
  have HN : Hid _ := hN
  clear hL hN
  go_enter Tryz.func39, Tryz.ntmps39
  go_wp2_with fail
  refine Calls.mono HP.out ?_
  rintro e w1 ⟨rfl, q, hw1⟩
  have hL1 : LexAt w1 l cs := by rw [hw1]; exact HL.out.draws q
  have hB1 : But l w.heap.size w w1 := by rw [hw1]; exact But.of (drewN_below (Below.refl _ _) q)
  have hN1 : NextIs w1 cs g o n cap pos 60 a := by rw [hw1]; exact ⟨HN.out.rs, HN.out.ps, HN.out.lt, HN.out.le, HN.out.cv, HN.out.ca⟩
  have c5 := hL1.c 5 _ h5
  have c1 := hL1.c 1 _ HN.out.ps
  have c16 := hL1.c 16 _ h16
  have f16 := hL1.fz 16
  have hL2 : LexAt (w1.setCell ⟨l, 16, none⟩ (.int .i64 (pos : Int))) l (cs.set 16 (.int .i64 (pos : Int))) := hL1.set 16 (by omega) _
  have hN2 : NextIs (w1.setCell ⟨l, 16, none⟩ (.int .i64 (pos : Int))) (cs.set 16 (.int .i64 (pos : Int))) g o n cap pos 60 a := by
    refine ⟨by rw [List.getElem?_set_ne (by omega)]; exact hN1.rs, by rw [List.getElem?_set_ne (by omega)]; exact hN1.ps, hN1.lt, hN1.le, ?_, ?_⟩
    · rw [World.cell?_setCell_other _ _ _ _ (by intro e; injection e with e _ _; exact hlg e)]; exact hN1.cv
    · rw [World.cell?_setCell_other _ _ _ _ (by intro e; injection e with e _ _; exact hlg e)]; exact hN1.ca
  have HT : Hid _ := take_off l _ g o n cap pos 60 a _ hL2 hN2 (by rw [List.getElem?_set_ne (by omega)]; exact h29)
  have HL2 : Hid _ := hL2
  have HB2 : Hid (But l w.heap.size w (w1.setCell ⟨l, 16, none⟩ (.int .i64 (pos : Int)))) := hB1.store 16 _
  clear hw1 HP hL1 hB1 hN1 hL2 hN2 HL
  go_wp2_with fail
  refine Calls.mono HT.out ?_
  rintro e w2 ⟨rfl, q2, hw2⟩
  have hL3 : LexAt w2 l ((cs.set 16 (.int .i64 (pos : Int))).set 1 (.int .i64 ((pos + 1 : Nat) : Int))) := by rw [hw2]; exact (HL2.out.draws q2).set 1 (by omega) _
  have k5 : w2.cell? ⟨l, 5, none⟩ = some (.int .i64 0) := hL3.c 5 _ (by rw [List.getElem?_set_ne (by omega), List.getElem?_set_ne (by omega)]; exact h5)
  have HE : Hid (LexAt w2 l ((cs.set 16 (.int .i64 (pos : Int))).set 1 (.int .i64 ((pos + 1 : Nat) : Int))) ∧ But l w.heap.size w w2) := ⟨hL3, by rw [hw2]; exact (HB2.out.trans (But.of (drewN_below (Below.refl _ _) q2))).store 1 _⟩
  clear hw2 hL3 HT HL2 HB2 c5 c1 c16 f16
  go_wp2
  go_ret
  exact ⟨rfl, HE.out⟩
end Go.Proofs.YtgdjknbbjpcoiaaGreatDoor

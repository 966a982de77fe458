/-
  A scalar that is text, where 00 doesn't stand.
-/
import Derived.Test.YtgdjknbbjpcoiaaGreatDoorLxTell
import Derived.RegionTactic
import Derived.BigRegion
import Derived.ChangeAlike
namespace Go.Proofs.YtgdjknbbjpcoiaaGreatDoor
open Go.RowKit

theorem NextIs.later {w w' : World} {cs : List Value} {g o n cap pos : Nat} {c a : Int} (h : NextIs w cs g o n cap pos c a) (hb : Below w.heap.size w w') : NextIs w' cs g o n cap pos c a :=
  ⟨h.rs, h.ps, h.lt, h.le, (hb.cell (p := ⟨g, o + pos * 2, none⟩) (World.block_lt_of_cell? w _ h.cv)).trans h.cv, (hb.cell (p := ⟨g, o + pos * 2 + 1, none⟩) (World.block_lt_of_cell? w _ h.ca)).trans h.ca⟩

set_option maxRecDepth 100000 in
set_option maxHeartbeats 2000000 in
theorem pass_off (l : Nat) (cs : List Value) (g o n cap pos : Nat) (c a : Int) (w : World) (hL : LexAt w l cs) (hN : NextIs w cs g o n cap pos c a) (h29 : cs[29]? = some (.bool false)) (hl : l < w.heap.size) (hc : ¬ c = 0) :
    Calls Tryz.prog 107 #[.pointer (some ⟨l, 0, none⟩)] w fun e w' => e = .returned (.int .i64 c) ∧ LexAt w' l (cs.set 1 (.int .i64 ((pos + 1 : Nat) : Int))) ∧ But l w.heap.size w w' := by
  have hcb : (c == 0) = false := by simpa using hc
  have c0 := hL.c 0 _ hN.rs
  have c1 := hL.c 1 _ hN.ps
  have cv := hN.cv
  have ca := hN.ca
  have hlt := hN.lt
  have hle := hN.le
  have hI : (pos : Int) < (n : Int) := by omega
  have HBL : Hid (∀ o, Below w.heap.size w (w.alloc o)) := fun o => (Below.refl _ _).alloc (Nat.le_refl _) o
  have d0 : ∀ o', (w.alloc o').cell? ⟨l, 0, none⟩ = some (.slice (some ⟨g, o, none⟩) n cap) := fun o' => (hL.below (HBL.out o') hl).c 0 _ hN.rs
  have d1 : ∀ o', (w.alloc o').cell? ⟨l, 1, none⟩ = some (.int .i64 (pos : Int)) := fun o' => (hL.below (HBL.out o') hl).c 1 _ hN.ps
  have dv : ∀ o', (w.alloc o').cell? ⟨g, o + pos * 2, none⟩ = some (.int .i64 c) := fun o' => (hN.later (HBL.out o')).cv
  have da : ∀ o', (w.alloc o').cell? ⟨g, o + pos * 2 + 1, none⟩ = some (.int .i64 a) := fun o' => (hN.later (HBL.out o')).ca
  have HL : Hid _ := hL
  have HN : Hid _ := hN
  clear hL hN hc
  go_enter Tryz.func107, Tryz.ntmps107
  go_wp2
  go_region
  have hB1 : Below w.heap.size w (w.alloc (.cells #[.int .i64 c, .int .i64 a] 121)).drew := (HBL.out _).trans ⟨rfl, rfl, rfl, Nat.le_refl _, fun _ _ => rfl⟩
  have HL1 : Hid _ := HL.out.below hB1 hl
  have HT : Hid _ := take_off l cs g o n cap pos c a (w.alloc (.cells #[.int .i64 c, .int .i64 a] 121)).drew HL1.out (HN.out.later hB1) h29
  have HB1 : Hid _ := hB1
  clear hB1 c0 c1 cv ca d0 d1 dv da
  go_wp2_with fail
  refine Calls.mono HT.out ?_
  rintro e w2 ⟨rfl, q, hw2⟩
  have hlw : l ≠ w.heap.size := by omega
  have k0 : w2.cell? ⟨w.heap.size, 0, none⟩ = some (.int .i64 c) := by
    rw [hw2, World.cell?_setCell_other _ _ _ _ (by intro e; injection e with e _ _; omega)]
    exact World.cell?_alloc_at _ _ _ 0 rfl
  have HE : Hid (LexAt w2 l (cs.set 1 (.int .i64 ((pos + 1 : Nat) : Int))) ∧ But l w.heap.size w w2) := by
    rw [hw2]
    refine ⟨(HL1.out.draws q).set 1 (by omega) _, ?_⟩
    exact (But.of (drewN_below HB1.out q)).store 1 _
  clear hw2 HT HL1 HB1
  go_wp2
  go_ret
  exact ⟨rfl, HE.out⟩

set_option maxRecDepth 100000 in
set_option maxHeartbeats 2000000 in
theorem oneText_off (l : Nat) (cs : List Value) (o' : Tok) (g o n cap pos : Nat) (c a m : Int) (w : World) (hL : LexAt w l cs) (hN : NextIs w cs g o n cap pos c a) (hT : TokAt cs o') (h29 : cs[29]? = some (.bool false)) (h5 : cs[5]? = some (.int .i64 m)) (hl : l < w.heap.size) (hc : ¬ c = 0) :
    Calls Tryz.prog 66 #[.pointer (some ⟨l, 0, none⟩)] w fun e w' => e = .returned .nilFunc ∧ LexAt w' l (withTok (cs.set 1 (.int .i64 ((pos + 1 : Nat) : Int))) { tok0 with kind := 1, value := c, at' := a }) ∧ But l w.heap.size w w' := by
  have c0 := hL.c 0 _ hN.rs
  have c1 := hL.c 1 _ hN.ps
  have cv := hN.cv
  have ca := hN.ca
  have hlt := hN.lt
  have hle := hN.le
  have hI : (pos : Int) < (n : Int) := by omega
  have HBL : Hid (∀ o, Below w.heap.size w (w.alloc o)) := fun o => (Below.refl _ _).alloc (Nat.le_refl _) o
  have d0 : ∀ o', (w.alloc o').cell? ⟨l, 0, none⟩ = some (.slice (some ⟨g, o, none⟩) n cap) := fun o' => (hL.below (HBL.out o') hl).c 0 _ hN.rs
  have d1 : ∀ o', (w.alloc o').cell? ⟨l, 1, none⟩ = some (.int .i64 (pos : Int)) := fun o' => (hL.below (HBL.out o') hl).c 1 _ hN.ps
  have dv : ∀ o', (w.alloc o').cell? ⟨g, o + pos * 2, none⟩ = some (.int .i64 c) := fun o' => (hN.later (HBL.out o')).cv
  have da : ∀ o', (w.alloc o').cell? ⟨g, o + pos * 2 + 1, none⟩ = some (.int .i64 a) := fun o' => (hN.later (HBL.out o')).ca
  have HL : Hid _ := hL
  have HN : Hid _ := hN
  have HTK : Hid _ := hT
  clear hL hN hT
  go_enter Tryz.func66, Tryz.ntmps66
  go_wp2
  go_region
  have hB1 : Below w.heap.size w (w.alloc (.cells #[.int .i64 c, .int .i64 a] 121)).drew := (HBL.out _).trans ⟨rfl, rfl, rfl, Nat.le_refl _, fun _ _ => rfl⟩
  have HP : Hid _ := pass_off l cs g o n cap pos c a (w.alloc (.cells #[.int .i64 c, .int .i64 a] 121)).drew (HL.out.below hB1 hl) (HN.out.later hB1) h29 (Nat.lt_of_lt_of_le hl hB1.size) hc
  have HB1 : Hid _ := hB1
  have HS1 : Hid ((w.alloc (.cells #[.int .i64 c, .int .i64 a] 121)).drew.heap.size = w.heap.size + 1) := by show (w.alloc _).heap.size = _; simp
  clear hB1 c0 c1 cv ca d0 d1 dv da
  go_wp2_with fail
  refine Calls.mono HP.out ?_
  rintro e w2 ⟨rfl, hL2, hb2⟩
  have hs1 := HS1.out
  have k : ∀ j, w2.cell? ⟨w.heap.size, j, none⟩ = (w.alloc (.cells #[.int .i64 c, .int .i64 a] 121)).cell? ⟨w.heap.size, j, none⟩ := fun j => World.cell?_of_block (hb2.block w.heap.size (by omega) (by omega))
  have k0 : w2.cell? ⟨w.heap.size, 0, none⟩ = some (.int .i64 c) := (k 0).trans (World.cell?_alloc_at _ _ _ 0 rfl)
  have k1 : w2.cell? ⟨w.heap.size, 1, none⟩ = some (.int .i64 a) := (k 1).trans (World.cell?_alloc_at _ _ _ 1 rfl)
  have k5 : w2.cell? ⟨l, 5, none⟩ = some (.int .i64 m) := hL2.c 5 _ (by rw [List.getElem?_set_ne (by omega)]; exact h5)
  have hs2 := hb2.size
  have HB2 : Hid (But l w.heap.size w w2) := (But.of HB1.out).trans (hb2.mono (by omega))
  have hT2 : TokAt (cs.set 1 (.int .i64 ((pos + 1 : Nat) : Int))) o' := by
    have h := HTK.out
    refine ⟨?_, ?_, ?_, ?_, ?_, ?_, ?_, ?_⟩ <;> rw [List.getElem?_set_ne (by omega)]
    · exact h.t0
    · exact h.t1
    · exact h.t2
    · exact h.t3
    · exact h.t4
    · exact h.t5
    · exact h.t6
    · exact h.t7
  have HTL : Hid _ := lxTell l _ o' { tok0 with kind := 1, value := c, at' := a } w2 hL2 hT2 (by omega)
  clear hL2 hb2 HP HB1 HS1 k hT2 hs1
  unfold tokV tok0 at HTL
  by_cases hm : m = 0
  · subst hm
    go_wp2_with fail
    refine Calls.mono HTL.out ?_
    rintro e w3 ⟨rfl, hL3, hb3⟩
    go_wp2
    go_ret
    exact ⟨rfl, hL3, HB2.out.trans (hb3.mono HB2.out.size)⟩
  · have hmb : (m == 0) = false := by simpa using hm
    go_wp2_with fail
    refine Calls.mono HTL.out ?_
    rintro e w3 ⟨rfl, hL3, hb3⟩
    go_wp2
    go_ret
    exact ⟨rfl, hL3, HB2.out.trans (hb3.mono HB2.out.size)⟩
end Go.Proofs.YtgdjknbbjpcoiaaGreatDoor

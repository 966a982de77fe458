/-
  A start tag's name.
-/
import Derived.Test.YtgdjknbbjpcoiaaGreatDoorLxBegin
namespace Go.Proofs.YtgdjknbbjpcoiaaGreatDoor
open Go.RowKit

set_option maxRecDepth 100000 in
set_option maxHeartbeats 2000000 in
/-- A letter behind '<'. -/
theorem behindLess_letter (l : Nat) (cs : List Value) (o' : Tok) (g o n cap pos k : Nat) (c a0 a : Int) (v18 : Value) (x19 x20 : Int) (v21 v22 : Value) (w : World) (hL : LexAt w l cs) (hN : NextIs w cs g o n cap pos c a0) (hT : TokAt cs o') (hc : letterI c = true) (h16 : cs[16]? = some (.int .i64 (k : Int))) (hk : k < n) (ca : w.cell? ⟨g, o + k * 2 + 1, none⟩ = some (.int .i64 a))
    (h18 : cs[18]? = some v18) (hv : IsRow v18) (h19 : cs[19]? = some (.int .i64 x19)) (h20 : cs[20]? = some (.int .i64 x20)) (h21 : cs[21]? = some v21) (h22 : cs[22]? = some v22) :
    Calls Tryz.prog 63 #[.pointer (some ⟨l, 0, none⟩)] w fun e w' => e = .returned (.func (.func 101) #[] #[]) ∧ LexAt w' l (begun cs { tok0 with kind := 2, at' := a } v18) ∧ But l w.heap.size w w' := by
  have HP : Hid _ := peek_any l cs g o n cap pos c a0 w hL hN
  have HI : Hid (∀ w, _) := fun w => isLetter_any c w
  have HB : Hid (∀ q, _) := fun q => lxBegin l cs o' g o n cap k a 2 (.func (.func 101) #[] #[]) v18 x19 x20 v21 v22 (w.drewN q) (hL.draws q) hT hN.rs h16 hk ca h18 hv h19 h20 h21 h22
  rw [hc] at HI
  clear hL hN hT hc h16 ca h18 hv h19 h20 h21 h22
  go_enter Tryz.func63, Tryz.ntmps63
  go_wp2_with fail
  refine Calls.mono HP.out ?_
  rintro e w1 ⟨rfl, q, hw1⟩
  have HB1 : Hid _ := HB.out q
  rw [← hw1] at HB1
  have HF1 : Hid (But l w.heap.size w w1) := by rw [hw1]; exact But.of (drewN_below (Below.refl _ _) q)
  clear hw1 HB HP
  go_wp2_with fail
  refine Calls.mono (HI.out w1) ?_
  rintro e w2 ⟨rfl, rfl⟩
  go_wp2_with fail
  refine Calls.mono HB1.out ?_
  rintro e w3 ⟨rfl, hL3, hb3⟩
  go_wp2
  go_ret
  exact ⟨rfl, hL3, HF1.out.trans (hb3.mono HF1.out.size)⟩
end Go.Proofs.YtgdjknbbjpcoiaaGreatDoor

/-
  A tag's name ends; blanks in a tag.
-/
import Derived.Test.YtgdjknbbjpcoiaaGreatDoorLxName
namespace Go.Proofs.YtgdjknbbjpcoiaaGreatDoor
open Go.RowKit

def lxCells (l : List UInt8) : List Value := l.map fun b => Value.int .u8 (b.toNat : Int)
theorem lxBack {w : World} {base : Nat} {v : Value} {l : List UInt8} (h : w.ownsRow base 5 1 v l.length (lxCells l)) : (convert 87 9 v).run Tryz.prog w = .ok (.string ⟨l.toArray⟩) w := by
  rcases h.2 with ⟨rfl, hn⟩ | ⟨g, cap, cur, rfl, _, hg, _, _, hs, htk⟩
  · have : l = [] := List.length_eq_zero_iff.1 hn
    subst this
    exact run_convert_bytes_nil (P := Tryz.prog) w 87 5 Tryz.underlying87 Tryz.underlying5 0 0 9 Tryz.underlying9
  · refine run_convert_bytes_back w 87 9 5 ⟨g, 0, none⟩ cap l Tryz.underlying87 Tryz.underlying5 Tryz.underlying9 (fun j hj => ?_)
    exact h.cells rfl j _ (by simp [lxCells, List.getElem?_eq_getElem hj])

set_option maxRecDepth 100000 in
set_option maxHeartbeats 2000000 in
theorem tagName_end (l : Nat) (cs : List Value) (g o n cap pos : Nat) (c a : Int) (B : Nat) (v : Value) (bs : List UInt8) (nm : ByteArray) (w : World) (hL : LexAt w l cs) (hN : NextIs w cs g o n cap pos c a) (he : endsI c = true)
    (h18 : cs[18]? = some v) (h11 : cs[11]? = some (.string nm)) (hO : w.ownsRow B 5 1 v bs.length (lxCells bs)) :
    Calls Tryz.prog 101 #[.pointer (some ⟨l, 0, none⟩)] w fun e w' => e = .returned (.func (.func 146) #[] #[]) ∧ LexAt w' l (cs.set 11 (.string ⟨bs.toArray⟩)) ∧ But l w.heap.size w w' := by
  have HP : Hid _ := peek_any l cs g o n cap pos c a w hL hN
  have HE : Hid (∀ w, _) := fun w => endsName_any c w
  rw [he] at HE
  have HL : Hid _ := hL
  have HO : Hid _ := hO
  clear hL hN he hO
  go_enter Tryz.func101, Tryz.ntmps101
  go_wp2_with fail
  refine Calls.mono HP.out ?_
  rintro e w1 ⟨rfl, q, hw1⟩
  have hL1 : LexAt w1 l cs := by rw [hw1]; exact HL.out.draws q
  have hO1 : w1.ownsRow B 5 1 v bs.length (lxCells bs) := by rw [hw1]; exact HO.out
  have hcv := lxBack hO1
  have c18 := hL1.c 18 _ h18
  have c11 := hL1.c 11 _ h11
  have f11 := hL1.fz 11
  have HX : Hid (LexAt w1 l cs ∧ But l w.heap.size w w1) := ⟨hL1, by rw [hw1]; exact But.of (drewN_below (Below.refl _ _) q)⟩
  clear HP hw1 hL1 hO1 HL HO h18 h11
  go_wp2_with fail
  refine Calls.mono (HE.out w1) ?_
  rintro e w2 ⟨rfl, hw2⟩
  subst hw2
  go_wp2
  go_ret
  exact ⟨rfl, HX.out.1.set 11 (by omega) _, HX.out.2.store 11 _⟩

set_option maxRecDepth 100000 in
set_option maxHeartbeats 2000000 in
theorem inTag_blank (l : Nat) (cs : List Value) (g o n cap pos : Nat) (c a : Int) (w : World) (hL : LexAt w l cs) (hN : NextIs w cs g o n cap pos c a) (h29 : cs[29]? = some (.bool false)) (hc : blankI c = true) :
    Calls Tryz.prog 146 #[.pointer (some ⟨l, 0, none⟩)] w fun e w' => e = .returned (.func (.func 146) #[] #[]) ∧ LexAt w' l (cs.set 1 (.int .i64 ((pos + 1 : Nat) : Int))) ∧ But l w.heap.size w w' := by
  have HP : Hid _ := peek_any l cs g o n cap pos c a w hL hN
  have HB : Hid (∀ w, _) := fun w => isBlank_any c w
  rw [hc] at HB
  have HT : Hid (∀ w1 : World, (∃ q, w1 = w.drewN q) → _) := fun w1 h => take_off l cs g o n cap pos c a w1 (by obtain ⟨q, rfl⟩ := h; exact hL.draws q) (by obtain ⟨q, rfl⟩ := h; exact ⟨hN.rs, hN.ps, hN.lt, hN.le, hN.cv, hN.ca⟩) h29
  have HL : Hid _ := hL
  clear hL hN hc h29
  go_enter Tryz.func146, Tryz.ntmps146
  go_wp2_with fail
  refine Calls.mono HP.out ?_
  rintro e w1 ⟨rfl, hq⟩
  have HQ : Hid _ := hq
  clear HP hq
  go_wp2_with fail
  refine Calls.mono (HB.out w1) ?_
  rintro e w2 ⟨rfl, hw2⟩
  subst hw2
  go_wp2_with fail
  refine Calls.mono (HT.out _ HQ.out) ?_
  rintro e w3 ⟨rfl, q3, hw3⟩
  have HE : Hid (LexAt w3 l (cs.set 1 (.int .i64 ((pos + 1 : Nat) : Int))) ∧ But l w.heap.size w w3) := by
    obtain ⟨q, hq⟩ := HQ.out
    rw [hw3, hq]
    exact ⟨((HL.out.draws q).draws q3).set 1 (by omega) _, (But.of (drewN_below (drewN_below (Below.refl _ _) q) q3)).store 1 _⟩
  clear hw3 HT HL HQ HB
  go_wp2
  go_ret
  exact ⟨rfl, HE.out⟩
end Go.Proofs.YtgdjknbbjpcoiaaGreatDoor

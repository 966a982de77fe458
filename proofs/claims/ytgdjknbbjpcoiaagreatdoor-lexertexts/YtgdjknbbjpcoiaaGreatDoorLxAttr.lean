/-
  An attribute's name.
-/
import Derived.Test.YtgdjknbbjpcoiaaGreatDoorLxIn
namespace Go.Proofs.YtgdjknbbjpcoiaaGreatDoor
open Go.RowKit

/-- The cells where an attribute begins. -/
def attrBegun (cs : List Value) (a : Int) (v18 v21 : Value) : List Value := ((cs.set 19 (.int .i64 a)).set 21 (cut0 v21)).set 18 (cut0 v18)

theorem NextIs.draws {w : World} {cs : List Value} {g o n cap pos : Nat} {c a : Int} (h : NextIs w cs g o n cap pos c a) (q : Nat) : NextIs (w.drewN q) cs g o n cap pos c a := ⟨h.rs, h.ps, h.lt, h.le, h.cv, h.ca⟩

set_option maxRecDepth 100000 in
set_option maxHeartbeats 2000000 in
theorem beginAttribute_any (l : Nat) (cs : List Value) (g o n cap pos : Nat) (c a x19 : Int) (v18 v21 : Value) (w : World) (hL : LexAt w l cs) (hN : NextIs w cs g o n cap pos c a) (hc : ¬ c = 61) (h18 : cs[18]? = some v18) (r18 : IsRow v18) (h19 : cs[19]? = some (.int .i64 x19)) (h21 : cs[21]? = some v21) (r21 : IsRow v21) :
    Calls Tryz.prog 173 #[.pointer (some ⟨l, 0, none⟩), .int .i64 c] w fun e w' => e = .returned (.func (.func 197) #[] #[]) ∧ LexAt w' l (attrBegun cs a v18 v21) ∧ But l w.heap.size w w' := by
  have HP : Hid _ := here_any l cs g o n cap pos c a w hL hN
  have hcb : (c == 61) = false := by simpa using hc
  have HL : Hid _ := hL
  clear hL hN hc
  go_enter Tryz.func173, Tryz.ntmps173
  go_wp2_with fail
  refine Calls.mono HP.out ?_
  rintro e w1 ⟨rfl, q, hw1⟩
  have hL1 : LexAt w1 l cs := by rw [hw1]; exact HL.out.draws q
  have c18 := hL1.c 18 _ h18
  have c19 := hL1.c 19 _ h19
  have c21 := hL1.c 21 _ h21
  have f18 := hL1.fz 18
  have f19 := hL1.fz 19
  have f21 := hL1.fz 21
  have HX : Hid (LexAt w1 l cs ∧ But l w.heap.size w w1) := ⟨hL1, by rw [hw1]; exact But.of (drewN_below (Below.refl _ _) q)⟩
  clear HP hw1 hL1 HL h18 h19 h21
  rcases r18 with rfl | ⟨b, m, k, rfl⟩ <;> rcases r21 with rfl | ⟨b', m', k', rfl⟩
  all_goals
    go_wp2
    go_ret
    exact ⟨rfl, ((HX.out.1.set 19 (by omega) _).set 21 (by omega) _).set 18 (by omega) _, ((HX.out.2.store 19 _).store 21 _).store 18 _⟩

set_option maxRecDepth 100000 in
set_option maxHeartbeats 2000000 in
theorem inTag_attr (l : Nat) (cs : List Value) (g o n cap pos : Nat) (c a x19 : Int) (v18 v21 : Value) (w : World) (hL : LexAt w l cs) (hN : NextIs w cs g o n cap pos c a) (hb : blankI c = false) (h62 : ¬ c = 62) (h47 : ¬ c = 47) (hc : ¬ c = 61) (h18 : cs[18]? = some v18) (r18 : IsRow v18) (h19 : cs[19]? = some (.int .i64 x19)) (h21 : cs[21]? = some v21) (r21 : IsRow v21) :
    Calls Tryz.prog 146 #[.pointer (some ⟨l, 0, none⟩)] w fun e w' => e = .returned (.func (.func 197) #[] #[]) ∧ LexAt w' l (attrBegun cs a v18 v21) ∧ But l w.heap.size w w' := by
  have HP : Hid _ := peek_any l cs g o n cap pos c a w hL hN
  have HB : Hid (∀ w, _) := fun w => isBlank_any c w
  rw [hb] at HB
  have HT : Hid (∀ w1 : World, (∃ q, w1 = w.drewN q) → _) := fun w1 h => beginAttribute_any l cs g o n cap pos c a x19 v18 v21 w1 (by obtain ⟨q, rfl⟩ := h; exact hL.draws q) (by obtain ⟨q, rfl⟩ := h; exact hN.draws q) hc h18 r18 h19 h21 r21
  have b62 : (c == 62) = false := by simpa using h62
  have b47 : (c == 47) = false := by simpa using h47
  clear hL hN hc hb h62 h47 h18 r18 h19 h21 r21
  go_enter Tryz.func146, Tryz.ntmps146
  go_wp2_with fail
  refine Calls.mono HP.out ?_
  rintro e w1 ⟨rfl, hq⟩
  have HQ : Hid _ := hq
  clear HP hq
  go_wp2_with fail
  refine Calls.mono (HB.out w1) ?_
  rintro e w2 ⟨rfl, hw2⟩
  subst hw2
  go_wp2_with fail
  refine Calls.mono (HT.out _ HQ.out) ?_
  rintro e w3 ⟨rfl, hL3, hb3⟩
  have HE : Hid (But l w.heap.size w w3) := by
    obtain ⟨q, hq⟩ := HQ.out
    rw [hq] at hb3
    exact (But.of (drewN_below (Below.refl _ _) q)).trans hb3
  clear hb3 HT HQ HB
  go_wp2
  go_ret
  exact ⟨rfl, hL3, HE.out⟩

set_option maxRecDepth 100000 in
set_option maxHeartbeats 2000000 in
/-- A sign that ends an attribute's name. -/
theorem attrName_eq (l : Nat) (cs : List Value) (g o n cap pos : Nat) (a : Int) (w : World) (hL : LexAt w l cs) (hN : NextIs w cs g o n cap pos 61 a) :
    Calls Tryz.prog 197 #[.pointer (some ⟨l, 0, none⟩)] w fun e w' => e = .returned (.func (.func 220) #[] #[]) ∧ LexAt w' l cs ∧ But l w.heap.size w w' := by
  have HP : Hid _ := peek_any l cs g o n cap pos 61 a w hL hN
  have HE : Hid (∀ w, _) := fun w => endsName_any 61 w
  rw [show endsI 61 = false by decide] at HE
  have HL : Hid _ := hL
  clear hL hN
  go_enter Tryz.func197, Tryz.ntmps197
  go_wp2_with fail
  refine Calls.mono HP.out ?_
  rintro e w1 ⟨rfl, q, hw1⟩
  have HX : Hid (LexAt w1 l cs ∧ But l w.heap.size w w1) := ⟨by rw [hw1]; exact HL.out.draws q, by rw [hw1]; exact But.of (drewN_below (Below.refl _ _) q)⟩
  clear HP hw1 HL
  go_wp2_with fail
  refine Calls.mono (HE.out w1) ?_
  rintro e w2 ⟨rfl, hw2⟩
  subst hw2
  go_wp2
  go_ret
  exact ⟨rfl, HX.out⟩

set_option maxRecDepth 100000 in
set_option maxHeartbeats 2000000 in
theorem behindAttrName_eq (l : Nat) (cs : List Value) (g o n cap pos : Nat) (a : Int) (w : World) (hL : LexAt w l cs) (hN : NextIs w cs g o n cap pos 61 a) (h29 : cs[29]? = some (.bool false)) :
    Calls Tryz.prog 220 #[.pointer (some ⟨l, 0, none⟩)] w fun e w' => e = .returned (.func (.func 237) #[] #[]) ∧ LexAt w' l (cs.set 1 (.int .i64 ((pos + 1 : Nat) : Int))) ∧ But l w.heap.size w w' := by
  have HP : Hid _ := peek_any l cs g o n cap pos 61 a w hL hN
  have HB : Hid (∀ w, _) := fun w => isBlank_any 61 w
  rw [show blankI 61 = false by decide] at HB
  have HT : Hid (∀ w1 : World, (∃ q, w1 = w.drewN q) → _) := fun w1 h => take_off l cs g o n cap pos 61 a w1 (by obtain ⟨q, rfl⟩ := h; exact hL.draws q) (by obtain ⟨q, rfl⟩ := h; exact hN.draws q) h29
  have HL : Hid _ := hL
  clear hL hN h29
  go_enter Tryz.func220, Tryz.ntmps220
  go_wp2_with fail
  refine Calls.mono HP.out ?_
  rintro e w1 ⟨rfl, hq⟩
  have HQ : Hid _ := hq
  clear HP hq
  go_wp2_with fail
  refine Calls.mono (HB.out w1) ?_
  rintro e w2 ⟨rfl, hw2⟩
  subst hw2
  go_wp2_with fail
  refine Calls.mono (HT.out _ HQ.out) ?_
  rintro e w3 ⟨rfl, q3, hw3⟩
  have HE : Hid (LexAt w3 l (cs.set 1 (.int .i64 ((pos + 1 : Nat) : Int))) ∧ But l w.heap.size w w3) := by
    obtain ⟨q, hq⟩ := HQ.out
    rw [hw3, hq]
    exact ⟨((HL.out.draws q).draws q3).set 1 (by omega) _, (But.of (drewN_below (drewN_below (Below.refl _ _) q) q3)).store 1 _⟩
  clear hw3 HT HL HQ HB
  go_wp2
  go_ret
  exact ⟨rfl, HE.out⟩

set_option maxRecDepth 100000 in
set_option maxHeartbeats 2000000 in
theorem beforeValue_plain (l : Nat) (cs : List Value) (g o n cap pos : Nat) (c a : Int) (w : World) (hL : LexAt w l cs) (hN : NextIs w cs g o n cap pos c a) (hb : blankI c = false) (h62 : ¬ c = 62) (h34 : ¬ c = 34) (h39 : ¬ c = 39) :
    Calls Tryz.prog 237 #[.pointer (some ⟨l, 0, none⟩)] w fun e w' => e = .returned (.func (.func 244) #[] #[]) ∧ LexAt w' l cs ∧ But l w.heap.size w w' := by
  have HP : Hid _ := peek_any l cs g o n cap pos c a w hL hN
  have HB : Hid (∀ w, _) := fun w => isBlank_any c w
  rw [hb] at HB
  have b62 : (c == 62) = false := by simpa using h62
  have b34 : (c == 34) = false := by simpa using h34
  have b39 : (c == 39) = false := by simpa using h39
  have HL : Hid _ := hL
  clear hL hN hb h62 h34 h39
  go_enter Tryz.func237, Tryz.ntmps237
  go_wp2_with fail
  refine Calls.mono HP.out ?_
  rintro e w1 ⟨rfl, q, hw1⟩
  have HX : Hid (LexAt w1 l cs ∧ But l w.heap.size w w1) := ⟨by rw [hw1]; exact HL.out.draws q, by rw [hw1]; exact But.of (drewN_below (Below.refl _ _) q)⟩
  clear HP hw1 HL
  go_wp2_with fail
  refine Calls.mono (HB.out w1) ?_
  rintro e w2 ⟨rfl, hw2⟩
  subst hw2
  go_wp2
  go_ret
  exact ⟨rfl, HX.out⟩
end Go.Proofs.YtgdjknbbjpcoiaaGreatDoor

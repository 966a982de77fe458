/-
  A value between quotes: its states.
-/
import Derived.Test.YtbdfdipeefeajaaDoorLxPlain
namespace Go.Proofs.YtbdfdipeefeajaaDoor
open Go.RowKit

set_option maxRecDepth 100000 in
set_option maxHeartbeats 2000000 in
theorem beforeValue_quote (l : Nat) (cs : List Value) (g o n cap pos : Nat) (c a x : Int) (w : World) (hL : LexAt w l cs) (hN : NextIs w cs g o n cap pos c a) (h29 : cs[29]? = some (.bool false)) (h20 : cs[20]? = some (.int .i64 x)) (hlg : l ≠ g) (hq : c = 34 ∨ c = 39) :
    Calls Tryd.prog 98 #[.pointer (some ⟨l, 0, none⟩)] w fun e w' => e = .returned (.func (.func 101) #[] #[]) ∧ LexAt w' l ((cs.set 20 (.int .i64 c)).set 1 (.int .i64 ((pos + 1 : Nat) : Int))) ∧ But l w.heap.size w w' := by
  have HP : Hid _ := peek_any l cs g o n cap pos c a w hL hN
  have HB : Hid (∀ w, _) := fun w => isBlank_any c w
  have HL : Hid _ := hL
  have HN : Hid _ := hN
  clear hL hN
  rcases hq with rfl | rfl
  · rw [show blankI 34 = false by decide] at HB
    go_enter Tryd.func98, Tryd.ntmps98
    go_wp2_with fail
    refine Calls.mono HP.out ?_
    rintro e w1 ⟨rfl, q, hw1⟩
    have hL1 : LexAt w1 l cs := by rw [hw1]; exact HL.out.draws q
    have hB1 : But l w.heap.size w w1 := by rw [hw1]; exact But.of (drewN_below (Below.refl _ _) q)
    have hN1 : NextIs w1 cs g o n cap pos 34 a := by rw [hw1]; exact ⟨HN.out.rs, HN.out.ps, HN.out.lt, HN.out.le, HN.out.cv, HN.out.ca⟩
    have c20 := hL1.c 20 _ h20
    have f20 := hL1.fz 20
    have hN2 : NextIs (w1.setCell ⟨l, 20, none⟩ (.int .i64 34)) (cs.set 20 (.int .i64 34)) g o n cap pos 34 a := by
      refine ⟨by rw [List.getElem?_set_ne (by omega)]; exact hN1.rs, by rw [List.getElem?_set_ne (by omega)]; exact hN1.ps, hN1.lt, hN1.le, ?_, ?_⟩
      · rw [World.cell?_setCell_other _ _ _ _ (by intro e; injection e with e _ _; exact hlg e)]; exact hN1.cv
      · rw [World.cell?_setCell_other _ _ _ _ (by intro e; injection e with e _ _; exact hlg e)]; exact hN1.ca
    have HT : Hid _ := take_off l _ g o n cap pos 34 a _ (hL1.set 20 (by omega) (.int .i64 34)) hN2 (by rw [List.getElem?_set_ne (by omega)]; exact h29)
    have HX : Hid (LexAt (w1.setCell ⟨l, 20, none⟩ (.int .i64 34)) l (cs.set 20 (.int .i64 34)) ∧ But l w.heap.size w (w1.setCell ⟨l, 20, none⟩ (.int .i64 34))) := ⟨hL1.set 20 (by omega) _, hB1.store 20 _⟩
    clear HP hw1 HL HN hL1 hB1 hN1 hN2
    go_wp2_with fail
    refine Calls.mono (HB.out w1) ?_
    rintro e w2 ⟨rfl, hw2⟩
    subst hw2
    go_wp2_with fail
    refine Calls.mono HT.out ?_
    rintro e w3 ⟨rfl, q3, hw3⟩
    have HE : Hid (LexAt w3 l ((cs.set 20 (.int .i64 34)).set 1 (.int .i64 ((pos + 1 : Nat) : Int))) ∧ But l w.heap.size w w3) := by
      rw [hw3]
      exact ⟨(HX.out.1.draws q3).set 1 (by omega) _, (HX.out.2.trans (But.of (drewN_below (Below.refl _ _) q3))).store 1 _⟩
    clear hw3 HT HX
    go_wp2
    go_ret
    exact ⟨rfl, HE.out⟩
  · rw [show blankI 39 = false by decide] at HB
    go_enter Tryd.func98, Tryd.ntmps98
    go_wp2_with fail
    refine Calls.mono HP.out ?_
    rintro e w1 ⟨rfl, q, hw1⟩
    have hL1 : LexAt w1 l cs := by rw [hw1]; exact HL.out.draws q
    have hB1 : But l w.heap.size w w1 := by rw [hw1]; exact But.of (drewN_below (Below.refl _ _) q)
    have hN1 : NextIs w1 cs g o n cap pos 39 a := by rw [hw1]; exact ⟨HN.out.rs, HN.out.ps, HN.out.lt, HN.out.le, HN.out.cv, HN.out.ca⟩
    have c20 := hL1.c 20 _ h20
    have f20 := hL1.fz 20
    have hN2 : NextIs (w1.setCell ⟨l, 20, none⟩ (.int .i64 39)) (cs.set 20 (.int .i64 39)) g o n cap pos 39 a := by
      refine ⟨by rw [List.getElem?_set_ne (by omega)]; exact hN1.rs, by rw [List.getElem?_set_ne (by omega)]; exact hN1.ps, hN1.lt, hN1.le, ?_, ?_⟩
      · rw [World.cell?_setCell_other _ _ _ _ (by intro e; injection e with e _ _; exact hlg e)]; exact hN1.cv
      · rw [World.cell?_setCell_other _ _ _ _ (by intro e; injection e with e _ _; exact hlg e)]; exact hN1.ca
    have HT : Hid _ := take_off l _ g o n cap pos 39 a _ (hL1.set 20 (by omega) (.int .i64 39)) hN2 (by rw [List.getElem?_set_ne (by omega)]; exact h29)
    have HX : Hid (LexAt (w1.setCell ⟨l, 20, none⟩ (.int .i64 39)) l (cs.set 20 (.int .i64 39)) ∧ But l w.heap.size w (w1.setCell ⟨l, 20, none⟩ (.int .i64 39))) := ⟨hL1.set 20 (by omega) _, hB1.store 20 _⟩
    clear HP hw1 HL HN hL1 hB1 hN1 hN2
    go_wp2_with fail
    refine Calls.mono (HB.out w1) ?_
    rintro e w2 ⟨rfl, hw2⟩
    subst hw2
    go_wp2_with fail
    refine Calls.mono HT.out ?_
    rintro e w3 ⟨rfl, q3, hw3⟩
    have HE : Hid (LexAt w3 l ((cs.set 20 (.int .i64 39)).set 1 (.int .i64 ((pos + 1 : Nat) : Int))) ∧ But l w.heap.size w w3) := by
      rw [hw3]
      exact ⟨(HX.out.1.draws q3).set 1 (by omega) _, (HX.out.2.trans (But.of (drewN_below (Below.refl _ _) q3))).store 1 _⟩
    clear hw3 HT HX
    go_wp2
    go_ret
    exact ⟨rfl, HE.out⟩

set_option maxRecDepth 100000 in
set_option maxHeartbeats 4000000 in
theorem quoted_char (l : Nat) (cs : List Value) (g o n cap pos : Nat) (c a qu : Int) (B : Nat) (v : Value) (m : Nat) (xs : List Value) (w : World) (hL : LexAt w l cs) (hN : NextIs w cs g o n cap pos c a) (h29 : cs[29]? = some (.bool false)) (hl : l < w.heap.size) (hc : ¬ c = 0) (hc0 : 0 ≤ c) (hc1 : c ≤ 1114111) (h20 : cs[20]? = some (.int .i64 qu)) (hqu : ¬ c = qu) (h38 : ¬ c = 38) (h21 : cs[21]? = some v) (hO : w.ownsRow B 5 1 v m xs) (hm : m + 4 ≤ 140737488355328) (hB : B ≤ w.heap.size) (hlB : l < B) :
    Calls Tryd.prog 101 #[.pointer (some ⟨l, 0, none⟩)] w fun e w' => e = .returned (.func (.func 101) #[] #[]) ∧ ∃ v', MidP w l B ((cs.set 1 (.int .i64 ((pos + 1 : Nat) : Int))).set 21 v') v' (m + (Lib.runeCells c).length) (xs ++ Lib.runeCells c) v.ownBlock w' := by
  have HP : Hid _ := peek_any l cs g o n cap pos c a w hL hN
  have HPA : Hid (∀ w1 : World, (∃ q, w1 = w.drewN q) → _) := fun w1 h => pass_at 21 (by omega) l cs g o n cap pos c a B v m xs w1 (by obtain ⟨q, rfl⟩ := h; exact hL.draws q) (by obtain ⟨q, rfl⟩ := h; exact hN.draws q) h29 (by obtain ⟨q, rfl⟩ := h; exact hl) hc h21 (by obtain ⟨q, rfl⟩ := h; exact hO) hlB
  have HAP : Hid (∀ w0 : World, (∃ q, w0 = w.drewN q) → ∀ w1 : World, Hid (MidP w0 l B (cs.set 1 (.int .i64 ((pos + 1 : Nat) : Int))) v m xs v.ownBlock w1) → _) := fun w0 h w1 h1 => append_at 21 l (cs.set 1 (.int .i64 ((pos + 1 : Nat) : Int))) c B v m xs w0 w1 h1.out hc0 hc1 (by rw [List.getElem?_set_ne (by omega)]; exact h21) hm (by obtain ⟨q, rfl⟩ := h; exact hB) hlB
  have HLB : Hid _ := hlB
  have b38 : (c == 38) = false := by simpa using h38
  have bqu : (c == qu) = false := by simpa using hqu
  clear h38 hqu hN h29 hc hc0 hc1 hO hm hlB
  go_enter Tryd.func101, Tryd.ntmps101
  go_wp2_with fail
  refine Calls.mono HP.out ?_
  rintro e w1 ⟨rfl, q, hw1⟩
  have HD : Hid (∀ q', ∃ q, w1.drewN q' = w.drewN q) := fun q' => ⟨q + q', by rw [hw1]; simp⟩
  have c21 : w1.cell? ⟨l, 21, none⟩ = some v := by rw [hw1]; exact hL.c 21 _ h21
  have c20 : w1.cell? ⟨l, 20, none⟩ = some (.int .i64 qu) := by rw [hw1]; exact hL.c 20 _ h20
  clear HP hw1 hL
  go_upto_region 9 with fail
  go_region_with ((first | (go_at_call 45; refine Calls.mono (HPA.out _ (HD.out 1)) ?_; rintro e wp ⟨rfl, hcp, hmp⟩) | (go_at_call 52; refine Calls.mono (HAP.out _ (HD.out 1) _ hmp) ?_; rintro e wa ⟨ad, k, cp, rfl, hca, hfa, hma⟩)))
  all_goals
    go_wp2
    go_ret
    exact ⟨rfl, _, (hma.out.draws (HD.out 1)).store HLB.out 21 (by omega) _⟩

set_option maxRecDepth 100000 in
set_option maxHeartbeats 2000000 in
theorem quoted_end (l : Nat) (cs : List Value) (g o n cap pos : Nat) (c a : Int) (B : Nat) (u v : Value) (us vs : List UInt8) (w : World) (hL : LexAt w l cs) (hN : NextIs w cs g o n cap pos c a) (h29 : cs[29]? = some (.bool false)) (h20 : cs[20]? = some (.int .i64 c)) (h13 : cs[13]? = some (.slice none 0 0)) (h18 : cs[18]? = some u) (h21 : cs[21]? = some v) (h22 : cs[22]? = some (.map none)) (hu : w.ownsRow B 5 1 u us.length (lxCells us)) (hv : w.ownsRow B 5 1 v vs.length (lxCells vs)) (hl : l < w.heap.size) (hlB : l < B) (hus : us.length ≤ 1000000) :
    Calls Tryd.prog 101 #[.pointer (some ⟨l, 0, none⟩)] w fun e w' => e = .returned (.func (.func 103) #[] #[]) ∧ ∃ b cp mp, LexAt w' l (((cs.set 1 (.int .i64 ((pos + 1 : Nat) : Int))).set 22 mp).set 13 (.slice (some ⟨b, 0, none⟩) 1 cp)) ∧ w'.cell? ⟨b, 0, none⟩ = some (.string ⟨us.toArray⟩) ∧ w'.cell? ⟨b, 1, none⟩ = some (.string ⟨vs.toArray⟩) ∧ But l w.heap.size w w' := by
  have HP : Hid _ := peek_any l cs g o n cap pos c a w hL hN
  have HT : Hid (∀ w1 : World, (∃ q, w1 = w.drewN q) → _) := fun w1 h => take_off l cs g o n cap pos c a w1 (by obtain ⟨q, rfl⟩ := h; exact hL.draws q) (by obtain ⟨q, rfl⟩ := h; exact hN.draws q) h29
  have HE : Hid (∀ w1 w2 : World, (∃ q, w1 = w.drewN q) → (∃ q, w2 = (w1.drewN q).setCell ⟨l, 1, none⟩ (.int .i64 ((pos + 1 : Nat) : Int))) → (Calls Tryd.prog 99 #[.pointer (some ⟨l, 0, none⟩), .func (.func 103) #[] #[]] w2 fun e w' => e = .returned (.func (.func 103) #[] #[]) ∧ Hid (∃ b cp mp, LexAt w' l (((cs.set 1 (.int .i64 ((pos + 1 : Nat) : Int))).set 22 mp).set 13 (.slice (some ⟨b, 0, none⟩) 1 cp)) ∧ w'.cell? ⟨b, 0, none⟩ = some (.string ⟨us.toArray⟩) ∧ w'.cell? ⟨b, 1, none⟩ = some (.string ⟨vs.toArray⟩) ∧ But l w.heap.size w w'))) := by
    rintro w1 w2 ⟨q, rfl⟩ ⟨q2, rfl⟩
    have hL2 := ((hL.draws q).draws q2).set 1 (by omega) (.int .i64 ((pos + 1 : Nat) : Int))
    have hb2 : But l w.heap.size w (((w.drewN q).drewN q2).setCell ⟨l, 1, none⟩ (.int .i64 ((pos + 1 : Nat) : Int))) := (But.of (drewN_below (drewN_below (Below.refl _ _) q) q2)).store 1 _
    have hs2 := hb2.size
    refine (endAttribute_first l _ _ B u v us vs _ hL2 (by omega) (by rw [List.getElem?_set_ne (by omega)]; exact h13) (by rw [List.getElem?_set_ne (by omega)]; exact h18) (by rw [List.getElem?_set_ne (by omega)]; exact h21) (by rw [List.getElem?_set_ne (by omega)]; exact h22) (owns_but' hu hb2 (Nat.le_refl _) hlB) (owns_but' hv hb2 (Nat.le_refl _) hlB) hlB hus).mono ?_
    rintro e w' ⟨he, b, cp, mp, h1, h2, h3, h4⟩
    exact ⟨he, b, cp, mp, h1, h2, h3, hb2.trans (h4.mono hs2)⟩
  have HC : Hid (∀ w1 : World, (∃ q, w1 = w.drewN q) → w1.cell? ⟨l, 20, none⟩ = some (.int .i64 c)) := fun w1 h => by obtain ⟨q, rfl⟩ := h; exact hL.c 20 _ h20
  clear hL hN h13 h18 h21 h22 hu hv hus h29 h20
  go_enter Tryd.func101, Tryd.ntmps101
  go_wp2_with fail
  refine Calls.mono HP.out ?_
  rintro e w1 ⟨rfl, hq⟩
  have HQ : Hid _ := hq
  have c20 := HC.out w1 hq
  clear HP hq HC
  go_wp2_with fail
  refine Calls.mono (HT.out w1 HQ.out) ?_
  rintro e w2 ⟨rfl, hq2⟩
  have HE2 : Hid _ := HE.out w1 w2 HQ.out hq2
  clear HT HE hq2 c20
  go_wp2_with fail
  refine Calls.mono HE2.out ?_
  rintro e w3 ⟨rfl, hE3⟩
  clear HE2
  go_wp2
  go_ret
  exact ⟨rfl, hE3.out⟩

set_option maxRecDepth 100000 in
set_option maxHeartbeats 2000000 in
theorem behindQuoted_ends (l : Nat) (cs : List Value) (g o n cap pos : Nat) (c a : Int) (w : World) (hL : LexAt w l cs) (hN : NextIs w cs g o n cap pos c a) (he : endsI c = true) :
    Calls Tryd.prog 103 #[.pointer (some ⟨l, 0, none⟩)] w fun e w' => e = .returned (.func (.func 51) #[] #[]) ∧ LexAt w' l cs ∧ But l w.heap.size w w' := by
  have HP : Hid _ := peek_any l cs g o n cap pos c a w hL hN
  have HB : Hid (∀ w, _) := fun w => endsName_any c w
  rw [he] at HB
  have HL : Hid _ := hL
  clear hL hN he
  go_enter Tryd.func103, Tryd.ntmps103
  go_wp2_with fail
  refine Calls.mono HP.out ?_
  rintro e w1 ⟨rfl, q, hw1⟩
  have HX : Hid (LexAt w1 l cs ∧ But l w.heap.size w w1) := ⟨by rw [hw1]; exact HL.out.draws q, by rw [hw1]; exact But.of (drewN_below (Below.refl _ _) q)⟩
  clear HP hw1 HL
  go_wp2_with fail
  refine Calls.mono (HB.out w1) ?_
  rintro e w2 ⟨rfl, hw2⟩
  subst hw2
  go_wp2
  go_ret
  exact ⟨rfl, HX.out⟩
end Go.Proofs.YtbdfdipeefeajaaDoor

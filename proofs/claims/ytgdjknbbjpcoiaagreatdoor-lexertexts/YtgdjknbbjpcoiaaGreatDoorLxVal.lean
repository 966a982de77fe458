/-
  An attribute's name and value, scalar by scalar.
-/
import Derived.Test.YtgdjknbbjpcoiaaGreatDoorLxAttr
namespace Go.Proofs.YtgdjknbbjpcoiaaGreatDoor
open Go.RowKit

set_option maxRecDepth 100000 in
set_option maxHeartbeats 4000000 in
theorem attrName_char (l : Nat) (cs : List Value) (g o n cap pos : Nat) (c a : Int) (B : Nat) (v : Value) (m : Nat) (xs : List Value) (w : World) (hL : LexAt w l cs) (hN : NextIs w cs g o n cap pos c a) (h29 : cs[29]? = some (.bool false)) (hl : l < w.heap.size) (hc : ¬ c = 0) (hc0 : 0 ≤ c) (hc1 : c ≤ 1114111) (he : endsI c = false) (h61 : ¬ c = 61) (h34 : ¬ c = 34) (h39 : ¬ c = 39) (h60 : ¬ c = 60)
    (h18 : cs[18]? = some v) (hO : w.ownsRow B 5 1 v m xs) (hm : m + 4 ≤ 140737488355328) (hB : B ≤ w.heap.size) (hlB : l < B) :
    Calls Tryz.prog 197 #[.pointer (some ⟨l, 0, none⟩)] w fun e w' => e = .returned (.func (.func 197) #[] #[]) ∧ ∃ v', MidP w l B ((cs.set 1 (.int .i64 ((pos + 1 : Nat) : Int))).set 18 v') v' (m + (Lib.runeCells (smallI c)).length) (xs ++ Lib.runeCells (smallI c)) v.ownBlock w' := by
  have HP : Hid _ := peek_any l cs g o n cap pos c a w hL hN
  have HE : Hid (∀ w, _) := fun w => endsName_any c w
  rw [he] at HE
  have HS : Hid (∀ w, _) := fun w => small_any c w (by omega)
  have hsc0 : 0 ≤ smallI c := by unfold smallI; split <;> omega
  have hsc1 : smallI c ≤ 1114111 := by unfold smallI; split <;> omega
  have HPA : Hid (∀ w1 : World, (∃ q, w1 = w.drewN q) → _) := fun w1 h => pass_mid l cs g o n cap pos c a B v m xs w1 (by obtain ⟨q, rfl⟩ := h; exact hL.draws q) (by obtain ⟨q, rfl⟩ := h; exact ⟨hN.rs, hN.ps, hN.lt, hN.le, hN.cv, hN.ca⟩) h29 (by obtain ⟨q, rfl⟩ := h; exact hl) hc h18 (by obtain ⟨q, rfl⟩ := h; exact hO) hlB
  have HAP : Hid (∀ w0 : World, (∃ q, w0 = w.drewN q) → ∀ w1 : World, Hid (MidP w0 l B (cs.set 1 (.int .i64 ((pos + 1 : Nat) : Int))) v m xs v.ownBlock w1) → _) := fun w0 h w1 h1 => append_mid l (cs.set 1 (.int .i64 ((pos + 1 : Nat) : Int))) (smallI c) B v m xs w0 w1 h1.out hsc0 hsc1 (by rw [List.getElem?_set_ne (by omega)]; exact h18) hm (by obtain ⟨q, rfl⟩ := h; exact hB) hlB
  have HX : Hid _ := hL
  have HLB : Hid _ := hlB
  have b61 : (c == 61) = false := by simpa using h61
  have b34 : (c == 34) = false := by simpa using h34
  have b39 : (c == 39) = false := by simpa using h39
  have b60 : (c == 60) = false := by simpa using h60
  clear h61 h34 h39 h60
  clear hN h29 hc hc0 hc1 he hO hm hsc0 hsc1 hlB
  go_enter Tryz.func197, Tryz.ntmps197
  go_wp2_with fail
  refine Calls.mono HP.out ?_
  rintro e w1 ⟨rfl, q, hw1⟩
  have HD : Hid (∀ q', ∃ q, w1.drewN q' = w.drewN q) := fun q' => ⟨q + q', by rw [hw1]; simp⟩
  have c18 : w1.cell? ⟨l, 18, none⟩ = some v := by rw [hw1]; exact hL.c 18 _ h18
  clear HP hw1 hL
  go_wp2_with fail
  refine Calls.mono (HE.out w1) ?_
  rintro e w2 ⟨rfl, hw2⟩
  subst hw2
  go_upto_region 8 with fail
  go_region_with ((first | (go_at_call 107; refine Calls.mono (HPA.out _ (HD.out 1)) ?_; rintro e wp ⟨rfl, hcp, hmp⟩) | (go_at_call 82; refine Calls.mono (HS.out _) ?_; rintro e w' ⟨rfl, rfl⟩) | (go_at_call 147; refine Calls.mono (HAP.out _ (HD.out 1) _ hmp) ?_; rintro e wa ⟨ad, k, cp, rfl, hca, hfa, hma⟩)))
  all_goals
    go_wp2
    go_ret
    exact ⟨rfl, _, (hma.out.draws (HD.out 1)).store HLB.out 18 (by omega) _⟩

/-- As pass_mid and append_mid, at any cell. -/
theorem pass_at (j : Nat) (hj : 1 ≠ j) (l : Nat) (cs : List Value) (g o n cap pos : Nat) (c a : Int) (B : Nat) (v : Value) (m : Nat) (xs : List Value) (w : World) (hL : LexAt w l cs) (hN : NextIs w cs g o n cap pos c a) (h29 : cs[29]? = some (.bool false)) (hl : l < w.heap.size) (hc : ¬ c = 0) (h18 : cs[j]? = some v) (hO : w.ownsRow B 5 1 v m xs) (hlB : l < B) :
    Calls Tryz.prog 107 #[.pointer (some ⟨l, 0, none⟩)] w fun e w' => e = .returned (.int .i64 c) ∧ w'.cell? ⟨l, j, none⟩ = some v ∧ Hid (MidP w l B (cs.set 1 (.int .i64 ((pos + 1 : Nat) : Int))) v m xs v.ownBlock w') := by
  refine Calls.mono (pass_off l cs g o n cap pos c a w hL hN h29 hl hc) ?_
  rintro e w' ⟨he, hL', hb⟩
  refine ⟨he, hL'.c j _ (by rw [List.getElem?_set_ne hj]; exact h18), ⟨hL', owns_but hO hb (Nat.le_refl _) (owns_off hO hlB), Kept.of hb⟩⟩

theorem append_at (j : Nat) (l : Nat) (cs : List Value) (c : Int) (B : Nat) (v : Value) (m : Nat) (xs : List Value) (w w1 : World) (h : MidP w l B cs v m xs v.ownBlock w1) (hc0 : 0 ≤ c) (hc1 : c ≤ 1114111) (h18 : cs[j]? = some v) (hm : m + 4 ≤ 140737488355328) (hB : B ≤ w.heap.size) (hlB : l < B) :
    Calls Tryz.prog 147 #[v, .int .i64 c] w1 fun e w' => ∃ ad k cp, e = .returned (.slice ad k cp) ∧ w'.cell? ⟨l, j, none⟩ = some v ∧ w'.frozen? ⟨l, j, none⟩ = false ∧ Hid (MidP w l B cs (.slice ad k cp) (m + (Lib.runeCells c).length) (xs ++ Lib.runeCells c) v.ownBlock w') := by
  have hs := h.kept.size
  refine Calls.mono (appendScalar_any B v m xs c hc0 hc1 w1 h.own hm (by omega)) ?_
  rintro e w' ⟨v', he, ho, hg⟩
  have hL := h.lex.grown hg (by omega) (owns_off h.own hlB)
  obtain ⟨ad, k, cp, rfl⟩ : ∃ ad k cp, v' = .slice ad k cp := by
    rcases IsRow.of ho with rfl | ⟨b, n, c, rfl⟩
    · exact ⟨_, _, _, rfl⟩
    · exact ⟨_, _, _, rfl⟩
  exact ⟨ad, k, cp, he, hL.c j _ h18, hL.fz j, ⟨hL, ho, h.kept.trans (Kept.grown hg)⟩⟩

set_option maxRecDepth 100000 in
set_option maxHeartbeats 4000000 in
theorem unquoted_char (l : Nat) (cs : List Value) (g o n cap pos : Nat) (c a : Int) (B : Nat) (v : Value) (m : Nat) (xs : List Value) (w : World) (hL : LexAt w l cs) (hN : NextIs w cs g o n cap pos c a) (h29 : cs[29]? = some (.bool false)) (hl : l < w.heap.size) (hc : ¬ c = 0) (hc0 : 0 ≤ c) (hc1 : c ≤ 1114111) (he : blankI c = false) (h62 : ¬ c = 62) (h38 : ¬ c = 38) (h34 : ¬ c = 34) (h39 : ¬ c = 39) (h60 : ¬ c = 60) (h61 : ¬ c = 61) (h96 : ¬ c = 96)
    (h21 : cs[21]? = some v) (hO : w.ownsRow B 5 1 v m xs) (hm : m + 4 ≤ 140737488355328) (hB : B ≤ w.heap.size) (hlB : l < B) :
    Calls Tryz.prog 244 #[.pointer (some ⟨l, 0, none⟩)] w fun e w' => e = .returned (.func (.func 244) #[] #[]) ∧ ∃ v', MidP w l B ((cs.set 1 (.int .i64 ((pos + 1 : Nat) : Int))).set 21 v') v' (m + (Lib.runeCells c).length) (xs ++ Lib.runeCells c) v.ownBlock w' := by
  have HP : Hid _ := peek_any l cs g o n cap pos c a w hL hN
  have HE : Hid (∀ w, _) := fun w => isBlank_any c w
  rw [he] at HE
  have HPA : Hid (∀ w1 : World, (∃ q, w1 = w.drewN q) → _) := fun w1 h => pass_at 21 (by omega) l cs g o n cap pos c a B v m xs w1 (by obtain ⟨q, rfl⟩ := h; exact hL.draws q) (by obtain ⟨q, rfl⟩ := h; exact hN.draws q) h29 (by obtain ⟨q, rfl⟩ := h; exact hl) hc h21 (by obtain ⟨q, rfl⟩ := h; exact hO) hlB
  have HAP : Hid (∀ w0 : World, (∃ q, w0 = w.drewN q) → ∀ w1 : World, Hid (MidP w0 l B (cs.set 1 (.int .i64 ((pos + 1 : Nat) : Int))) v m xs v.ownBlock w1) → _) := fun w0 h w1 h1 => append_at 21 l (cs.set 1 (.int .i64 ((pos + 1 : Nat) : Int))) c B v m xs w0 w1 h1.out hc0 hc1 (by rw [List.getElem?_set_ne (by omega)]; exact h21) hm (by obtain ⟨q, rfl⟩ := h; exact hB) hlB
  have HLB : Hid _ := hlB
  have b62 : (c == 62) = false := by simpa using h62
  have b38 : (c == 38) = false := by simpa using h38
  have b34 : (c == 34) = false := by simpa using h34
  have b39 : (c == 39) = false := by simpa using h39
  have b60 : (c == 60) = false := by simpa using h60
  have b61 : (c == 61) = false := by simpa using h61
  have b96 : (c == 96) = false := by simpa using h96
  clear h62 h38 h34 h39 h60 h61 h96 hN h29 hc hc0 hc1 he hO hm hlB
  go_enter Tryz.func244, Tryz.ntmps244
  go_wp2_with fail
  refine Calls.mono HP.out ?_
  rintro e w1 ⟨rfl, q, hw1⟩
  have HD : Hid (∀ q', ∃ q, w1.drewN q' = w.drewN q) := fun q' => ⟨q + q', by rw [hw1]; simp⟩
  have c21 : w1.cell? ⟨l, 21, none⟩ = some v := by rw [hw1]; exact hL.c 21 _ h21
  clear HP hw1 hL
  go_wp2_with fail
  refine Calls.mono (HE.out w1) ?_
  rintro e w2 ⟨rfl, hw2⟩
  subst hw2
  go_upto_region 10 with fail
  go_region_with ((first | (go_at_call 107; refine Calls.mono (HPA.out _ (HD.out 1)) ?_; rintro e wp ⟨rfl, hcp, hmp⟩) | (go_at_call 147; refine Calls.mono (HAP.out _ (HD.out 1) _ hmp) ?_; rintro e wa ⟨ad, k, cp, rfl, hca, hfa, hma⟩)))
  all_goals
    go_wp2
    go_ret
    exact ⟨rfl, _, (hma.out.draws (HD.out 1)).store HLB.out 21 (by omega) _⟩
end Go.Proofs.YtgdjknbbjpcoiaaGreatDoor

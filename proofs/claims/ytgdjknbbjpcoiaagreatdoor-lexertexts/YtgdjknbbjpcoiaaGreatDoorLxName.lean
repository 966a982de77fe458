/-
  A tag's name, scalar by scalar.
-/
import Derived.Test.YtgdjknbbjpcoiaaGreatDoorLxTag
import Derived.Deep.RegionWith
namespace Go.Proofs.YtgdjknbbjpcoiaaGreatDoor
open Go.RowKit

/-- What a state keeps: all but the lexer's block and one row. -/
structure Kept (l : Nat) (row : Option Nat) (w w' : World) : Prop where
  os : w'.os = w.os
  tape : w'.tape = w.tape
  output : w'.output = w.output
  size : w.heap.size ≤ w'.heap.size
  block : ∀ k, k < w.heap.size → k ≠ l → some k ≠ row → w'.heap[k]? = w.heap[k]?
theorem Kept.of {l : Nat} {row : Option Nat} {w w' : World} (h : But l w.heap.size w w') : Kept l row w w' := ⟨h.os, h.tape, h.output, h.size, fun k hk hl _ => h.block k hk hl⟩
theorem Kept.grown {l : Nat} {row : Option Nat} {w w' : World} (h : w.grownBy w' row) : Kept l row w w' := ⟨h.os, h.tape, h.output, h.size, fun k hk _ hr => h.block k hk hr⟩
theorem Kept.trans {l : Nat} {row : Option Nat} {a b c : World} (h : Kept l row a b) (k : Kept l row b c) : Kept l row a c :=
  ⟨k.os.trans h.os, k.tape.trans h.tape, k.output.trans h.output, Nat.le_trans h.size k.size, fun i hi hl hr => (k.block i (Nat.lt_of_lt_of_le hi h.size) hl hr).trans (h.block i hi hl hr)⟩
theorem Kept.store {l : Nat} {row : Option Nat} {a w : World} (h : Kept l row a w) (o : Nat) (u : Value) : Kept l row a (w.setCell ⟨l, o, none⟩ u) :=
  h.trans ⟨rfl, rfl, rfl, by simp [World.setCell], fun k _ hd _ => Below.heap_setCell _ _ _ _ hd⟩

theorem owns_but {w w' : World} {l B B' : Nat} {e : TypeId} {sz : Nat} {v : Value} {n : Nat} {xs : List Value} (h : w.ownsRow B e sz v n xs) (hb : But l B' w w') (hB : w.heap.size ≤ B') (hl : some l ≠ v.ownBlock) : w'.ownsRow B e sz v n xs := by
  refine ⟨h.1, ?_⟩
  rcases h.2 with hn | ⟨g, cap, cur, rfl, hg, hgg, rest⟩
  · exact .inl hn
  · refine .inr ⟨g, cap, cur, rfl, hg, ?_, rest⟩
    rw [hb.block g (Nat.lt_of_lt_of_le (Array.getElem?_eq_some_iff.1 hgg).1 hB) (by intro e; exact hl (by simp [Value.ownBlock, e]))]
    exact hgg
theorem LexAt.grown {w w' : World} {l : Nat} {row : Option Nat} {cs : List Value} (h : LexAt w l cs) (hb : w.grownBy w' row) (hl : l < w.heap.size) (hd : some l ≠ row) : LexAt w' l cs := by
  have key := hb.block l hl hd
  refine ⟨h.len, fun j v hv => ?_, fun j => ?_⟩
  · have := h.c j v hv
    simp only [World.cell?, key] at this ⊢
    exact this
  · have := h.fz j
    simp only [World.frozen?, key] at this ⊢
    exact this

theorem owns_off {w : World} {l B : Nat} {e : TypeId} {sz : Nat} {v : Value} {n : Nat} {xs : List Value} (h : w.ownsRow B e sz v n xs) (hl : l < B) : some l ≠ v.ownBlock := by
  intro e
  have := (h.lt l e.symm).1
  omega

/-- Behind the scalar, ahead of the append. -/
structure MidP (w : World) (l B : Nat) (cs : List Value) (v : Value) (m : Nat) (xs : List Value) (row : Option Nat) (w' : World) : Prop where
  lex : LexAt w' l cs
  own : w'.ownsRow B 5 1 v m xs
  kept : Kept l row w w'

theorem MidP.draws {w w0 w' : World} {l B : Nat} {cs : List Value} {v : Value} {m : Nat} {xs : List Value} {row : Option Nat} (h : MidP w0 l B cs v m xs row w') (e : ∃ q, w0 = w.drewN q) : MidP w l B cs v m xs row w' := by
  obtain ⟨q, rfl⟩ := e
  exact ⟨h.lex, h.own, h.kept.os, h.kept.tape, h.kept.output, h.kept.size, h.kept.block⟩
theorem MidP.store {w w' : World} {l B : Nat} {cs : List Value} {v : Value} {m : Nat} {xs : List Value} {row : Option Nat} (h : MidP w l B cs v m xs row w') (hlB : l < B) (j : Nat) (hj : j < 34) (u : Value) : MidP w l B (cs.set j u) v m xs row (w'.setCell ⟨l, j, none⟩ u) :=
  ⟨h.lex.set j hj u, owns_but h.own ((But.refl l w'.heap.size w').store j u) (Nat.le_refl _) (owns_off h.own hlB), h.kept.store j u⟩

theorem pass_mid (l : Nat) (cs : List Value) (g o n cap pos : Nat) (c a : Int) (B : Nat) (v : Value) (m : Nat) (xs : List Value) (w : World) (hL : LexAt w l cs) (hN : NextIs w cs g o n cap pos c a) (h29 : cs[29]? = some (.bool false)) (hl : l < w.heap.size) (hc : ¬ c = 0) (h18 : cs[18]? = some v) (hO : w.ownsRow B 5 1 v m xs) (hlB : l < B) :
    Calls Tryz.prog 107 #[.pointer (some ⟨l, 0, none⟩)] w fun e w' => e = .returned (.int .i64 c) ∧ w'.cell? ⟨l, 18, none⟩ = some v ∧ Hid (MidP w l B (cs.set 1 (.int .i64 ((pos + 1 : Nat) : Int))) v m xs v.ownBlock w') := by
  refine Calls.mono (pass_off l cs g o n cap pos c a w hL hN h29 hl hc) ?_
  rintro e w' ⟨he, hL', hb⟩
  refine ⟨he, hL'.c 18 _ (by rw [List.getElem?_set_ne (by omega)]; exact h18), ⟨hL', owns_but hO hb (Nat.le_refl _) (owns_off hO hlB), Kept.of hb⟩⟩

theorem append_mid (l : Nat) (cs : List Value) (c : Int) (B : Nat) (v : Value) (m : Nat) (xs : List Value) (w w1 : World) (h : MidP w l B cs v m xs v.ownBlock w1) (hc0 : 0 ≤ c) (hc1 : c ≤ 1114111) (h18 : cs[18]? = some v) (hm : m + 4 ≤ 140737488355328) (hB : B ≤ w.heap.size) (hlB : l < B) :
    Calls Tryz.prog 147 #[v, .int .i64 c] w1 fun e w' => ∃ ad k cp, e = .returned (.slice ad k cp) ∧ w'.cell? ⟨l, 18, none⟩ = some v ∧ w'.frozen? ⟨l, 18, none⟩ = false ∧ Hid (MidP w l B cs (.slice ad k cp) (m + (Lib.runeCells c).length) (xs ++ Lib.runeCells c) v.ownBlock w') := by
  have hs := h.kept.size
  refine Calls.mono (appendScalar_any B v m xs c hc0 hc1 w1 h.own hm (by omega)) ?_
  rintro e w' ⟨v', he, ho, hg⟩
  have hL := h.lex.grown hg (by omega) (owns_off h.own hlB)
  obtain ⟨ad, k, cp, rfl⟩ : ∃ ad k cp, v' = .slice ad k cp := by
    rcases IsRow.of ho with rfl | ⟨b, n, c, rfl⟩
    · exact ⟨_, _, _, rfl⟩
    · exact ⟨_, _, _, rfl⟩
  exact ⟨ad, k, cp, he, hL.c 18 _ h18, hL.fz 18, ⟨hL, ho, h.kept.trans (Kept.grown hg)⟩⟩

set_option maxRecDepth 100000 in
set_option maxHeartbeats 4000000 in
theorem tagName_char (l : Nat) (cs : List Value) (g o n cap pos : Nat) (c a : Int) (B : Nat) (v : Value) (m : Nat) (xs : List Value) (w : World) (hL : LexAt w l cs) (hN : NextIs w cs g o n cap pos c a) (h29 : cs[29]? = some (.bool false)) (hl : l < w.heap.size) (hc : ¬ c = 0) (hc0 : 0 ≤ c) (hc1 : c ≤ 1114111) (he : endsI c = false)
    (h18 : cs[18]? = some v) (hO : w.ownsRow B 5 1 v m xs) (hm : m + 4 ≤ 140737488355328) (hB : B ≤ w.heap.size) (hlB : l < B) :
    Calls Tryz.prog 101 #[.pointer (some ⟨l, 0, none⟩)] w fun e w' => e = .returned (.func (.func 101) #[] #[]) ∧ ∃ v', MidP w l B ((cs.set 1 (.int .i64 ((pos + 1 : Nat) : Int))).set 18 v') v' (m + (Lib.runeCells (smallI c)).length) (xs ++ Lib.runeCells (smallI c)) v.ownBlock w' := by
  have HP : Hid _ := peek_any l cs g o n cap pos c a w hL hN
  have HE : Hid (∀ w, _) := fun w => endsName_any c w
  rw [he] at HE
  have HS : Hid (∀ w, _) := fun w => small_any c w (by omega)
  have hsc0 : 0 ≤ smallI c := by unfold smallI; split <;> omega
  have hsc1 : smallI c ≤ 1114111 := by unfold smallI; split <;> omega
  have HPA : Hid (∀ w1 : World, (∃ q, w1 = w.drewN q) → _) := fun w1 h => pass_mid l cs g o n cap pos c a B v m xs w1 (by obtain ⟨q, rfl⟩ := h; exact hL.draws q) (by obtain ⟨q, rfl⟩ := h; exact ⟨hN.rs, hN.ps, hN.lt, hN.le, hN.cv, hN.ca⟩) h29 (by obtain ⟨q, rfl⟩ := h; exact hl) hc h18 (by obtain ⟨q, rfl⟩ := h; exact hO) hlB
  have HAP : Hid (∀ w0 : World, (∃ q, w0 = w.drewN q) → ∀ w1 : World, Hid (MidP w0 l B (cs.set 1 (.int .i64 ((pos + 1 : Nat) : Int))) v m xs v.ownBlock w1) → _) := fun w0 h w1 h1 => append_mid l (cs.set 1 (.int .i64 ((pos + 1 : Nat) : Int))) (smallI c) B v m xs w0 w1 h1.out hsc0 hsc1 (by rw [List.getElem?_set_ne (by omega)]; exact h18) hm (by obtain ⟨q, rfl⟩ := h; exact hB) hlB
  have HX : Hid _ := hL
  have HLB : Hid _ := hlB
  clear hN h29 hc hc0 hc1 he hO hm hsc0 hsc1 hlB
  go_enter Tryz.func101, Tryz.ntmps101
  go_wp2_with fail
  refine Calls.mono HP.out ?_
  rintro e w1 ⟨rfl, q, hw1⟩
  have HD : Hid (∀ q', ∃ q, w1.drewN q' = w.drewN q) := fun q' => ⟨q + q', by rw [hw1]; simp⟩
  have c18 : w1.cell? ⟨l, 18, none⟩ = some v := by rw [hw1]; exact hL.c 18 _ h18
  clear HP hw1 hL
  go_wp2_with fail
  refine Calls.mono (HE.out w1) ?_
  rintro e w2 ⟨rfl, hw2⟩
  subst hw2
  go_upto_region 7 with fail
  go_region_with ((first | (go_at_call 107; refine Calls.mono (HPA.out _ (HD.out 1)) ?_; rintro e wp ⟨rfl, hcp, hmp⟩) | (go_at_call 82; refine Calls.mono (HS.out _) ?_; rintro e w' ⟨rfl, rfl⟩) | (go_at_call 147; refine Calls.mono (HAP.out _ (HD.out 1) _ hmp) ?_; rintro e wa ⟨ad, k, cp, rfl, hca, hfa, hma⟩)))
  all_goals
    go_wp2
    go_ret
    exact ⟨rfl, _, (hma.out.draws (HD.out 1)).store HLB.out 18 (by omega) _⟩
end Go.Proofs.YtgdjknbbjpcoiaaGreatDoor

/-
  A token begins.
-/
import Derived.Test.YtgdjknbbjpcoiaaGreatDoorLxAppend
namespace Go.Proofs.YtgdjknbbjpcoiaaGreatDoor
open Go.RowKit

/-- A row with nothing in it. -/
def cut0 : Value → Value
  | .slice a _ c => .slice a 0 c
  | v => v

/-- A row of bytes: none, or one that lies at a block's head. -/
def IsRow (v : Value) : Prop := v = .slice none 0 0 ∨ ∃ b n c, v = .slice (some ⟨b, 0, none⟩) n c
theorem IsRow.of {w : World} {B : Nat} {e : TypeId} {sz : Nat} {v : Value} {n : Nat} {xs : List Value} (h : w.ownsRow B e sz v n xs) : IsRow v := by
  rcases h.2 with ⟨rfl, _⟩ | ⟨g, cap, cur, rfl, _⟩
  · exact .inl rfl
  · exact .inr ⟨_, _, _, rfl⟩
theorem owns_cut {w : World} {B : Nat} {e : TypeId} {sz : Nat} {v : Value} {n : Nat} {xs : List Value} (h : w.ownsRow B e sz v n xs) : w.ownsRow B e sz (cut0 v) 0 [] := by
  refine ⟨by simp, ?_⟩
  rcases h.2 with ⟨rfl, _⟩ | ⟨g, cap, cur, rfl, hb, hg, hn, hm, hs, _⟩
  · exact .inl ⟨rfl, rfl⟩
  · exact .inr ⟨g, cap, cur, rfl, hb, hg, by omega, hm, hs, by simp⟩
theorem cut0_block {v : Value} (h : IsRow v) : (cut0 v).ownBlock = v.ownBlock := by
  rcases h with rfl | ⟨b, n, c, rfl⟩ <;> rfl

/-- The cells of a token that begins. -/
def begun (cs : List Value) (t : Tok) (v : Value) : List Value := (((((withTok cs t).set 18 (cut0 v)).set 19 (.int .i64 0)).set 20 (.int .i64 0)).set 21 (.slice none 0 0)).set 22 (.map none)

set_option maxRecDepth 100000 in
set_option maxHeartbeats 2000000 in
theorem lxBegin (l : Nat) (cs : List Value) (o' : Tok) (g o n cap k : Nat) (a kd : Int) (N : Value) (v18 : Value) (x19 x20 : Int) (v21 v22 : Value) (w : World) (hL : LexAt w l cs) (hT : TokAt cs o') (h0 : cs[0]? = some (.slice (some ⟨g, o, none⟩) n cap)) (h16 : cs[16]? = some (.int .i64 (k : Int))) (hk : k < n) (ca : w.cell? ⟨g, o + k * 2 + 1, none⟩ = some (.int .i64 a))
    (h18 : cs[18]? = some v18) (hv : IsRow v18) (h19 : cs[19]? = some (.int .i64 x19)) (h20 : cs[20]? = some (.int .i64 x20)) (h21 : cs[21]? = some v21) (h22 : cs[22]? = some v22) :
    Calls Tryz.prog 100 #[.pointer (some ⟨l, 0, none⟩), .int .i64 kd, N] w fun e w' => e = .returned N ∧ LexAt w' l (begun cs { tok0 with kind := kd, at' := a } v18) ∧ But l w.heap.size w w' := by
  have HS : Hid _ := start_any l cs g o n cap k a w hL h0 h16 hk ca
  have HL : Hid _ := hL
  have HT : Hid _ := hT
  have hlen := hL.len
  clear hL hT
  go_enter Tryz.func100, Tryz.ntmps100
  go_wp2_with fail
  refine Calls.mono HS.out ?_
  rintro e w1 ⟨rfl, q, hw1⟩
  have hL1 : LexAt w1 l cs := by rw [hw1]; exact HL.out.draws q
  have hB1 : But l w.heap.size w w1 := by rw [hw1]; exact But.of (drewN_below (Below.refl _ _) q)
  have hs1 := hB1.size
  have f8 := hL1.fz 8
  have f9 := hL1.fz 9
  have f10 := hL1.fz 10
  have f11 := hL1.fz 11
  have f12 := hL1.fz 12
  have f13 := hL1.fz 13
  have f14 := hL1.fz 14
  have f15 := hL1.fz 15
  have f18 := hL1.fz 18
  have f19 := hL1.fz 19
  have f20 := hL1.fz 20
  have f21 := hL1.fz 21
  have f22 := hL1.fz 22
  have c8 := hL1.c 8 _ HT.out.t0
  have c9 := hL1.c 9 _ HT.out.t1
  have c10 := hL1.c 10 _ HT.out.t2
  have c11 := hL1.c 11 _ HT.out.t3
  have c12 := hL1.c 12 _ HT.out.t4
  have c13 := hL1.c 13 _ HT.out.t5
  have c14 := hL1.c 14 _ HT.out.t6
  have c15 := hL1.c 15 _ HT.out.t7
  have c18 := hL1.c 18 _ h18
  have c19 := hL1.c 19 _ h19
  have c20 := hL1.c 20 _ h20
  have c21 := hL1.c 21 _ h21
  have c22 := hL1.c 22 _ h22
  have HE : Hid (LexAt w1 l cs ∧ But l w.heap.size w w1) := ⟨hL1, hB1⟩
  clear hw1 HS hL1 hB1
  rcases hv with rfl | ⟨b, m, c, rfl⟩
  all_goals
    go_wp2
    go_ret
    exact ⟨rfl, (((((lex_tok HE.out.1 { tok0 with kind := kd, at' := a }).set 18 (by omega) _).set 19 (by omega) _).set 20 (by omega) _).set 21 (by omega) _).set 22 (by omega) _,
      (((((but_tok HE.out.2 { tok0 with kind := kd, at' := a }).store 18 _).store 19 _).store 20 _).store 21 _).store 22 _⟩
end Go.Proofs.YtgdjknbbjpcoiaaGreatDoor

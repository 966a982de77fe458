/-
  The next token: state by state.
-/
import Derived.Test.YtgdjknbbjpcoiaaGreatDoorLxSettle
import Derived.Deep.LoopGhost
namespace Go.Proofs.YtgdjknbbjpcoiaaGreatDoor
open Go.RowKit

theorem eqFun (w : World) (d : Nat) : (Op.equalIn (d + 1) 91 .nilFunc .nilFunc).run Tryz.prog w = .ok true w := by
  simp [Op.equalIn, run_underlying Tryz.underlying91]
theorem eqFunN (w : World) (d F : Nat) : (Op.equalIn (d + 1) 91 (.func (.func F) #[] #[]) .nilFunc).run Tryz.prog w = .ok false w := by
  simp [Op.equalIn, run_underlying Tryz.underlying91]
theorem eqlNil (w : World) : (binOp .eql 91 .nilFunc .nilFunc).run Tryz.prog w = .ok (.bool true) w := by
  simp only [binOp]
  simp [Op.equal, Op.maxDepth, eqFun w 9999]
theorem neqNil (w : World) : (binOp .neq 91 .nilFunc .nilFunc).run Tryz.prog w = .ok (.bool false) w := by
  simp only [binOp]
  simp [Op.equal, Op.maxDepth, eqFun w 9999]
theorem neqFun (w : World) (F : Nat) : (binOp .neq 91 (.func (.func F) #[] #[]) .nilFunc).run Tryz.prog w = .ok (.bool true) w := by
  simp only [binOp]
  simp [Op.equal, Op.maxDepth, eqFunN w 9999 F]

/-- The result's block, as it was laid. -/
structure ResAt (w : World) (R : Nat) : Prop where
  a0 : w.cell? ⟨R, 0, none⟩ = some (.int .i64 0)
  a1 : w.cell? ⟨R, 1, none⟩ = some (.int .i64 0)
  a2 : w.cell? ⟨R, 2, none⟩ = some (.int .i64 0)
  a3 : w.cell? ⟨R, 3, none⟩ = some (.string ⟨#[]⟩)
  a4 : w.cell? ⟨R, 4, none⟩ = some (.string ⟨#[]⟩)
  a5 : w.cell? ⟨R, 5, none⟩ = some (.slice none 0 0)
  a6 : w.cell? ⟨R, 6, none⟩ = some (.bool false)
  a7 : w.cell? ⟨R, 7, none⟩ = some (.bool false)
  fz : ∀ j, w.frozen? ⟨R, j, none⟩ = false

/-- A chain of states: J k: k rounds are to come. -/
structure Chain (l R : Nat) (J : Nat → List Value → World → Prop) (Post : Tok → World → Prop) : Prop where
  step : ∀ k cs w, J (k + 1) cs w → LexAt w l cs ∧ ∃ (F p n : Nat) (ad : Option Addr) (cap : Nat) (cl : Bool), cs[7]? = some (.func (.func F) #[] #[]) ∧ cs[0]? = some (.slice ad n cap) ∧ cs[1]? = some (.int .i64 (p : Int)) ∧ cs[2]? = some (.bool cl) ∧ (p < n ∨ (p = n ∧ cl = true)) ∧ (∀ (a : Value) (w : World), (callFunc F #[a]).run Tryz.prog w = .ok (.enter F #[a]) w) ∧
    ∀ q, Calls Tryz.prog F #[.pointer (some ⟨l, 0, none⟩)] (w.drewN q) fun e w' => ∃ f', e = .returned f' ∧ (f' = .nilFunc ∨ ∃ G, f' = .func (.func G) #[] #[]) ∧ (∃ x, w'.cell? ⟨l, 7, none⟩ = some x) ∧ w'.frozen? ⟨l, 7, none⟩ = false ∧ Hid (∃ cs', J k cs' (w'.setCell ⟨l, 7, none⟩ f'))
  stop : ∀ cs w, J 0 cs w → LexAt w l cs ∧ cs[7]? = some .nilFunc ∧ Calls Tryz.prog 40 #[.pointer (some ⟨l, 0, none⟩)] w fun e w' => ∃ t, e = .returned (tokV t) ∧ ResAt w' R ∧ Hid (Post t w')

set_option maxRecDepth 100000 in
set_option maxHeartbeats 4000000 in
theorem next_chain (l : Nat) (cs : List Value) (J : Nat → List Value → World → Prop) (Post : Tok → World → Prop) (K : Nat) (w : World) (hL : LexAt w l cs) (hl : l < w.heap.size) (h4 : cs[4]? = some (.bool false)) (h7 : cs[7]? = some .nilFunc) (h31 : cs[31]? = some (.slice none 0 0)) (hC : Chain l w.heap.size J Post)
    (hJ : ∃ cs', J K cs' ((w.setCell ⟨l, 7, none⟩ (.func (.func 39) #[] #[])).alloc (.cells #[.int .i64 0, .int .i64 0, .int .i64 0, .string ⟨#[]⟩, .string ⟨#[]⟩, .slice none 0 0, .bool false, .bool false] 41))) :
    Calls Tryz.prog 21 #[.pointer (some ⟨l, 0, none⟩)] w fun e w' => ∃ t, e = .returned (.tuple #[tokV t, .bool true]) ∧ ∃ w1, Post t w1 ∧ But w.heap.size w1.heap.size w1 w' := by
  have c4 := hL.c 4 _ h4
  have c7 := hL.c 7 _ h7
  have c31 := hL.c 31 _ h31
  have f7 := hL.fz 7
  have hne : l ≠ w.heap.size := by omega
  have q1 := eqlNil
  have q2 := neqNil
  have q3 := neqFun
  have HJ : Hid _ := hJ
  have HC : Hid _ := hC
  clear hL h4 h7 h31 hJ hC
  go_enter Tryz.func21, Tryz.ntmps21
  go_wp2
  go_loopg [] K (fun k wr => Hid (∃ cs', J k cs' wr))
  case atStart => exact HJ.out
  case round =>
    clear c4 c7 c31 f7 HJ
    obtain ⟨cs', hJ⟩ := hrel.out
    clear hrel
    cases gk with
    | zero =>
      obtain ⟨hLx, h7x, hset⟩ := HC.out.stop _ _ hJ
      have c7 := hLx.c 7 _ h7x
      have HS : Hid _ := hset
      clear hLx h7x hset hJ HC
      go_wp2_with fail
      refine Calls.mono HS.out ?_
      rintro e w2 ⟨t, rfl, hR, hP⟩
      have a0 := hR.a0
      have a1 := hR.a1
      have a2 := hR.a2
      have a3 := hR.a3
      have a4 := hR.a4
      have a5 := hR.a5
      have a6 := hR.a6
      have a7 := hR.a7
      have z0 := hR.fz 0
      have z1 := hR.fz 1
      have z2 := hR.fz 2
      have z3 := hR.fz 3
      have z4 := hR.fz 4
      have z5 := hR.fz 5
      have z6 := hR.fz 6
      have z7 := hR.fz 7
      clear hR HS
      unfold tokV
      go_wp2
      refine bodyPost_ret (v := .tuple #[tokV t, .bool true]) (by simp [results, Tryz.results21, go_sem, tokV, *]) rfl ⟨t, rfl, w2, hP.out, ?_⟩
      exact (((((((But.refl _ _ _).store 0 _).store 1 _).store 2 _).store 3 _).store 4 _).store 5 _).store 6 _ |>.store 7 _
    | succ k =>
      obtain ⟨hLx, F, p, n, ad, cap, cl, h7x, h0x, h1x, h2x, hpn, hrun, hcall⟩ := HC.out.step _ _ _ hJ
      have c7 := hLx.c 7 _ h7x
      have c0 := hLx.c 0 _ h0x
      have c1 := hLx.c 1 _ h1x
      have c2 := hLx.c 2 _ h2x
      have HS : Hid _ := hcall
      clear hLx h7x h0x h1x h2x hcall hJ HC
      rcases hpn with hpn | ⟨rfl, rfl⟩
      · have hb : ((p : Int) == (n : Int)) = false := by rw [beq_eq_false_iff_ne]; omega
        clear hpn
        go_wp2_with fail
        go_quiet (fail)
        go_wp2_with fail
        refine Calls.mono (HS.out _) ?_
        rintro e w2 ⟨f', rfl, hf, ⟨x, hx⟩, hfz, hJ2⟩
        rcases hf with rfl | ⟨G, rfl⟩
        all_goals
          go_wp2
          go_roundg k
          case measure => omega
          case rel => exact hJ2
      · go_wp2_with fail
        go_quiet (fail)
        go_wp2_with fail
        refine Calls.mono (HS.out _) ?_
        rintro e w2 ⟨f', rfl, hf, ⟨x, hx⟩, hfz, hJ2⟩
        rcases hf with rfl | ⟨G, rfl⟩
        all_goals
          go_wp2
          go_roundg k
          case measure => omega
          case rel => exact hJ2
end Go.Proofs.YtgdjknbbjpcoiaaGreatDoor

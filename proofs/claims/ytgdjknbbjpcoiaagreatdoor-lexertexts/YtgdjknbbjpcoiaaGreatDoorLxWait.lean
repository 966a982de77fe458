/-
  Next where scalars are wanting, where the state waits for them, and behind the end.
-/
import Derived.Test.YtgdjknbbjpcoiaaGreatDoorLxPlain
namespace Go.Proofs.YtgdjknbbjpcoiaaGreatDoor
open Go.RowKit

theorem eqlFun (w : World) (F : Nat) : (binOp .eql 91 (.func (.func F) #[] #[]) .nilFunc).run Tryz.prog w = .ok (.bool false) w := by
  simp only [binOp]
  simp [Op.equal, Op.maxDepth, eqFunN w 9999 F]

set_option maxRecDepth 100000 in
set_option maxHeartbeats 4000000 in
theorem next_chain_t (l : Nat) (cs : List Value) (J : Nat → List Value → World → Prop) (Post : Tok → World → Prop) (K : Nat) (w : World) (hL : LexAt w l cs) (hl : l < w.heap.size) (h4 : cs[4]? = some (.bool false)) (h7 : cs[7]? = some (.func (.func 39) #[] #[])) (h31 : cs[31]? = some (.slice none 0 0)) (hC : Chain l w.heap.size J Post)
    (hJ : ∃ cs', J K cs' (w.alloc (.cells #[.int .i64 0, .int .i64 0, .int .i64 0, .string ⟨#[]⟩, .string ⟨#[]⟩, .slice none 0 0, .bool false, .bool false] 41))) :
    Calls Tryz.prog 21 #[.pointer (some ⟨l, 0, none⟩)] w fun e w' => ∃ t, e = .returned (.tuple #[tokV t, .bool true]) ∧ ∃ w1, Post t w1 ∧ But w.heap.size w1.heap.size w1 w' := by
  have c4 := hL.c 4 _ h4
  have c7 := hL.c 7 _ h7
  have c31 := hL.c 31 _ h31
  have f7 := hL.fz 7
  have hne : l ≠ w.heap.size := by omega
  have q1 := eqlFun
  have q2 := neqNil
  have q3 := neqFun
  have HJ : Hid _ := hJ
  have HC : Hid _ := hC
  clear hL h4 h7 h31 hJ hC
  go_enter Tryz.func21, Tryz.ntmps21
  go_wp2
  go_loopg [] K (fun k wr => Hid (∃ cs', J k cs' wr))
  case atStart => exact HJ.out
  case round =>
    clear c4 c7 c31 f7 HJ
    obtain ⟨cs', hJ⟩ := hrel.out
    clear hrel
    cases gk with
    | zero =>
      obtain ⟨hLx, h7x, hset⟩ := HC.out.stop _ _ hJ
      have c7 := hLx.c 7 _ h7x
      have HS : Hid _ := hset
      clear hLx h7x hset hJ HC
      go_wp2_with fail
      refine Calls.mono HS.out ?_
      rintro e w2 ⟨t, rfl, hR, hP⟩
      have a0 := hR.a0
      have a1 := hR.a1
      have a2 := hR.a2
      have a3 := hR.a3
      have a4 := hR.a4
      have a5 := hR.a5
      have a6 := hR.a6
      have a7 := hR.a7
      have z0 := hR.fz 0
      have z1 := hR.fz 1
      have z2 := hR.fz 2
      have z3 := hR.fz 3
      have z4 := hR.fz 4
      have z5 := hR.fz 5
      have z6 := hR.fz 6
      have z7 := hR.fz 7
      clear hR HS
      unfold tokV
      go_wp2
      refine bodyPost_ret (v := .tuple #[tokV t, .bool true]) (by simp [results, Tryz.results21, go_sem, tokV, *]) rfl ⟨t, rfl, w2, hP.out, ?_⟩
      exact (((((((But.refl _ _ _).store 0 _).store 1 _).store 2 _).store 3 _).store 4 _).store 5 _).store 6 _ |>.store 7 _
    | succ k =>
      obtain ⟨hLx, F, p, n, ad, cap, cl, h7x, h0x, h1x, h2x, hpn, hrun, hcall⟩ := HC.out.step _ _ _ hJ
      have c7 := hLx.c 7 _ h7x
      have c0 := hLx.c 0 _ h0x
      have c1 := hLx.c 1 _ h1x
      have c2 := hLx.c 2 _ h2x
      have HS : Hid _ := hcall
      clear hLx h7x h0x h1x h2x hcall hJ HC
      rcases hpn with hpn | ⟨rfl, rfl⟩
      · have hb : ((p : Int) == (n : Int)) = false := by rw [beq_eq_false_iff_ne]; omega
        clear hpn
        go_wp2_with fail
        go_quiet (fail)
        go_wp2_with fail
        refine Calls.mono (HS.out _) ?_
        rintro e w2 ⟨f', rfl, hf, ⟨x, hx⟩, hfz, hJ2⟩
        rcases hf with rfl | ⟨G, rfl⟩
        all_goals
          go_wp2
          go_roundg k
          case measure => omega
          case rel => exact hJ2
      · go_wp2_with fail
        go_quiet (fail)
        go_wp2_with fail
        refine Calls.mono (HS.out _) ?_
        rintro e w2 ⟨f', rfl, hf, ⟨x, hx⟩, hfz, hJ2⟩
        rcases hf with rfl | ⟨G, rfl⟩
        all_goals
          go_wp2
          go_roundg k
          case measure => omega
          case rel => exact hJ2

set_option maxRecDepth 100000 in
set_option maxHeartbeats 4000000 in
/-- No scalar is left, more may come: the state waits. -/
theorem next_wait (l : Nat) (ad : Option Addr) (cap : Nat) (x : Lx) (w : World) (hL : LexAt w l x.cells) (hA : Ahead x) (hr : x.runes = .slice ad 0 cap) (hcl : x.cl = false) :
    Calls Tryz.prog 21 #[.pointer (some ⟨l, 0, none⟩)] w fun e w' => e = .returned (.tuple #[tokV tok0, .bool false]) ∧ LexAt w' l { x with st := stF 39 }.cells ∧ But l w.heap.size w w' := by
  have hl := hL.ne_of
  have c0 : w.cell? ⟨l, 0, none⟩ = some (.slice ad 0 cap) := hL.c 0 _ (by show some x.runes = _; rw [hr])
  have c1 : w.cell? ⟨l, 1, none⟩ = some (.int .i64 0) := hL.c 1 _ (by show some (Value.int .i64 (x.pos : Int)) = _; rw [hA.pos]; rfl)
  have c2 : w.cell? ⟨l, 2, none⟩ = some (.bool false) := hL.c 2 _ (by show some (Value.bool x.cl) = _; rw [hcl])
  have c4 : w.cell? ⟨l, 4, none⟩ = some (.bool false) := hL.c 4 _ (by show some (Value.bool x.ov) = _; rw [hA.ov])
  have c7 : w.cell? ⟨l, 7, none⟩ = some .nilFunc := hL.c 7 _ (by show some x.st = _; rw [hA.st])
  have c31 : w.cell? ⟨l, 31, none⟩ = some (.slice none 0 0) := hL.c 31 _ (by show some x.later = _; rw [hA.later])
  have f7 := hL.fz 7
  have hs0 : (w.setCell ⟨l, 7, none⟩ (.func (.func 39) #[] #[])).heap.size = w.heap.size := by simp [World.setCell]
  have HL0 : LexAt (w.setCell ⟨l, 7, none⟩ (.func (.func 39) #[] #[])) l { x with st := stF 39 }.cells := hL.set 7 (by omega) (.func (.func 39) #[] #[])
  have HL : Hid (LexAt ((w.setCell ⟨l, 7, none⟩ (.func (.func 39) #[] #[])).alloc (.cells #[.int .i64 0, .int .i64 0, .int .i64 0, .string ⟨#[]⟩, .string ⟨#[]⟩, .slice none 0 0, .bool false, .bool false] 41)) l { x with st := stF 39 }.cells) := HL0.below ((Below.refl _ _).alloc (Nat.le_refl _) _) (by omega)
  have HBT : Hid (But l w.heap.size w ((w.setCell ⟨l, 7, none⟩ (.func (.func 39) #[] #[])).alloc (.cells #[.int .i64 0, .int .i64 0, .int .i64 0, .string ⟨#[]⟩, .string ⟨#[]⟩, .slice none 0 0, .bool false, .bool false] 41))) := ((But.refl l _ w).store 7 _).trans (But.of ((Below.refl _ _).alloc (by omega) _))
  have HR : Hid (ResAt ((w.setCell ⟨l, 7, none⟩ (.func (.func 39) #[] #[])).alloc (.cells #[.int .i64 0, .int .i64 0, .int .i64 0, .string ⟨#[]⟩, .string ⟨#[]⟩, .slice none 0 0, .bool false, .bool false] 41)) w.heap.size) := by
    have h := resAt_new (w.setCell ⟨l, 7, none⟩ (.func (.func 39) #[] #[]))
    rw [hs0] at h
    exact h
  have q1 := eqlNil
  have q2 := neqNil
  have q3 := neqFun
  have hne : l ≠ w.heap.size := by omega
  clear hL HL0 hs0
  go_enter Tryz.func21, Tryz.ntmps21
  go_wp2
  go_loopw [] (fun wr => wr = (w.setCell ⟨l, 7, none⟩ (.func (.func 39) #[] #[])).alloc (.cells #[.int .i64 0, .int .i64 0, .int .i64 0, .string ⟨#[]⟩, .string ⟨#[]⟩, .slice none 0 0, .bool false, .bool false] 41)) (fun _ => 0)
  case atStart => rfl
  case round =>
    obtain rfl := hrel
    have k0 := HL.out.c 0 (.slice ad 0 cap) (by show some x.runes = _; rw [hr])
    have k1 := HL.out.c 1 (.int .i64 0) (by show some (Value.int .i64 (x.pos : Int)) = _; rw [hA.pos]; rfl)
    have k2 := HL.out.c 2 (.bool false) (by show some (Value.bool x.cl) = _; rw [hcl])
    have k7 := HL.out.c 7 (.func (.func 39) #[] #[]) rfl
    have a0 := HR.out.a0
    have a1 := HR.out.a1
    have a2 := HR.out.a2
    have a3 := HR.out.a3
    have a4 := HR.out.a4
    have a5 := HR.out.a5
    have a6 := HR.out.a6
    have a7 := HR.out.a7
    have z0 := HR.out.fz 0
    have z1 := HR.out.fz 1
    have z2 := HR.out.fz 2
    have z3 := HR.out.fz 3
    have z4 := HR.out.fz 4
    have z5 := HR.out.fz 5
    have z6 := HR.out.fz 6
    have z7 := HR.out.fz 7
    have hz1 : w.heap.size < ((w.setCell ⟨l, 7, none⟩ (.func (.func 39) #[] #[])).alloc (.cells #[.int .i64 0, .int .i64 0, .int .i64 0, .string ⟨#[]⟩, .string ⟨#[]⟩, .slice none 0 0, .bool false, .bool false] 41)).heap.size := by simp [World.setCell]
    clear c0 c1 c2 c4 c7 c31 f7 q1 HR
    generalize (w.setCell ⟨l, 7, none⟩ (.func (.func 39) #[] #[])).alloc (.cells #[.int .i64 0, .int .i64 0, .int .i64 0, .string ⟨#[]⟩, .string ⟨#[]⟩, .slice none 0 0, .bool false, .bool false] 41) = w1 at *
    have HST : Hid (∀ (W : World), But w.heap.size w1.heap.size w1 W → LexAt W l { x with st := stF 39 }.cells ∧ But l w.heap.size w W) := fun W hW => ⟨HL.out.but hW (by omega) (by omega), HBT.out.trans ⟨hW.os, hW.tape, hW.output, hW.size, fun k hk _ => hW.block k (by omega) (by omega)⟩⟩
    go_wp2_with fail
    go_quiet (fail)
    go_wp2
    refine bodyPost_ret (v := .tuple #[tokV tok0, .bool false]) (by simp [results, Tryz.results21, go_sem, tokV, tok0, *]) rfl ⟨rfl, HST.out _ ?_⟩
    exact (((((((But.of (drewN_below (Below.refl _ _) nq)).store 0 _).store 1 _).store 2 _).store 3 _).store 4 _).store 5 _).store 6 _ |>.store 7 _

/-- Behind the end that was told: no more. -/
structure EndP2 (l : Nat) (w : World) (w' : World) : Prop where
  lex : ∃ y : Lx, y.wrong = .slice none 0 0 ∧ y.ov = true ∧ LexAt w' l y.cells
  but : But l w.heap.size w w'
structure EndT2 (l : Nat) (en : Int) (B : Nat) (w : World) (t : Tok) (w' : World) : Prop where
  tok : t = { tok0 with at' := en }
  lex : ∃ y : Lx, y.wrong = .slice none 0 0 ∧ y.ov = true ∧ LexAt w' l y.cells
  but : But l B w w'

theorem end_goes_nil2 (l R B : Nat) (x : Lx) (w : World) (hL : LexAt w l (enX (.slice none 0 0) false (stF 39) tok0 x).cells) (hR : ResAt w R) (hlR : l ≠ R) (hRB : R < B) (hB : B ≤ w.heap.size) :
    ∃ cs', Goes l R (EndT2 l x.en B w) 1 cs' w := by
  refine end_step l R none 0 x w hL _ fun w1 hL1 hb1 => ?_
  have hl1 := hL1.ne_of
  refine ⟨_, hL1, rfl, (settle_nil l _ { tok0 with at' := x.en } w1 hL1 ⟨rfl, rfl, rfl, rfl, rfl, rfl, rfl, rfl⟩ rfl rfl rfl rfl hl1).mono ?_⟩
  rintro e w2 ⟨rfl, hE⟩
  obtain ⟨hL2, hb2⟩ := hE.out
  rw [enX_nil] at hL2
  have hs1 := hb1.size
  have hR1 := hR.but hb1 (by omega) (fun e => hlR e.symm)
  exact ⟨{ tok0 with at' := x.en }, rfl, hR1.but hb2 (by omega) (fun e => hlR e.symm), ⟨rfl, ⟨_, rfl, rfl, hL2⟩, (hb1.mono hB).trans (hb2.mono (by omega))⟩⟩

theorem end_goes2 (l R g o cap B : Nat) (x : Lx) (w : World) (hL : LexAt w l (enX (.slice (some ⟨g, o, none⟩) 0 cap) false (stF 39) tok0 x).cells) (hR : ResAt w R) (hlR : l ≠ R) (hRB : R < B) (hB : B ≤ w.heap.size) :
    ∃ cs', Goes l R (EndT2 l x.en B w) 1 cs' w := by
  refine end_step l R (some ⟨g, o, none⟩) cap x w hL _ fun w1 hL1 hb1 => ?_
  have hl1 := hL1.ne_of
  refine ⟨_, hL1, rfl, (settle_any l _ { tok0 with at' := x.en } g o 0 cap 0 w1 hL1 ⟨rfl, rfl, rfl, rfl, rfl, rfl, rfl, rfl⟩ rfl rfl (Nat.le_refl _) (Nat.zero_le _) rfl rfl hl1).mono ?_⟩
  rintro e w2 ⟨rfl, ⟨o', _, hL2⟩, hb2⟩
  rw [enX_some] at hL2
  have hs1 := hb1.size
  have hR1 := hR.but hb1 (by omega) (fun e => hlR e.symm)
  exact ⟨{ tok0 with at' := x.en }, rfl, hR1.but hb2 (by omega) (fun e => hlR e.symm), ⟨rfl, ⟨_, rfl, rfl, hL2⟩, (hb1.mono hB).trans (hb2.mono (by omega))⟩⟩

/-- The state waits, no scalar is left, none will come: the end is told. -/
theorem next_endT (l : Nat) (ad : Option Addr) (cap : Nat) (x : Lx) (w : World) (hL : LexAt w l (enX (.slice ad 0 cap) false (stF 39) tok0 x).cells) (had : (ad = none ∧ cap = 0) ∨ ∃ g o, ad = some ⟨g, o, none⟩) :
    Calls Tryz.prog 21 #[.pointer (some ⟨l, 0, none⟩)] w fun e w' => e = .returned (.tuple #[tokV { tok0 with at' := x.en }, .bool true]) ∧ EndP2 l w w' := by
  have hl := hL.ne_of
  have hb0 : But l w.heap.size w (w.alloc (.cells #[.int .i64 0, .int .i64 0, .int .i64 0, .string ⟨#[]⟩, .string ⟨#[]⟩, .slice none 0 0, .bool false, .bool false] 41)) :=
    But.of ((Below.refl _ _).alloc (Nat.le_refl _) _)
  have hR0 := resAt_new w
  have hL0 : LexAt (w.alloc (.cells #[.int .i64 0, .int .i64 0, .int .i64 0, .string ⟨#[]⟩, .string ⟨#[]⟩, .slice none 0 0, .bool false, .bool false] 41)) l (enX (.slice ad 0 cap) false (stF 39) tok0 x).cells :=
    hL.below ((Below.refl _ _).alloc (Nat.le_refl _) _) hl
  have hB : w.heap.size + 1 ≤ (w.alloc (.cells #[.int .i64 0, .int .i64 0, .int .i64 0, .string ⟨#[]⟩, .string ⟨#[]⟩, .slice none 0 0, .bool false, .bool false] 41)).heap.size := by simp
  have hG : ∃ cs', Goes l w.heap.size (EndT2 l x.en (w.heap.size + 1) (w.alloc (.cells #[.int .i64 0, .int .i64 0, .int .i64 0, .string ⟨#[]⟩, .string ⟨#[]⟩, .slice none 0 0, .bool false, .bool false] 41))) 1 cs' (w.alloc (.cells #[.int .i64 0, .int .i64 0, .int .i64 0, .string ⟨#[]⟩, .string ⟨#[]⟩, .slice none 0 0, .bool false, .bool false] 41)) := by
    rcases had with ⟨rfl, rfl⟩ | ⟨g, o, rfl⟩
    · exact end_goes_nil2 l w.heap.size (w.heap.size + 1) x _ hL0 hR0 (by omega) (by omega) hB
    · exact end_goes2 l w.heap.size g o cap (w.heap.size + 1) x _ hL0 hR0 (by omega) (by omega) hB
  refine (next_chain_t l _ (Goes l w.heap.size _) (EndT2 l x.en (w.heap.size + 1) _) 1 w hL hl rfl rfl rfl (goes_chain _ _ _) hG).mono ?_
  rintro e w' ⟨t, rfl, w1, ⟨rfl, ⟨y, hy, hov, hL1⟩, hb1⟩, hb2⟩
  have hs0 := hb0.size
  have hs1 := hb1.size
  refine ⟨rfl, ⟨y, hy, hov, hL1.but hb2 (by omega) (by omega)⟩, ?_⟩
  exact (hb0.trans (hb1.mono (by omega))).trans ⟨hb2.os, hb2.tape, hb2.output, hb2.size, fun k hk _ => hb2.block k (by omega) (by omega)⟩

set_option maxRecDepth 100000 in
set_option maxHeartbeats 2000000 in
/-- Behind the end nothing is told. -/
theorem next_over (l : Nat) (x : Lx) (w : World) (hL : LexAt w l x.cells) (hov : x.ov = true) :
    Calls Tryz.prog 21 #[.pointer (some ⟨l, 0, none⟩)] w fun e w' => e = .returned (.tuple #[tokV tok0, .bool false]) ∧ Below w.heap.size w w' := by
  have hl := hL.ne_of
  have c4 : w.cell? ⟨l, 4, none⟩ = some (.bool true) := hL.c 4 _ (by show some (Value.bool x.ov) = _; rw [hov])
  clear hL
  unfold tokV tok0
  go_enter Tryz.func21, Tryz.ntmps21
  go_wp2
  exact bodyPost_ret (v := .tuple #[.agg #[.int .i64 0, .int .i64 0, .int .i64 0, .string ⟨#[]⟩, .string ⟨#[]⟩, .slice none 0 0, .bool false, .bool false], .bool false]) (by simp [results, Tryz.results21, go_sem]) rfl ⟨rfl, (Below.refl _ _).alloc (Nat.le_refl _) _⟩

set_option maxRecDepth 100000 in
set_option maxHeartbeats 2000000 in
/-- Nothing is put. -/
theorem put_zero (l : Nat) (ad : Option Addr) (cap : Nat) (x : Lx) (w : World) (hL : LexAt w l x.cells) (hr : x.runes = .slice ad 0 cap) (had : (ad = none ∧ cap = 0) ∨ ∃ g o, ad = some ⟨g, o, none⟩) (hc : x.cl = false) :
    Calls Tryz.prog 20 #[.pointer (some ⟨l, 0, none⟩), .slice none 0 0] w fun e w' => e = .returned (.tuple #[]) ∧ LexAt w' l x.cells ∧ But l w.heap.size w w' := by
  rcases had with ⟨rfl, rfl⟩ | ⟨g, o, rfl⟩
  · exact put_empty l x w hL hr hc
  · have c0 : w.cell? ⟨l, 0, none⟩ = some (.slice (some ⟨g, o, none⟩) 0 cap) := hL.c 0 _ (by show some x.runes = _; rw [hr])
    have c2 : w.cell? ⟨l, 2, none⟩ = some (.bool false) := hL.c 2 _ (by show some (Value.bool x.cl) = _; rw [hc])
    have f0 := hL.fz 0
    have HE : Hid (LexAt (w.setCell ⟨l, 0, none⟩ (.slice (some ⟨g, o, none⟩) 0 cap)) l x.cells ∧ But l w.heap.size w (w.setCell ⟨l, 0, none⟩ (.slice (some ⟨g, o, none⟩) 0 cap))) := by
      refine ⟨?_, (But.refl _ _ _).store 0 _⟩
      have h := hL.set 0 (by omega) (.slice (some ⟨g, o, none⟩) 0 cap)
      rw [show (.slice (some ⟨g, o, none⟩) 0 cap : Value) = x.runes by rw [hr]] at h ⊢
      exact h
    clear hL
    go_enter Tryz.func20, Tryz.ntmps20
    go_wp2
    go_end0
    exact ⟨rfl, HE.out⟩
end Go.Proofs.YtgdjknbbjpcoiaaGreatDoor

/-
  The decoder's own cells, and the small functions upon them.
-/
import Derived.Test.YtgdjknbbjpcoiaaGreatDoorTold
import Derived.Laws.BitsAllLaws
import Derived.Laws.BitsLemmas
namespace Go.Proofs.YtgdjknbbjpcoiaaGreatDoor
open Go.RowKit

/-- Nothing below B has turned but the block d. -/
structure But (d B : Nat) (w w' : World) : Prop where
  os : w'.os = w.os
  tape : w'.tape = w.tape
  output : w'.output = w.output
  size : w.heap.size ≤ w'.heap.size
  block : ∀ k, k < B → k ≠ d → w'.heap[k]? = w.heap[k]?

theorem But.refl (d B : Nat) (w : World) : But d B w w := ⟨rfl, rfl, rfl, Nat.le_refl _, fun _ _ _ => rfl⟩
theorem But.trans {d B : Nat} {a b c : World} (h : But d B a b) (k : But d B b c) : But d B a c :=
  ⟨k.os.trans h.os, k.tape.trans h.tape, k.output.trans h.output, Nat.le_trans h.size k.size, fun i hi hd => (k.block i hi hd).trans (h.block i hi hd)⟩
theorem But.mono {d B B' : Nat} {w w' : World} (h : But d B w w') (hB : B' ≤ B) : But d B' w w' := ⟨h.os, h.tape, h.output, h.size, fun k hk => h.block k (Nat.lt_of_lt_of_le hk hB)⟩
theorem But.of {d B : Nat} {w w' : World} (h : Below B w w') : But d B w w' := ⟨h.os, h.tape, h.output, h.size, fun k hk _ => h.block k hk⟩
theorem But.store {d B : Nat} {a w : World} (h : But d B a w) (o : Nat) (u : Value) : But d B a (w.setCell ⟨d, o, none⟩ u) :=
  h.trans ⟨rfl, rfl, rfl, by simp [World.setCell], fun k _ hd => Below.heap_setCell _ _ _ _ hd⟩
theorem But.below {d B : Nat} {w w' : World} (h : But d B w w') (hB : B ≤ d) : Below B w w' := ⟨h.os, h.tape, h.output, h.size, fun k hk => h.block k hk (by omega)⟩

structure DSt where
  coding : Int
  place : Int
  sat : Int
  sval : Nat
  want : Nat
  lo : UInt8
  hi : UInt8

structure DecAt (w : World) (d : Nat) (D : DSt) : Prop where
  c0 : w.cell? ⟨d, 0, none⟩ = some (.int .i64 D.coding)
  c1 : w.cell? ⟨d, 1, none⟩ = some (.int .i64 D.place)
  c2 : w.cell? ⟨d, 2, none⟩ = some (.int .i64 D.sat)
  c3 : w.cell? ⟨d, 3, none⟩ = some (.int .i64 (D.sval : Int))
  c4 : w.cell? ⟨d, 4, none⟩ = some (.int .i64 (D.want : Int))
  c5 : w.cell? ⟨d, 5, none⟩ = some (.int .u8 (D.lo.toNat : Int))
  c6 : w.cell? ⟨d, 6, none⟩ = some (.int .u8 (D.hi.toNat : Int))
  f : ∀ j, w.frozen? ⟨d, j, none⟩ = false

theorem DecAt.below {w w' : World} {d B : Nat} {D : DSt} (h : DecAt w d D) (hb : Below B w w') (hd : d < B) : DecAt w' d D :=
  ⟨(hb.cell (p := ⟨d, 0, none⟩) hd).trans h.c0, (hb.cell (p := ⟨d, 1, none⟩) hd).trans h.c1, (hb.cell (p := ⟨d, 2, none⟩) hd).trans h.c2, (hb.cell (p := ⟨d, 3, none⟩) hd).trans h.c3,
   (hb.cell (p := ⟨d, 4, none⟩) hd).trans h.c4, (hb.cell (p := ⟨d, 5, none⟩) hd).trans h.c5, (hb.cell (p := ⟨d, 6, none⟩) hd).trans h.c6, fun j => (hb.frozen (p := ⟨d, j, none⟩) hd).trans (h.f j)⟩

theorem DecAt.store {w : World} {d : Nat} {D : DSt} (h : DecAt w d D) (o : Nat) (u : Value) (D' : DSt)
    (e0 : Value.int .i64 D'.coding = if o = 0 then u else .int .i64 D.coding) (e1 : Value.int .i64 D'.place = if o = 1 then u else .int .i64 D.place) (e2 : Value.int .i64 D'.sat = if o = 2 then u else .int .i64 D.sat)
    (e3 : Value.int .i64 (D'.sval : Int) = if o = 3 then u else .int .i64 (D.sval : Int)) (e4 : Value.int .i64 (D'.want : Int) = if o = 4 then u else .int .i64 (D.want : Int))
    (e5 : Value.int .u8 (D'.lo.toNat : Int) = if o = 5 then u else .int .u8 (D.lo.toNat : Int)) (e6 : Value.int .u8 (D'.hi.toNat : Int) = if o = 6 then u else .int .u8 (D.hi.toNat : Int)) : DecAt (w.setCell ⟨d, o, none⟩ u) d D' := by
  have key : ∀ (j : Nat) (x : Value), w.cell? ⟨d, j, none⟩ = some x → (w.setCell ⟨d, o, none⟩ u).cell? ⟨d, j, none⟩ = some (if o = j then u else x) := by
    intro j x hx
    by_cases e : o = j
    · subst e
      rw [if_pos rfl]
      exact World.cell?_setCell_same _ _ _ hx
    · rw [if_neg e, World.cell?_setCell_other w ⟨d, o, none⟩ ⟨d, j, none⟩ u (by intro h; injection h with _ h _; exact e h)]
      exact hx
  refine ⟨?_, ?_, ?_, ?_, ?_, ?_, ?_, fun j => by rw [World.frozen?_setCell]; exact h.f j⟩
  · rw [key 0 _ h.c0, e0]
  · rw [key 1 _ h.c1, e1]
  · rw [key 2 _ h.c2, e2]
  · rw [key 3 _ h.c3, e3]
  · rw [key 4 _ h.c4, e4]
  · rw [key 5 _ h.c5, e5]
  · rw [key 6 _ h.c6, e6]

/-- Behind a step: what is told more, how the decoder stands. -/
def Fed (w w' : World) (d tb base : Nat) (D : DSt) (rs : List (Int × Int)) (ws : List Int) : Prop := ∃ vr vw, ToldAt w' tb base vr vw rs ws ∧ DecAt w' d D ∧ But d tb w w'

def DSt.shut (D : DSt) : DSt := { D with sat := 0, sval := 0, want := 0, lo := 0, hi := 0 }

theorem byte_all {Q : UInt8 → Prop} (h : ∀ n : Fin 256, Q (UInt8.ofNat n.val)) (c : UInt8) : Q c := by
  have := h ⟨c.toNat, c.toNat_lt⟩
  simpa using this

def fitsB (lo hi b : UInt8) : Bool := decide ((lo.toNat : Int) ≤ (b.toNat : Int)) && decide ((b.toNat : Int) ≤ (hi.toNat : Int))

theorem fits_any (d : Nat) (D : DSt) (b : UInt8) (w : World) (hD : DecAt w d D) :
    Calls Tryz.prog 57 #[.pointer (some ⟨d, 2, none⟩), .int .u8 (b.toNat : Int)] w fun e w' => e = .returned (.bool (fitsB D.lo D.hi b)) ∧ w' = w := by
  have h5 := hD.c5
  have h6 := hD.c6
  clear hD
  unfold fitsB
  go_enter Tryz.func57, Tryz.ntmps57
  go_wp2
  all_goals go_ret
  all_goals exact ⟨by first | (simp [*]; done) | (simp [*]; omega), rfl⟩

def secLo (b : UInt8) : UInt8 := if b = 224 then 160 else if b = 240 then 144 else 128
def secHi (b : UInt8) : UInt8 := if b = 237 then 159 else if b = 244 then 143 else 191

theorem second_any (b : UInt8) (w : World) :
    Calls Tryz.prog 142 #[.int .u8 (b.toNat : Int)] w fun e w' => e = .returned (.tuple #[.int .u8 ((secLo b).toNat : Int), .int .u8 ((secHi b).toNat : Int)]) ∧ w' = w := by
  have hk : ∀ k : UInt8, ((b.toNat : Int) = (k.toNat : Int)) ↔ b = k := fun k => ⟨fun h => UInt8.toNat_inj.1 (by omega), fun h => by rw [h]⟩
  by_cases e1 : b = 224
  · subst e1
    go_enter Tryz.func142, Tryz.ntmps142
    go_wp2
    all_goals go_ret2
    all_goals exact ⟨rfl, rfl⟩
  by_cases e2 : b = 237
  · subst e2
    go_enter Tryz.func142, Tryz.ntmps142
    go_wp2
    all_goals go_ret2
    all_goals exact ⟨rfl, rfl⟩
  by_cases e3 : b = 240
  · subst e3
    go_enter Tryz.func142, Tryz.ntmps142
    go_wp2
    all_goals go_ret2
    all_goals exact ⟨rfl, rfl⟩
  by_cases e4 : b = 244
  · subst e4
    go_enter Tryz.func142, Tryz.ntmps142
    go_wp2
    all_goals go_ret2
    all_goals exact ⟨rfl, rfl⟩
  have n1 : ¬ ((b.toNat : Int) = 224) := fun h => e1 ((hk 224).1 h)
  have n2 : ¬ ((b.toNat : Int) = 237) := fun h => e2 ((hk 237).1 h)
  have n3 : ¬ ((b.toNat : Int) = 240) := fun h => e3 ((hk 240).1 h)
  have n4 : ¬ ((b.toNat : Int) = 244) := fun h => e4 ((hk 244).1 h)
  have l1 : secLo b = 128 := by simp [secLo, e1, e3]
  have l2 : secHi b = 191 := by simp [secHi, e2, e4]
  rw [l1, l2]
  clear hk e1 e2 e3 e4 l1 l2
  go_enter Tryz.func142, Tryz.ntmps142
  go_wp2
  all_goals go_ret2
  all_goals exact ⟨rfl, rfl⟩

/-- A sequence is laid into the decoder. -/
theorem fed_lay {w w1 : World} {d tb base : Nat} {vr vw : Value} {D : DSt} {rs : List (Int × Int)} {ws : List Int} (hT : ToldAt w1 tb base vr vw rs ws) (hD : DecAt w1 d D) (hb : But d tb w w1) (hlt : d < tb)
    (a : Int) (v n : Nat) (l h : UInt8) :
    Fed w (((((w1.setCell ⟨d, 2, none⟩ (.int .i64 a)).setCell ⟨d, 3, none⟩ (.int .i64 (v : Int))).setCell ⟨d, 4, none⟩ (.int .i64 (n : Int))).setCell ⟨d, 5, none⟩ (.int .u8 (l.toNat : Int))).setCell ⟨d, 6, none⟩ (.int .u8 (h.toNat : Int)))
      d tb base { D with sat := a, sval := v, want := n, lo := l, hi := h } rs ws := by
  refine ⟨vr, vw, ((((hT.store ?_ _).store ?_ _).store ?_ _).store ?_ _).store ?_ _, ?_, ((((hb.store _ _).store _ _).store _ _).store _ _).store _ _⟩
  · exact hlt
  · exact hlt
  · exact hlt
  · exact hlt
  · exact hlt
  have s2 := hD.store 2 (.int .i64 a) { D with sat := a } rfl rfl rfl rfl rfl rfl rfl
  have s3 := s2.store 3 (.int .i64 (v : Int)) { D with sat := a, sval := v } rfl rfl rfl rfl rfl rfl rfl
  have s4 := s3.store 4 (.int .i64 (n : Int)) { D with sat := a, sval := v, want := n } rfl rfl rfl rfl rfl rfl rfl
  have s5 := s4.store 5 (.int .u8 (l.toNat : Int)) { D with sat := a, sval := v, want := n, lo := l } rfl rfl rfl rfl rfl rfl rfl
  exact s5.store 6 (.int .u8 (h.toNat : Int)) { D with sat := a, sval := v, want := n, lo := l, hi := h } rfl rfl rfl rfl rfl rfl rfl

set_option maxHeartbeats 1000000 in
theorem giveUp_any (d tb base : Nat) (vr vw : Value) (D : DSt) (rs : List (Int × Int)) (ws : List Int) (w : World) (hD : DecAt w d D) (hT : ToldAt w tb base vr vw rs ws) (hlt : d < tb) (hn : rs.length < 4398046511104) (hn2 : ws.length < 4398046511104) :
    Calls Tryz.prog 44 #[.pointer (some ⟨d, 0, none⟩), .pointer (some ⟨tb, 0, none⟩)] w fun e w' => e = .returned (.tuple #[]) ∧ Fed w w' d tb base D.shut (rs ++ [(65533, D.sat)]) (ws ++ [D.sat]) := by
  have HC : Hid _ := bad_any tb base vr vw rs ws D.sat w hT hn hn2
  have h2 := hD.c2
  have HD : Hid _ := hD
  clear hT hD
  go_enter Tryz.func44, Tryz.ntmps44
  go_wp2_with fail
  refine Calls.mono HC.out ?_
  rintro e w1 ⟨rfl, vr1, vw1, hT1, hb1⟩
  have hD1 := DecAt.below HD.out hb1 hlt
  have HT1 : Hid _ := hT1
  have HD1 : Hid (DecAt w1 d D) := hD1
  have k2 := hD1.c2
  have k3 := hD1.c3
  have k4 := hD1.c4
  have k5 := hD1.c5
  have k6 := hD1.c6
  have kf := hD1.f
  clear HC h2 HD hD1 hT1
  go_wp2
  go_end0
  exact ⟨rfl, fed_lay HT1.out HD1.out (But.of hb1) hlt 0 0 0 0 0⟩

def opVal (b : UInt8) : Nat := if b < 224 then b.toNat % 32 else if b < 240 then b.toNat % 16 else b.toNat % 8
def opWant (b : UInt8) : Nat := if b < 224 then 1 else if b < 240 then 2 else 3

set_option maxRecDepth 100000 in
set_option maxHeartbeats 1000000 in
theorem opened_any (b : UInt8) (a : Int) (w : World) :
    Calls Tryz.prog 94 #[.int .u8 (b.toNat : Int), .int .i64 a] w fun e w' => e = .returned (.agg #[.int .i64 a, .int .i64 (opVal b : Int), .int .i64 (opWant b : Int), .int .u8 ((secLo b).toNat : Int), .int .u8 ((secHi b).toNat : Int)]) ∧ Below w.heap.size w w' := by
  have HC : Hid (∀ w, Calls Tryz.prog 142 #[.int .u8 (b.toNat : Int)] w fun e w' => e = .returned (.tuple #[.int .u8 ((secLo b).toNat : Int), .int .u8 ((secHi b).toNat : Int)]) ∧ w' = w) := fun w => second_any b w
  go_enter Tryz.func94, Tryz.ntmps94
  go_wp2_with fail
  refine Calls.mono (HC.out _) ?_
  rintro e w1 ⟨rfl, rfl⟩
  have hbl : ∀ o1 o2, Below w.heap.size w ((w.alloc o1).alloc o2) := fun o1 o2 => ((Below.refl _ _).alloc (Nat.le_refl _) o1).alloc (by simp) o2
  have HBL : Hid _ := hbl
  clear hbl HC
  by_cases h1 : b < 224
  · have g1 : (b.toNat : Int) < 224 := by have := UInt8.lt_iff_toNat_lt.1 h1; simp at this; omega
    have HV : Hid ((opVal b : Int) = (b.toNat : Int) % 32 ∧ (opWant b : Int) = 1) := ⟨by simp [opVal, h1], by simp [opWant, h1]⟩
    clear h1
    go_wp2
    exact bodyPost_ret (v := .agg #[.int .i64 a, .int .i64 ((b.toNat : Int) % 32), .int .i64 1, .int .u8 ((secLo b).toNat : Int), .int .u8 ((secHi b).toNat : Int)]) (by simp [results, Tryz.results94, go_sem]) rfl ⟨by rw [HV.out.1, HV.out.2], HBL.out _ _⟩
  have g1 : ¬ (b.toNat : Int) < 224 := by
    intro h
    exact h1 (UInt8.lt_iff_toNat_lt.2 (by simp; omega))
  by_cases h2 : b < 240
  · have g2 : (b.toNat : Int) < 240 := by have := UInt8.lt_iff_toNat_lt.1 h2; simp at this; omega
    have HV : Hid ((opVal b : Int) = (b.toNat : Int) % 16 ∧ (opWant b : Int) = 2) := ⟨by simp [opVal, h1, h2], by simp [opWant, h1, h2]⟩
    clear h1 h2
    go_wp2
    exact bodyPost_ret (v := .agg #[.int .i64 a, .int .i64 ((b.toNat : Int) % 16), .int .i64 2, .int .u8 ((secLo b).toNat : Int), .int .u8 ((secHi b).toNat : Int)]) (by simp [results, Tryz.results94, go_sem]) rfl ⟨by rw [HV.out.1, HV.out.2], HBL.out _ _⟩
  have g2 : ¬ (b.toNat : Int) < 240 := by
    intro h
    exact h2 (UInt8.lt_iff_toNat_lt.2 (by simp; omega))
  have HV : Hid ((opVal b : Int) = (b.toNat : Int) % 8 ∧ (opWant b : Int) = 3) := ⟨by simp [opVal, h1, h2], by simp [opWant, h1, h2]⟩
  have b1 : bits .and .u8 (b.toNat : Int) 7 = (b.toNat : Int) % 8 := u8_and7 _ (by omega) (by have := b.toNat_lt; omega)
  have b2 : wrap64 ((b.toNat : Int) % 8) = (b.toNat : Int) % 8 := by unfold wrap64; omega
  clear h1 h2
  go_wp2
  exact bodyPost_ret (v := .agg #[.int .i64 a, .int .i64 ((b.toNat : Int) % 8), .int .i64 3, .int .u8 ((secLo b).toNat : Int), .int .u8 ((secHi b).toNat : Int)]) (by simp [results, Tryz.results94, go_sem]) rfl ⟨by rw [HV.out.1, HV.out.2], HBL.out _ _⟩

/-- What a first byte makes of the decoder, and what it tells. -/
def beginD (D : DSt) (b : UInt8) : DSt := if b < 194 || b > 244 then D else { D with sat := D.place, sval := opVal b, want := opWant b, lo := secLo b, hi := secHi b }
def beginR (D : DSt) (b : UInt8) : List (Int × Int) := if b < 128 then [((b.toNat : Int), D.place)] else if b < 194 || b > 244 then [(65533, D.place)] else []
def beginW (D : DSt) (b : UInt8) : List Int := if b < 128 then [] else if b < 194 || b > 244 then [D.place] else []

set_option maxHeartbeats 1000000 in
theorem begin_any (d tb base : Nat) (vr vw : Value) (D : DSt) (rs : List (Int × Int)) (ws : List Int) (b : UInt8) (w : World) (hD : DecAt w d D) (hT : ToldAt w tb base vr vw rs ws) (hlt : d < tb) (hn : rs.length < 4398046511104) (hn2 : ws.length < 4398046511104) :
    Calls Tryz.prog 59 #[.pointer (some ⟨d, 0, none⟩), .int .u8 (b.toNat : Int), .pointer (some ⟨tb, 0, none⟩)] w fun e w' => e = .returned (.tuple #[]) ∧ Fed w w' d tb base (beginD D b) (rs ++ beginR D b) (ws ++ beginW D b) := by
  have HT : Hid _ := hT
  have HD : Hid _ := hD
  have h1 := hD.c1
  have htb : tb < w.heap.size := Nat.lt_of_lt_of_le hT.lt hT.le
  by_cases g1 : b < 128
  · have HC : Hid _ := tell_any tb base vr vw rs ws (b.toNat : Int) D.place w hT (by omega)
    have gi : (b.toNat : Int) < 128 := by have := UInt8.lt_iff_toNat_lt.1 g1; simp at this; omega
    have g194 : b < 194 := by rw [UInt8.lt_iff_toNat_lt] at *; simp at *; omega
    have HV : Hid (beginD D b = D ∧ beginR D b = [((b.toNat : Int), D.place)] ∧ beginW D b = []) := ⟨by simp [beginD, g194], by simp [beginR, g1], by simp [beginW, g1]⟩
    clear hT hD g1 g194
    go_enter Tryz.func59, Tryz.ntmps59
    go_wp2_with fail
    refine Calls.mono HC.out ?_
    rintro e w1 ⟨rfl, vr1, vw1, hT1, hb1⟩
    go_wp2
    go_end0
    rw [HV.out.1, HV.out.2.1, HV.out.2.2, List.append_nil]
    exact ⟨rfl, vr1, vw1, hT1, DecAt.below HD.out hb1 hlt, But.of hb1⟩
  have gi : ¬ (b.toNat : Int) < 128 := by
    intro h
    exact g1 (UInt8.lt_iff_toNat_lt.2 (by simp; omega))
  by_cases g2 : b < 194 || b > 244
  · have HC : Hid _ := bad_any tb base vr vw rs ws D.place w hT hn hn2
    have HV : Hid (beginD D b = D ∧ beginR D b = [(65533, D.place)] ∧ beginW D b = [D.place]) := ⟨by simp only [beginD, g2]; rfl, by simp only [beginR, g1, g2]; rfl, by simp only [beginW, g1, g2]; rfl⟩
    have g3 : (b.toNat : Int) < 194 ∨ (¬ (b.toNat : Int) < 194 ∧ 244 < (b.toNat : Int)) := by
      simp [UInt8.lt_iff_toNat_lt] at g2
      omega
    clear hT hD g1 g2
    rcases g3 with g3 | ⟨g3, g4⟩
    · go_enter Tryz.func59, Tryz.ntmps59
      go_wp2_with fail
      refine Calls.mono HC.out ?_
      rintro e w1 ⟨rfl, vr1, vw1, hT1, hb1⟩
      go_wp2
      go_end0
      rw [HV.out.1, HV.out.2.1, HV.out.2.2]
      exact ⟨rfl, vr1, vw1, hT1, DecAt.below HD.out hb1 hlt, But.of hb1⟩
    · go_enter Tryz.func59, Tryz.ntmps59
      go_wp2_with fail
      refine Calls.mono HC.out ?_
      rintro e w1 ⟨rfl, vr1, vw1, hT1, hb1⟩
      go_wp2
      go_end0
      rw [HV.out.1, HV.out.2.1, HV.out.2.2]
      exact ⟨rfl, vr1, vw1, hT1, DecAt.below HD.out hb1 hlt, But.of hb1⟩
  have HV : Hid (beginD D b = { D with sat := D.place, sval := opVal b, want := opWant b, lo := secLo b, hi := secHi b } ∧ beginR D b = [] ∧ beginW D b = []) := ⟨by simp only [beginD, g2]; rfl, by simp only [beginR, g1, g2]; rfl, by simp only [beginW, g1, g2]; rfl⟩
  have HC : Hid (∀ w, Calls Tryz.prog 94 #[.int .u8 (b.toNat : Int), .int .i64 D.place] w fun e w' => e = .returned (.agg #[.int .i64 D.place, .int .i64 (opVal b : Int), .int .i64 (opWant b : Int), .int .u8 ((secLo b).toNat : Int), .int .u8 ((secHi b).toNat : Int)]) ∧ Below w.heap.size w w') := fun w => opened_any b D.place w
  have g3 : ¬ (b.toNat : Int) < 194 := by
    simp [UInt8.lt_iff_toNat_lt] at g2
    omega
  have g4 : ¬ 244 < (b.toNat : Int) := by
    simp [UInt8.lt_iff_toNat_lt] at g2
    omega
  clear hT hD g1 g2
  go_enter Tryz.func59, Tryz.ntmps59
  go_wp2_with fail
  refine Calls.mono (HC.out _) ?_
  rintro e w1 ⟨rfl, hb1⟩
  have hD1 := DecAt.below HD.out hb1 (Nat.lt_trans hlt htb)
  have HD1 : Hid (DecAt w1 d D) := hD1
  have k2 := hD1.c2
  have k3 := hD1.c3
  have k4 := hD1.c4
  have k5 := hD1.c5
  have k6 := hD1.c6
  have kf := hD1.f
  have HT1 : Hid _ := HT.out.below hb1
  have HB1 : Hid _ := hb1
  clear HC HD hD1 h1 hb1
  go_wp2
  go_end0
  rw [HV.out.1, HV.out.2.1, HV.out.2.2, List.append_nil, List.append_nil]
  exact ⟨rfl, fed_lay HT1.out HD1.out (But.of (HB1.out.mono (Nat.le_of_lt htb))) hlt _ _ _ _ _⟩

theorem and63 (b : UInt8) : bits .and .u8 (b.toNat : Int) 63 = (b.toNat : Int) % 64 := u8_and63 _ (by omega) (by have := b.toNat_lt; omega)

theorem or64 (v m : Nat) (hv : v < 2097152) (hm : m < 64) : bits .or .i64 ((v * 64 : Nat) : Int) (m : Int) = ((v * 64 + m : Nat) : Int) := by
  show IntKind.i64.wrap ((BitVec.ofInt 64 ((v * 64 : Nat) : Int) ||| BitVec.ofInt 64 (m : Int)).toNat : Int) = _
  have e : v * 64 ||| m = v * 64 + m := by
    have := Nat.shiftLeft_add_eq_or_of_lt (i := 6) (b := m) (by omega) v
    rw [Nat.shiftLeft_eq] at this
    exact this.symm
  rw [BitVec.toNat_or, ofInt_u64 (v * 64) (by omega), ofInt_u64 m (by omega), e]
  simp [IntKind.wrap, IntKind.bits, IntKind.signed]
  omega

/-- What a byte that fits makes of the decoder, and what it tells. -/
def goOnD (D : DSt) (b : UInt8) : DSt := if D.want = 1 then D.shut else { D with sval := D.sval * 64 + b.toNat % 64, want := D.want - 1, lo := 128, hi := 191 }
def goOnR (D : DSt) (b : UInt8) : List (Int × Int) := if D.want = 1 then [(((D.sval * 64 + b.toNat % 64 : Nat) : Int), D.sat)] else []

/-- The four stores of a byte that fits. -/
theorem fed_four {w w1 : World} {d tb base : Nat} {vr vw : Value} {D : DSt} {rs : List (Int × Int)} {ws : List Int} (hT : ToldAt w1 tb base vr vw rs ws) (hD : DecAt w1 d D) (hb : But d tb w w1) (hlt : d < tb)
    (x y : Int) (v n : Nat) (hx : x = (v : Int)) (hy : y = (n : Int)) :
    ToldAt ((((w1.setCell ⟨d, 3, none⟩ (.int .i64 x)).setCell ⟨d, 4, none⟩ (.int .i64 y)).setCell ⟨d, 5, none⟩ (.int .u8 128)).setCell ⟨d, 6, none⟩ (.int .u8 191)) tb base vr vw rs ws ∧
    DecAt ((((w1.setCell ⟨d, 3, none⟩ (.int .i64 x)).setCell ⟨d, 4, none⟩ (.int .i64 y)).setCell ⟨d, 5, none⟩ (.int .u8 128)).setCell ⟨d, 6, none⟩ (.int .u8 191)) d { D with sval := v, want := n, lo := 128, hi := 191 } ∧
    But d tb w ((((w1.setCell ⟨d, 3, none⟩ (.int .i64 x)).setCell ⟨d, 4, none⟩ (.int .i64 y)).setCell ⟨d, 5, none⟩ (.int .u8 128)).setCell ⟨d, 6, none⟩ (.int .u8 191)) := by
  subst hx hy
  refine ⟨(((hT.store ?_ _).store ?_ _).store ?_ _).store ?_ _, ?_, (((hb.store _ _).store _ _).store _ _).store _ _⟩
  · exact hlt
  · exact hlt
  · exact hlt
  · exact hlt
  have s3 := hD.store 3 (.int .i64 (v : Int)) { D with sval := v } rfl rfl rfl rfl rfl rfl rfl
  have s4 := s3.store 4 (.int .i64 (n : Int)) { D with sval := v, want := n } rfl rfl rfl rfl rfl rfl rfl
  have s5 := s4.store 5 (.int .u8 128) { D with sval := v, want := n, lo := 128 } rfl rfl rfl rfl rfl rfl rfl
  exact s5.store 6 (.int .u8 191) { D with sval := v, want := n, lo := 128, hi := 191 } rfl rfl rfl rfl rfl rfl rfl

set_option maxHeartbeats 1000000 in
theorem goOn_any (d tb base : Nat) (vr vw : Value) (D : DSt) (rs : List (Int × Int)) (ws : List Int) (b : UInt8) (w : World) (hD : DecAt w d D) (hT : ToldAt w tb base vr vw rs ws) (hlt : d < tb) (hn : rs.length < 4398046511104) (hw1 : 0 < D.want) (hw2 : D.want ≤ 3) (hv : D.sval < 2097152) :
    Calls Tryz.prog 58 #[.pointer (some ⟨d, 0, none⟩), .int .u8 (b.toNat : Int), .pointer (some ⟨tb, 0, none⟩)] w fun e w' => e = .returned (.tuple #[]) ∧ Fed w w' d tb base (goOnD D b) (rs ++ goOnR D b) ws := by
  have HF : Hid _ := fun (y : Int) (n : Nat) (hy : y = (n : Int)) => fed_four (D := D) hT hD (But.refl d tb w) hlt ((D.sval : Int) * 64 + (b.toNat : Int) % 64) y (D.sval * 64 + b.toNat % 64) n (by simp) hy
  have k2 := hD.c2
  have k3 := hD.c3
  have k4 := hD.c4
  have k5 := hD.c5
  have k6 := hD.c6
  have kf := hD.f
  have b1 := and63 b
  have b2 : wrap64 ((b.toNat : Int) % 64) = (b.toNat : Int) % 64 := by unfold wrap64; omega
  have b3 : bits .or .i64 ((D.sval : Int) * 64) ((b.toNat : Int) % 64) = (D.sval : Int) * 64 + (b.toNat : Int) % 64 := by
    have := or64 D.sval (b.toNat % 64) hv (by omega)
    simpa using this
  clear hT hD
  by_cases g1 : D.want = 1
  · have gi : (D.want : Int) = 1 := by omega
    have F := HF.out 0 0 rfl
    have HV : Hid (goOnD D b = D.shut ∧ goOnR D b = [(((D.sval * 64 + b.toNat % 64 : Nat) : Int), D.sat)]) := ⟨by simp [goOnD, g1], by simp [goOnR, g1]⟩
    clear HF g1
    have HF : Hid _ := F
    clear F
    go_enter Tryz.func58, Tryz.ntmps58
    go_upto_region 5 with fail
    have F := HF.out
    clear HF k2 k3 k4 k5 k6 kf b1 b2 b3
    revert F
    generalize ((((w.setCell ⟨d, 3, none⟩ (.int .i64 ((D.sval : Int) * 64 + (b.toNat : Int) % 64))).setCell ⟨d, 4, none⟩ (.int .i64 0)).setCell ⟨d, 5, none⟩ (.int .u8 128)).setCell ⟨d, 6, none⟩ (.int .u8 191)) = w4
    intro F
    obtain ⟨hT4, hD4, hb4⟩ := F
    have HT4 : Hid _ := hT4
    have HD4 : Hid _ := hD4
    have HB4 : Hid _ := hb4
    have k2 := hD4.c2
    have k3 := hD4.c3
    simp only [Int.natCast_add, Int.natCast_mul, Int.natCast_emod, Int.cast_ofNat_Int] at k2 k3
    have HC : Hid (∀ w', Below w4.heap.size w4 w' → Calls Tryz.prog 37 #[.pointer (some ⟨tb, 0, none⟩), .int .i64 ((D.sval : Int) * 64 + (b.toNat : Int) % 64), .int .i64 D.sat] w' fun e w'' => e = .returned (.tuple #[]) ∧ Told w' w'' tb base (rs ++ [((D.sval : Int) * 64 + (b.toNat : Int) % 64, D.sat)]) ws) :=
      fun w' hb => tell_any tb base vr vw rs ws _ D.sat w' (HT4.out.below hb) (by omega)
    have htb : tb ≤ w4.heap.size := Nat.le_of_lt (Nat.lt_of_lt_of_le hT4.lt hT4.le)
    clear hT4 hD4 hb4
    go_cut [] (fun wx => ∃ vr' vw', ToldAt wx tb base vr' vw' (rs ++ [((D.sval : Int) * 64 + (b.toNat : Int) % 64, D.sat)]) ws ∧ Below tb w4 wx)
    case first =>
      go_region_with (go_at_call 37; refine Calls.mono (HC.out _ (by repeat (first | exact Below.refl _ _ | apply Below.drew))) ?_; rintro e w' ⟨rfl, vr', vw', hT', hb'⟩)
      all_goals
        go_wp2_with fail
        go_meet
        exact ⟨_, _, hT', Below.trans (by repeat (first | exact Below.refl _ _ | apply Below.drew)) hb'⟩
    case rest =>
      obtain ⟨vr', vw', hT5, hb5⟩ := hcut
      have hD5 := DecAt.below HD4.out hb5 hlt
      have HT5 : Hid _ := hT5
      have HD5 : Hid (DecAt wc d _) := hD5
      have HB5 : Hid _ := HB4.out.trans (But.of hb5)
      clear k2 k3 hT5 hb5 HC
      have k2 := hD5.c2
      have k3 := hD5.c3
      have k4 := hD5.c4
      have k5 := hD5.c5
      have k6 := hD5.c6
      have kf := hD5.f
      clear hD5
      go_wp2
      go_end0
      rw [HV.out.1, HV.out.2]
      have e : ((D.sval * 64 + b.toNat % 64 : Nat) : Int) = (D.sval : Int) * 64 + (b.toNat : Int) % 64 := by simp
      rw [e]
      exact ⟨rfl, fed_lay HT5.out HD5.out HB5.out hlt 0 0 0 0 0⟩
  have gi : ¬ (D.want : Int) = 1 := by omega
  have g2 : wrap64 ((D.want : Int) - 1) = (D.want : Int) - 1 := by unfold wrap64; omega
  have g3 : ¬ (D.want : Int) - 1 = 0 := by omega
  have F := HF.out ((D.want : Int) - 1) (D.want - 1) (by omega)
  have HV : Hid (goOnD D b = { D with sval := D.sval * 64 + b.toNat % 64, want := D.want - 1, lo := 128, hi := 191 } ∧ goOnR D b = []) := ⟨by simp [goOnD, g1], by simp [goOnR, g1]⟩
  clear HF g1
  have HF : Hid _ := F
  clear F
  go_enter Tryz.func58, Tryz.ntmps58
  go_wp2
  go_end0
  rw [HV.out.1, HV.out.2, List.append_nil]
  exact ⟨rfl, vr, vw, HF.out.1, HF.out.2.1, HF.out.2.2⟩
end Go.Proofs.YtgdjknbbjpcoiaaGreatDoor

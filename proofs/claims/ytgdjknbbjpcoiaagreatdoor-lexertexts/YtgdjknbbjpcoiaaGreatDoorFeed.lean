/-
  New, Feed and End of the decoder.
-/
import Derived.Test.YtgdjknbbjpcoiaaGreatDoorDec
namespace Go.Proofs.YtgdjknbbjpcoiaaGreatDoor
open Go.RowKit

def DOk (D : DSt) : Prop := D.want = 0 ∨ (D.want = 1 ∧ D.sval < 32768) ∨ (D.want = 2 ∧ D.sval < 512) ∨ (D.want = 3 ∧ D.sval < 8)

def takeD (D : DSt) (b : UInt8) : DSt := if 0 < D.want then (if fitsB D.lo D.hi b then goOnD D b else beginD D.shut b) else beginD D b
def takeR (D : DSt) (b : UInt8) : List (Int × Int) := if 0 < D.want then (if fitsB D.lo D.hi b then goOnR D b else (65533, D.sat) :: beginR D.shut b) else beginR D b
def takeW (D : DSt) (b : UInt8) : List Int := if 0 < D.want then (if fitsB D.lo D.hi b then [] else D.sat :: beginW D.shut b) else beginW D b

theorem beginD_ok (D : DSt) (b : UInt8) (h : D.want = 0) : DOk (beginD D b) := by
  unfold beginD
  split
  · exact .inl h
  · by_cases h1 : b < 224
    · exact .inr (.inl ⟨by simp [opWant, h1], by simp only [opVal, h1, if_true]; omega⟩)
    · by_cases h2 : b < 240
      · exact .inr (.inr (.inl ⟨by simp [opWant, h1, h2], by simp only [opVal, h1, h2, if_true, if_false]; omega⟩))
      · exact .inr (.inr (.inr ⟨by simp [opWant, h1, h2], by simp only [opVal, h1, h2, if_false]; omega⟩))

theorem takeD_ok (D : DSt) (b : UInt8) (h : DOk D) : DOk (takeD D b) := by
  unfold takeD
  split
  · split
    · unfold goOnD
      split
      · exact .inl rfl
      · rename_i h1 _ h2
        unfold DOk at h ⊢
        simp only []
        omega
    · exact beginD_ok _ _ rfl
  · rename_i h1
    exact beginD_ok _ _ (by omega)

theorem beginD_coding (D : DSt) (b : UInt8) : (beginD D b).coding = D.coding ∧ (beginD D b).place = D.place := by
  unfold beginD
  split <;> exact ⟨rfl, rfl⟩

theorem takeD_coding (D : DSt) (b : UInt8) : (takeD D b).coding = D.coding ∧ (takeD D b).place = D.place := by
  unfold takeD
  split
  · split
    · unfold goOnD
      split <;> exact ⟨rfl, rfl⟩
    · exact beginD_coding _ _
  · exact beginD_coding _ _

theorem beginR_len (D : DSt) (b : UInt8) : (beginR D b).length ≤ 1 ∧ (beginW D b).length ≤ 1 := by
  unfold beginR beginW
  by_cases h1 : b < 128
  · simp [h1]
  · by_cases h2 : (b < 194 || b > 244) = true
    · simp only [h1, h2]; simp
    · simp only [h1, h2]; simp

theorem takeR_len (D : DSt) (b : UInt8) : (takeR D b).length ≤ 2 ∧ (takeW D b).length ≤ 2 := by
  have h1 := beginR_len D b
  have h2 := beginR_len D.shut b
  unfold takeR takeW
  split
  · split
    · unfold goOnR
      split <;> simp
    · simp only [List.length_cons]; omega
  · omega

set_option maxHeartbeats 1000000 in
theorem take_any (d tb base : Nat) (vr vw : Value) (D : DSt) (rs : List (Int × Int)) (ws : List Int) (b : UInt8) (w : World) (hD : DecAt w d D) (hT : ToldAt w tb base vr vw rs ws) (hlt : d < tb) (hn : rs.length < 4000000000000) (hn2 : ws.length < 4000000000000) (hok : DOk D) :
    Calls Tryz.prog 36 #[.pointer (some ⟨d, 0, none⟩), .int .u8 (b.toNat : Int), .pointer (some ⟨tb, 0, none⟩)] w fun e w' => e = .returned (.tuple #[]) ∧ Fed w w' d tb base (takeD D b) (rs ++ takeR D b) (ws ++ takeW D b) := by
  have k4 := hD.c4
  have HD : Hid _ := hD
  have HT : Hid _ := hT
  have HOK : Hid (DOk D) := hok
  by_cases g1 : 0 < D.want
  · have gi : (0 : Int) < (D.want : Int) := by omega
    have HC : Hid _ := fits_any d D b w hD
    cases g2 : fitsB D.lo D.hi b
    · have HV : Hid (takeD D b = beginD D.shut b ∧ takeR D b = (65533, D.sat) :: beginR D.shut b ∧ takeW D b = D.sat :: beginW D.shut b) := ⟨by simp [takeD, g1, g2], by simp [takeR, g1, g2], by simp [takeW, g1, g2]⟩
      have HG : Hid _ := giveUp_any d tb base vr vw D rs ws w hD hT hlt (by omega) (by omega)
      rw [g2] at HC
      clear hT hD hok g1 g2
      go_enter Tryz.func36, Tryz.ntmps36
      go_wp2_with fail
      refine Calls.mono HC.out ?_
      rintro e w1 ⟨rfl, rfl⟩
      go_wp2_with fail
      refine Calls.mono HG.out ?_
      rintro e w2 ⟨rfl, vr2, vw2, hT2, hD2, hb2⟩
      have HB : Hid _ := begin_any d tb base vr2 vw2 D.shut _ _ b w2 hD2 hT2 hlt (by simp; omega) (by simp; omega)
      clear k4
      have k4 : w2.cell? ⟨d, 4, none⟩ = some (.int .i64 0) := hD2.c4
      clear hT2 hD2
      go_wp2_with fail
      refine Calls.mono HB.out ?_
      rintro e w3 ⟨rfl, vr3, vw3, hT3, hD3, hb3⟩
      go_wp2
      go_end0
      rw [HV.out.1, HV.out.2.1, HV.out.2.2]
      exact ⟨rfl, vr3, vw3, by simpa using hT3, hD3, hb2.trans hb3⟩
    · have HV : Hid (takeD D b = goOnD D b ∧ takeR D b = goOnR D b ∧ takeW D b = []) := ⟨by simp [takeD, g1, g2], by simp [takeR, g1, g2], by simp [takeW, g1, g2]⟩
      have HG : Hid _ := goOn_any d tb base vr vw D rs ws b w hD hT hlt (by omega) g1 (by unfold DOk at hok; omega) (by unfold DOk at hok; omega)
      rw [g2] at HC
      clear hT hD hok g1 g2
      go_enter Tryz.func36, Tryz.ntmps36
      go_wp2_with fail
      refine Calls.mono HC.out ?_
      rintro e w1 ⟨rfl, rfl⟩
      go_wp2_with fail
      refine Calls.mono HG.out ?_
      rintro e w3 ⟨rfl, vr3, vw3, hT3, hD3, hb3⟩
      go_wp2
      go_end0
      rw [HV.out.1, HV.out.2.1, HV.out.2.2, List.append_nil]
      exact ⟨rfl, vr3, vw3, hT3, hD3, hb3⟩
  · have gi : (D.want : Int) = 0 := by omega
    have HV : Hid (takeD D b = beginD D b ∧ takeR D b = beginR D b ∧ takeW D b = beginW D b) := ⟨by simp [takeD, g1], by simp [takeR, g1], by simp [takeW, g1]⟩
    have HB : Hid _ := begin_any d tb base vr vw D rs ws b w hD hT hlt (by omega) (by omega)
    clear hT hD hok g1
    go_enter Tryz.func36, Tryz.ntmps36
    go_wp2_with fail
    refine Calls.mono HB.out ?_
    rintro e w3 ⟨rfl, vr3, vw3, hT3, hD3, hb3⟩
    go_wp2
    go_end0
    rw [HV.out.1, HV.out.2.1, HV.out.2.2]
    exact ⟨rfl, vr3, vw3, hT3, hD3, hb3⟩

def winTab : List Int := [8364, 129, 8218, 402, 8222, 8230, 8224, 8225, 710, 8240, 352, 8249, 338, 141, 381, 143, 144, 8216, 8217, 8220, 8221, 8226, 8211, 8212, 732, 8482, 353, 8250, 339, 157, 382, 376]
def winV (b : UInt8) : Int := if 128 ≤ b ∧ b < 160 then winTab.getD (b.toNat - 128) 0 else (b.toNat : Int)
def IsWin (w : World) : Prop := ∀ k, k < 32 → w.cell? ⟨0, k, none⟩ = some (.int .i64 (winTab.getD k 0))

set_option maxRecDepth 100000 in
set_option maxHeartbeats 1000000 in
theorem windows_any (b : UInt8) (w : World) (hW : IsWin w) :
    Calls Tryz.prog 38 #[.int .u8 (b.toNat : Int)] w fun e w' => e = .returned (.int .i64 (winV b)) ∧ w' = w := by
  by_cases h1 : 128 ≤ b
  · have g1 : (128 : Int) ≤ (b.toNat : Int) := by have := UInt8.le_iff_toNat_le.1 h1; simp at this; omega
    by_cases h2 : b < 160
    · have g2 : (b.toNat : Int) < 160 := by have := UInt8.lt_iff_toNat_lt.1 h2; simp at this; omega
      obtain ⟨k, hk⟩ : ∃ k : Nat, b.toNat = k + 128 := ⟨b.toNat - 128, by omega⟩
      have hc := hW k (by omega)
      have HV : Hid (winV b = winTab.getD k 0) := by
        show _ = _
        simp [winV, h1, h2, hk]
      generalize winTab.getD k 0 = x at hc HV
      rw [hk] at g1 g2 ⊢
      have kk : ((k + 128 : Nat) : Int) - 128 = (k : Int) := by omega
      have k32 : (k : Int) < 32 := by omega
      clear h1 h2 hW hk
      go_enter Tryz.func38, Tryz.ntmps38
      go_wp2
      go_ret
      rw [HV.out]
      exact ⟨rfl, rfl⟩
    · have g2 : ¬ (b.toNat : Int) < 160 := fun h => h2 (UInt8.lt_iff_toNat_lt.2 (by simp; omega))
      have HV : Hid (winV b = (b.toNat : Int)) := by
        show _ = _
        simp [winV, h2]
      have b2 : wrap64 (b.toNat : Int) = (b.toNat : Int) := by have := b.toNat_lt; unfold wrap64; omega
      clear h1 h2 hW
      go_enter Tryz.func38, Tryz.ntmps38
      go_wp2
      go_ret
      rw [HV.out]
      exact ⟨rfl, rfl⟩
  · have g1 : ¬ (128 : Int) ≤ (b.toNat : Int) := fun h => h1 (UInt8.le_iff_toNat_le.2 (by simp; omega))
    have HV : Hid (winV b = (b.toNat : Int)) := by
      show _ = _
      simp [winV, h1]
    have b2 : wrap64 (b.toNat : Int) = (b.toNat : Int) := by have := b.toNat_lt; unfold wrap64; omega
    clear h1 hW
    go_enter Tryz.func38, Tryz.ntmps38
    go_wp2
    go_ret
    rw [HV.out]
    exact ⟨rfl, rfl⟩

def nextD (D : DSt) (b : UInt8) : DSt := { (if D.coding = 1 then takeD D b else D) with place := D.place + 1 }
def nextR (D : DSt) (b : UInt8) : List (Int × Int) := if D.coding = 1 then takeR D b else [(winV b, D.place)]
def nextW (D : DSt) (b : UInt8) : List Int := if D.coding = 1 then takeW D b else []
def feedD : DSt → List UInt8 → DSt
  | D, [] => D
  | D, b :: l => feedD (nextD D b) l
def feedR : DSt → List UInt8 → List (Int × Int)
  | _, [] => []
  | D, b :: l => nextR D b ++ feedR (nextD D b) l
def feedW : DSt → List UInt8 → List Int
  | _, [] => []
  | D, b :: l => nextW D b ++ feedW (nextD D b) l

def endD (D : DSt) : DSt := if 0 < D.want then D.shut else D
def endR (D : DSt) : List (Int × Int) := if 0 < D.want then [(65533, D.sat)] else []
def endW (D : DSt) : List Int := if 0 < D.want then [D.sat] else []

/-- What a call of the decoder leaves: two rows of its own, the decoder as it stands now, and all else as it was. -/
def Gave (w w' : World) (d : Nat) (D : DSt) (vr vw : Value) (rs : List (Int × Int)) (ws : List Int) : Prop :=
  w'.ownsRow (w.heap.size + 1) 121 2 vr rs.length (rs.flatMap runeC) ∧ w'.ownsRow (w.heap.size + 1) 49 3 vw ws.length (ws.flatMap diagC) ∧ DecAt w' d D ∧ But d w.heap.size w w'

theorem new_any (c p : Int) (w : World) :
    Calls Tryz.prog 18 #[.int .i64 c, .int .i64 p] w fun e w' => e = .returned (.pointer (some ⟨w.heap.size, 0, none⟩)) ∧ DecAt w' w.heap.size ⟨c, p, 0, 0, 0, 0, 0⟩ ∧ Below w.heap.size w w' ∧ w'.heap.size = w.heap.size + 1 := by
  go_enter Tryz.func18, Tryz.ntmps18
  go_wp2
  go_ret
  refine ⟨rfl, ⟨?_, ?_, ?_, ?_, ?_, ?_, ?_, fun j => ?_⟩, (Below.refl _ _).alloc (Nat.le_refl _) _, by simp⟩
  all_goals first | exact World.cell?_alloc_at _ _ _ _ rfl | exact World.frozen?_alloc_at _ _ _ _ rfl

theorem told_new (w : World) : ToldAt (w.alloc (.cells #[.slice none 0 0, .slice none 0 0] 106)) w.heap.size (w.heap.size + 1) (.slice none 0 0) (.slice none 0 0) [] [] := by
  refine ⟨World.cell?_alloc_at _ _ _ _ rfl, World.cell?_alloc_at _ _ _ _ rfl, ?_, ?_, World.ownsRow_nil _ _ _ _, World.ownsRow_nil _ _ _ _, by omega, by simp⟩
  all_goals exact World.frozen?_alloc_at _ _ _ _ rfl

theorem drewN_below {B : Nat} {a w : World} (h : Below B a w) (n : Nat) : Below B a (w.drewN n) := h.trans ⟨rfl, rfl, rfl, Nat.le_refl _, fun _ _ => rfl⟩

theorem Gave.drew {w w' : World} {d : Nat} {D : DSt} {vr vw : Value} {rs : List (Int × Int)} {ws : List Int} (h : Gave w w' d D vr vw rs ws) (hd : d < w'.heap.size) (n : Nat) : Gave w (w'.drewN n) d D vr vw rs ws := by
  have hb : Below w'.heap.size w' (w'.drewN n) := drewN_below (Below.refl _ _) n
  exact ⟨own_below h.1 hb, own_below h.2.1 hb, h.2.2.1.below hb hd, h.2.2.2.trans (But.of (drewN_below (Below.refl _ _) n))⟩

theorem gave_of {w w2 : World} {d : Nat} {D : DSt} {vr vw : Value} {rs : List (Int × Int)} {ws : List Int} {o : Obj} (hT : ToldAt w2 w.heap.size (w.heap.size + 1) vr vw rs ws) (hD : DecAt w2 d D) (hb : But d w.heap.size (w.alloc o) w2) : Gave w w2 d D vr vw rs ws :=
  ⟨hT.ro, hT.wo, hD, (But.of ((Below.refl _ _).alloc (Nat.le_refl _) o)).trans hb⟩

set_option maxHeartbeats 1000000 in
theorem end_any (d : Nat) (D : DSt) (w : World) (hD : DecAt w d D) (hd : d < w.heap.size) :
    Calls Tryz.prog 27 #[.pointer (some ⟨d, 0, none⟩)] w fun e w' => ∃ vr vw, e = .returned (.tuple #[vr, vw]) ∧ Gave w w' d (endD D) vr vw (endR D) (endW D) := by
  have hbl : Below w.heap.size w (w.alloc (.cells #[.slice none 0 0, .slice none 0 0] 106)) := (Below.refl _ _).alloc (Nat.le_refl _) _
  have hD1 := hD.below hbl hd
  have hT1 := told_new w
  have k4 := hD1.c4
  have HD1 : Hid _ := hD1
  by_cases g1 : 0 < D.want
  · have gi : (0 : Int) < (D.want : Int) := by omega
    have HV : Hid (endD D = D.shut ∧ endR D = [(65533, D.sat)] ∧ endW D = [D.sat]) := ⟨by simp [endD, g1], by simp [endR, g1], by simp [endW, g1]⟩
    have HG : Hid _ := giveUp_any d w.heap.size (w.heap.size + 1) _ _ D [] [] _ hD1 hT1 hd (by simp) (by simp)
    have HBL : Hid _ := hbl
    clear hD hD1 hT1 g1 hbl
    go_enter Tryz.func27, Tryz.ntmps27
    go_wp2_with fail
    refine Calls.mono HG.out ?_
    rintro e w2 ⟨rfl, vr2, vw2, hT2, hD2, hb2⟩
    have HT2 : Hid _ := hT2
    have HD2 : Hid _ := hD2
    have c0 := hT2.c0
    have c1 := hT2.c1
    clear hT2 hD2 k4
    go_wp2_with fail
    go_quiet (fail)
    go_wp2
    go_ret2
    rw [HV.out.1, HV.out.2.1, HV.out.2.2]
    exact ⟨vr2, vw2, rfl, (gave_of HT2.out HD2.out hb2).drew (by have := hb2.size; simp at this; omega) nq⟩
  · have gi : (D.want : Int) = 0 := by omega
    have HV : Hid (endD D = D ∧ endR D = [] ∧ endW D = []) := ⟨by simp [endD, g1], by simp [endR, g1], by simp [endW, g1]⟩
    have HT1 : Hid _ := hT1
    have c0 := hT1.c0
    have c1 := hT1.c1
    clear hD hD1 hT1 g1 hbl
    go_enter Tryz.func27, Tryz.ntmps27
    go_wp2_with fail
    go_quiet (fail)
    go_wp2
    go_ret2
    rw [HV.out.1, HV.out.2.1, HV.out.2.2]
    exact ⟨_, _, rfl, (gave_of HT1.out HD1.out (But.refl _ _ _)).drew (by simp; omega) nq⟩

theorem nextD_ok (D : DSt) (b : UInt8) (h : DOk D) : DOk (nextD D b) := by
  unfold nextD
  by_cases hc : D.coding = 1
  · simp only [hc, if_true]
    exact takeD_ok D b h
  · simp only [hc, if_false]
    exact h

theorem nextD_utf {D : DSt} (b : UInt8) (h : D.coding = 1) : { takeD D b with place := D.place + 1 } = nextD D b := by
  unfold nextD
  rw [if_pos h]

theorem nextD_win {D : DSt} (b : UInt8) (h : ¬ D.coding = 1) : { D with place := D.place + 1 } = nextD D b := by
  unfold nextD
  rw [if_neg h]

theorem nextR_utf {D : DSt} (b : UInt8) (h : D.coding = 1) : nextR D b = takeR D b ∧ nextW D b = takeW D b := by
  unfold nextR nextW
  rw [if_pos h, if_pos h]
  exact ⟨rfl, rfl⟩

theorem nextR_win {D : DSt} (b : UInt8) (h : ¬ D.coding = 1) : nextR D b = [(winV b, D.place)] ∧ nextW D b = [] := by
  unfold nextR nextW
  rw [if_neg h, if_neg h]
  exact ⟨rfl, rfl⟩

theorem nextD_coding (D : DSt) (b : UInt8) : (nextD D b).coding = D.coding ∧ (nextD D b).place = D.place + 1 := by
  by_cases hc : D.coding = 1
  · rw [← nextD_utf b hc]
    exact ⟨(takeD_coding D b).1, rfl⟩
  · rw [← nextD_win b hc]
    exact ⟨rfl, rfl⟩

theorem nextR_len (D : DSt) (b : UInt8) : (nextR D b).length ≤ 2 ∧ (nextW D b).length ≤ 2 := by
  unfold nextR nextW
  by_cases hc : D.coding = 1
  · simp only [hc, if_true]
    exact takeR_len D b
  · simp only [hc, if_false]
    simp

/-- How far Feed has come. -/
structure Mid (w wr : World) (d k : Nat) (D0 D : DSt) (l : List UInt8) (vr vw : Value) (rs : List (Int × Int)) (ws : List Int) : Prop where
  told : ToldAt wr w.heap.size (w.heap.size + 1) vr vw rs ws
  dec : DecAt wr d D
  but : But d w.heap.size w wr
  ok : DOk D
  cod : D.coding = D0.coding
  pl : D.place = D0.place + k
  lr : rs.length ≤ 2 * k
  lw : ws.length ≤ 2 * k
  er : feedR D0 l = rs ++ feedR D (l.drop k)
  ew : feedW D0 l = ws ++ feedW D (l.drop k)
  ed : feedD D0 l = feedD D (l.drop k)

theorem Mid.next {w wr w1 : World} {d k : Nat} {D0 D D1 : DSt} {l : List UInt8} {vr vw vr1 vw1 : Value} {rs rs1 : List (Int × Int)} {ws ws1 : List Int} (h : Mid w wr d k D0 D l vr vw rs ws) (hk : k < l.length) (hd : d < w.heap.size)
    (hT : ToldAt w1 w.heap.size (w.heap.size + 1) vr1 vw1 rs1 ws1) (hD : DecAt w1 d D1) (hb : But d w.heap.size wr w1)
    (e1 : { D1 with place := D.place + 1 } = nextD D l[k]) (e2 : rs1 = rs ++ nextR D l[k]) (e3 : ws1 = ws ++ nextW D l[k]) :
    Mid w (w1.setCell ⟨d, 1, none⟩ (.int .i64 (D.place + 1))) d (k + 1) D0 (nextD D l[k]) l vr1 vw1 rs1 ws1 := by
  have hl := nextR_len D l[k]
  have hcons : l.drop k = l[k] :: l.drop (k + 1) := List.drop_eq_getElem_cons hk
  refine ⟨hT.store hd _, ?_, (h.but.trans hb).store _ _, nextD_ok _ _ h.ok, (nextD_coding _ _).1.trans h.cod, ?_, ?_, ?_, ?_, ?_, ?_⟩
  · rw [← e1]
    exact hD.store 1 _ _ rfl rfl rfl rfl rfl rfl rfl
  · rw [(nextD_coding _ _).2, h.pl]
    omega
  · rw [e2, List.length_append]
    have := h.lr
    omega
  · rw [e3, List.length_append]
    have := h.lw
    omega
  · rw [h.er, hcons, e2]
    simp [feedR]
  · rw [h.ew, hcons, e3]
    simp [feedW]
  · rw [h.ed, hcons]
    rfl

set_option maxRecDepth 100000 in
set_option maxHeartbeats 4000000 in
theorem feed_any (d : Nat) (D : DSt) (s : ByteArray) (w : World) (hD : DecAt w d D) (hd : d < w.heap.size) (hW : IsWin w) (hg : 0 ≠ d) (hok : DOk D) (hs : s.size ≤ 1099511627776) (hp0 : 0 ≤ D.place) (hp : D.place < 4611686018427387904) :
    Calls Tryz.prog 19 #[.pointer (some ⟨d, 0, none⟩), .string s] w fun e w' => ∃ vr vw, e = .returned (.tuple #[vr, vw]) ∧ Gave w w' d (feedD D s.data.toList) vr vw (feedR D s.data.toList) (feedW D s.data.toList) := by
  have hbl : Below w.heap.size w (w.alloc (.cells #[.slice none 0 0, .slice none 0 0] 106)) := (Below.refl _ _).alloc (Nat.le_refl _) _
  have HM : Hid (Mid w (w.alloc (.cells #[.slice none 0 0, .slice none 0 0] 106)) d 0 D D s.data.toList (.slice none 0 0) (.slice none 0 0) [] []) :=
    ⟨told_new w, hD.below hbl hd, But.of hbl, hok, rfl, by simp, by simp, by simp, rfl, rfl, rfl⟩
  have HW : Hid (∀ wr, But d w.heap.size w wr → IsWin wr) := fun wr hb k hk => by
    have h := hW k hk
    have hl : 0 < w.heap.size := World.block_lt_of_cell? w _ h
    rw [← h]
    exact World.cell?_of_block (hb.block _ hl hg)
  clear hbl hW hD hok
  go_enter Tryz.func19, Tryz.ntmps19
  go_wp2
  go_loopw [12] (fun i wr => ∃ (k : Nat) (D' : DSt) (vr vw : Value) (rs : List (Int × Int)) (ws : List Int), k ≤ s.size ∧ i = .int .i64 k ∧ Mid w wr d k D D' s.data.toList vr vw rs ws) (fun i _ => s.size - (intOf i).toNat)
  case atStart => exact ⟨0, D, _, _, [], [], Nat.zero_le _, rfl, HM.out⟩
  case round =>
    obtain ⟨k, D', vr, vw, rs, ws, hk, rfl, hM⟩ := hrel
    have HMr : Hid _ := hM
    clear HM
    by_cases hlt : k < s.size
    · have hlt' : k < s.data.toList.length := by simpa using hlt
      have k0 := hM.dec.c0
      by_cases hc : D'.coding = 1
      · have HC : Hid _ := take_any d w.heap.size (w.heap.size + 1) vr vw D' rs ws s[k] wr hM.dec hM.told hd (by have := hM.lr; omega) (by have := hM.lw; omega) hM.ok
        clear hM
        go_wp2_with fail
        refine Calls.mono HC.out ?_
        rintro e w1 ⟨rfl, vr1, vw1, hT1, hD1, hb1⟩
        have HR : Hid _ := HMr.out.next hlt' hd hT1 hD1 hb1 (nextD_utf _ hc) (congrArg (rs ++ ·) (nextR_utf _ hc).1.symm) (congrArg (ws ++ ·) (nextR_utf _ hc).2.symm)
        have k1 := hD1.c1
        rw [(takeD_coding _ _).2] at k1
        have kf := hD1.f
        have hpl := HMr.out.pl
        have hw1 : wrap64 (D'.place + 1) = D'.place + 1 := by unfold wrap64; omega
        clear hT1 hD1 HC hpl
        go_wp2
        go_roundw
        case rel => exact ⟨k + 1, _, vr1, vw1, _, _, by omega, by go_num, HR.out⟩
        case measure => simp [intOf]; omega
      · have kc : ¬ (1 : Int) = D'.coding := fun h => hc h.symm
        have k1 := hM.dec.c1
        have HCW : Hid (∀ w', Below wr.heap.size wr w' → Calls Tryz.prog 38 #[.int .u8 (s[k].toNat : Int)] w' fun e w'' => e = .returned (.int .i64 (winV s[k])) ∧ w'' = w') := fun w' hb =>
          windows_any s[k] w' (HW.out _ (HMr.out.but.trans (But.of (hb.mono HMr.out.but.size))))
        have HCT : Hid (∀ w', Below wr.heap.size wr w' → Calls Tryz.prog 37 #[.pointer (some ⟨w.heap.size, 0, none⟩), .int .i64 (winV s[k]), .int .i64 D'.place] w' fun e w'' => e = .returned (.tuple #[]) ∧ Told w' w'' w.heap.size (w.heap.size + 1) (rs ++ [(winV s[k], D'.place)]) ws) := fun w' hb =>
          tell_any w.heap.size (w.heap.size + 1) vr vw rs ws _ D'.place w' (HMr.out.told.below hb) (by have := HMr.out.lr; omega)
        clear hM
        go_upto_region 9 with fail
        go_cut [12] from 12 to 41 (fun s12 wx => s12 = .int .i64 k ∧ ∃ vr' vw', ToldAt wx w.heap.size (w.heap.size + 1) vr' vw' (rs ++ [(winV s[k], D'.place)]) ws ∧ Below w.heap.size wr wx)
        case first =>
          go_region_with (first
            | (go_at_call 38; refine Calls.mono (HCW.out _ (by repeat (first | exact Below.refl _ _ | apply Below.drew))) ?_; rintro e w' ⟨rfl, rfl⟩)
            | (go_at_call 37; refine Calls.mono (HCT.out _ (by repeat (first | exact Below.refl _ _ | apply Below.drew))) ?_; rintro e w' ⟨rfl, vr', vw', hT', hb'⟩))
          all_goals
            go_wp2_with fail
            go_meet
            exact ⟨rfl, _, _, hT', Below.trans (by repeat (first | exact Below.refl _ _ | apply Below.drew)) hb'⟩
        case rest =>
          obtain ⟨rfl, vr1, vw1, hT1, hb1⟩ := hcut
          have hD1 := HMr.out.dec.below hb1 hd
          have HR : Hid _ := HMr.out.next hlt' hd hT1 hD1 (But.of hb1) (nextD_win _ hc) (congrArg (rs ++ ·) (nextR_win _ hc).1.symm) (((List.append_nil ws).symm).trans (congrArg (ws ++ ·) (nextR_win _ hc).2.symm))
          clear k0 k1 HCW HCT
          have k1 := hD1.c1
          have kf := hD1.f
          have hpl := HMr.out.pl
          have hw1 : wrap64 (D'.place + 1) = D'.place + 1 := by unfold wrap64; omega
          clear hT1 hD1 hpl
          go_wp2
          go_roundw
          case rel => exact ⟨k + 1, _, vr1, vw1, _, _, by omega, by go_num, HR.out⟩
          case measure => simp [intOf]; omega
    · have hfin : k = s.size := by omega
      have HE : Hid (Gave w wr d (feedD D s.data.toList) vr vw (feedR D s.data.toList) (feedW D s.data.toList)) := by
        have e : s.data.toList.drop k = [] := List.drop_eq_nil_of_le (by simp [hfin])
        have h1 := hM.er
        have h2 := hM.ew
        have h3 := hM.ed
        rw [e] at h1 h2 h3
        rw [h1, h2, h3]
        simp only [feedR, feedW, feedD, List.append_nil]
        exact ⟨hM.told.ro, hM.told.wo, hM.dec, hM.but⟩
      have hdr : d < wr.heap.size := by have := hM.but.size; omega
      subst hfin
      have c0 := hM.told.c0
      have c1 := hM.told.c1
      clear hM HMr
      go_wp2_with fail
      go_quiet (fail)
      go_wp2
      go_ret2
      exact ⟨_, _, rfl, HE.out.drew hdr nq⟩
end Go.Proofs.YtgdjknbbjpcoiaaGreatDoor

/-
  In the other coding each byte is one scalar, wherever it stands.
-/
import Derived.Test.YtddonipfpchababDoorSpeaks
namespace Go.Proofs.YtddonipfpchababDoor
open Go.RowKit

theorem end_none (d : Nat) (D : DSt) (w : World) (hD : DecAt w d D) (hd : d < w.heap.size) (h0 : D.want = 0) :
    Calls Tryd.prog 13 #[.pointer (some ⟨d, 0, none⟩)] w fun e w' => e = .returned (.tuple #[.slice none 0 0, .slice none 0 0]) ∧ Below w.heap.size w w' := by
  have hbl : Below w.heap.size w (w.alloc (.cells #[.slice none 0 0, .slice none 0 0] 60)) := (Below.refl _ _).alloc (Nat.le_refl _) _
  have hD1 := hD.below hbl hd
  have hT1 := told_new w
  have k4 := hD1.c4
  have gi : (D.want : Int) = 0 := by omega
  have c0 := hT1.c0
  have c1 := hT1.c1
  have HBL : Hid _ := hbl
  clear hD hD1 hT1 hbl h0
  go_enter Tryd.func13, Tryd.ntmps13
  go_wp2_with fail
  go_quiet (fail)
  go_wp2
  go_ret2
  exact ⟨rfl, drewN_below HBL.out nq⟩

/-- In the other coding. -/
theorem feed_win (D : DSt) (h : ¬ D.coding = 1) (l : List UInt8) : feedW D l = [] ∧ (feedR D l).length = l.length ∧ (feedD D l).want = D.want ∧ (feedD D l).coding = D.coding := by
  induction l generalizing D with
  | nil => exact ⟨rfl, rfl, rfl, rfl⟩
  | cons b l ih =>
    have hn := nextD_win b h
    have hr := nextR_win b h
    have := ih (nextD D b) (by rw [← hn]; exact h)
    simp only [feedW, feedR, feedD, hr.1, hr.2, List.nil_append, List.length_append, List.length_cons, List.length_nil]
    refine ⟨this.1, by omega, ?_, ?_⟩
    · rw [this.2.2.1, ← hn]
    · rw [this.2.2.2, ← hn]

theorem feed_win_at (D : DSt) (h : ¬ D.coding = 1) (l : List UInt8) (p : Nat) (hp : p < l.length) : (feedR D l)[p]? = some (winV l[p], D.place + p) := by
  induction l generalizing D p with
  | nil => simp at hp
  | cons b l ih =>
    have hn := nextD_win b h
    have hr := nextR_win b h
    simp only [feedR, hr.1, List.singleton_append]
    match p, hp with
    | 0, _ => simp
    | p + 1, hp =>
      have := ih (nextD D b) (by rw [← hn]; exact h) p (by simpa using hp)
      simp only [List.getElem?_cons_succ, List.getElem_cons_succ]
      rw [this, ← hn]
      simp
      omega

theorem one_size (s : ByteArray) (p : Nat) (h : p < s.size) : (s.extract p (p + 1)).size = 1 := by
  rw [ByteArray.size_extract]
  omega

theorem one_byte (s : ByteArray) (p : Nat) (h : p < s.size) : (s.extract p (p + 1)).data.toList = [s.data.toList[p]'(by simpa using h)] := by
  have hl : p < s.data.toList.length := by simpa using h
  rw [ByteArray.data_extract, Array.toList_extract, List.extract_eq_take_drop, List.drop_eq_getElem_cons hl, show p + 1 - p = 1 by omega]
  rfl

set_option maxRecDepth 100000 in
set_option maxHeartbeats 2000000 in
theorem byte_law (s : ByteArray) (a : Int) (w : World) (hs : s.size ≤ 140737488351232) (hW : IsWin w) :
    Calls Tryd.prog 7 #[.string s, .int .i64 a] w fun e w' => e = .returned (.bool true) ∧ Below w.heap.size w w' := by
  have HS : Hid _ := speaks_any w hW
  have HW : Hid _ := hW
  have HL : Hid _ := iswin_lt hW
  clear hW
  by_cases h0 : s.size = 0
  · go_enter Tryd.func7, Tryd.ntmps7
    go_wp2_with fail
    refine Calls.mono HS.out ?_
    rintro e w1 ⟨rfl, hb1⟩
    go_wp2
    go_ret
    exact ⟨rfl, hb1⟩
  by_cases h5 : (5000 : Int) < (s.size : Int)
  · have hb0 : ((s.size : Int) == 0) = false := beq_false_of_ne (by omega)
    have hb5 : decide ((5000 : Int) < (s.size : Int)) = true := by simpa using h5
    go_enter Tryd.func7, Tryd.ntmps7
    go_wp2_with fail
    refine Calls.mono HS.out ?_
    rintro e w1 ⟨rfl, hb1⟩
    go_wp2
    go_ret
    exact ⟨rfl, hb1⟩
  have hpos : (0 : Int) < (s.size : Int) := by omega
  have hb0 : ((s.size : Int) == 0) = false := beq_false_of_ne (by omega)
  have hb5 : decide ((5000 : Int) < (s.size : Int)) = false := by simpa using h5
  obtain ⟨r, hr⟩ : ∃ r, a.tmod (s.size : Int) = r := ⟨_, rfl⟩
  have hr1 : r < (s.size : Int) := by rw [← hr]; exact Int.tmod_lt_of_pos a hpos
  have hr2 : -(s.size : Int) < r := by rw [← hr]; exact Int.lt_tmod_of_pos a hpos
  obtain ⟨p, hp⟩ : ∃ p : Nat, (r + (s.size : Int)).tmod (s.size : Int) = (p : Int) := ⟨((r + (s.size : Int)).tmod (s.size : Int)).toNat, by have := Int.tmod_nonneg (s.size : Int) (show 0 ≤ r + (s.size : Int) by omega); omega⟩
  have hp1 : p < s.size := by have := Int.tmod_lt_of_pos (r + (s.size : Int)) hpos; omega
  have hw1 : wrap64 (r + (s.size : Int)) = r + (s.size : Int) := by unfold wrap64; omega
  have HP2 : Hid (wrap64 ((p : Int) + 1) = (p : Int) + 1) := by show _ = _; unfold wrap64; omega
  have HX : Hid _ := one_byte s p hp1
  have HC1 : Hid ((p : Int) + 1 ≤ (s.size : Int)) := by show _ ≤ _; omega
  have HXS : Hid ((s.extract p (p + 1)).size ≤ 1099511627776) := by show _ ≤ _; rw [one_size s p hp1]; decide
  have HPL : Hid ((p : Int) < 4611686018427387904) := by show _ < _; omega
  go_enter Tryd.func7, Tryd.ntmps7
  go_wp2_with fail
  refine Calls.mono HS.out ?_
  rintro e w1 ⟨rfl, hb1⟩
  have HW1 : Hid _ := iswin_below HW.out hb1 (Nat.le_refl _)
  have hz1 := hb1.size
  have HB1 : Hid _ := hb1
  clear HS HW hb1 hr1 hr2
  go_wp2_with fail
  refine Calls.mono (new_any 2 0 w1) ?_
  rintro e w2 ⟨rfl, hD2, hb2, hz2⟩
  have HW2 : Hid _ := iswin_below HW1.out hb2 (Nat.le_refl _)
  have HF : Hid _ := feed_any w1.heap.size _ s w2 hD2 (by omega) HW2.out (by have := HL.out; omega) (.inl rfl) (by omega) (by decide) (by decide)
  have HB2 : Hid _ := hb2
  clear hD2 hb2 hp hw1 hr
  go_wp2_with fail
  refine Calls.mono HF.out ?_
  rintro e w3 ⟨vr1, vw1, rfl, ho1, how1, hD3, hb3⟩
  have fw := feed_win ⟨2, 0, 0, 0, 0, 0, 0⟩ (by decide) s.data.toList
  have fa := feed_win_at ⟨2, 0, 0, 0, 0, 0, 0⟩ (by decide) s.data.toList p (by simpa using hp1)
  rw [fw.1] at how1
  obtain ⟨aw1, capw1, rfl⟩ := own_head how1
  have hlen : (feedR ⟨2, 0, 0, 0, 0, 0, 0⟩ s.data.toList).length = s.size := by rw [fw.2.1]; simp
  obtain ⟨g1, cap1, rfl, hcap1, hg1, hgl1, hcells1⟩ := own_runes ho1 (by omega)
  have q := hcells1 p (by omega)
  rw [List.getElem?_eq_getElem (by omega)] at fa
  rw [Option.some.inj fa] at q
  simp only [Int.zero_add] at q
  have HQ1 : Hid _ := q
  rw [hlen]
  rw [hlen] at hcap1
  have hz3 := hb3.size
  have HW3 : Hid _ := iswin_but HW2.out hb3 (Nat.le_refl _) (by have := HL.out; omega)
  have HE : Hid _ := end_none w1.heap.size _ w3 hD3 (by omega) fw.2.2.1
  have HB3 : Hid _ := HB2.out.trans ((hb3.mono (by omega : w1.heap.size ≤ w2.heap.size)).below (Nat.le_refl _))
  clear HF ho1 how1 hD3 hb3 fw fa hcells1 q hlen
  go_wp2_with fail
  refine Calls.mono HE.out ?_
  rintro e w4 ⟨rfl, hb4⟩
  have HW4 : Hid _ := iswin_below HW3.out hb4 (Nat.le_refl _)
  have hz4 := hb4.size
  have HB4 : Hid _ := HB3.out.trans (hb4.mono (by omega))
  have HQ4 : Hid (w4.cell? ⟨g1, 2 * p, none⟩ = some (.int .i64 (winV s.data.toList[p])) ∧ w4.cell? ⟨g1, 2 * p + 1, none⟩ = some (.int .i64 (p : Int))) := ⟨(hb4.cell (p := ⟨g1, 2 * p, none⟩) hgl1).trans HQ1.out.1, (hb4.cell (p := ⟨g1, 2 * p + 1, none⟩) hgl1).trans HQ1.out.2⟩
  have hgl4 : g1 < w4.heap.size := Nat.lt_of_lt_of_le hgl1 hz4
  clear HE HQ1 hb4 hgl1 HW1 HW2 HW3
  go_wp2_with fail
  refine Calls.mono (new_any 2 (p : Int) w4) ?_
  rintro e w5 ⟨rfl, hD5, hb5', hz5⟩
  have HW5 : Hid _ := iswin_below HW4.out hb5' (Nat.le_refl _)
  have HF : Hid _ := feed_any w4.heap.size _ (s.extract p (p + 1)) w5 hD5 (by omega) HW5.out (by have := HL.out; omega) (.inl rfl) HXS.out (Int.natCast_nonneg p) HPL.out
  have HB5 : Hid _ := hb5'
  have HBW : Hid (Below w.heap.size w w4) := HB1.out.trans (HB4.out.mono hz1)
  have HZ : Hid (w.heap.size ≤ w4.heap.size ∧ w5.heap.size = w4.heap.size + 1 ∧ g1 < w4.heap.size ∧ s.size ≤ cap1 ∧ 0 < s.size) := ⟨by omega, hz5, hgl4, hcap1, by omega⟩
  clear hD5 hb5'
  go_upto_region 11 with fail
  have hp2 := HP2.out
  have hc1 := HC1.out
  clear hb0 hb5 hpos h0 h5 hz1 hz2 hz3 hz4 hcap1 hg1 hgl4 hz5 hs HB1 HB2 HB3 HB4
  go_wp2_with fail
  refine Calls.mono HF.out ?_
  rintro e w6 ⟨vr2, vw2, rfl, ho2, how2, hD6, hb6⟩
  have fw := feed_win ⟨2, (p : Int), 0, 0, 0, 0, 0⟩ (by show ¬ ((2 : Int) = 1); decide) [s.data.toList[p]'(by simpa using hp1)]
  have fe : feedR ⟨2, (p : Int), 0, 0, 0, 0, 0⟩ [s.data.toList[p]'(by simpa using hp1)] = [(winV (s.data.toList[p]'(by simpa using hp1)), (p : Int))] := rfl
  rw [HX.out] at ho2 how2 hD6
  rw [fw.1] at how2
  rw [fe] at ho2
  obtain ⟨aw2, capw2, rfl⟩ := own_head how2
  obtain ⟨g2, cap2, rfl, hcap2, hg2, hgl2, hcells2⟩ := own_runes ho2 (by show 0 < 1; decide)
  have q := hcells2 0 (by simp)
  have HQ2 : Hid (w6.cell? ⟨g2, 0, none⟩ = some (.int .i64 (winV s.data.toList[p])) ∧ w6.cell? ⟨g2, 1, none⟩ = some (.int .i64 (p : Int))) := q
  have hz6 := hb6.size
  obtain ⟨hz4, hz5, hgl4, hcap1, hpos⟩ := HZ.out
  have hz4' : w4.heap.size < w6.heap.size := by omega
  have HE : Hid _ := end_none w4.heap.size _ w6 hD6 hz4' fw.2.2.1
  have HB6 : Hid _ := HB5.out.trans ((hb6.mono (by omega : w4.heap.size ≤ w5.heap.size)).below (Nat.le_refl _))
  have HZ2 : Hid (w4.heap.size < w6.heap.size ∧ g2 < w6.heap.size ∧ 1 ≤ cap2) := ⟨hz4', hgl2, hcap2⟩
  clear HF ho2 how2 hD6 hb6 fw fe hcells2 q hz4 hz5 hz6 hz4' hgl4 hcap1 hpos hg2 hgl2 hcap2 hp2 hc1
  go_wp2_with fail
  refine Calls.mono HE.out ?_
  rintro e w7 ⟨rfl, hb7⟩
  obtain ⟨hz4, hz5, hgl4, hcap1, hpos⟩ := HZ.out
  obtain ⟨hz6, hgl2, hcap2⟩ := HZ2.out
  have HB7 : Hid _ := HB6.out.trans (hb7.mono (Nat.le_of_lt hz6))
  have HB8 : Hid (Below w.heap.size w w7) := HBW.out.trans (HB7.out.mono hz4)
  have q0 : w7.cell? ⟨g1, 2 * p, none⟩ = some (.int .i64 (winV s.data.toList[p])) := (HB7.out.cell (p := ⟨g1, 2 * p, none⟩) hgl4).trans HQ4.out.1
  have q1 : w7.cell? ⟨g1, 2 * p + 1, none⟩ = some (.int .i64 (p : Int)) := (HB7.out.cell (p := ⟨g1, 2 * p + 1, none⟩) hgl4).trans HQ4.out.2
  have q2 : w7.cell? ⟨g2, 0, none⟩ = some (.int .i64 (winV s.data.toList[p])) := (hb7.cell (p := ⟨g2, 0, none⟩) hgl2).trans HQ2.out.1
  have q3 : w7.cell? ⟨g2, 1, none⟩ = some (.int .i64 (p : Int)) := (hb7.cell (p := ⟨g2, 1, none⟩) hgl2).trans HQ2.out.2
  generalize winV s.data.toList[p] = V at q0 q2
  have hp1' : (p : Int) < (s.size : Int) := by have := HC1.out; omega
  rw [Nat.mul_comm] at q0 q1
  clear HE HQ2 HQ4 HB5 HB6 HB7 hb7 HW4 HW5 HX HZ HZ2 HBW HC1 HP2 HPL HXS hz4 hz5 hz6 hgl4 hgl2
  go_wp2_with fail
  go_quiet (fail)
  go_wp2
  go_ret
  exact ⟨rfl, drewN_below HB8.out nq⟩
end Go.Proofs.YtddonipfpchababDoor

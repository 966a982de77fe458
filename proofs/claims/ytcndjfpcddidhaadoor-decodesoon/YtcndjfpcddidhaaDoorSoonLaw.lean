/-
  What is known is told at once.
-/
import Derived.Test.YtcndjfpcddidhaaDoorSoonPlain
import Derived.Test.YtcndjfpcddidhaaDoorByteLow
namespace Go.Proofs.YtcndjfpcddidhaaDoor
open Go.RowKit

theorem chain_cons {i n n' : Int} {r : Int × Int} {l : List (Int × Int)} (h : chain i n (r :: l) = some n') : n ≤ r.2 ∧ r.2 ≤ i ∧ chain i (r.2 + 1) l = some n' := by
  unfold chain at h
  split at h
  · rename_i h1
    exact ⟨h1.1, h1.2, h⟩
  · cases h

structure SoonAt (w wr : World) (d k : Nat) (c : Int) (D : DSt) (n q : Int) : Prop where
  soon : Soon D n q k
  dec : DecAt wr d D
  below : Below w.heap.size w wr
  lt : d < wr.heap.size
  ge : w.heap.size ≤ d
  win : IsWin wr
  cod : D.coding = c

theorem SoonAt.bound {w wr : World} {d k : Nat} {c : Int} {D : DSt} {n q : Int} (h : SoonAt w wr d k c D n q) : 0 ≤ q ∧ q ≤ 3 := by
  refine ⟨h.soon.zero.2, ?_⟩
  by_cases hw : D.want = 0
  · have := (h.soon.none hw).2
    omega
  · have := (h.soon.some (by omega)).2.2
    omega

theorem feed_one (D : DSt) (b : UInt8) : feedR D [b] = nextR D b ∧ feedD D [b] = nextD D b := by
  simp [feedR, feedD]

set_option maxRecDepth 100000 in
set_option maxHeartbeats 2000000 in
theorem soon_utf (s : ByteArray) (w : World) (hs : s.size ≤ 140737488351232) (hW : IsWin w) :
    Calls Tryd.prog 4 #[.string s, .int .i64 1] w fun e w' => e = .returned (.bool true) ∧ Below w.heap.size w w' := by
  have HS : Hid _ := speaks_any w hW
  have HW : Hid _ := hW
  have HL : Hid _ := iswin_lt hW
  clear hW
  go_enter Tryd.func4, Tryd.ntmps4
  go_wp2_with fail
  refine Calls.mono HS.out ?_
  rintro e w1 ⟨rfl, hb1⟩
  go_wp2_with fail
  refine Calls.mono (new_any 1 0 w1) ?_
  rintro e w2 ⟨rfl, hD2, hb2, hz2⟩
  have hz1 := hb1.size
  obtain ⟨d, hd⟩ : ∃ d, w1.heap.size = d := ⟨_, rfl⟩
  have HA : Hid (SoonAt w w2 d 0 1 ⟨1, 0, 0, 0, 0, 0, 0⟩ 0 0) := by
    refine ⟨⟨rfl, .inl rfl, fun _ => ⟨Int.le_refl _, rfl⟩, fun h => absurd h (Nat.lt_irrefl 0), fun _ => rfl, Int.le_refl _, Int.le_refl _⟩, hd ▸ hD2, hb1.trans (hb2.mono hz1), by omega, by omega, iswin_below (iswin_below HW.out hb1 (Nat.le_refl _)) hb2 (Nat.le_refl _), rfl⟩
  have HG : Hid (0 ≠ d) := by show _ ≠ _; have := HL.out; omega
  rw [hd]
  clear hD2 hb2 hz2 hb1 hz1 HS hd HW
  go_wp2
  go_loopw [6, 7, 8] (fun n q i wr => ∃ (k : Nat) (D : DSt) (nn qq : Int), k ≤ s.size ∧ i = .int .i64 k ∧ n = .int .i64 nn ∧ q = .int .i64 qq ∧ SoonAt w wr d k 1 D nn qq) (fun _ _ i _ => s.size - (intOf i).toNat)
  case atStart => exact ⟨0, _, 0, 0, Nat.zero_le _, rfl, rfl, rfl, HA.out⟩
  case round =>
    clear HA
    obtain ⟨k, D, nn, qq, hk, rfl, rfl, rfl, hA⟩ := hrel
    have HA : Hid _ := hA
    by_cases hlt : k < s.size
    · have HX : Hid _ := one_byte s k hlt
      have HF : Hid _ := feed_any d D (s.extract k (k + 1)) wr hA.dec hA.lt hA.win HG.out hA.soon.ok (by rw [one_size s k hlt]; decide) (by rw [hA.soon.place]; omega) (by rw [hA.soon.place]; omega)
      have hsI : (s.size : Int) ≤ 140737488351232 := by omega
      have hc1 : (k : Int) + 1 ≤ (s.size : Int) := by omega
      have HK : Hid (k ≤ s.size ∧ s.size ≤ 140737488351232) := ⟨hk, hs⟩
      clear hA hs hk
      go_wp2_with fail
      refine Calls.mono HF.out ?_
      rintro e w3 ⟨vr, vw, rfl, ho, how, hD3, hb3⟩
      rw [HX.out, (feed_one D _).1] at ho
      rw [HX.out, (feed_one D _).2] at hD3
      obtain ⟨n', hch, hsoon, hq3, _⟩ := soon_step D nn qq k _ HA.out.soon
      obtain ⟨rs, hrs⟩ : ∃ rs, nextR D (s.data.toList[k]'(by simpa using hlt)) = rs := ⟨_, rfl⟩
      rw [hrs] at ho hch hsoon hq3
      have HN : Hid _ := (⟨hsoon, hD3, HA.out.below.trans ((hb3.mono HA.out.below.size).below HA.out.ge), Nat.lt_of_lt_of_le HA.out.lt hb3.size, HA.out.ge, iswin_but HA.out.win hb3 (Nat.le_refl _) HG.out, (nextD_coding D _).1.trans HA.out.cod⟩ : SoonAt w w3 d (k + 1) 1 _ n' _)
      have HCH : Hid (chain k nn rs = some n') := hch
      have HRL : Hid (rs.length ≤ 2) := by have := (nextR_len D (s.data.toList[k]'(by simpa using hlt))).1; rw [hrs] at this; exact this
      have hqb := HA.out.bound
      obtain ⟨hqb0, hqb1⟩ := hqb
      clear hsoon hD3 hb3 HF how hch hrs
      by_cases hne : rs = []
      · subst hne
        obtain ⟨a, cap, rfl⟩ := own_head ho
        have hq4 : decide (3 < qq + 1) = false := by simpa using hq3
        rw [if_pos rfl] at HN
        clear ho hq3
        go_wp2
        go_loopw [6, 11] (fun n kk wx => n = .int .i64 nn ∧ kk = .int .i64 0 ∧ wx = w3) (fun _ _ _ => 0)
        case atStart => exact ⟨rfl, rfl, rfl⟩
        case round =>
          obtain ⟨rfl, rfl, rfl⟩ := hrel
          have HE : Hid (nn = n') := Option.some.inj HCH.out
          go_wp2
          go_roundw
          case rel => exact ⟨k + 1, _, nn, qq + 1, by omega, by go_num, rfl, rfl, by rw [HE.out]; exact HN.out⟩
          case measure => simp [intOf]; omega
      · obtain ⟨g, cap, rfl, hcap, hg, hgl, hcells⟩ := own_runes ho (by cases rs <;> simp_all)
        have hpos : (0 : Int) < (rs.length : Int) := by
          cases rs with
          | nil => exact absurd rfl hne
          | cons r l => simp only [List.length_cons]; omega
        rw [if_neg hne] at HN
        have HCE : Hid _ := hcells
        have HCAP : Hid (rs.length ≤ cap) := hcap
        clear ho hq3 hcells hcap hg hgl hne
        go_wp2
        go_loopw [6, 11] (fun n kk wx => ∃ (j : Nat) (m : Int), j ≤ rs.length ∧ kk = .int .i64 j ∧ n = .int .i64 m ∧ chain k m (rs.drop j) = some n' ∧ 0 ≤ m ∧ wx = w3) (fun _ kk _ => rs.length - (intOf kk).toNat)
        case atStart => exact ⟨0, nn, Nat.zero_le _, rfl, rfl, HCH.out, HA.out.soon.zero.1, rfl⟩
        case round =>
          obtain ⟨j, m, hj, rfl, rfl, hchj, hm0, rfl⟩ := hrel
          have HM : Hid (0 ≤ m) := hm0
          clear hm0
          have HCJ : Hid _ := hchj
          clear hchj
          by_cases hjl : j < rs.length
          · have hcons : rs.drop j = rs[j] :: rs.drop (j + 1) := List.drop_eq_getElem_cons hjl
            have hx := HCJ.out
            rw [hcons] at hx
            obtain ⟨x1, x2, x3⟩ := chain_cons hx
            have y1 := (HCE.out j hjl).2
            rw [Nat.mul_comm] at y1
            have HX3 : Hid _ := x3
            generalize rs[j].2 = at' at x1 x2 HX3 y1
            have HZ : Hid (0 ≤ at' + 1) := by have := HA.out.soon.zero.1; show 0 ≤ at' + 1; have := HM.out; omega
            have z1 : ¬ at' < m := by omega
            have z2 : ¬ (k : Int) < at' := by omega
            have z3 : (-1 : Int) ≤ at' := by have := HZ.out; omega
            have z4 : at' ≤ (k : Int) := by omega
            have z5 : (j : Int) ≤ 2 := by have := HRL.out; omega
            clear x1 x2 x3 hx hcons
            clear hpos
            go_wp2
            go_roundw
            case rel => exact ⟨j + 1, at' + 1, hjl, by go_num, rfl, HX3.out, HZ.out, by simp⟩
            case measure => simp [intOf]; omega
          · have HE : Hid (m = n') := by
              have h := HCJ.out
              rw [List.drop_eq_nil_of_le (by omega)] at h
              exact Option.some.inj h
            go_wp2
            go_roundw
            case rel => exact ⟨k + 1, _, m, 0, by omega, by go_num, rfl, rfl, by rw [HE.out]; exact HN.out⟩
            case measure => simp [intOf]; omega
    · have HF : Hid _ := end_any d D wr hA.dec hA.lt
      clear hs hk
      go_wp2_with fail
      refine Calls.mono HF.out ?_
      rintro e w3 ⟨vr, vw, rfl, ho, how, hD3, hb3⟩
      have hlt3 : d < w3.heap.size := Nat.lt_of_lt_of_le hA.lt hb3.size
      have HF2 : Hid _ := end_none d _ w3 hD3 hlt3 (by unfold endD; split; rfl; omega)
      have HB3 : Hid (Below w.heap.size w w3) := hA.below.trans ((hb3.mono hA.below.size).below hA.ge)
      obtain ⟨ar, capr, rfl⟩ := own_head ho
      obtain ⟨aw, capw, rfl⟩ := own_head how
      have hl : (endR D).length = (endW D).length ∧ (endR D).length ≤ 1 := by unfold endR endW; split <;> simp
      rw [← hl.1]
      have hl1 : ((endR D).length : Int) ≤ 1 := by omega
      have HS3 : Hid _ := hb3.size
      have HWS : Hid _ := HB3.out.size
      generalize (endR D).length = L at hl1 ⊢
      clear ho how hD3 hb3 hl HF hA HA hlt3
      go_wp2_with fail
      refine Calls.mono HF2.out ?_
      rintro e w4 ⟨rfl, hb4⟩
      go_wp2
      go_ret
      exact ⟨rfl, HB3.out.trans (hb4.mono HWS.out)⟩

set_option maxRecDepth 100000 in
set_option maxHeartbeats 2000000 in
theorem soon_win (s : ByteArray) (c : Int) (w : World) (hc1 : ¬ c = 1) (hs : s.size ≤ 140737488351232) (hW : IsWin w) :
    Calls Tryd.prog 4 #[.string s, .int .i64 c] w fun e w' => e = .returned (.bool true) ∧ Below w.heap.size w w' := by
  have HS : Hid _ := speaks_any w hW
  have hcb : (c != 1) = true := bne_iff_ne.2 hc1
  have HC1 : Hid (¬ c = 1) := hc1
  have HW : Hid _ := hW
  have HL : Hid _ := iswin_lt hW
  clear hW hc1
  go_enter Tryd.func4, Tryd.ntmps4
  go_wp2_with fail
  refine Calls.mono HS.out ?_
  rintro e w1 ⟨rfl, hb1⟩
  go_wp2_with fail
  refine Calls.mono (new_any c 0 w1) ?_
  rintro e w2 ⟨rfl, hD2, hb2, hz2⟩
  have hz1 := hb1.size
  obtain ⟨d, hd⟩ : ∃ d, w1.heap.size = d := ⟨_, rfl⟩
  have HA : Hid (SoonAt w w2 d 0 c ⟨c, 0, 0, 0, 0, 0, 0⟩ 0 0) := by
    refine ⟨⟨rfl, .inl rfl, fun _ => ⟨Int.le_refl _, rfl⟩, fun h => absurd h (Nat.lt_irrefl 0), fun _ => rfl, Int.le_refl _, Int.le_refl _⟩, hd ▸ hD2, hb1.trans (hb2.mono hz1), by omega, by omega, iswin_below (iswin_below HW.out hb1 (Nat.le_refl _)) hb2 (Nat.le_refl _), rfl⟩
  have HG : Hid (0 ≠ d) := by show _ ≠ _; have := HL.out; omega
  rw [hd]
  clear hD2 hb2 hz2 hb1 hz1 HS hd HW
  go_wp2
  go_loopw [6, 7, 8] (fun n q i wr => ∃ (k : Nat) (D : DSt) (nn qq : Int), k ≤ s.size ∧ i = .int .i64 k ∧ n = .int .i64 nn ∧ q = .int .i64 qq ∧ SoonAt w wr d k c D nn qq) (fun _ _ i _ => s.size - (intOf i).toNat)
  case atStart => exact ⟨0, _, 0, 0, Nat.zero_le _, rfl, rfl, rfl, HA.out⟩
  case round =>
    clear HA
    obtain ⟨k, D, nn, qq, hk, rfl, rfl, rfl, hA⟩ := hrel
    have HA : Hid _ := hA
    by_cases hlt : k < s.size
    · have HX : Hid _ := one_byte s k hlt
      have HF : Hid _ := feed_any d D (s.extract k (k + 1)) wr hA.dec hA.lt hA.win HG.out hA.soon.ok (by rw [one_size s k hlt]; decide) (by rw [hA.soon.place]; omega) (by rw [hA.soon.place]; omega)
      have hsI : (s.size : Int) ≤ 140737488351232 := by omega
      have hc1 : (k : Int) + 1 ≤ (s.size : Int) := by omega
      have HK : Hid (k ≤ s.size ∧ s.size ≤ 140737488351232) := ⟨hk, hs⟩
      clear hA hs hk
      go_wp2_with fail
      refine Calls.mono HF.out ?_
      rintro e w3 ⟨vr, vw, rfl, ho, how, hD3, hb3⟩
      rw [HX.out, (feed_one D _).1] at ho
      rw [HX.out, (feed_one D _).2] at hD3
      obtain ⟨n', hch, hsoon, hq3, hone⟩ := soon_step D nn qq k _ HA.out.soon
      obtain ⟨rs, hrs⟩ : ∃ rs, nextR D (s.data.toList[k]'(by simpa using hlt)) = rs := ⟨_, rfl⟩
      have hone1 := hone (by rw [HA.out.cod]; exact HC1.out)
      rw [hrs] at ho hch hsoon hq3 hone1
      have HN : Hid _ := (⟨hsoon, hD3, HA.out.below.trans ((hb3.mono HA.out.below.size).below HA.out.ge), Nat.lt_of_lt_of_le HA.out.lt hb3.size, HA.out.ge, iswin_but HA.out.win hb3 (Nat.le_refl _) HG.out, (nextD_coding D _).1.trans HA.out.cod⟩ : SoonAt w w3 d (k + 1) c _ n' _)
      have HCH : Hid (chain k nn rs = some n') := hch
      have HRL : Hid (rs.length ≤ 2) := by have := (nextR_len D (s.data.toList[k]'(by simpa using hlt))).1; rw [hrs] at this; exact this
      have hqb := HA.out.bound
      obtain ⟨hqb0, hqb1⟩ := hqb
      clear hsoon hD3 hb3 HF how hch hrs
      obtain ⟨r0, rfl⟩ : ∃ r0, rs = [r0] := List.length_eq_one_iff.1 hone1
      have hne : ¬ [r0] = [] := by simp
      clear hone hone1
      · obtain ⟨g, cap, rfl, hcap, hg, hgl, hcells⟩ := own_runes ho (by simp)
        rw [if_neg hne] at HN
        have HCE : Hid _ := hcells
        have HCAP : Hid ([r0].length ≤ cap) := hcap
        clear ho hq3 hcells hcap hg hgl hne
        go_wp2
        go_loopw [6, 11] (fun n kk wx => ∃ (j : Nat) (m : Int), j ≤ [r0].length ∧ kk = .int .i64 j ∧ n = .int .i64 m ∧ chain k m ([r0].drop j) = some n' ∧ 0 ≤ m ∧ wx = w3) (fun _ kk _ => [r0].length - (intOf kk).toNat)
        case atStart => exact ⟨0, nn, Nat.zero_le _, rfl, rfl, HCH.out, HA.out.soon.zero.1, rfl⟩
        case round =>
          obtain ⟨j, m, hj, rfl, rfl, hchj, hm0, rfl⟩ := hrel
          have HM : Hid (0 ≤ m) := hm0
          clear hm0
          have HCJ : Hid _ := hchj
          clear hchj
          by_cases hjl : j < [r0].length
          · have hj1 : (j : Int) < 1 := by simp at hjl; omega
            have hcons : [r0].drop j = [r0][j] :: [r0].drop (j + 1) := List.drop_eq_getElem_cons hjl
            have hx := HCJ.out
            rw [hcons] at hx
            obtain ⟨x1, x2, x3⟩ := chain_cons hx
            have y1 := (HCE.out j hjl).2
            rw [Nat.mul_comm] at y1
            have HX3 : Hid _ := x3
            generalize [r0][j].2 = at' at x1 x2 HX3 y1
            have HZ : Hid (0 ≤ at' + 1) := by have := HA.out.soon.zero.1; show 0 ≤ at' + 1; have := HM.out; omega
            have z1 : ¬ at' < m := by omega
            have z2 : ¬ (k : Int) < at' := by omega
            have z3 : (-1 : Int) ≤ at' := by have := HZ.out; omega
            have z4 : at' ≤ (k : Int) := by omega
            have z5 : (j : Int) ≤ 2 := by have := HRL.out; omega
            clear x1 x2 x3 hx hcons
            go_wp2
            go_roundw
            case rel => exact ⟨j + 1, at' + 1, hjl, by go_num, rfl, HX3.out, HZ.out, by simp⟩
            case measure => simp [intOf]; omega
          · have hj1 : ¬ (j : Int) < 1 := by simp at hjl; omega
            have HE : Hid (m = n') := by
              have h := HCJ.out
              rw [List.drop_eq_nil_of_le (by omega)] at h
              exact Option.some.inj h
            go_wp2
            go_roundw
            case rel => exact ⟨k + 1, _, m, 0, by omega, by go_num, rfl, rfl, by rw [HE.out]; exact HN.out⟩
            case measure => simp [intOf]; omega
    · have HF : Hid _ := end_any d D wr hA.dec hA.lt
      clear hs hk
      go_wp2_with fail
      refine Calls.mono HF.out ?_
      rintro e w3 ⟨vr, vw, rfl, ho, how, hD3, hb3⟩
      have hlt3 : d < w3.heap.size := Nat.lt_of_lt_of_le hA.lt hb3.size
      have HF2 : Hid _ := end_none d _ w3 hD3 hlt3 (by unfold endD; split; rfl; omega)
      have HB3 : Hid (Below w.heap.size w w3) := hA.below.trans ((hb3.mono hA.below.size).below hA.ge)
      obtain ⟨ar, capr, rfl⟩ := own_head ho
      obtain ⟨aw, capw, rfl⟩ := own_head how
      have hl : (endR D).length = (endW D).length ∧ (endR D).length ≤ 1 := by unfold endR endW; split <;> simp
      rw [← hl.1]
      have hl1 : ((endR D).length : Int) ≤ 1 := by omega
      have HS3 : Hid _ := hb3.size
      have HWS : Hid _ := HB3.out.size
      generalize (endR D).length = L at hl1 ⊢
      clear ho how hD3 hb3 hl HF hA HA hlt3
      go_wp2_with fail
      refine Calls.mono HF2.out ?_
      rintro e w4 ⟨rfl, hb4⟩
      go_wp2
      go_ret
      exact ⟨rfl, HB3.out.trans (hb4.mono HWS.out)⟩

theorem soon_law (s : ByteArray) (c : Int) (w : World) (hs : s.size ≤ 140737488351232) (hW : IsWin w) :
    Calls Tryd.prog 4 #[.string s, .int .i64 c] w fun e w' => e = .returned (.bool true) ∧ Below w.heap.size w w' := by
  by_cases hc : c = 1
  · subst hc
    exact soon_utf s w hs hW
  · exact soon_win s c w hc hs hW
end Go.Proofs.YtcndjfpcddidhaaDoor

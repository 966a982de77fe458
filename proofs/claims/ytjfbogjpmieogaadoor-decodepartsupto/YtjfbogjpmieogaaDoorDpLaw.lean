/-
  DecodeParts: any bytes in both codings, cut anywhere: the law's walk.
-/
import Derived.Test.YtjfbogjpmieogaaDoorDpState
namespace Go.Proofs.YtjfbogjpmieogaaDoor
open Go.RowKit

def dst0 (c p : Int) : DSt := ⟨c, p, 0, 0, 0, 0, 0⟩

theorem win_same : ∀ (l : List UInt8) (D : DSt), ¬ D.coding = 1 → D.want = 0 → runes3 (refL.winL D.place l) = rawB D l ∧ bads3 (refL.winL D.place l) = rawW D l
  | [], D, _, hw => by simp [refL.winL, runes3, bads3, rawB, rawW, feedR, feedW, feedD, endR, endW, hw]
  | b :: l, D, hc, hw => by
    have ih := win_same l (nextD D b) (by rw [(nextD_coding D b).1]; exact hc) (by rw [← nextD_win b hc]; exact hw)
    rw [(nextD_coding D b).2] at ih
    rw [(raw_cons D b l).1, (raw_cons D b l).2, (nextR_win b hc).1, (nextR_win b hc).2]
    simp only [refL.winL, runes3, bads3, List.map_cons, List.filter_cons] at ih ⊢
    exact ⟨by rw [ih.1]; rfl, by simpa using ih.2⟩
theorem ref_same (c p : Int) (l : List UInt8) : runes3 (refL c p l) = rawB (dst0 c p) l ∧ bads3 (refL c p l) = rawW (dst0 c p) l := by
  unfold refL
  split
  · rename_i h
    subst h
    exact dec_same l.length l (dst0 1 p) (Nat.le_refl _) rfl rfl
  · rename_i h
    exact win_same l (dst0 c p) h rfl

theorem i64_mask40 (n : Int) : ∃ y : Nat, y < 1099511627776 ∧ bits .and .i64 n 1099511627775 = (y : Int) := by
  have e : bits .and .i64 n 1099511627775 = IntKind.i64.wrap ((BitVec.ofInt 64 n &&& BitVec.ofInt 64 ((1099511627775 : Nat) : Int)).toNat : Int) := rfl
  rw [e, BitVec.toNat_and, ofInt_u64' 1099511627775 (by omega)]
  have h2 : (BitVec.ofInt 64 n).toNat &&& 1099511627775 = (BitVec.ofInt 64 n).toNat % 1099511627776 := Nat.and_two_pow_sub_one_eq_mod (BitVec.ofInt 64 n).toNat 40
  rw [h2]
  generalize (BitVec.ofInt 64 n).toNat = m
  refine ⟨m % 1099511627776, Nat.mod_lt _ (by decide), ?_⟩
  simp only [IntKind.wrap, IntKind.bits, IntKind.signed]
  simp
  omega

/-- The parts, where they lie. -/
structure PartsAt (w : World) (B : Nat) (a : Option Addr) (P : List ByteArray) : Prop where
  out : ∀ t, (h : t < P.length) → ∃ g, a = some ⟨g, 0, none⟩ ∧ g < B ∧ w.cell? ⟨g, t, none⟩ = some (.string P[t])

theorem own_parts {w : World} {base : Nat} {v : Value} {P : List ByteArray} (h : w.ownsRow base 9 1 v P.length (P.map Value.string)) : ∃ a cap, v = .slice a P.length cap ∧ ∀ t, (ht : t < P.length) → ∃ g, a = some ⟨g, 0, none⟩ ∧ base ≤ g ∧ g < w.heap.size ∧ w.cell? ⟨g, t, none⟩ = some (.string P[t]) := by
  rcases h.2 with ⟨rfl, h0⟩ | ⟨g, cap, cur, rfl, hg, hh, hnc, hcm, hcs, htk⟩
  · exact ⟨none, 0, by rw [h0], fun p hp => by omega⟩
  · refine ⟨_, cap, rfl, fun t ht => ⟨g, rfl, hg, ?_, ?_⟩⟩
    · rcases Nat.lt_or_ge g w.heap.size with h' | h'
      · exact h'
      · simp [Array.getElem?_eq_none h'] at hh
    · have e : (P.map Value.string)[t]? = some (.string P[t]) := by simp [ht]
      rw [← htk, List.getElem?_take, if_pos (by omega)] at e
      simp only [World.cell?, hh]
      simpa using e

/-- How far the parts are fed. -/
structure FedAt (B d l : Nat) (w0 w : World) (D0 : DSt) (L : List UInt8) (vo vp vb : Value) : Prop where
  at' : DpAt B d l w0 w (feedD D0 L) (passB false (feedR D0 L)) vo vp vb (feedR D0 L) (passR false (feedR D0 L)) (feedW D0 L)
/-- .. and all of them. -/
structure EndAt (B d l : Nat) (w0 w : World) (D0 : DSt) (L : List UInt8) (vo vp vb : Value) : Prop where
  at' : ∃ D b, DpAt B d l w0 w D b vo vp vb (rawB D0 L) (passR false (rawB D0 L)) (rawW D0 L)

theorem diag_at (rs : List Int) (p : Nat) (hp : p < rs.length) : (rs.flatMap diagC)[p * 3]? = some (.int .i64 2) ∧ (rs.flatMap diagC)[p * 3 + 1]? = some (.int .i64 rs[p]) ∧ (rs.flatMap diagC)[p * 3 + 2]? = some (.string ByteArray.empty) := by
  induction rs generalizing p with
  | nil => simp at hp
  | cons r rs ih =>
    match p, hp with
    | 0, _ => simp [diagC]
    | p + 1, hp =>
      have := ih p (by simpa using hp)
      simp only [List.flatMap_cons, diagC]
      rw [show (p + 1) * 3 = p * 3 + 3 by omega, show p * 3 + 3 + 1 = p * 3 + 1 + 3 by omega, show p * 3 + 3 + 2 = p * 3 + 2 + 3 by omega]
      simpa using this
/-- What is bad, where it lies. -/
structure AtD (w : World) (a : Option Addr) (ws : List Int) : Prop where
  out : ∀ p, (hp : p < ws.length) → ∃ g, a = some ⟨g, 0, none⟩ ∧ w.cell? ⟨g, p * 3, none⟩ = some (.int .i64 2) ∧ w.cell? ⟨g, p * 3 + 1, none⟩ = some (.int .i64 ws[p]) ∧ w.cell? ⟨g, p * 3 + 2, none⟩ = some (.string ByteArray.empty)
theorem own_atD {w : World} {base : Nat} {e : TypeId} {v : Value} {ws : List Int} (h : w.ownsRow base e 3 v ws.length (ws.flatMap diagC)) : ∃ a cap, v = .slice a ws.length cap ∧ AtD w a ws := by
  rcases h.2 with ⟨rfl, h0⟩ | ⟨g, cap, cur, rfl, hg, hh, hnc, hcm, hcs, htk⟩
  · exact ⟨none, 0, by rw [h0], ⟨fun p hp => by omega⟩⟩
  · refine ⟨_, cap, rfl, ⟨fun p hp => ⟨g, rfl, ?_⟩⟩⟩
    have hr := diag_at ws p hp
    rw [← htk] at hr
    rw [List.getElem?_take, if_pos (by omega), List.getElem?_take, if_pos (by omega), List.getElem?_take, if_pos (by omega)] at hr
    simp only [World.cell?, hh]
    simpa using hr

theorem bads_app (a b : List (Int × Int × Bool)) : bads3 (a ++ b) = bads3 a ++ bads3 b := by simp [bads3]
theorem bads_no (R : List (Int × Int × Bool)) (j : Nat) (hj : j < R.length) (hb : R[j].2.2 = false) : bads3 (R.take (j + 1)) = bads3 (R.take j) := by
  rw [List.take_succ_eq_append_getElem hj, bads_app]
  simp [bads3, hb]
theorem bads_yes (R : List (Int × Int × Bool)) (j : Nat) (hj : j < R.length) (hb : R[j].2.2 = true) : (bads3 (R.take (j + 1))).length = (bads3 (R.take j)).length + 1 ∧ (bads3 R)[(bads3 (R.take j)).length]? = some R[j].2.1 := by
  have e1 : bads3 (R.take (j + 1)) = bads3 (R.take j) ++ [R[j].2.1] := by
    rw [List.take_succ_eq_append_getElem hj, bads_app]
    simp [bads3, hb]
  have e2 : bads3 R = bads3 (R.take j) ++ ([R[j].2.1] ++ bads3 (R.drop (j + 1))) := by
    rw [← List.append_assoc, ← e1, ← bads_app, List.take_append_drop]
  refine ⟨by rw [e1]; simp, ?_⟩
  rw [e2, List.getElem?_append_right (Nat.le_refl _)]
  simp

theorem passB_app (b : Bool) (a l : List (Int × Int)) : passB b (a ++ l) = passB (passB b a) l := by
  induction a generalizing b with
  | nil => rfl
  | cons r a ih => simp only [List.cons_append, passB]; exact ih _

theorem flat_take (P : List ByteArray) (k : Nat) (h : k < P.length) : flatS (P.take (k + 1)) = flatS (P.take k) ++ P[k].data.toList := by
  unfold flatS
  rw [List.take_succ_eq_append_getElem h, List.flatMap_append, List.flatMap_singleton]

theorem flat_le (P : List ByteArray) (k : Nat) : (flatS (P.take k)).length ≤ (flatS P).length := by
  have e : flatS P = flatS (P.take k) ++ flatS (P.drop k) := by
    unfold flatS
    rw [← List.flatMap_append, List.take_append_drop]
  rw [e, List.length_append]
  omega

theorem part_le (P : List ByteArray) (k : Nat) (h : k < P.length) : P[k].size ≤ (flatS P).length := by
  have h1 := flat_le P (k + 1)
  rw [flat_take P k h, List.length_append] at h1
  have h2 : P[k].data.toList.length = P[k].size := by simp
  omega

set_option maxRecDepth 100000 in
set_option maxHeartbeats 8000000 in
theorem dparts_law (s : ByteArray) (za : Option Addr) (zcap : Nat) (Z : List Int) (h0 h1 : Int) (w : World) (hZ : IntsAt w za Z) (hn : Z.length ≤ 1048576) (hs : s.size ≤ 1048576) (hW : IsWin w) :
    Calls Tryd.prog 4 #[.string s, .slice za Z.length zcap, .agg #[.int .i64 h0, .int .i64 h1]] w fun e w' => e = .returned (.bool true) ∧ Below w.heap.size w w' := by
  have HB0 : Hid (∀ o, Below w.heap.size w (w.alloc o)) := fun o => (Below.refl _ _).alloc (Nat.le_refl _) o
  have HS : Hid (∀ o, _) := fun o => speaks_any (w.alloc o) (iswin_below hW (HB0.out o) (Nat.le_refl _))
  have HZ : Hid _ := hZ
  have HW : Hid _ := hW
  have HL : Hid _ := iswin_lt hW
  obtain ⟨y, hy, hye⟩ := i64_mask40 h1
  have hnI : (Z.length : Int) ≤ 1048576 := by omega
  clear hZ hW
  go_enter Tryd.func4, Tryd.ntmps4
  go_wp2_with fail
  refine Calls.mono (HS.out _) ?_
  rintro e w1 ⟨rfl, hb1⟩
  have hz1 : w.heap.size + 1 ≤ w1.heap.size := by have := hb1.size; simpa using this
  have c0 : w1.cell? ⟨w.heap.size, 0, none⟩ = some (.int .i64 h0) := (hb1.cell (p := ⟨w.heap.size, 0, none⟩) (by simp)).trans (World.cell?_alloc_at _ _ _ 0 rfl)
  have c1 : w1.cell? ⟨w.heap.size, 1, none⟩ = some (.int .i64 h1) := (hb1.cell (p := ⟨w.heap.size, 1, none⟩) (by simp)).trans (World.cell?_alloc_at _ _ _ 1 rfl)
  have HB1 : Hid (Below w.heap.size w w1) := (HB0.out _).trans (hb1.mono (by simp))
  clear hb1 HS
  go_wp2_with fail
  go_quiet (fail)
  clear c0 c1
  go_wp2_with fail
  refine Calls.mono (new_any h0 (y : Int) _) ?_
  rintro e w2 ⟨rfl, hD2, hb2, hz2⟩
  have hz2' : w2.heap.size = w1.heap.size + 1 := hz2
  have HB2 : Hid (Below w.heap.size w w2) := (drewN_below HB1.out _).trans (hb2.mono (drewN_below HB1.out _).size)
  have hD3 : DecAt w2 w1.heap.size (dst0 h0 (y : Int)) := hD2
  have hdz : (w1.drewN nq).heap.size = w1.heap.size := rfl
  rw [hdz]
  obtain ⟨d, hd⟩ : ∃ d, w1.heap.size = d := ⟨_, rfl⟩
  obtain ⟨l, hl⟩ : ∃ l, w2.heap.size = l := ⟨_, rfl⟩
  rw [hd] at hD3 hz1 hz2' ⊢
  have HBA : Hid (Below w.heap.size w (w2.alloc (.cells #[.bool false] 43))) := HB2.out.alloc HB2.out.size _
  have HDA : Hid (DecAt (w2.alloc (.cells #[.bool false] 43)) d (dst0 h0 (y : Int))) := hD3.below ((Below.refl w2.heap.size w2).alloc (Nat.le_refl _) _) (by omega)
  have HLA : Hid ((w2.alloc (.cells #[.bool false] 43)).cell? ⟨l, 0, none⟩ = some (.bool false) ∧ (w2.alloc (.cells #[.bool false] 43)).frozen? ⟨l, 0, none⟩ = false ∧ (w2.alloc (.cells #[.bool false] 43)).heap.size = l + 1) := by
    refine ⟨World.cell?_alloc_at _ _ _ 0 hl.symm, World.frozen?_alloc_at _ _ _ 0 hl.symm, by simp [hl]⟩
  have HP : Hid _ := parts_any s za zcap Z (w2.alloc (.cells #[.bool false] 43)) (HZ.out.later HBA.out) hn hs
  have HNUM : Hid (w.heap.size ≤ d ∧ d < l ∧ l = d + 1) := ⟨by omega, by omega, by omega⟩
  clear hD2 hb2 hz2 hz2' hD3 HB1 HB2 hz1 hdz HZ HB0
  go_wp2_with fail
  refine Calls.mono HP.out ?_
  rintro e w3 ⟨pv, P, rfl, hown, hplen, hflat, hb3⟩
  obtain ⟨pa, pcap, rfl, hpc⟩ := own_parts hown
  obtain ⟨B, hB⟩ : ∃ B, w3.heap.size = B := ⟨_, rfl⟩
  have hz3 := hb3.size
  have hlz := HLA.out.2.2
  have hlB : l < B := by omega
  have hdB : d < B := by have := HNUM.out; omega
  have HPC : Hid (∀ t, (ht : t < P.length) → ∃ g, pa = some ⟨g, 0, none⟩ ∧ l < g ∧ g < B ∧ w3.cell? ⟨g, t, none⟩ = some (.string P[t])) := fun t ht => by
    obtain ⟨g, e, g1, g2, g3⟩ := hpc t ht
    exact ⟨g, e, by omega, by omega, g3⟩
  have HB3 : Hid (Below w.heap.size w w3) := HBA.out.trans (hb3.mono HBA.out.size)
  have HST : Hid (FedAt B d l w3 w3 (dst0 h0 (y : Int)) [] (.slice none 0 0) (.slice none 0 0) (.slice none 0 0)) := by
    refine ⟨⟨World.ownsRow_nil _ _ _ _, World.ownsRow_nil _ _ _ _, World.ownsRow_nil _ _ _ _, .inl rfl, ?_, ?_, ?_, by omega, hdB, hlB, by have := HNUM.out; omega, But2.refl _ _ _ _⟩⟩
    · exact HDA.out.below hb3 (by have := HNUM.out; omega)
    · exact (hb3.cell (p := ⟨l, 0, none⟩) (by show l < _; omega)).trans HLA.out.1
    · exact (hb3.frozen (p := ⟨l, 0, none⟩) (by show l < _; omega)).trans HLA.out.2.1
  have HWIN : Hid (∀ wx, But2 d l B w3 wx → IsWin wx) := fun wx hk => fun k hk32 => by
    have h1 := iswin_below HW.out HB3.out (Nat.le_refl _) k hk32
    have hlt := HL.out
    have hn := HNUM.out
    have := hk.block 0 (by omega) (by omega) (by omega)
    rw [← h1]
    exact World.cell?_of_block this
  have HFL : Hid (flatS P = s.data.toList ∧ (flatS P).length ≤ 1048576) := ⟨hflat, by rw [hflat]; simpa using hs⟩
  have HPL : Hid (P.length = Z.length + 1) := hplen
  have hPI : (P.length : Int) ≤ 1048577 := by omega
  have HNM : Hid (w.heap.size ≤ d ∧ d < l ∧ 0 ≤ (y : Int) ∧ y < 1099511627776 ∧ 0 ≠ d) := ⟨HNUM.out.1, HNUM.out.2.1, by omega, hy, by have := HL.out; have := HNUM.out; omega⟩
  obtain ⟨i0, hi, hx0, hx1, hx2⟩ := info_parts Tryd.infoRune
  obtain ⟨j0, hj, hj0, hj1, hj2⟩ := info_parts Tryd.infoDiag
  have HBB : Hid (w3.heap.size = B) := hB
  have hyI : (0 : Int) ≤ (y : Int) := by omega
  have hyI2 : (y : Int) < 1099511627776 := by omega
  clear hown hplen hflat hb3 hpc HBA HDA HLA HP HNUM HW hz3 hlz hB hl hd hye
  go_wp2
  go_loopw [11, 12, 13, 15, 16, 17] (fun vo vp vb i _ _ wr => ∃ k : Nat, i = .int .i64 (k : Int) ∧ ((k ≤ P.length ∧ FedAt B d l w3 wr (dst0 h0 (y : Int)) (flatS (P.take k)) vo vp vb) ∨ (k = P.length + 1 ∧ EndAt B d l w3 wr (dst0 h0 (y : Int)) (flatS P) vo vp vb))) (fun _ _ _ i _ _ _ => P.length + 1 - (intOf i).toNat)
  case atStart => exact ⟨0, rfl, .inl ⟨Nat.zero_le _, HST.out⟩⟩
  case round =>
    clear HST
    obtain ⟨k, rfl, hrel⟩ := hrel
    rcases hrel with ⟨hk, hF⟩ | ⟨hk, hE⟩
    · by_cases hlt : k < P.length
      · obtain ⟨g, rfl, g1, g2, cg⟩ := HPC.out k hlt
        have hA := hF.at'
        have cp : wr.cell? ⟨g, k, none⟩ = some (.string P[k]) := by
          have hn := HNM.out
          rw [← cg]
          exact World.cell?_of_block (hA.kp.block g g2 (by omega) (by omega))
        have hfl := flat_le P k
        have hpl := part_le P k hlt
        have HFt : Hid _ := feed_any d (feedD (dst0 h0 (y : Int)) (flatS (P.take k))) P[k] wr hA.dec (Nat.lt_of_lt_of_le hA.dB hA.le) (HWIN.out wr hA.kp) HNM.out.2.2.2.2 (feed_ok _ _ (.inl rfl)) (by have := HFL.out; omega) (by rw [feed_place]; show 0 ≤ (y : Int) + _; omega) (by rw [feed_place]; show (y : Int) + _ < _; have := HFL.out; omega)
        have HA : Hid _ := hA
        have HNX : Hid (flatS (P.take (k + 1)) = flatS (P.take k) ++ P[k].data.toList) := flat_take P k hlt
        have HLEN : Hid ((feedR (dst0 h0 (y : Int)) (flatS (P.take k))).length ≤ 2097152 ∧ (feedW (dst0 h0 (y : Int)) (flatS (P.take k))).length ≤ 2097152 ∧ (passR false (feedR (dst0 h0 (y : Int)) (flatS (P.take k)))).length ≤ 2097152) := by
          have h1 := feed_len (flatS (P.take k)) (dst0 h0 (y : Int))
          have h2 := passR_len false (feedR (dst0 h0 (y : Int)) (flatS (P.take k)))
          have h3 := HFL.out.2
          refine ⟨by omega, by omega, by omega⟩
        have HLE2 : Hid ((feedR (feedD (dst0 h0 (y : Int)) (flatS (P.take k))) P[k].data.toList).length ≤ 2097152 ∧ (feedW (feedD (dst0 h0 (y : Int)) (flatS (P.take k))) P[k].data.toList).length ≤ 2097152) := by
          have h1 := feed_len P[k].data.toList (feedD (dst0 h0 (y : Int)) (flatS (P.take k)))
          have h2 : P[k].data.toList.length = P[k].size := by simp
          have h3 := HFL.out.2
          refine ⟨by omega, by omega⟩
        have hkI : (k : Int) < (P.length : Int) := by omega
        have hkle : (k : Int) ≤ (P.length : Int) := by omega
        clear hF hA hfl hpl hk cg
        go_wp2_with fail
        refine Calls.mono HFt.out ?_
        rintro e w4 ⟨vr, vw, rfl, hG⟩
        have hr0 := hG.1
        have hw0 := hG.2.1
        have hA4 := HA.out.fed hG
        have hBr : B ≤ wr.heap.size + 1 := Nat.le_trans HA.out.le (Nat.le_succ _)
        have HA4 : Hid _ := hA4
        have HR0 : Hid _ := hr0
        have HW0 : Hid _ := hw0
        have HBR : Hid _ := hBr
        have hVO := fun g hg => (own_lt2 HA.out.oo g hg).2
        have HVO : Hid _ := hVO
        clear hVO
        clear hr0 hw0 hA4 hBr hG HFt
        go_wp2_with (at_builtin; refine wpList_append_at rfl _ _ 27 rfl B 26 i0 (.agg #[.int .i64 0, .int .i64 0]) 2 16 Tryd.underlying27 hi hx0 hx1 hx2 rfl (by decide) _ _ _ rfl HA4.out.oo (wr.heap.size + 1) _ _ _ rfl HR0.out (runes_one _) (by have := HLEN.out; have := HLE2.out; unfold maxLen; omega) (by have := HLEN.out; have := HLE2.out; omega) HA4.out.le ?_)
        intro v1 w5 ho1 hg1 hp1
        have hA5 := HA4.out.out (by simpa using ho1) hg1 hp1
        have HR5 : Hid _ := own_kept HR0.out hg1 (by
          cases hv : vr.ownBlock with
          | none => exact .inl rfl
          | some k' =>
            right
            intro e
            have h1 := own_lt2 HR0.out k' hv
            have h2 := HVO.out k' e
            omega)
        have HW5 : Hid _ := own_kept HW0.out hg1 (by
          rcases own_apart (own_mono HW0.out HBR.out) HA4.out.oo (by decide) with e | e
          · exact .inl e
          · exact .inr (fun x => e x.symm))
        have HA5 : Hid _ := hA5
        clear ho1 hg1 hp1 hA5 HR0 HW0 HA4 HVO
        go_wp2_with (at_builtin; refine wpList_append_at rfl _ _ 35 rfl B 56 j0 (.agg #[.int .i64 0, .int .i64 0, .string ByteArray.empty]) 3 32 Tryd.underlying35 hj hj0 hj1 hj2 rfl (by decide) _ _ _ rfl HA5.out.ob (wr.heap.size + 1) _ _ _ rfl HW5.out (diags_one _) (by have := HLEN.out; have := HLE2.out; unfold maxLen; omega) (by have := HLEN.out; have := HLE2.out; omega) HA5.out.le ?_)
        intro v2 w6 ho2 hg2 _
        have hA6 := HA5.out.bad (by simpa using ho2) hg2
        have hR6 := own_kept HR5.out hg2 (by
          rcases own_apart (own_mono HR5.out HBR.out) HA5.out.ob (by decide) with e | e
          · exact .inl e
          · exact .inr (fun x => e x.symm))
        have HPS : Hid _ := pass_any l (wr.heap.size + 1) vr _ _ w6 hA6.lc hA6.lf (Nat.lt_of_lt_of_le hA6.lB hA6.le) (by have := HLE2.out; omega) hR6 (fun g' hg' => by have := own_lt2 hR6 g' hg'; have := HA.out.le; have := HA.out.lB; omega)
        have HA6 : Hid _ := hA6
        clear ho2 hg2 hA6 hR6 HR5 HW5 HA5
        go_wp2_with fail
        refine Calls.mono HPS.out ?_
        rintro e w7 ⟨vq, rfl, hP⟩
        have HA7 : Hid _ := HA6.out.passed hP
        have HQ : Hid _ := hP.own
        have HQL : Hid _ := passR_len (passB false (feedR (dst0 h0 (y : Int)) (flatS (P.take k)))) (feedR (feedD (dst0 h0 (y : Int)) (flatS (P.take k))) P[k].data.toList)
        clear hP HPS HA6
        go_wp2_with (at_builtin; refine wpList_append_at rfl _ _ 27 rfl B 26 i0 (.agg #[.int .i64 0, .int .i64 0]) 2 16 Tryd.underlying27 hi hx0 hx1 hx2 rfl (by decide) _ _ _ rfl HA7.out.op w6.heap.size _ _ _ rfl HQ.out (runes_one _) (by have := HLEN.out; have := HLE2.out; have := HQL.out; unfold maxLen; omega) (by have := HLEN.out; have := HLE2.out; have := HQL.out; omega) HA7.out.le ?_)
        intro v3 w8 ho3 hg3 hp3
        have HA8 : Hid _ := HA7.out.pas (by simpa using ho3) hg3 hp3
        clear ho3 hg3 hp3 HA7 HQ HQL
        have HN : Hid (FedAt B d l w3 w8 (dst0 h0 (y : Int)) (flatS (P.take (k + 1))) v1 v3 v2) := by
          refine ⟨?_⟩
          rw [HNX.out, feedD_app, feedR_app, feedW_app, passR_append, passB_app]
          exact HA8.out
        clear HA8
        go_wp2
        go_roundw
        case rel => exact ⟨k + 1, by go_num, .inl ⟨hlt, HN.out⟩⟩
        case measure => simp [intOf]; omega
      · have hkP : k = P.length := by omega
        have hA := hF.at'
        rw [hkP, List.take_length] at hA
        have HFt : Hid _ := end_any d (feedD (dst0 h0 (y : Int)) (flatS P)) wr hA.dec (Nat.lt_of_lt_of_le hA.dB hA.le)
        have HA : Hid _ := hA
        have HLEN : Hid ((feedR (dst0 h0 (y : Int)) (flatS P)).length ≤ 2097152 ∧ (feedW (dst0 h0 (y : Int)) (flatS P)).length ≤ 2097152 ∧ (passR false (feedR (dst0 h0 (y : Int)) (flatS P))).length ≤ 2097152) := by
          have h1 := feed_len (flatS P) (dst0 h0 (y : Int))
          have h2 := passR_len false (feedR (dst0 h0 (y : Int)) (flatS P))
          have h3 := HFL.out.2
          refine ⟨by omega, by omega, by omega⟩
        have HLE2 : Hid ((endR (feedD (dst0 h0 (y : Int)) (flatS P))).length ≤ 1 ∧ (endW (feedD (dst0 h0 (y : Int)) (flatS P))).length ≤ 1) := end_len _
        have hkI : ¬ (k : Int) < (P.length : Int) := by omega
        have hkle : (k : Int) ≤ (P.length : Int) := by omega
        clear hF hA hk hlt
        go_wp2_with fail
        refine Calls.mono HFt.out ?_
        rintro e w4 ⟨vr, vw, rfl, hG⟩
        have hr0 := hG.1
        have hw0 := hG.2.1
        have hA4 := HA.out.fed hG
        have hBr : B ≤ wr.heap.size + 1 := Nat.le_trans HA.out.le (Nat.le_succ _)
        have HA4 : Hid _ := hA4
        have HR0 : Hid _ := hr0
        have HW0 : Hid _ := hw0
        have HBR : Hid _ := hBr
        have hVO := fun g hg => (own_lt2 HA.out.oo g hg).2
        have HVO : Hid _ := hVO
        clear hVO
        clear hr0 hw0 hA4 hBr hG HFt
        go_wp2_with (at_builtin; refine wpList_append_at rfl _ _ 27 rfl B 26 i0 (.agg #[.int .i64 0, .int .i64 0]) 2 16 Tryd.underlying27 hi hx0 hx1 hx2 rfl (by decide) _ _ _ rfl HA4.out.oo (wr.heap.size + 1) _ _ _ rfl HR0.out (runes_one _) (by have := HLEN.out; have := HLE2.out; unfold maxLen; omega) (by have := HLEN.out; have := HLE2.out; omega) HA4.out.le ?_)
        intro v1 w5 ho1 hg1 hp1
        have hA5 := HA4.out.out (by simpa using ho1) hg1 hp1
        have HR5 : Hid _ := own_kept HR0.out hg1 (by
          cases hv : vr.ownBlock with
          | none => exact .inl rfl
          | some k' =>
            right
            intro e
            have h1 := own_lt2 HR0.out k' hv
            have h2 := HVO.out k' e
            omega)
        have HW5 : Hid _ := own_kept HW0.out hg1 (by
          rcases own_apart (own_mono HW0.out HBR.out) HA4.out.oo (by decide) with e | e
          · exact .inl e
          · exact .inr (fun x => e x.symm))
        have HA5 : Hid _ := hA5
        clear ho1 hg1 hp1 hA5 HR0 HW0 HA4 HVO
        go_wp2_with (at_builtin; refine wpList_append_at rfl _ _ 35 rfl B 56 j0 (.agg #[.int .i64 0, .int .i64 0, .string ByteArray.empty]) 3 32 Tryd.underlying35 hj hj0 hj1 hj2 rfl (by decide) _ _ _ rfl HA5.out.ob (wr.heap.size + 1) _ _ _ rfl HW5.out (diags_one _) (by have := HLEN.out; have := HLE2.out; unfold maxLen; omega) (by have := HLEN.out; have := HLE2.out; omega) HA5.out.le ?_)
        intro v2 w6 ho2 hg2 _
        have hA6 := HA5.out.bad (by simpa using ho2) hg2
        have hR6 := own_kept HR5.out hg2 (by
          rcases own_apart (own_mono HR5.out HBR.out) HA5.out.ob (by decide) with e | e
          · exact .inl e
          · exact .inr (fun x => e x.symm))
        have HPS : Hid _ := pass_any l (wr.heap.size + 1) vr _ _ w6 hA6.lc hA6.lf (Nat.lt_of_lt_of_le hA6.lB hA6.le) (by have := HLE2.out; omega) hR6 (fun g' hg' => by have := own_lt2 hR6 g' hg'; have := HA.out.le; have := HA.out.lB; omega)
        have HA6 : Hid _ := hA6
        clear ho2 hg2 hA6 hR6 HR5 HW5 HA5
        go_wp2_with fail
        refine Calls.mono HPS.out ?_
        rintro e w7 ⟨vq, rfl, hP⟩
        have HA7 : Hid _ := HA6.out.passed hP
        have HQ : Hid _ := hP.own
        have HQL : Hid _ := passR_len (passB false (feedR (dst0 h0 (y : Int)) (flatS P))) (endR (feedD (dst0 h0 (y : Int)) (flatS P)))
        clear hP HPS HA6
        go_wp2_with (at_builtin; refine wpList_append_at rfl _ _ 27 rfl B 26 i0 (.agg #[.int .i64 0, .int .i64 0]) 2 16 Tryd.underlying27 hi hx0 hx1 hx2 rfl (by decide) _ _ _ rfl HA7.out.op w6.heap.size _ _ _ rfl HQ.out (runes_one _) (by have := HLEN.out; have := HLE2.out; have := HQL.out; unfold maxLen; omega) (by have := HLEN.out; have := HLE2.out; have := HQL.out; omega) HA7.out.le ?_)
        intro v3 w8 ho3 hg3 hp3
        have HA8 : Hid _ := HA7.out.pas (by simpa using ho3) hg3 hp3
        clear ho3 hg3 hp3 HA7 HQ HQL
        have HN : Hid (EndAt B d l w3 w8 (dst0 h0 (y : Int)) (flatS P) v1 v3 v2) := by
          have h8 := HA8.out
          rw [← passR_append] at h8
          exact ⟨⟨_, _, h8⟩⟩
        clear HA8
        go_wp2
        go_roundw
        case rel => exact ⟨k + 1, by go_num, .inr ⟨by omega, HN.out⟩⟩
        case measure => simp [intOf]; omega
    · obtain ⟨D, b, hA⟩ := hE.at'
      have hrs := ref_same h0 (y : Int) s.data.toList
      rw [HFL.out.1] at hA
      rw [← hrs.1, ← hrs.2] at hA
      have hkI : ¬ (k : Int) ≤ (P.length : Int) := by omega
      have HD : Hid _ := refDec_any s h0 (y : Int) wr hs hyI (by omega)
      have HBW : Hid (Below w.heap.size w wr) := by
        have hn := HNM.out
        refine HB3.out.trans ⟨hA.kp.os, hA.kp.tape, hA.kp.output, hA.kp.size, fun k' hk' => hA.kp.block k' ?_ (by omega) (by omega)⟩
        have := hA.dB
        omega
      have HOO : Hid _ := hA.oo
      have HOP : Hid _ := hA.op
      have HOB : Hid _ := hA.ob
      clear hE hA hrs hk HPC HWIN HFL HPL HNM HL HB3 HBB hi hx0 hx1 hx2 hj hj0 hj1 hj2 hPI hnI hn hlB hdB hy
      generalize hR : refL h0 (y : Int) s.data.toList = R at HD HOO HOP HOB
      clear hR
      go_wp2_with fail
      refine Calls.mono HD.out ?_
      rintro e w4 ⟨v4, rfl, how, hRl, hb4⟩
      obtain ⟨ao, co, hvo, h2o⟩ := own_at2 (own_below HOO.out hb4)
      obtain ⟨ap, cp, hvp, h2p⟩ := own_at2 (own_below HOP.out hb4)
      obtain ⟨ab, cb, hvb, hDb⟩ := own_atD (own_below HOB.out hb4)
      obtain ⟨aw, cw, rfl, h3w⟩ := own_at3 how
      subst hvo hvp hvb
      have HO : Hid _ := h2o
      have HPa : Hid _ := h2p
      have HDb : Hid _ := hDb
      have HW3 : Hid _ := h3w
      have HB4 : Hid (Below w.heap.size w w4) := HBW.out.trans (hb4.mono HBW.out.size)
      have hRI : (R.length : Int) ≤ 1048576 := by omega
      have HRL : Hid (R.length ≤ 1048576) := by show _ ≤ _; omega
      have HBL : Hid ((bads3 R).length ≤ R.length) := by
        show _ ≤ _
        unfold bads3
        rw [List.length_map]
        exact List.length_filter_le _ _
      clear how hb4 h2o h2p hDb h3w HOO HOP HOB HBW HD hRl hs
      go_wp2
      go_loopw [19, 20] (fun n i wx => ∃ (j q : Nat), j ≤ R.length ∧ i = .int .i64 (j : Int) ∧ n = .int .i64 ((bads3 (R.take j)).length : Int) ∧ wx = w4.drewN q) (fun _ i _ => R.length - (intOf i).toNat)
      case atStart => exact ⟨0, 0, Nat.zero_le _, rfl, rfl, rfl⟩
      case round =>
        obtain ⟨j, q, hj, rfl, rfl, rfl⟩ := hrel
        by_cases hjl : j < R.length
        · obtain ⟨g, rfl, y0, y1, y2⟩ := HW3.out.out j hjl
          have hjI : (j : Int) < (R.length : Int) := by omega
          cases hbd : R[j].2.2
          · have HN : Hid ((bads3 (R.take (j + 1))).length = (bads3 (R.take j)).length) := by show _ = _; rw [bads_no R j hjl hbd]
            rw [hbd] at y2
            obtain ⟨m, hm⟩ : ∃ m, (bads3 (R.take j)).length = m := ⟨_, rfl⟩
            rw [hm] at HN ⊢
            clear hm hbd y0 y1
            go_wp2
            go_roundw
            case rel => exact ⟨j + 1, q, by omega, by go_num, by rw [HN.out], by simp⟩
            case measure => simp [intOf]; omega
          · obtain ⟨hb1, hb2⟩ := bads_yes R j hjl hbd
            rw [hbd] at y2
            obtain ⟨m, hm⟩ : ∃ m, (bads3 (R.take j)).length = m := ⟨_, rfl⟩
            rw [hm] at hb1 hb2 ⊢
            obtain ⟨hml, hme⟩ := List.getElem?_eq_some_iff.1 hb2
            obtain ⟨g', rfl, z0, z1, z2⟩ := HDb.out.out m hml
            rw [hme] at z1
            have HN : Hid _ := hb1
            generalize R[j].2.1 = at' at y1 z1
            have hmI : (m : Int) < ((bads3 R).length : Int) := by omega
            have hmd : decide (((bads3 R).length : Int) ≤ (m : Int)) = false := by simp only [decide_eq_false_iff_not]; omega
            have hmn : decide ((bads3 R).length ≤ m) = false := by simp only [decide_eq_false_iff_not]; omega
            have hmb : (m : Int) ≤ 1048576 := by have := HBL.out; have := HRL.out; omega
            clear hm hbd y0 hb1 hb2 hml hme
            go_wp2_with fail
            go_quiet (fail)
            go_wp2
            go_roundw
            case rel => first | exact ⟨j + 1, q + nq, by omega, by go_num, by rw [HN.out]; go_num, by simp⟩ | ((repeat apply Exists.intro); exact ⟨⟨j + 1, q + nq, by omega, by go_num, by rw [HN.out]; go_num, by simp⟩, rfl⟩)
            case measure => simp [intOf]; omega
        · have hjR : j = R.length := by omega
          subst hjR
          rw [List.take_length]
          have hBq : Below w4.heap.size w4 (w4.drewN q) := drewN_below (Below.refl _ _) q
          have hrl : (runes3 R).length = R.length := by simp [runes3]
          have HS1 : Hid _ := same_any ao aw co cw (runes3 R) R (w4.drewN q) (HO.out.later hBq) (HW3.out.later hBq) rfl (by rw [hrl]; have := HRL.out; omega)
          have HBq : Hid _ := hBq
          clear hjl hj hBq hrl
          go_wp2_with fail
          refine Calls.mono HS1.out ?_
          rintro e w5 ⟨rfl, hb5⟩
          have HB5 : Hid (Below w4.heap.size w4 w5) := HBq.out.trans (hb5.mono HBq.out.size)
          have HLn : Hid _ := rLines_any aw cw R w5 (HW3.out.later HB5.out) HRL.out
          clear hb5 HS1
          go_wp2_with fail
          refine Calls.mono HLn.out ?_
          rintro e w6 ⟨v6, os6, rfl, how6, heq, hb6⟩
          obtain ⟨a6, c6, rfl, h36⟩ := own_at3 how6
          have HB6 : Hid (Below w4.heap.size w4 w6) := HB5.out.trans (hb6.mono HB5.out.size)
          have HS2 : Hid _ := same_any ap a6 cp c6 (passR false (runes3 R)) os6 w6 (HPa.out.later HB6.out) h36 heq (by have := passR_len false (runes3 R); have h2 : (runes3 R).length = R.length := (by simp [runes3]); have := HRL.out; omega)
          clear how6 heq hb6 h36 HLn
          go_wp2_with fail
          refine Calls.mono HS2.out ?_
          rintro e w7 ⟨rfl, hb7⟩
          have HB7 : Hid (Below w.heap.size w w7) := HB4.out.trans ((HB6.out.trans (hb7.mono HB6.out.size)).mono HB4.out.size)
          clear hb7 HS2
          go_wp2
          go_ret
          exact ⟨rfl, HB7.out⟩
end Go.Proofs.YtjfbogjpmieogaaDoor

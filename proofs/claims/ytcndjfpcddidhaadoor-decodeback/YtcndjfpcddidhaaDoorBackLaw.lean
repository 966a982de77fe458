/-
  Scalars that are written in UTF-8 are told as they were: the law's walk.
-/
import Derived.Test.YtcndjfpcddidhaaDoorBackPlain
import Derived.Test.YtcndjfpcddidhaaDoorDLaw
import Derived.Test.YtcndjfpcddidhaaDoorNumPlain
import Derived.Test.YtcndjfpcddidhaaDoorByteLow
namespace Go.Proofs.YtcndjfpcddidhaaDoor
open Go.RowKit

theorem i64_mask21 (n : Int) : ∃ y : Nat, y < 2097152 ∧ bits .and .i64 n 2097151 = (y : Int) := by
  have e : bits .and .i64 n 2097151 = IntKind.i64.wrap ((BitVec.ofInt 64 n &&& BitVec.ofInt 64 ((2097151 : Nat) : Int)).toNat : Int) := rfl
  rw [e, BitVec.toNat_and, ofInt_u64 2097151 (by omega)]
  have h := Nat.and_two_pow_sub_one_eq_mod (BitVec.ofInt 64 n).toNat 21
  have h2 : (BitVec.ofInt 64 n).toNat &&& 2097151 = (BitVec.ofInt 64 n).toNat % 2097152 := h
  rw [h2]
  generalize (BitVec.ofInt 64 n).toNat = m
  refine ⟨m % 2097152, Nat.mod_lt _ (by decide), ?_⟩
  simp only [IntKind.wrap, IntKind.bits, IntKind.signed]
  simp
  omega

theorem own_but2 {w w' : World} {base : Nat} {e : TypeId} {size n d B : Nat} {v : Value} {xs : List Value} (h : w.ownsRow base e size v n xs) (hb : But d B w w') (hk : ∀ g, v.ownBlock = some g → g < B ∧ g ≠ d) : w'.ownsRow base e size v n xs := by
  refine ⟨h.1, ?_⟩
  rcases h.2 with hn | ⟨g, cap, cur, rfl, hb', hgg, rest⟩
  · exact .inl hn
  · have := hk g rfl
    refine .inr ⟨g, cap, cur, rfl, hb', ?_, rest⟩
    rw [hb.block g this.1 this.2]
    exact hgg

theorem own_block_lt2 {w : World} {base : Nat} {e : TypeId} {size : Nat} {v : Value} {n : Nat} {xs : List Value} (h : w.ownsRow base e size v n xs) : ∀ k, v.ownBlock = some k → k < w.heap.size := by
  intro k hk
  rcases h.2 with ⟨rfl, _⟩ | ⟨g, cap, cur, rfl, hg, hh, _⟩
  · cases hk
  · simp only [Value.ownBlock, Option.some.injEq] at hk
    subst hk
    exact (Array.getElem?_eq_some_iff.1 hh).1

/-- How far the first loop has come. -/
structure BackAt (w wr : World) (k : Nat) (sb : ByteArray) (rs : List (Int × Int)) (v : Value) : Prop where
  own : wr.ownsRow w.heap.size 48 2 v rs.length (rs.flatMap runeC)
  len : rs.length ≤ k
  size : sb.size ≤ 4 * k
  fD : feedD (atP 0) sb.data.toList = atP (sb.size : Int)
  fR : feedR (atP 0) sb.data.toList = rs
  fW : feedW (atP 0) sb.data.toList = []
  below : Below w.heap.size w wr

theorem BackAt.skip {w wr : World} {k : Nat} {sb : ByteArray} {rs : List (Int × Int)} {v : Value} (h : BackAt w wr k sb rs v) : BackAt w wr (k + 1) sb rs v :=
  ⟨h.own, by have := h.len; omega, by have := h.size; omega, h.fD, h.fR, h.fW, h.below⟩

theorem BackAt.next {w wr w1 w' : World} {k : Nat} {sb : ByteArray} {rs : List (Int × Int)} {v v' : Value} {c : Nat} (h : BackAt w wr k sb rs v) (h01 : Below wr.heap.size wr w1) (hc : c < 55296 ∨ (57344 ≤ c ∧ c ≤ 1114111))
    (hown' : w'.ownsRow w.heap.size 48 2 v' (rs.length + 1) (rs.flatMap runeC ++ runeC ((c : Int), (sb.size : Int)))) (hgrow : w1.grownBy w' v.ownBlock) : BackAt w w' (k + 1) (sb ++ Utf8.encode (c : Int)) (rs ++ [((c : Int), (sb.size : Int))]) v' := by
  have hs := h.below.size
  obtain ⟨f1, f2, f3, f4⟩ := feed_enc (sb.size : Int) c hc
  have e1 : (sb ++ Utf8.encode (c : Int)).data.toList = sb.data.toList ++ (Utf8.encode (c : Int)).data.toList := by simp
  have e2 : (sb ++ Utf8.encode (c : Int)).size = sb.size + (Utf8.encode (c : Int)).size := by simp
  refine ⟨by simpa using hown', by have := h.len; simp; omega, by have := h.size; omega, ?_, ?_, ?_, (h.below.trans (h01.mono hs)).grown hgrow (Nat.le_trans hs h01.size) (own_block_ge h.own)⟩
  · rw [e1, feedD_app, h.fD, f1, e2]
    congr 1
  · rw [e1, feedR_app, h.fD, h.fR, f2]
  · rw [e1, feedW_app, h.fD, h.fW, f3]
    rfl

set_option maxRecDepth 100000 in
set_option maxHeartbeats 4000000 in
theorem back_law (za : Option Addr) (zcap : Nat) (Z : List Int) (w : World) (hZ : IntsAt w za Z) (hW : IsWin w) :
    Calls Tryd.prog 6 #[.slice za Z.length zcap] w fun e w' => e = .returned (.bool true) ∧ Below w.heap.size w w' := by
  obtain ⟨i0, hi, hy0, hy1, hy2⟩ := info_parts Tryd.infoRune
  have hu21 : (Tryd.prog.underlying 21).isSome = true := by kernel_rfl
  have hu9 := Tryd.underlying9
  have HS : Hid _ := speaks_any w hW
  have HZ : Hid _ := hZ
  have HL : Hid _ := iswin_lt hW
  have HW : Hid _ := hW
  clear hZ hW
  go_enter Tryd.func6, Tryd.ntmps6
  go_wp2_with fail
  refine Calls.mono HS.out ?_
  rintro e w1 ⟨rfl, hb1⟩
  have HST : Hid (BackAt w1 w1 0 ByteArray.empty [] (.slice none 0 0)) := ⟨World.ownsRow_nil _ _ _ _, by simp, by simp, rfl, rfl, rfl, Below.refl _ _⟩
  have HZ1 : Hid _ := HZ.out.later hb1
  have HB1 : Hid _ := hb1
  clear HS HZ hb1
  go_wp2
  go_loopw [3, 4, 5] (fun s l i wr => ∃ (k : Nat) (sb : ByteArray) (rs : List (Int × Int)), k ≤ 500 ∧ s = .string sb ∧ i = .int .i64 k ∧ BackAt w1 wr k sb rs l) (fun _ _ i _ => 500 - (intOf i).toNat)
  case atStart => exact ⟨0, _, [], by omega, rfl, rfl, HST.out⟩
  case round =>
    clear HST
    obtain ⟨k, sb, rs, hk, rfl, rfl, hR⟩ := hrel
    have HR : Hid _ := hR
    by_cases hin : k < Z.length ∧ k < 500
    · obtain ⟨hi1, hi2⟩ := hin
      obtain ⟨zad, rfl, cz⟩ := (HZ1.out.later hR.below).out k hi1
      have hsz := hR.below.size
      have HLN : Hid (rs.length ≤ 500) := by show _ ≤ _; have := hR.len; omega
      have hss : sb.size ≤ 2000 := by have := hR.size; omega
      have HBL : Hid (∀ o, Below wr.heap.size wr (wr.alloc o)) := fun o => (Below.refl _ _).alloc (Nat.le_refl _) o
      generalize Z[k] = z at cz
      obtain ⟨y, hy, hye⟩ := i64_mask21 z
      clear hR
      by_cases hbig : 1114111 < y
      · have hbi : (1114111 : Int) < (y : Int) := by omega
        have HN : Hid _ := HR.out.skip
        go_wp2
        go_roundw
        case rel => exact ⟨k + 1, _, _, by omega, rfl, by go_num, HN.out⟩
        case measure => simp only [intOf]; go_num
      · have hbi : ¬ (1114111 : Int) < (y : Int) := by omega
        by_cases hsur : 55296 ≤ y ∧ y ≤ 57343
        · have hs1 : (55296 : Int) ≤ (y : Int) := by omega
          have hs2 : (y : Int) ≤ (57343 : Int) := by omega
          have HN : Hid _ := HR.out.skip
          go_wp2
          go_roundw
          case rel => exact ⟨k + 1, _, _, by omega, rfl, by go_num, HN.out⟩
          case measure => simp only [intOf]; go_num
        · have hok : y < 55296 ∨ (57344 ≤ y ∧ y ≤ 1114111) := by omega
          have HOK : Hid _ := hok
          have HW32 : Hid (IntKind.i32.wrap (y : Int) = (y : Int)) := by show _ = _; simp [IntKind.wrap, IntKind.bits, IntKind.signed]; omega
          rcases (show ¬ (55296 : Int) ≤ (y : Int) ∨ ((55296 : Int) ≤ (y : Int) ∧ ¬ (y : Int) ≤ 57343) by omega) with hs1 | ⟨hs1, hs2⟩
          all_goals
            clear hok hsur hbig
            go_wp2_with (at_builtin; refine wpList_append_own _ rfl _ _ 29 rfl w1.heap.size 48 i0 (.agg #[.int .i64 0, .int .i64 0]) 2 16 Tryd.underlying29 hi hy0 hy1 hy2 rfl (by decide) _ _ _ rfl (own_below HR.out.own (HBL.out _)) ⟨wr.heap.size, 0, none⟩ 1 1 (runeC ((y : Int), (sb.size : Int))) rfl rfl (news_of2 _ #[.int .i64 (y : Int), .int .i64 (sb.size : Int)] _ _ rfl) (by intro u hu; simp [runeC] at hu; rcases hu with rfl | rfl <;> rfl) (by have := HLN.out; unfold maxLen; omega) (by have := HLN.out; omega) (by simp; omega) ?_)
            intro v' w' hown' hgrow _
            obtain ⟨⟨g, cap, rfl⟩, HN⟩ : (∃ g cap, v' = .slice (some ⟨g, 0, none⟩) (rs.length + 1) cap) ∧ Hid (BackAt w1 w' (k + 1) (sb ++ Utf8.encode (y : Int)) (rs ++ [((y : Int), (sb.size : Int))]) v') := ⟨Joins.ownsRow_form hown' (by omega), HR.out.next (HBL.out _) HOK.out hown' hgrow⟩
            clear hown' hgrow cz
            go_upto_region 11 with fail
            have hwr := HW32.out
            have hEs : (Utf8.encode (y : Int)).size ≤ 4 := (feed_enc 0 y HOK.out).2.2.2
            obtain ⟨E, hE⟩ : ∃ E, Utf8.encode (y : Int) = E := ⟨_, rfl⟩
            rw [hE] at hEs HN
            clear HOK HW32 hy hye hbi HR HLN HBL
            try clear hs2
            clear hs1
            generalize (y : Int) = yy at hwr hE HN ⊢
            go_wp2
            go_roundw
            case rel => exact ⟨k + 1, _, _, by omega, rfl, by go_num, HN.out⟩
            case measure => simp only [intOf]; go_num
    · have hlen : rs.length ≤ 500 := by have := hR.len; omega
      have hss : sb.size ≤ 2000 := by have := hR.size; omega
      have HB2 : Hid (Below w.heap.size w wr) := HB1.out.trans (hR.below.mono HB1.out.size)
      have HWr : Hid _ := iswin_below HW.out HB2.out (Nat.le_refl _)
      have HLr : Hid (0 < wr.heap.size) := Nat.lt_of_lt_of_le HL.out HB2.out.size
      obtain ⟨va, vcap, hve⟩ := own_head hR.own
      subst hve
      have hnw : (atP (sb.size : Int)).want = 0 := rfl
      rcases (show ¬ k < Z.length ∨ (k < Z.length ∧ ¬ k < 500) by omega) with i1 | ⟨i1, i2⟩
      all_goals
        clear hin hR HZ1 HB1 hi hy0 hy1 hy2 hu21 hu9 HW HL
        go_wp2_with fail
        refine Calls.mono (new_any 1 0 wr) ?_
        rintro e w2 ⟨rfl, hD2, hb2, hz2⟩
        have HF : Hid _ := feed_any wr.heap.size (atP 0) sb w2 hD2 (by omega) (iswin_below HWr.out hb2 (Nat.le_refl _)) (by have := HLr.out; omega) (.inl rfl) (by omega) (by decide) (by decide)
        have HB3 : Hid (Below w.heap.size w w2) := HB2.out.trans (hb2.mono HB2.out.size)
        have HO2 : Hid _ := own_below HR.out.own hb2
        have HBB : Hid _ := hb2
        have HZ2 : Hid (w2.heap.size = wr.heap.size + 1) := hz2
        clear hD2 hb2 hz2
        go_wp2_with fail
        refine Calls.mono HF.out ?_
        rintro e w3 ⟨vr1, vw1, rfl, ho1, how1, hD3, hb3⟩
        rw [HR.out.fR] at ho1
        rw [HR.out.fW] at how1
        rw [HR.out.fD] at hD3
        have hz2 := HZ2.out
        have hz3 := hb3.size
        have hOW := own_but2 HO2.out hb3 (fun g hg => by
          have := own_block_lt2 HR.out.own g hg
          constructor <;> omega)
        have HE : Hid _ := end_none wr.heap.size _ w3 hD3 (by omega) rfl
        have HB4 : Hid (Below w.heap.size w w3) := HB2.out.trans ((HBB.out.trans ((hb3.mono (by omega : wr.heap.size ≤ w2.heap.size)).below (Nat.le_refl _))).mono HB2.out.size)
        obtain ⟨aw1, capw1, rfl⟩ := own_head how1
        have HO1 : Hid _ := ho1
        have HOW : Hid _ := hOW
        have hform : vr1 = .slice none 0 0 ∧ rs.length = 0 ∨ ∃ g cap, vr1 = .slice (some ⟨g, 0, none⟩) rs.length cap ∧ rs.length ≤ cap := by
          rcases ho1.2 with ⟨h1, h2⟩ | ⟨g, cap, cur, h1, _, _, h2, _⟩
          · exact .inl ⟨h1, h2⟩
          · exact .inr ⟨g, cap, h1, h2⟩
        have HC3 : Hid _ := own_cells2 ho1
        clear ho1 how1 hD3 hb3 hOW hz2 hz3 HF HO2 HBB HZ2 HB2 HB3 HWr HLr HR
        go_wp2_with fail
        refine Calls.mono HE.out ?_
        rintro e w4 ⟨rfl, hb4⟩
        have HB5 : Hid (Below w.heap.size w w4) := HB4.out.trans (hb4.mono HB4.out.size)
        obtain ⟨a2, c2, hv2, hc2⟩ := own_cells2 (own_below HOW.out hb4)
        injection hv2 with hv2 _ _
        subst hv2
        obtain ⟨a1, c1, hv1, hc1⟩ := own_cells2 (own_below HO1.out hb4)
        have HC : Hid (∀ p, (hp : p < rs.length) → (∃ g, a1 = some ⟨g, 0, none⟩ ∧ w4.cell? ⟨g, p * 2, none⟩ = some (.int .i64 rs[p].1) ∧ w4.cell? ⟨g, p * 2 + 1, none⟩ = some (.int .i64 rs[p].2)) ∧ (∃ g, va = some ⟨g, 0, none⟩ ∧ w4.cell? ⟨g, p * 2, none⟩ = some (.int .i64 rs[p].1) ∧ w4.cell? ⟨g, p * 2 + 1, none⟩ = some (.int .i64 rs[p].2))) := fun p hp => ⟨hc1 p hp, hc2 p hp⟩
        clear hb4 HB4 HO1 HOW HE hc1 hc2 HC3
        rcases hform with ⟨hf, hn0⟩ | ⟨g, cap, hf, hcap⟩
        · obtain rfl : rs = [] := List.length_eq_zero_iff.1 hn0
          subst hf
          clear hv1 HC hn0
          go_wp2
          refine wp_loop_rounds 1 ?_
          rw [rounds_succ]
          go_wp2
          go_ret
          exact ⟨rfl, HB5.out⟩
        · rw [hf] at hv1
          injection hv1 with hv1 _ _
          subst hv1 hf
          go_wp2
          go_loopw [12] (fun i wr => ∃ j q : Nat, j ≤ rs.length ∧ i = .int .i64 j ∧ wr = w4.drewN q) (fun i _ => rs.length - (intOf i).toNat)
          case atStart => exact ⟨0, 0, by omega, rfl, rfl⟩
          case round =>
            obtain ⟨t, q, ht, rfl, rfl⟩ := hrel
            by_cases htl : t < rs.length
            · obtain ⟨⟨g1, e1, k1, k2⟩, ⟨g2, e2, k3, k4⟩⟩ := HC.out t htl
              cases e1
              cases e2
              have htI : (t : Int) < (rs.length : Int) := by omega
              generalize rs[t].1 = y1 at k1 k3
              generalize rs[t].2 = y2 at k2 k4
              go_wp2_with fail
              go_quiet (fail)
              go_wp2
              go_roundw
              case rel => exact ⟨t + 1, q + nq, by omega, by go_num, by simp⟩
              case measure => simp only [intOf]; go_num
            · go_wp2
              go_ret
              exact ⟨rfl, drewN_below_d HB5.out _⟩
end Go.Proofs.YtcndjfpcddidhaaDoor

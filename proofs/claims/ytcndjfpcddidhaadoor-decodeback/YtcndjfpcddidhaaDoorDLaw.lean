/-
  Newlines in one form: the law's walk.
-/
import Derived.Test.YtcndjfpcddidhaaDoorDLow
namespace Go.Proofs.YtcndjfpcddidhaaDoor
open Go.RowKit

def cntV : Bool → List Int → Nat
  | _, [] => 0
  | b, v :: l => (b && v == 10).toNat + cntV (v == 13) l
def lastV : Bool → List Int → Bool
  | b, [] => b
  | _, v :: l => lastV (v == 13) l

theorem passR_cnt (b : Bool) (rs : List (Int × Int)) : (passR b rs).length + cntV b (rs.map (·.1)) = rs.length := by
  induction rs generalizing b with
  | nil => rfl
  | cons r rs ih =>
    have h := ih (r.1 == 13)
    simp only [passR, List.map_cons, cntV, List.length_append, List.length_cons, passOne]
    cases hb : (b && r.1 == 10) <;> simp <;> omega

theorem cntV_snoc (b : Bool) (l : List Int) (v : Int) : cntV b (l ++ [v]) = cntV b l + (lastV b l && v == 10).toNat := by
  induction l generalizing b with
  | nil => simp [cntV, lastV]
  | cons x l ih => simp only [List.cons_append, cntV, lastV, ih]; omega

theorem lastV_snoc (b : Bool) (l : List Int) (v : Int) : lastV b (l ++ [v]) = (v == 13) := by
  induction l generalizing b with
  | nil => rfl
  | cons x l ih => simp only [List.cons_append, lastV, ih]

theorem passR_no (b : Bool) (rs : List (Int × Int)) : ∀ r ∈ passR b rs, (r.1 == 13) = false := by
  induction rs generalizing b with
  | nil => intro r hr; simp [passR] at hr
  | cons x rs ih =>
    intro r hr
    rcases List.mem_append.1 hr with hr | hr
    · unfold passOne at hr
      split at hr
      · simp at hr
      · simp at hr
        subst hr
        simp only []
        split
        · decide
        · rename_i h; simpa using h
    · exact ih _ r hr

theorem cntV_le (b : Bool) (l : List Int) : cntV b l ≤ l.length := by
  induction l generalizing b with
  | nil => simp [cntV]
  | cons x l ih =>
    have := ih (x == 13)
    simp only [cntV, List.length_cons]
    cases (b && x == 10) <;> simp <;> omega

theorem cntV_step (Z : List Int) (k : Nat) (hk : k < Z.length) : cntV false (Z.take (k + 1)) = cntV false (Z.take k) + (lastV false (Z.take k) && Z[k] == 10).toNat := by
  rw [List.take_succ_eq_append_getElem hk, cntV_snoc]
theorem lastV_step (Z : List Int) (k : Nat) (hk : k < Z.length) : lastV false (Z.take (k + 1)) = (Z[k] == 13) := by
  rw [List.take_succ_eq_append_getElem hk, lastV_snoc]

/-- How far the first loop has come. -/
structure InAt (w wr : World) (k : Nat) (Z : List Int) (rs : List (Int × Int)) (v : Value) : Prop where
  own : wr.ownsRow w.heap.size 48 2 v rs.length (rs.flatMap runeC)
  len : rs.length = k
  vals : rs.map (·.1) = Z.take k
  below : Below w.heap.size w wr

theorem InAt.next {w wr w1 w' : World} {k : Nat} {Z : List Int} {rs : List (Int × Int)} {v v' : Value} (h : InAt w wr k Z rs v) (hk : k < Z.length) (h01 : Below wr.heap.size wr w1) {a : Int}
    (hown' : w'.ownsRow w.heap.size 48 2 v' (rs.length + 1) (rs.flatMap runeC ++ runeC (Z[k], a))) (hgrow : w1.grownBy w' v.ownBlock) : InAt w w' (k + 1) Z (rs ++ [(Z[k], a)]) v' := by
  have hs := h.below.size
  refine ⟨by simpa using hown', by simp [h.len], ?_, (h.below.trans (h01.mono hs)).grown hgrow (Nat.le_trans hs h01.size) (own_block_ge h.own)⟩
  rw [List.map_append, h.vals, List.take_succ_eq_append_getElem hk]
  rfl

theorem news_of2 (w : World) (cs : Array Value) (e : TypeId) (k : Nat) (hk : k = w.heap.size) : ∀ j u, cs.toList[j]? = some u → (w.alloc (.cells cs e)).cell? ((⟨k, 0, none⟩ : Addr).add j) = some u := by
  intro j u hj
  subst hk
  have e0 : (⟨w.heap.size, 0, none⟩ : Addr).add j = ⟨w.heap.size, j, none⟩ := by
    cases j <;> simp [Addr.add]
  rw [e0]
  have hj2 : cs[j]? = some u := by simpa using hj
  exact (World.cell?_alloc_at cs e _ j rfl).trans hj2

theorem own_but {w w' : World} {base : Nat} {e : TypeId} {size : Nat} {g n cap d B : Nat} {xs : List Value} (h : w.ownsRow base e size (.slice (some ⟨g, 0, none⟩) n cap) n xs) (hb : But d B w w') (hg : g < B) (hd : g ≠ d) : w'.ownsRow base e size (.slice (some ⟨g, 0, none⟩) n cap) n xs := by
  refine ⟨h.1, ?_⟩
  rcases h.2 with ⟨hv, _⟩ | ⟨g', cap', cur, hv, hb', hgg, rest⟩
  · cases hv
  · injection hv with h1 _ h3
    injection h1 with h1
    injection h1 with h1 _ _
    subst h1 h3
    refine .inr ⟨g, cap, cur, rfl, hb', ?_, rest⟩
    rw [hb.block g hg hd]
    exact hgg

theorem own_cells2 {w : World} {base : Nat} {e : TypeId} {v : Value} {rs : List (Int × Int)} (h : w.ownsRow base e 2 v rs.length (rs.flatMap runeC)) :
    ∃ a cap, v = .slice a rs.length cap ∧ ∀ p, (hp : p < rs.length) → ∃ g, a = some ⟨g, 0, none⟩ ∧ w.cell? ⟨g, p * 2, none⟩ = some (.int .i64 rs[p].1) ∧ w.cell? ⟨g, p * 2 + 1, none⟩ = some (.int .i64 rs[p].2) := by
  obtain ⟨a, cap, rfl⟩ := own_head h
  refine ⟨a, cap, rfl, fun p hp => ?_⟩
  obtain ⟨g, cap', hv, _, _, _, hc⟩ := own_runes h (by omega)
  injection hv with h1 _ _
  have := hc p hp
  rw [Nat.mul_comm 2 p] at this
  exact ⟨g, h1, this⟩

theorem drewN_below_d {B : Nat} {a w : World} (h : Below B a w) (n : Nat) : Below B a (w.drewN n) := h.trans ⟨rfl, rfl, rfl, Nat.le_refl _, fun _ _ => rfl⟩

set_option maxRecDepth 100000 in
set_option maxHeartbeats 4000000 in
theorem dlines_law (za : Option Addr) (zcap : Nat) (Z : List Int) (w : World) (hZ : IntsAt w za Z) (hz : Z.length ≤ 1048576) (hzp : 0 < Z.length) (hW : IsWin w) :
    Calls Tryd.prog 5 #[.slice za Z.length zcap] w fun e w' => e = .returned (.bool true) ∧ Below w.heap.size w w' := by
  obtain ⟨i0, hi, hy0, hy1, hy2⟩ := info_parts Tryd.infoRune
  have HS : Hid _ := speaks_any w hW
  have HZ : Hid _ := hZ
  clear hZ hW
  go_enter Tryd.func5, Tryd.ntmps5
  go_wp2_with fail
  refine Calls.mono HS.out ?_
  rintro e w1 ⟨rfl, hb1⟩
  have HST : Hid (InAt w1 w1 0 Z [] (.slice none 0 0)) := ⟨World.ownsRow_nil _ _ _ _, rfl, rfl, Below.refl _ _⟩
  have HZ1 : Hid _ := HZ.out.later hb1
  have HB1 : Hid _ := hb1
  clear HS HZ hb1
  go_wp2
  go_loopw [3, 4, 5] (fun l c i wr => ∃ (k : Nat) (rs : List (Int × Int)), k ≤ Z.length ∧ c = .int .i64 ((cntV false (Z.take k) : Nat) : Int) ∧ i = .int .i64 k ∧ InAt w1 wr k Z rs l) (fun _ _ i _ => Z.length - (intOf i).toNat)
  case atStart => exact ⟨0, [], by omega, rfl, rfl, HST.out⟩
  case round =>
    clear HST
    obtain ⟨k, rs, hk, rfl, rfl, hR⟩ := hrel
    have HR : Hid _ := hR
    have hcl : cntV false (Z.take k) ≤ k := by have := cntV_le false (Z.take k); rw [List.length_take] at this; omega
    by_cases hin : k < Z.length
    · obtain ⟨zad, rfl, cz⟩ := (HZ1.out.later hR.below).out k hin
      have hsz := hR.below.size
      have HLN : Hid (rs.length = k) := hR.len
      have HBL : Hid (∀ o, Below wr.heap.size wr (wr.alloc o)) := fun o => (Below.refl _ _).alloc (Nat.le_refl _) o
      have HC : Hid _ := cntV_step Z k hin
      have HV : Hid (∀ v', Z[k] = v' → True) := fun _ _ => trivial
      obtain ⟨z, hzz⟩ : ∃ z, Z[k] = z := ⟨_, rfl⟩
      rw [hzz] at cz
      have HE : Hid (Z[k] = z) := hzz
      clear hR hzz HV
      go_wp2_with (at_builtin; refine wpList_append_own _ rfl _ _ 29 rfl w1.heap.size 48 i0 (.agg #[.int .i64 0, .int .i64 0]) 2 16 Tryd.underlying29 hi hy0 hy1 hy2 rfl (by decide) _ _ _ rfl (own_below HR.out.own (HBL.out _)) ⟨wr.heap.size, 0, none⟩ 1 1 (runeC (z, (k : Int))) rfl rfl (news_of2 _ #[.int .i64 z, .int .i64 (k : Int)] _ _ rfl) (by intro u hu; simp [runeC] at hu; rcases hu with rfl | rfl <;> rfl) (by have := HLN.out; unfold maxLen; omega) (by have := HLN.out; omega) (by simp; omega) ?_)
      intro v' w' hown' hgrow _
      rw [← HE.out] at hown'
      have hN := HR.out.next hin (HBL.out _) hown' hgrow
      obtain ⟨⟨g, cap, rfl⟩, HN⟩ : (∃ g cap, v' = .slice (some ⟨g, 0, none⟩) (rs.length + 1) cap) ∧ Hid (InAt w1 w' (k + 1) Z (rs ++ [(Z[k], (k : Int))]) v') := ⟨Joins.ownsRow_form hown' (by omega), hN⟩
      have cz2 : w'.cell? (zad.add k) = some (.int .i64 z) := by
        obtain ⟨ad, e, hc⟩ := (HZ1.out.later hN.below).out k hin
        cases e
        rw [HE.out] at hc
        exact hc
      clear hown' hgrow hN cz
      rcases Nat.eq_zero_or_pos k with rfl | hkp
      · have HX : Hid (cntV false (Z.take (0 + 1)) = cntV false (Z.take 0)) := by show _ = _; rw [HC.out]; simp [lastV]
        clear HC
        go_wp2
        go_roundw
        case rel => exact ⟨0 + 1, _, by omega, by rw [HX.out], by go_num, HN.out⟩
        case measure => simp only [intOf]; go_num
      · obtain ⟨m, rfl⟩ : ∃ m, k = m + 1 := ⟨k - 1, by omega⟩
        have hm : m < Z.length := by omega
        have hmi : (m : Int) < (Z.length : Int) := by omega
        have HL : Hid _ := lastV_step Z m hm
        obtain ⟨y, hyy⟩ : ∃ y, Z[m] = y := ⟨_, rfl⟩
        have cy : w'.cell? (zad.add m) = some (.int .i64 y) := by
          obtain ⟨ad, e, hc⟩ := (HZ1.out.later HN.out.below).out m hm
          cases e
          rw [hyy] at hc
          exact hc
        have e1 : ((m + 1 : Nat) : Int) - 1 = (m : Int) := by omega
        have cz3 : w'.cell? ⟨zad.block, zad.off + (m + 1), none⟩ = some (.int .i64 z) := by simpa [Addr.add] using cz2
        clear cz2
        by_cases h10 : z = 10
        · have hb10 : (z == 10) = true := by simpa using h10
          by_cases h13 : y = 13
          · have hb13 : (y == 13) = true := by simpa using h13
            have HX : Hid (cntV false (Z.take (m + 1 + 1)) = cntV false (Z.take (m + 1)) + 1) := by show _ = _; rw [HC.out, HL.out, hyy, HE.out, hb10, hb13]; rfl
            clear HC HL hyy h10 h13
            go_wp2
            go_roundw
            case rel => exact ⟨m + 1 + 1, _, by omega, by rw [HX.out]; go_num, by go_num, HN.out⟩
            case measure => simp only [intOf]; go_num
          · have hb13 : (y == 13) = false := beq_false_of_ne h13
            have HX : Hid (cntV false (Z.take (m + 1 + 1)) = cntV false (Z.take (m + 1))) := by show _ = _; rw [HC.out, HL.out, hyy, HE.out, hb10, hb13]; rfl
            clear HC HL hyy h10 h13
            go_wp2
            go_roundw
            case rel => exact ⟨m + 1 + 1, _, by omega, by rw [HX.out], by go_num, HN.out⟩
            case measure => simp only [intOf]; go_num
        · have hb10 : (z == 10) = false := beq_false_of_ne h10
          have HX : Hid (cntV false (Z.take (m + 1 + 1)) = cntV false (Z.take (m + 1))) := by show _ = _; rw [HC.out, HE.out, hb10]; simp
          clear HC HL hyy h10
          go_wp2
          go_roundw
          case rel => exact ⟨m + 1 + 1, _, by omega, by rw [HX.out], by go_num, HN.out⟩
          case measure => simp only [intOf]; go_num
    · obtain rfl : k = Z.length := by omega
      have hn : rs.length = Z.length := hR.len
      have hlen : rs.length ≤ 1048576 := by omega
      have hv : rs.map (·.1) = Z := by rw [hR.vals, List.take_length]
      have hcn : (passR false rs).length + cntV false Z = rs.length := by have := passR_cnt false rs; rw [hv] at this; exact this
      rw [List.take_length] at hcl ⊢
      obtain ⟨g, cap, hvg, hcap, hg, hgl, hcg⟩ := own_runes hR.own (by omega)
      subst hvg
      have HOW : Hid _ := hR.own
      have HB0 : Hid (Below wr.heap.size wr (wr.alloc (.cells #[] 48))) := (Below.refl _ _).alloc (Nat.le_refl _) _
      have HC : Hid _ := own_cells (own_below hR.own HB0.out)
      have HBR : Hid (Below w.heap.size w wr) := HB1.out.trans (hR.below.mono HB1.out.size)
      generalize cntV false Z = C at hcl hcn ⊢
      have HCN : Hid _ := hcn
      have HGL : Hid (g < wr.heap.size) := hgl
      have HWS : Hid (w.heap.size ≤ wr.heap.size) := HBR.out.size
      have hnpos : 0 < rs.length := by omega
      have HNP : Hid (0 < rs.length) := hnpos
      clear hR HR HZ1 hk hin hcap hg hgl hcg hv hcn hnpos hn
      go_wp2_with (at_builtin; refine wpList_append_own _ rfl _ _ 29 rfl wr.heap.size 48 i0 (.agg #[.int .i64 0, .int .i64 0]) 2 16 Tryd.underlying29 hi hy0 hy1 hy2 rfl (by decide) _ 0 _ rfl (lit0_own wr) ⟨g, 0, none⟩ rs.length cap (rs.flatMap runeC) rfl (runes_len rs) HC.out (runes_one rs) (by unfold maxLen; omega) (by omega) (by simp) ?_)
      intro v2 w2 hown2 hgrow2 _
      have hX : w2.ownsRow wr.heap.size 48 2 v2 rs.length (rs.flatMap runeC) := by simpa using hown2
      have hB2 : Below wr.heap.size wr w2 := HB0.out.grown hgrow2 (by simp) (fun k hk => by simp [Value.ownBlock] at hk; omega)
      obtain ⟨g2, cap2, hvg2, _, hg2, hgl2, _⟩ := own_runes hX HNP.out
      subst hvg2
      have HO2 : Hid _ := own_below HOW.out hB2
      have HX : Hid _ := hX
      have HG2 : Hid (g2 < w2.heap.size) := hgl2
      have HG1 : Hid (g < w2.heap.size) := Nat.lt_of_lt_of_le HGL.out hB2.size
      have HBR2 : Hid (Below w.heap.size w w2) := HBR.out.trans (hB2.mono HWS.out)
      have HB3 : Hid (Below w2.heap.size w2 (w2.alloc (.cells #[.bool false] 28))) := (Below.refl _ _).alloc (Nat.le_refl _) _
      have HP : Hid _ := pass_some w2.heap.size g cap false rs (w2.alloc (.cells #[.bool false] 28)) (World.cell?_alloc_at _ _ _ _ rfl) (World.frozen?_alloc_at _ _ _ _ rfl) (by simp) (by have := HG1.out; simp; omega) (by have := HG1.out; omega) (by omega) (fun p hp => by
        obtain ⟨a', cap', hv', hc'⟩ := own_cells2 (own_below HO2.out HB3.out)
        injection hv' with h1 _ _
        obtain ⟨g', e', k1, k2⟩ := hc' p hp
        rw [e'] at h1
        injection h1 with h1
        injection h1 with h1 _ _
        subst h1
        exact ⟨k1, k2⟩)
      clear hown2 hgrow2 hX hB2 hg2 hgl2 HC HB0 HBR HGL HOW hi hy0 hy1 hy2
      go_wp2_with fail
      refine Calls.mono HP.out ?_
      rintro e w4 ⟨vo, rfl, hP⟩
      have hbut : But w2.heap.size (w2.alloc (.cells #[.bool false] 28)).heap.size (w2.alloc (.cells #[.bool false] 28)) w4 := hP.but
      have hsA : (w2.alloc (.cells #[.bool false] 28)).heap.size = w2.heap.size + 1 := by simp
      have hOI := own_but (own_below HO2.out HB3.out) hbut (by have := HG1.out; omega) (by have := HG1.out; omega)
      have hOW := own_but (own_below HX.out HB3.out) hbut (by have := HG2.out; omega) (by have := HG2.out; omega)
      have HB4 : Hid (Below w.heap.size w w4) := HBR2.out.trans ((HB3.out.trans ((hbut.mono (by omega : w2.heap.size ≤ _)).below (Nat.le_refl _))).mono HBR2.out.size)
      have HCI : Hid (∀ p, (hp : p < rs.length) → (w4.cell? ⟨g, p * 2, none⟩ = some (.int .i64 rs[p].1) ∧ w4.cell? ⟨g, p * 2 + 1, none⟩ = some (.int .i64 rs[p].2)) ∧ w4.cell? ⟨g2, p * 2, none⟩ = some (.int .i64 rs[p].1) ∧ w4.cell? ⟨g2, p * 2 + 1, none⟩ = some (.int .i64 rs[p].2)) := fun p hp => by
        refine ⟨?_, ?_⟩
        · obtain ⟨a', cap', hv', hc'⟩ := own_cells2 hOI
          injection hv' with h1 _ _
          obtain ⟨g', e', k1, k2⟩ := hc' p hp
          rw [e'] at h1
          injection h1 with h1
          injection h1 with h1 _ _
          subst h1
          exact ⟨k1, k2⟩
        · obtain ⟨a', cap', hv', hc'⟩ := own_cells2 hOW
          injection hv' with h1 _ _
          obtain ⟨g', e', k1, k2⟩ := hc' p hp
          rw [e'] at h1
          injection h1 with h1
          injection h1 with h1 _ _
          subst h1
          exact ⟨k1, k2⟩
      have HOI : Hid _ := hOI
      obtain ⟨oa, ocap, hvo, hco⟩ := own_cells2 hP.own
      subst hvo
      have HCO : Hid _ := hco
      have HNO : Hid _ := passR_no false rs
      have hol := passR_len false rs
      have hcb : (((passR false rs).length : Int) == (rs.length : Int) - (C : Int)) = true := by
        have := HCN.out
        simp
        omega
      generalize passR false rs = os at HCO HNO hol hcb ⊢
      clear hP hbut hsA hOI hOW hco HP HO2 HX HG1 HG2 HB3 HBR2 HCN
      go_wp2
      go_loopw [9] (fun i wr => ∃ j : Nat, j ≤ os.length ∧ i = .int .i64 j ∧ wr = w4) (fun i _ => os.length - (intOf i).toNat)
      case atStart => exact ⟨0, by omega, rfl, rfl⟩
      case round =>
        obtain ⟨j, hj, rfl, hwr⟩ := hrel
        have hwr' := hwr.symm
        subst hwr'
        clear hwr
        by_cases hjl : j < os.length
        · obtain ⟨g3, rfl, k1, _⟩ := HCO.out j hjl
          have hno := HNO.out os[j] (List.getElem_mem _)
          have hjI : (j : Int) < (os.length : Int) := by omega
          generalize os[j].1 = y at k1 hno
          go_wp2
          go_roundw
          case rel => exact ⟨j + 1, by omega, by go_num, by simp⟩
          case measure => simp only [intOf]; go_num
        · clear HCO HNO
          go_wp2
          go_loopw [10] (fun i wr => ∃ j q : Nat, j ≤ rs.length ∧ i = .int .i64 j ∧ wr = w4.drewN q) (fun i _ => rs.length - (intOf i).toNat)
          case atStart => exact ⟨0, 0, by omega, rfl, rfl⟩
          case round =>
            obtain ⟨t, q, ht, rfl, rfl⟩ := hrel
            by_cases htl : t < rs.length
            · obtain ⟨⟨k1, k2⟩, k3, k4⟩ := HCI.out t htl
              have htI : (t : Int) < (rs.length : Int) := by omega
              generalize rs[t].1 = y1 at k1 k3
              generalize rs[t].2 = y2 at k2 k4
              go_wp2_with fail
              go_quiet (fail)
              go_wp2
              go_roundw
              case rel => exact ⟨t + 1, q + nq, by omega, by go_num, by simp⟩
              case measure => simp only [intOf]; go_num
            · have HF : Hid (∀ s W, Calls Tryd.prog 11 #[.pointer none, .string s] W fun e w' => e = .returned (.tuple #[.slice none 0 0, .slice none 0 0]) ∧ Below W.heap.size W w') := feed_nil
              have HE : Hid (∀ W, Calls Tryd.prog 12 #[.pointer none] W fun e w' => e = .returned (.tuple #[.slice none 0 0, .slice none 0 0]) ∧ Below W.heap.size W w') := end_nil
              have HB5 : Hid (Below w.heap.size w (w4.drewN q)) := drewN_below_d HB4.out q
              have HO5 : Hid _ := own_below HOI.out (drewN_below_d (Below.refl w4.heap.size w4) q)
              clear HCI HB4 HOI
              go_wp2_with fail
              refine Calls.mono (HF.out _ _) ?_
              rintro e w6 ⟨rfl, hb6⟩
              have HB6 : Hid (Below w.heap.size w w6) := HB5.out.trans (hb6.mono HB5.out.size)
              have HO6 : Hid _ := own_below HO5.out hb6
              clear hb6 HB5 HO5 HF
              go_wp2_with fail
              refine Calls.mono (HE.out _) ?_
              rintro e w7 ⟨rfl, hb7⟩
              have HB7 : Hid (Below w.heap.size w w7) := HB6.out.trans (hb7.mono HB6.out.size)
              have HN : Hid _ := passN_own _ _ _ rs w7 (own_below HO6.out hb7) (by omega)
              clear hb7 HB6 HO6 HE
              go_wp2_with fail
              refine Calls.mono HN.out ?_
              rintro e w8 ⟨v8, rfl, ho8, hb8⟩
              have HB8 : Hid (Below w.heap.size w w8) := HB7.out.trans (hb8.mono HB7.out.size)
              obtain ⟨a8, c8, hv8⟩ := own_head ho8
              subst hv8
              clear ho8 hb8 HB7 HN
              go_wp2
              go_ret
              exact ⟨rfl, HB8.out⟩
end Go.Proofs.YtcndjfpcddidhaaDoor

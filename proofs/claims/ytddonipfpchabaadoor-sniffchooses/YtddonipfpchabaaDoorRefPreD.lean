/-
  The reference's Prescan: a tag.
-/
import Derived.Test.YtddonipfpchabaaDoorRefPreA
namespace Go.Proofs.YtddonipfpchabaaDoor
open Go.RowKit

set_option maxRecDepth 100000 in
set_option maxHeartbeats 4000000 in
theorem rp_tag (t : ByteArray) (V : ByteArray × Bool) (w wr : World) (p f' : Nat) (u2 u3 u5 u6 u7 u8 u9 u10 u11 u12 u13 u14 u15 u16 u17 u18 u19 u20 u21 u22 u23 u24 u25 u26 u27 u28 u29 u30 u31 u32 u33 u34 u35 u36 u37 u38 u39 u40 u41 u42 u43 u44 u45 u46 u47 u48 u49 u50 u51 u52 u53 u54 u55 u56 u57 u58 u59 u60 u61 u62 u63 u64 u65 u66 u67 u68 u69 u70 u71 u72 u73 u74 u75 u76 u77 u78 u79 u80 u81 u82 u83 u84 u85 u86 u87 u88 u89 u90 u91 u92 u93 u94 u95 u96 u97 u98 u99 u100 u101 u102 u103 u104 u105 u106 u107 u108 u109 u110 u111 u112 u113 u114 u115 u116 u117 u118 u119 u120 u121 u122 u123 u124 u125 u126 u127 u128 u129 u130 u131 u132 u133 u134 u135 u136 u137 u138 u139 u140 u141 u142 u143 u144 u145 u146 u147 u148 u149 u150 u151 u152 u153 u154 u155 u156 u157 u158 u159 u160 u161 u162 u163 u164 u165 u166 u167 : Value) (N : Act → World → Prop) (Q0 : Exit → Act → World → Prop)
    (ht0 : t.size ≤ 1024) (hpt : p < t.size) (hB : Below w.heap.size w wr) (HP : Hid (prescanL t (f' + 1) p = V)) (h60 : ((t[p].toNat : Int) == 60) = true) (hp1 : p + 1 < t.size) (hh : Lib.hasPrefix (t.data.toList.drop p) [60, 33, 45, 45] = false) (hme : metaL (t.data.toList.drop p) = false) (hta : tagL (t.data.toList.drop p) = true)
    (HN : Hid (∀ (p' : Nat) (v2 v3 v5 v6 v7 v8 v9 v15 v16 v17 v18 v19 v20 v21 v22 v23 v24 v25 v26 v27 v28 v29 v30 v31 v32 v33 v34 v35 v36 v37 v38 v39 v40 v41 v42 v43 v44 v45 v46 v47 v48 v49 v50 v51 v52 v53 v54 v55 v56 v57 v58 v59 v60 v61 v62 v63 v64 v65 v66 v67 v68 v69 v70 v71 v72 v73 v74 v75 v76 v77 v78 v79 v80 v81 v82 v83 v84 v85 v86 v87 v88 v89 v90 v91 v92 v93 v94 v95 v96 v97 v98 v99 v100 v101 v102 v103 v104 v105 v106 v107 v108 v109 v110 v111 v112 v113 v114 v115 v116 v117 v118 v119 v120 v121 v122 v123 v124 v125 v126 v127 v128 v129 v130 v131 v132 v133 v134 v135 v136 v137 v138 v139 v140 v141 v142 v143 v144 v145 v146 v147 v148 v149 v150 v151 v152 v153 v154 v155 v156 v157 v158 v159 v160 v161 v162 v163 v164 v165 v166 v167 : Value) (w' : World), p < p' → p' ≤ t.size + 1 → prescanL t f' p' = V → Below w.heap.size w w' → N ⟨#[.string t, undef, v2, v3, .int .i64 p', v5, v6, v7, v8, v9, u10, u11, u12, u13, u14, v15, v16, v17, v18, v19, v20, v21, v22, v23, v24, v25, v26, v27, v28, v29, v30, v31, v32, v33, v34, v35, v36, v37, v38, v39, v40, v41, v42, v43, v44, v45, v46, v47, v48, v49, v50, v51, v52, v53, v54, v55, v56, v57, v58, v59, v60, v61, v62, v63, v64, v65, v66, v67, v68, v69, v70, v71, v72, v73, v74, v75, v76, v77, v78, v79, v80, v81, v82, v83, v84, v85, v86, v87, v88, v89, v90, v91, v92, v93, v94, v95, v96, v97, v98, v99, v100, v101, v102, v103, v104, v105, v106, v107, v108, v109, v110, v111, v112, v113, v114, v115, v116, v117, v118, v119, v120, v121, v122, v123, v124, v125, v126, v127, v128, v129, v130, v131, v132, v133, v134, v135, v136, v137, v138, v139, v140, v141, v142, v143, v144, v145, v146, v147, v148, v149, v150, v151, v152, v153, v154, v155, v156, v157, v158, v159, v160, v161, v162, v163, v164, v165, v166, v167], []⟩ w')) :
    Code.wp Tryd.prog (((Tryd.f14.body).bind firstLoop).getD .skip) (Exit.then N Q0) ⟨#[.string t, undef, u2, u3, .int .i64 p, u5, u6, u7, u8, u9, u10, u11, u12, u13, u14, u15, u16, u17, u18, u19, u20, u21, u22, u23, u24, u25, u26, u27, u28, u29, u30, u31, u32, u33, u34, u35, u36, u37, u38, u39, u40, u41, u42, u43, u44, u45, u46, u47, u48, u49, u50, u51, u52, u53, u54, u55, u56, u57, u58, u59, u60, u61, u62, u63, u64, u65, u66, u67, u68, u69, u70, u71, u72, u73, u74, u75, u76, u77, u78, u79, u80, u81, u82, u83, u84, u85, u86, u87, u88, u89, u90, u91, u92, u93, u94, u95, u96, u97, u98, u99, u100, u101, u102, u103, u104, u105, u106, u107, u108, u109, u110, u111, u112, u113, u114, u115, u116, u117, u118, u119, u120, u121, u122, u123, u124, u125, u126, u127, u128, u129, u130, u131, u132, u133, u134, u135, u136, u137, u138, u139, u140, u141, u142, u143, u144, u145, u146, u147, u148, u149, u150, u151, u152, u153, u154, u155, u156, u157, u158, u159, u160, u161, u162, u163, u164, u165, u166, u167], []⟩ wr := by
  have HL : Hid (t.data.toList.length = t.size) := by show _ = _; simp
  conv => arg 2; whnf
  have h60' : ((t[p].toNat : Int) != 60) = false := by rw [bne, h60]; rfl
  have H60 : Hid (t[p] = 60) := by
    show _ = _
    simpa using (byteJ t[p] 60 (by decide)).symm.trans h60
  have hlast : ((p : Int) + 1 == (t.size : Int)) = false := by simp; omega
  have HS1 : Hid (standsB t p ⟨#[60, 33, 45, 45]⟩ = false) := (stands_open t p).trans hh
  have HHH : Hid (Lib.hasPrefix (t.data.toList.drop p) [60, 33, 45, 45] = false) := hh
  clear hh
  have HNO : Hid (standsB t p ⟨#[60, 109, 101, 116, 97]⟩ = true → ∀ h5 : p + 5 < t.size, (blankB t[p + 5] || ((t[p + 5].toNat : Int) == 47)) = false) := fun hs h5 => by
    have h := metaL_eq t p (by omega)
    rw [hme, hs, at_get t (p + 5) h5] at h
    rw [← slash_eq]
    simpa using h.symm
  have HTL := tagL_at t p hp1 H60.out
  have HSC := tag_scan t p hp1 H60.out
  obtain ⟨k1, hk1d⟩ : ∃ k1, tagK t p hp1 = k1 := ⟨_, rfl⟩
  have hk1 : p + 1 ≤ k1 ∧ k1 ≤ p + 2 := by
    rw [← hk1d]
    unfold tagK
    split <;> omega
  have HK1 : Hid (tagK t p hp1 = k1) := hk1d
  simp only [hk1d] at HTL HSC
  have HTL' : Hid (tagL (t.data.toList.drop p) = (if hk : k1 < t.size then letterB t[k1] else false)) := HTL
  have HSC' : Hid (scan pVal t.data.toList k1 = scan pVal t.data.toList p) := HSC
  have HME : Hid (metaL (t.data.toList.drop p) = false) := hme
  clear HTL HSC hk1d hme
  have hks : k1 < t.size := by
    have := HTL'.out
    rw [hta] at this
    rcases Nat.lt_or_ge k1 t.size with h | h
    · exact h
    · rw [dif_neg (by omega)] at this
      cases this
  have HTK : Hid (letterB t[k1] = true) := by
    have := HTL'.out
    rw [hta, dif_pos hks] at this
    exact this.symm
  obtain ⟨q, hqd⟩ : ∃ q, scan pVal t.data.toList p = q := ⟨_, rfl⟩
  have HQ : Hid (scan pVal t.data.toList k1 = q) := HSC'.out.trans hqd
  have hq0 : k1 ≤ q := by have := scan_ge pVal t.data.toList k1; rw [HQ.out] at this; exact this
  have hq1 : q ≤ t.size := by have := scan_le pVal t.data.toList p (by have := HL.out; omega); have := HL.out; omega
  obtain ⟨en, hed⟩ : ∃ en, behL t (t.size + 1) q = en := ⟨_, rfl⟩
  have hen : en ≤ t.size ∧ q ≤ en := by rw [← hed]; exact ⟨behL_le t _ q hq1, behL_ge t _ q hq1⟩
  have HEN : Hid (behL t (t.size + 1) q = en) := hed
  have HE : Hid (prescanL t f' (en + 1) = V) := by
    show _ = _
    rw [← HP.out]
    simp [prescanL, hpt, HHH.out, HME.out, hta, hqd, hed]
  clear hta hqd hed HTL' HSC'
  go_wp2_with fail
  refine (st_to t _ _ false _ ht0 (by omega) (by omega) (by decide) (by exact HS1.out)).mono ?_
  rintro e w1 ⟨rfl, hb1⟩
  have hB1 := hB.trans (hb1.mono hB.size)
  clear hb1 hB
  go_upto_region 14 with fail
  go_cut [78] from 15 to 167 (fun c wx => c = .bool false ∧ Below w.heap.size w wx)
  case first =>
    cases hsm : standsB t p ⟨#[60, 109, 101, 116, 97]⟩
    · have HSM : Hid (standsB t p ⟨#[60, 109, 101, 116, 97]⟩ = false) := hsm
      clear hsm
      go_wp2_with fail
      refine (st_to t _ _ false _ ht0 (by omega) (by omega) (by decide) (by exact HSM.out)).mono ?_
      rintro e w2 ⟨rfl, hb2⟩
      have hB2 := hB1.trans (hb2.mono hB1.size)
      clear hb2 hB1
      go_wp2_with fail
      go_meet
      exact ⟨rfl, hB2⟩
    have HSM : Hid (standsB t p ⟨#[60, 109, 101, 116, 97]⟩ = true) := hsm
    by_cases h5 : p + 5 < t.size
    · have h5' : (p : Int) + 5 < (t.size : Int) := by omega
      have hno := HNO.out hsm h5
      obtain ⟨hbl, h47⟩ : blankB t[p + 5] = false ∧ ((t[p + 5].toNat : Int) == 47) = false := by
        rw [Bool.or_eq_false_iff] at hno
        exact hno
      clear hsm hno
      go_wp2_with fail
      refine (st_to t _ _ true _ ht0 (by omega) (by omega) (by decide) (by exact HSM.out)).mono ?_
      rintro e w2 ⟨rfl, hb2⟩
      have hB2 := hB1.trans (hb2.mono hB1.size)
      clear hb2 hB1
      go_wp2_with (go_at_call 24; refine (rt_blank t[p + 5] _).mono ?_; rintro e w' ⟨rfl, rfl⟩)
      go_meet
      exact ⟨rfl, hB2⟩
    · have h5' : ¬ (p : Int) + 5 < (t.size : Int) := by omega
      clear hsm
      go_wp2_with fail
      refine (st_to t _ _ true _ ht0 (by omega) (by omega) (by decide) (by exact HSM.out)).mono ?_
      rintro e w2 ⟨rfl, hb2⟩
      have hB2 := hB1.trans (hb2.mono hB1.size)
      clear hb2 hB1
      go_wp2_with fail
      go_meet
      exact ⟨rfl, hB2⟩
  case rest =>
    obtain ⟨rfl, hB2⟩ := hcut
    clear hB1
    go_upto_if 95 with fail
    go_cut [8] from 15 to 167 (fun kv wx => kv = .int .i64 k1 ∧ wc = wx)
    case first =>
      cases hsl : ((t[p + 1].toNat : Int) == 47)
      · have e : k1 = p + 1 := by rw [← HK1.out]; exact tagK_no t p hp1 hsl
        go_wp2_with fail
        go_meet
        exact ⟨by rw [e]; go_num, rfl⟩
      · have e : k1 = p + 2 := by rw [← HK1.out]; exact tagK_yes t p hp1 hsl
        go_wp2_with fail
        go_meet
        exact ⟨by rw [e]; go_num, rfl⟩
    case rest =>
      obtain ⟨rfl, rfl⟩ := hcut
      go_upto_region 22 with fail
      go_cut [107] from 15 to 167 (fun c wx => c = .bool true ∧ wc = wx)
      case first =>
        have hlt := HTK.out
        go_wp2_with (go_at_call 35; refine (refLetter_any t[k1] _).mono ?_; rintro e w' ⟨rfl, rfl⟩)
        go_meet
        exact ⟨rfl, rfl⟩
      case rest =>
        obtain ⟨rfl, rfl⟩ := hcut
        go_wp2_with fail
        go_loop [8] (fun i => ∃ x : Nat, k1 ≤ x ∧ x ≤ q ∧ i = .int .i64 x ∧ scan pVal t.data.toList x = q) (fun i => q - (intOf i).toNat)
        case atStart => exact ⟨k1, Nat.le_refl _, hq0, rfl, HQ.out⟩
        case round =>
          obtain ⟨x, hx0, hx1, rfl, hsc⟩ := hrel
          have HX : Hid (scan pVal t.data.toList x = q) := hsc
          clear hsc
          by_cases hxq : x < q
          · have HN : Hid (scan pVal t.data.toList (x + 1) = q ∧ pVal t[x] = true) := rt_next HX.out hxq hq1
            obtain ⟨hb, h6⟩ := pVal_yes HN.out.2
            go_wp2_with (go_at_call 24; refine (rt_blank t[x] _).mono ?_; rintro e w' ⟨rfl, rfl⟩)
            go_round
            case rel => exact ⟨x + 1, by omega, by omega, by go_num, HN.out.1⟩
            case measure => simp [intOf]; omega
          obtain rfl : x = q := by omega
          clear hxq hx1
          go_upto_region 23 with fail
          go_cut [124] from 108 to 126 (fun c wx => c = .bool false ∧ wc = wx)
          case first =>
            by_cases hxs : x < t.size
            · have HZ : Hid (pVal t[x] = false) := rt_here HX.out hxs
              cases hb : blankB t[x]
              · have h6 : ((t[x].toNat : Int) != 62) = false := by
                  have := HZ.out
                  rw [pVal_eq, hb] at this
                  simpa using this
                go_wp2_with (go_at_call 24; refine (rt_blank t[x] _).mono ?_; rintro e w' ⟨rfl, rfl⟩)
                go_meet
                exact ⟨rfl, rfl⟩
              · go_wp2_with (go_at_call 24; refine (rt_blank t[x] _).mono ?_; rintro e w' ⟨rfl, rfl⟩)
                go_meet
                exact ⟨rfl, rfl⟩
            · have hxs' : ¬ (x : Int) < (t.size : Int) := by omega
              go_wp2_with fail
              go_meet
              exact ⟨rfl, rfl⟩
          case rest =>
            obtain ⟨rfl, rfl⟩ := hcut
            go_wp2_with fail
            go_loopw [8, 9] (fun kv okv wx => ∃ (y f2 : Nat) (b : Bool), y ≤ t.size ∧ kv = .int .i64 y ∧ okv = .bool b ∧ (b = true → t.size < y + f2 ∧ behL t f2 y = en) ∧ (b = false → y = en) ∧ Below w.heap.size w wx) (fun kv okv _ => t.size - (intOf kv).toNat + boolOf okv)
            case atStart => exact ⟨x, t.size + 1, true, hq1, rfl, rfl, fun _ => ⟨by omega, HEN.out⟩, (fun h => by cases h), hB2⟩
            case round =>
              obtain ⟨y, f2, b, hy, rfl, rfl, hbt, hbf, hBy⟩ := hrel
              have HBT : Hid (b = true → t.size < y + f2 ∧ behL t f2 y = en) := hbt
              have HBF : Hid (b = false → y = en) := hbf
              clear hbt hbf
              cases b
              · have HYE := HBF.out rfl
                subst HYE
                go_wp2
                exact HN.out (y + 1) _ _ _ _ _ _ _ _ _ _ _ _ _ _ _ _ _ _ _ _ _ _ _ _ _ _ _ _ _ _ _ _ _ _ _ _ _ _ _ _ _ _ _ _ _ _ _ _ _ _ _ _ _ _ _ _ _ _ _ _ _ _ _ _ _ _ _ _ _ _ _ _ _ _ _ _ _ _ _ _ _ _ _ _ _ _ _ _ _ _ _ _ _ _ _ _ _ _ _ _ _ _ _ _ _ _ _ _ _ _ _ _ _ _ _ _ _ _ _ _ _ _ _ _ _ _ _ _ _ _ _ _ _ _ _ _ _ _ _ _ _ _ _ _ _ _ _ _ _ _ _ _ _ _ _ _ _ _ _ _ _ (by omega) (by omega) HE.out hBy
              · obtain ⟨hf2, hbe⟩ := HBT.out rfl
                obtain ⟨f3, rfl⟩ : ∃ f3, f2 = f3 + 1 := ⟨f2 - 1, by omega⟩
                have HBE : Hid (behL t (f3 + 1) y = en) := hbe
                obtain ⟨⟨n, vv, en', ok⟩, had⟩ : ∃ R, attrF t y = R := ⟨_, rfl⟩
                have HAT : Hid (attrF t y = (n, vv, en', ok)) := had
                have hle : en' ≤ t.size := by have := attrF_le t y; rw [had] at this; exact this
                have hge : y ≤ en' := by have := attrF_ge t y hy; rw [had] at this; exact this
                have hon : ok = true → y < en' := fun h => by
                  have := attrF_on t y (by rw [had]; exact h)
                  rw [had] at this
                  exact this.1
                have HON : Hid (ok = true → y < en') := hon
                have HB3 : Hid ((ok = true → behL t f3 en' = en) ∧ (ok = false → en' = en)) := by
                  have := hbe
                  unfold behL at this
                  rw [had] at this
                  constructor
                  · intro h
                    subst h
                    simpa using this
                  · intro h
                    subst h
                    simpa using this
                clear had hbe hon HBT HBF
                go_wp2_with fail
                refine (refAt_to _ _ n vv en' ok _ (by omega) hy (by exact HAT.out)).mono ?_
                rintro e w4 ⟨rfl, hb4⟩
                have hB4 := hBy.trans (hb4.mono hBy.size)
                clear hb4 hBy
                go_wp2
                go_roundw
                case rel => exact ⟨en', f3, ok, hle, rfl, rfl, fun h => ⟨by have := HON.out h; omega, HB3.out.1 h⟩, HB3.out.2, hB4⟩
                case measure =>
                  cases ok
                  · simp [intOf, boolOf]
                    omega
                  · have := HON.out rfl
                    simp [intOf, boolOf]
                    omega

end Go.Proofs.YtddonipfpchabaaDoor

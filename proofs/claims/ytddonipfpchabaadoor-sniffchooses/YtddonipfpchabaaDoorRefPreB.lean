/-
  The reference's Prescan: a comment, a meta element.
-/
import Derived.Test.YtddonipfpchabaaDoorRefPreA
namespace Go.Proofs.YtddonipfpchabaaDoor
open Go.RowKit

set_option maxRecDepth 100000 in
set_option maxHeartbeats 4000000 in
theorem rp_comment (t : ByteArray) (V : ByteArray × Bool) (w wr : World) (p f' : Nat) (u2 u3 u5 u6 u7 u8 u9 u10 u11 u12 u13 u14 u15 u16 u17 u18 u19 u20 u21 u22 u23 u24 u25 u26 u27 u28 u29 u30 u31 u32 u33 u34 u35 u36 u37 u38 u39 u40 u41 u42 u43 u44 u45 u46 u47 u48 u49 u50 u51 u52 u53 u54 u55 u56 u57 u58 u59 u60 u61 u62 u63 u64 u65 u66 u67 u68 u69 u70 u71 u72 u73 u74 u75 u76 u77 u78 u79 u80 u81 u82 u83 u84 u85 u86 u87 u88 u89 u90 u91 u92 u93 u94 u95 u96 u97 u98 u99 u100 u101 u102 u103 u104 u105 u106 u107 u108 u109 u110 u111 u112 u113 u114 u115 u116 u117 u118 u119 u120 u121 u122 u123 u124 u125 u126 u127 u128 u129 u130 u131 u132 u133 u134 u135 u136 u137 u138 u139 u140 u141 u142 u143 u144 u145 u146 u147 u148 u149 u150 u151 u152 u153 u154 u155 u156 u157 u158 u159 u160 u161 u162 u163 u164 u165 u166 u167 : Value) (N : Act → World → Prop) (Q0 : Exit → Act → World → Prop)
    (ht0 : t.size ≤ 1024) (hpt : p < t.size) (hB : Below w.heap.size w wr) (HP : Hid (prescanL t (f' + 1) p = V)) (h60 : ((t[p].toNat : Int) == 60) = true) (hp1 : p + 1 < t.size) (hh : Lib.hasPrefix (t.data.toList.drop p) [60, 33, 45, 45] = true)
    (HN : Hid (∀ (p' : Nat) (v2 v3 v5 v6 v7 v8 v9 v15 v16 v17 v18 v19 v20 v21 v22 v23 v24 v25 v26 v27 v28 v29 v30 v31 v32 v33 v34 v35 v36 v37 v38 v39 v40 v41 v42 v43 v44 v45 v46 v47 v48 v49 v50 v51 v52 v53 v54 v55 v56 v57 v58 v59 v60 v61 v62 v63 v64 v65 v66 v67 v68 v69 v70 v71 v72 v73 v74 v75 v76 v77 v78 v79 v80 v81 v82 v83 v84 v85 v86 v87 v88 v89 v90 v91 v92 v93 v94 v95 v96 v97 v98 v99 v100 v101 v102 v103 v104 v105 v106 v107 v108 v109 v110 v111 v112 v113 v114 v115 v116 v117 v118 v119 v120 v121 v122 v123 v124 v125 v126 v127 v128 v129 v130 v131 v132 v133 v134 v135 v136 v137 v138 v139 v140 v141 v142 v143 v144 v145 v146 v147 v148 v149 v150 v151 v152 v153 v154 v155 v156 v157 v158 v159 v160 v161 v162 v163 v164 v165 v166 v167 : Value) (w' : World), p < p' → p' ≤ t.size + 1 → prescanL t f' p' = V → Below w.heap.size w w' → N ⟨#[.string t, undef, v2, v3, .int .i64 p', v5, v6, v7, v8, v9, u10, u11, u12, u13, u14, v15, v16, v17, v18, v19, v20, v21, v22, v23, v24, v25, v26, v27, v28, v29, v30, v31, v32, v33, v34, v35, v36, v37, v38, v39, v40, v41, v42, v43, v44, v45, v46, v47, v48, v49, v50, v51, v52, v53, v54, v55, v56, v57, v58, v59, v60, v61, v62, v63, v64, v65, v66, v67, v68, v69, v70, v71, v72, v73, v74, v75, v76, v77, v78, v79, v80, v81, v82, v83, v84, v85, v86, v87, v88, v89, v90, v91, v92, v93, v94, v95, v96, v97, v98, v99, v100, v101, v102, v103, v104, v105, v106, v107, v108, v109, v110, v111, v112, v113, v114, v115, v116, v117, v118, v119, v120, v121, v122, v123, v124, v125, v126, v127, v128, v129, v130, v131, v132, v133, v134, v135, v136, v137, v138, v139, v140, v141, v142, v143, v144, v145, v146, v147, v148, v149, v150, v151, v152, v153, v154, v155, v156, v157, v158, v159, v160, v161, v162, v163, v164, v165, v166, v167], []⟩ w'))
    (HR : Hid (∀ (v4 v5 v6 v7 v8 v9 v15 v16 v17 v18 v19 v20 v21 v22 v23 v24 v25 v26 v27 v28 v29 v30 v31 v32 v33 v34 v35 v36 v37 v38 v39 v40 v41 v42 v43 v44 v45 v46 v47 v48 v49 v50 v51 v52 v53 v54 v55 v56 v57 v58 v59 v60 v61 v62 v63 v64 v65 v66 v67 v68 v69 v70 v71 v72 v73 v74 v75 v76 v77 v78 v79 v80 v81 v82 v83 v84 v85 v86 v87 v88 v89 v90 v91 v92 v93 v94 v95 v96 v97 v98 v99 v100 v101 v102 v103 v104 v105 v106 v107 v108 v109 v110 v111 v112 v113 v114 v115 v116 v117 v118 v119 v120 v121 v122 v123 v124 v125 v126 v127 v128 v129 v130 v131 v132 v133 v134 v135 v136 v137 v138 v139 v140 v141 v142 v143 v144 v145 v146 v147 v148 v149 v150 v151 v152 v153 v154 v155 v156 v157 v158 v159 v160 v161 v162 v163 v164 v165 v166 v167 : Value) (w' : World), Below w.heap.size w w' → Q0 Exit.ret ⟨#[.string t, undef, .string V.1, .bool V.2, v4, v5, v6, v7, v8, v9, u10, u11, u12, u13, u14, v15, v16, v17, v18, v19, v20, v21, v22, v23, v24, v25, v26, v27, v28, v29, v30, v31, v32, v33, v34, v35, v36, v37, v38, v39, v40, v41, v42, v43, v44, v45, v46, v47, v48, v49, v50, v51, v52, v53, v54, v55, v56, v57, v58, v59, v60, v61, v62, v63, v64, v65, v66, v67, v68, v69, v70, v71, v72, v73, v74, v75, v76, v77, v78, v79, v80, v81, v82, v83, v84, v85, v86, v87, v88, v89, v90, v91, v92, v93, v94, v95, v96, v97, v98, v99, v100, v101, v102, v103, v104, v105, v106, v107, v108, v109, v110, v111, v112, v113, v114, v115, v116, v117, v118, v119, v120, v121, v122, v123, v124, v125, v126, v127, v128, v129, v130, v131, v132, v133, v134, v135, v136, v137, v138, v139, v140, v141, v142, v143, v144, v145, v146, v147, v148, v149, v150, v151, v152, v153, v154, v155, v156, v157, v158, v159, v160, v161, v162, v163, v164, v165, v166, v167], []⟩ w')) :
    Code.wp Tryd.prog (((Tryd.f14.body).bind firstLoop).getD .skip) (Exit.then N Q0) ⟨#[.string t, undef, u2, u3, .int .i64 p, u5, u6, u7, u8, u9, u10, u11, u12, u13, u14, u15, u16, u17, u18, u19, u20, u21, u22, u23, u24, u25, u26, u27, u28, u29, u30, u31, u32, u33, u34, u35, u36, u37, u38, u39, u40, u41, u42, u43, u44, u45, u46, u47, u48, u49, u50, u51, u52, u53, u54, u55, u56, u57, u58, u59, u60, u61, u62, u63, u64, u65, u66, u67, u68, u69, u70, u71, u72, u73, u74, u75, u76, u77, u78, u79, u80, u81, u82, u83, u84, u85, u86, u87, u88, u89, u90, u91, u92, u93, u94, u95, u96, u97, u98, u99, u100, u101, u102, u103, u104, u105, u106, u107, u108, u109, u110, u111, u112, u113, u114, u115, u116, u117, u118, u119, u120, u121, u122, u123, u124, u125, u126, u127, u128, u129, u130, u131, u132, u133, u134, u135, u136, u137, u138, u139, u140, u141, u142, u143, u144, u145, u146, u147, u148, u149, u150, u151, u152, u153, u154, u155, u156, u157, u158, u159, u160, u161, u162, u163, u164, u165, u166, u167], []⟩ wr := by
  have HL : Hid (t.data.toList.length = t.size) := by show _ = _; simp
  conv => arg 2; whnf
  have h60' : ((t[p].toNat : Int) != 60) = false := by rw [bne, h60]; rfl
  have H60 : Hid (t[p] = 60) := by
    show _ = _
    simpa using (byteJ t[p] 60 (by decide)).symm.trans h60
  have hlast : ((p : Int) + 1 == (t.size : Int)) = false := by simp; omega
  have hroom := hp_room hh
  have hp4 : p + 4 ≤ t.size := by have := HL.out; simp at hroom; omega
  have HS1 : Hid (standsB t p ⟨#[60, 33, 45, 45]⟩ = true) := (stands_open t p).trans hh
  have HE : Hid (prescanL t f' (endC t p + 1) = V) := by
    show _ = _
    rw [← HP.out]
    simp [prescanL, hpt, hh]
  obtain ⟨j, hjd⟩ : ∃ j, findD t (t.size - (p + 2)) (p + 2) = j := ⟨_, rfl⟩
  have hjk : p + 2 ≤ j := by rw [← hjd]; exact findD_ge t _ _ (by omega)
  have hjs : j ≤ t.size := by rw [← hjd]; exact findD_le t _ _
  have HJ : Hid (findD t (t.size - (p + 2)) (p + 2) = j) := hjd
  have HEC : Hid (endC t p = if j < t.size then j + 2 else t.size) := by
    show _ = _
    rw [endC_find t p (by omega), hjd]
  clear hjd hh hroom
  go_wp2_with fail
  refine (st_to t _ _ true _ ht0 (by omega) (by omega) (by decide) (by exact HS1.out)).mono ?_
  rintro e w1 ⟨rfl, hb1⟩
  have hB1 := hB.trans (hb1.mono hB.size)
  clear hb1 hB
  go_wp2_with fail
  go_loopw [5] (fun i wx => ∃ x : Nat, p + 2 ≤ x ∧ x ≤ j ∧ i = .int .i64 x ∧ findD t (t.size - x) x = j ∧ Below w.heap.size w wx) (fun i _ => j - (intOf i).toNat)
  case atStart => exact ⟨p + 2, Nat.le_refl _, hjk, by go_num, HJ.out, hB1⟩
  case round =>
    obtain ⟨x, hx0, hx1, rfl, hfx, hbx⟩ := hrel
    have HX : Hid (findD t (t.size - x) x = j) := hfx
    clear hfx
    by_cases hxj : x < j
    · have HNX : Hid (Lib.occAt t.data.toList [45, 45, 62] x = false ∧ findD t (t.size - (x + 1)) (x + 1) = j) := findD_next t x j hxj hjs HX.out
      have HS2 : Hid (standsB t x ⟨#[45, 45, 62]⟩ = false) := (stands_close t x).trans HNX.out.1
      go_wp2_with fail
      refine (st_to t _ _ false _ ht0 (by omega) (by omega) (by decide) (by exact HS2.out)).mono ?_
      rintro e w2 ⟨rfl, hb2⟩
      have hb3 := hbx.trans (hb2.mono hbx.size)
      clear hb2 hbx
      go_wp2
      go_roundw
      case rel => exact ⟨x + 1, by omega, by omega, by go_num, HNX.out.2, hb3⟩
      case measure => simp [intOf]; omega
    obtain rfl : x = j := by omega
    clear hxj hx1
    by_cases hxs : x < t.size
    · have HS2 : Hid (standsB t x ⟨#[45, 45, 62]⟩ = true) := (stands_close t x).trans (findD_fix t x hxs HX.out)
      have hxe : ((x : Int) == (t.size : Int)) = false := by simp; omega
      have hroom : x + 3 ≤ t.size := by
        have ho := findD_fix t x hxs HX.out
        rcases Lib.occAt_room ho with h | h
        · have := HL.out
          simp at h
          omega
        · cases h
      have HF : Hid (prescanL t f' (x + 2 + 1) = V) := by
        show _ = _
        rw [← HE.out, HEC.out, if_pos hxs]
      go_wp2_with fail
      refine (st_to t _ _ true _ ht0 (by omega) (by omega) (by decide) (by exact HS2.out)).mono ?_
      rintro e w2 ⟨rfl, hb2⟩
      have hb3 := hbx.trans (hb2.mono hbx.size)
      clear hb2 hbx
      go_wp2
      exact HN.out (x + 2 + 1) _ _ _ _ _ _ _ _ _ _ _ _ _ _ _ _ _ _ _ _ _ _ _ _ _ _ _ _ _ _ _ _ _ _ _ _ _ _ _ _ _ _ _ _ _ _ _ _ _ _ _ _ _ _ _ _ _ _ _ _ _ _ _ _ _ _ _ _ _ _ _ _ _ _ _ _ _ _ _ _ _ _ _ _ _ _ _ _ _ _ _ _ _ _ _ _ _ _ _ _ _ _ _ _ _ _ _ _ _ _ _ _ _ _ _ _ _ _ _ _ _ _ _ _ _ _ _ _ _ _ _ _ _ _ _ _ _ _ _ _ _ _ _ _ _ _ _ _ _ _ _ _ _ _ _ _ _ _ _ _ _ (by omega) (by omega) HF.out hb3
    · have hxs' : ¬ (x : Int) < (t.size : Int) := by omega
      have hxe : ((x : Int) == (t.size : Int)) = true := by simp; omega
      have HF : Hid (V = (⟨#[]⟩, false)) := by
        show _ = _
        rw [← HE.out, HEC.out, if_neg hxs]
        exact prescan_out t _ _ (by omega)
      go_wp2
      have HR2 := HR.out
      rw [HF.out] at HR2
      exact HR2 _ _ _ _ _ _ _ _ _ _ _ _ _ _ _ _ _ _ _ _ _ _ _ _ _ _ _ _ _ _ _ _ _ _ _ _ _ _ _ _ _ _ _ _ _ _ _ _ _ _ _ _ _ _ _ _ _ _ _ _ _ _ _ _ _ _ _ _ _ _ _ _ _ _ _ _ _ _ _ _ _ _ _ _ _ _ _ _ _ _ _ _ _ _ _ _ _ _ _ _ _ _ _ _ _ _ _ _ _ _ _ _ _ _ _ _ _ _ _ _ _ _ _ _ _ _ _ _ _ _ _ _ _ _ _ _ _ _ _ _ _ _ _ _ _ _ _ _ _ _ _ _ _ _ _ _ _ _ _ _ hbx

set_option maxRecDepth 100000 in
set_option maxHeartbeats 4000000 in
theorem rp_meta (t : ByteArray) (V : ByteArray × Bool) (w wr : World) (p f' : Nat) (u2 u3 u5 u6 u7 u8 u9 u10 u11 u12 u13 u14 u15 u16 u17 u18 u19 u20 u21 u22 u23 u24 u25 u26 u27 u28 u29 u30 u31 u32 u33 u34 u35 u36 u37 u38 u39 u40 u41 u42 u43 u44 u45 u46 u47 u48 u49 u50 u51 u52 u53 u54 u55 u56 u57 u58 u59 u60 u61 u62 u63 u64 u65 u66 u67 u68 u69 u70 u71 u72 u73 u74 u75 u76 u77 u78 u79 u80 u81 u82 u83 u84 u85 u86 u87 u88 u89 u90 u91 u92 u93 u94 u95 u96 u97 u98 u99 u100 u101 u102 u103 u104 u105 u106 u107 u108 u109 u110 u111 u112 u113 u114 u115 u116 u117 u118 u119 u120 u121 u122 u123 u124 u125 u126 u127 u128 u129 u130 u131 u132 u133 u134 u135 u136 u137 u138 u139 u140 u141 u142 u143 u144 u145 u146 u147 u148 u149 u150 u151 u152 u153 u154 u155 u156 u157 u158 u159 u160 u161 u162 u163 u164 u165 u166 u167 : Value) (N : Act → World → Prop) (Q0 : Exit → Act → World → Prop)
    (ht0 : t.size ≤ 1024) (hpt : p < t.size) (hB : Below w.heap.size w wr) (HP : Hid (prescanL t (f' + 1) p = V)) (h60 : ((t[p].toNat : Int) == 60) = true) (hp1 : p + 1 < t.size) (hh : Lib.hasPrefix (t.data.toList.drop p) [60, 33, 45, 45] = false) (hme : metaL (t.data.toList.drop p) = true)
    (HN : Hid (∀ (p' : Nat) (v2 v3 v5 v6 v7 v8 v9 v15 v16 v17 v18 v19 v20 v21 v22 v23 v24 v25 v26 v27 v28 v29 v30 v31 v32 v33 v34 v35 v36 v37 v38 v39 v40 v41 v42 v43 v44 v45 v46 v47 v48 v49 v50 v51 v52 v53 v54 v55 v56 v57 v58 v59 v60 v61 v62 v63 v64 v65 v66 v67 v68 v69 v70 v71 v72 v73 v74 v75 v76 v77 v78 v79 v80 v81 v82 v83 v84 v85 v86 v87 v88 v89 v90 v91 v92 v93 v94 v95 v96 v97 v98 v99 v100 v101 v102 v103 v104 v105 v106 v107 v108 v109 v110 v111 v112 v113 v114 v115 v116 v117 v118 v119 v120 v121 v122 v123 v124 v125 v126 v127 v128 v129 v130 v131 v132 v133 v134 v135 v136 v137 v138 v139 v140 v141 v142 v143 v144 v145 v146 v147 v148 v149 v150 v151 v152 v153 v154 v155 v156 v157 v158 v159 v160 v161 v162 v163 v164 v165 v166 v167 : Value) (w' : World), p < p' → p' ≤ t.size + 1 → prescanL t f' p' = V → Below w.heap.size w w' → N ⟨#[.string t, undef, v2, v3, .int .i64 p', v5, v6, v7, v8, v9, u10, u11, u12, u13, u14, v15, v16, v17, v18, v19, v20, v21, v22, v23, v24, v25, v26, v27, v28, v29, v30, v31, v32, v33, v34, v35, v36, v37, v38, v39, v40, v41, v42, v43, v44, v45, v46, v47, v48, v49, v50, v51, v52, v53, v54, v55, v56, v57, v58, v59, v60, v61, v62, v63, v64, v65, v66, v67, v68, v69, v70, v71, v72, v73, v74, v75, v76, v77, v78, v79, v80, v81, v82, v83, v84, v85, v86, v87, v88, v89, v90, v91, v92, v93, v94, v95, v96, v97, v98, v99, v100, v101, v102, v103, v104, v105, v106, v107, v108, v109, v110, v111, v112, v113, v114, v115, v116, v117, v118, v119, v120, v121, v122, v123, v124, v125, v126, v127, v128, v129, v130, v131, v132, v133, v134, v135, v136, v137, v138, v139, v140, v141, v142, v143, v144, v145, v146, v147, v148, v149, v150, v151, v152, v153, v154, v155, v156, v157, v158, v159, v160, v161, v162, v163, v164, v165, v166, v167], []⟩ w'))
    (HR : Hid (∀ (v4 v5 v6 v7 v8 v9 v15 v16 v17 v18 v19 v20 v21 v22 v23 v24 v25 v26 v27 v28 v29 v30 v31 v32 v33 v34 v35 v36 v37 v38 v39 v40 v41 v42 v43 v44 v45 v46 v47 v48 v49 v50 v51 v52 v53 v54 v55 v56 v57 v58 v59 v60 v61 v62 v63 v64 v65 v66 v67 v68 v69 v70 v71 v72 v73 v74 v75 v76 v77 v78 v79 v80 v81 v82 v83 v84 v85 v86 v87 v88 v89 v90 v91 v92 v93 v94 v95 v96 v97 v98 v99 v100 v101 v102 v103 v104 v105 v106 v107 v108 v109 v110 v111 v112 v113 v114 v115 v116 v117 v118 v119 v120 v121 v122 v123 v124 v125 v126 v127 v128 v129 v130 v131 v132 v133 v134 v135 v136 v137 v138 v139 v140 v141 v142 v143 v144 v145 v146 v147 v148 v149 v150 v151 v152 v153 v154 v155 v156 v157 v158 v159 v160 v161 v162 v163 v164 v165 v166 v167 : Value) (w' : World), Below w.heap.size w w' → Q0 Exit.ret ⟨#[.string t, undef, .string V.1, .bool V.2, v4, v5, v6, v7, v8, v9, u10, u11, u12, u13, u14, v15, v16, v17, v18, v19, v20, v21, v22, v23, v24, v25, v26, v27, v28, v29, v30, v31, v32, v33, v34, v35, v36, v37, v38, v39, v40, v41, v42, v43, v44, v45, v46, v47, v48, v49, v50, v51, v52, v53, v54, v55, v56, v57, v58, v59, v60, v61, v62, v63, v64, v65, v66, v67, v68, v69, v70, v71, v72, v73, v74, v75, v76, v77, v78, v79, v80, v81, v82, v83, v84, v85, v86, v87, v88, v89, v90, v91, v92, v93, v94, v95, v96, v97, v98, v99, v100, v101, v102, v103, v104, v105, v106, v107, v108, v109, v110, v111, v112, v113, v114, v115, v116, v117, v118, v119, v120, v121, v122, v123, v124, v125, v126, v127, v128, v129, v130, v131, v132, v133, v134, v135, v136, v137, v138, v139, v140, v141, v142, v143, v144, v145, v146, v147, v148, v149, v150, v151, v152, v153, v154, v155, v156, v157, v158, v159, v160, v161, v162, v163, v164, v165, v166, v167], []⟩ w')) :
    Code.wp Tryd.prog (((Tryd.f14.body).bind firstLoop).getD .skip) (Exit.then N Q0) ⟨#[.string t, undef, u2, u3, .int .i64 p, u5, u6, u7, u8, u9, u10, u11, u12, u13, u14, u15, u16, u17, u18, u19, u20, u21, u22, u23, u24, u25, u26, u27, u28, u29, u30, u31, u32, u33, u34, u35, u36, u37, u38, u39, u40, u41, u42, u43, u44, u45, u46, u47, u48, u49, u50, u51, u52, u53, u54, u55, u56, u57, u58, u59, u60, u61, u62, u63, u64, u65, u66, u67, u68, u69, u70, u71, u72, u73, u74, u75, u76, u77, u78, u79, u80, u81, u82, u83, u84, u85, u86, u87, u88, u89, u90, u91, u92, u93, u94, u95, u96, u97, u98, u99, u100, u101, u102, u103, u104, u105, u106, u107, u108, u109, u110, u111, u112, u113, u114, u115, u116, u117, u118, u119, u120, u121, u122, u123, u124, u125, u126, u127, u128, u129, u130, u131, u132, u133, u134, u135, u136, u137, u138, u139, u140, u141, u142, u143, u144, u145, u146, u147, u148, u149, u150, u151, u152, u153, u154, u155, u156, u157, u158, u159, u160, u161, u162, u163, u164, u165, u166, u167], []⟩ wr := by
  have HL : Hid (t.data.toList.length = t.size) := by show _ = _; simp
  conv => arg 2; whnf
  have h60' : ((t[p].toNat : Int) != 60) = false := by rw [bne, h60]; rfl
  have H60 : Hid (t[p] = 60) := by
    show _ = _
    simpa using (byteJ t[p] 60 (by decide)).symm.trans h60
  have hlast : ((p : Int) + 1 == (t.size : Int)) = false := by simp; omega
  have HS1 : Hid (standsB t p ⟨#[60, 33, 45, 45]⟩ = false) := (stands_open t p).trans hh
  have HHH : Hid (Lib.hasPrefix (t.data.toList.drop p) [60, 33, 45, 45] = false) := hh
  clear hh
  have hroom := metaL_room hme
  have hp5 : p + 5 < t.size := by have := HL.out; simp at hroom; omega
  have HYES : Hid (standsB t p ⟨#[60, 109, 101, 116, 97]⟩ = true ∧ (blankB t[p + 5] || ((t[p + 5].toNat : Int) == 47)) = true) := by
    have h := metaL_eq t p (by omega)
    rw [hme, at_get t (p + 5) hp5] at h
    rw [← slash_eq]
    have h2 := h.symm
    rw [Bool.and_eq_true] at h2
    exact h2
  obtain ⟨⟨st1, en⟩, hmd⟩ : ∃ R, mread t (t.size + 1) (p + 5) st0 = R := ⟨_, rfl⟩
  have hen : en ≤ t.size ∧ p + 5 ≤ en := by
    have h1 := mread_le t (t.size + 1) (p + 5) st0 (by omega)
    have h2 := mread_ge t (t.size + 1) (p + 5) st0 (by omega)
    rw [hmd] at h1 h2
    exact ⟨h1, h2⟩
  have HE : Hid ((if tellsB st1 then (st1.name, true) else prescanL t f' (en + 1)) = V) := by
    show _ = _
    rw [← HP.out]
    simp [prescanL, hpt, HHH.out, hme, hmd]
  have HMF : Hid (metaF t (p + 5) = (if tellsB st1 then st1.name else ⟨#[]⟩, en)) := by
    show _ = _
    simp [metaF, hmd]
  clear hme hroom hmd
  go_wp2_with fail
  refine (st_to t _ _ false _ ht0 (by omega) (by omega) (by decide) (by exact HS1.out)).mono ?_
  rintro e w1 ⟨rfl, hb1⟩
  have hB1 := hB.trans (hb1.mono hB.size)
  clear hb1 hB
  go_upto_region 14 with fail
  go_cut [78] from 15 to 167 (fun c wx => c = .bool true ∧ Below w.heap.size w wx)
  case first =>
    have HSM : Hid (standsB t p ⟨#[60, 109, 101, 116, 97]⟩ = true) := HYES.out.1
    have h5' : (p : Int) + 5 < (t.size : Int) := by omega
    cases hbl : blankB t[p + 5]
    · have h47 : ((t[p + 5].toNat : Int) == 47) = true := by
        have := HYES.out.2
        rw [hbl] at this
        simpa using this
      go_wp2_with fail
      refine (st_to t _ _ true _ ht0 (by omega) (by omega) (by decide) (by exact HSM.out)).mono ?_
      rintro e w2 ⟨rfl, hb2⟩
      have hB2 := hB1.trans (hb2.mono hB1.size)
      clear hb2 hB1
      go_wp2_with (go_at_call 24; refine (rt_blank t[p + 5] _).mono ?_; rintro e w' ⟨rfl, rfl⟩)
      go_meet
      exact ⟨rfl, hB2⟩
    · skip
      go_wp2_with fail
      refine (st_to t _ _ true _ ht0 (by omega) (by omega) (by decide) (by exact HSM.out)).mono ?_
      rintro e w2 ⟨rfl, hb2⟩
      have hB2 := hB1.trans (hb2.mono hB1.size)
      clear hb2 hB1
      go_wp2_with (go_at_call 24; refine (rt_blank t[p + 5] _).mono ?_; rintro e w' ⟨rfl, rfl⟩)
      go_meet
      exact ⟨rfl, hB2⟩
  case rest =>
    obtain ⟨rfl, hB2⟩ := hcut
    clear hB1
    go_wp2_with fail
    rw [show ((p : Int) + 5) = ((p + 5 : Nat) : Int) by omega]
    refine (refMeta_any t (p + 5) _ ht0 (by omega)).mono ?_
    rintro e w3 ⟨rfl, hb3⟩
    rw [HMF.out]
    have hB3 := hB2.trans (hb3.mono hB2.size)
    clear hb3 hB2
    cases hte : tellsB st1
    · have HX : Hid (prescanL t f' (en + 1) = V) := by
        have := HE.out
        rw [hte] at this
        exact this
      clear HE HMF hte
      go_wp2
      exact HN.out (en + 1) _ _ _ _ _ _ _ _ _ _ _ _ _ _ _ _ _ _ _ _ _ _ _ _ _ _ _ _ _ _ _ _ _ _ _ _ _ _ _ _ _ _ _ _ _ _ _ _ _ _ _ _ _ _ _ _ _ _ _ _ _ _ _ _ _ _ _ _ _ _ _ _ _ _ _ _ _ _ _ _ _ _ _ _ _ _ _ _ _ _ _ _ _ _ _ _ _ _ _ _ _ _ _ _ _ _ _ _ _ _ _ _ _ _ _ _ _ _ _ _ _ _ _ _ _ _ _ _ _ _ _ _ _ _ _ _ _ _ _ _ _ _ _ _ _ _ _ _ _ _ _ _ _ _ _ _ _ _ _ _ _ (by omega) (by omega) HX.out hB3
    · have HX : Hid (V = (st1.name, true)) := by
        have := HE.out
        rw [hte] at this
        exact this.symm
      have hnm := tells_name hte
      clear HE HMF hte
      go_wp2
      have HR2 := HR.out
      rw [HX.out] at HR2
      exact HR2 _ _ _ _ _ _ _ _ _ _ _ _ _ _ _ _ _ _ _ _ _ _ _ _ _ _ _ _ _ _ _ _ _ _ _ _ _ _ _ _ _ _ _ _ _ _ _ _ _ _ _ _ _ _ _ _ _ _ _ _ _ _ _ _ _ _ _ _ _ _ _ _ _ _ _ _ _ _ _ _ _ _ _ _ _ _ _ _ _ _ _ _ _ _ _ _ _ _ _ _ _ _ _ _ _ _ _ _ _ _ _ _ _ _ _ _ _ _ _ _ _ _ _ _ _ _ _ _ _ _ _ _ _ _ _ _ _ _ _ _ _ _ _ _ _ _ _ _ _ _ _ _ _ _ _ _ _ _ _ _ hB3

end Go.Proofs.YtddonipfpchabaaDoor

/-
  The reference's Attribute.
-/
import Derived.Test.YtddonipfpchabaaDoorRefPlain
import Derived.Deep.DeepCutAuto
import Derived.Deep.QuietTactic
import Derived.BigQuiet
namespace Go.Proofs.YtddonipfpchabaaDoor
open Go.RowKit

theorem blank_to (c : UInt8) (w : World) :
    Calls Tryd.prog 24 #[.int .u8 (c.toNat : Int)] w fun e w' => e = .returned (.bool (blankB c)) ∧ w = w' :=
  (blank_any c w).mono fun _ _ h => ⟨h.1, h.2.symm⟩

set_option maxRecDepth 100000 in
set_option maxHeartbeats 400000 in
theorem ref_out (s : ByteArray) (a : Int) (w : World) (h : a < 0 ∨ (s.size : Int) < a) :
    Calls Tryd.prog 36 #[.string s, .int .i64 a] w fun e w' => e = .returned (.tuple #[.string ⟨#[]⟩, .string ⟨#[]⟩, .int .i64 0, .bool false]) ∧ Below w.heap.size w w' := by
  by_cases h0 : a < 0
  · go_enter Tryd.func36, Tryd.ntmps36
    go_wp2
    exact bodyPost_ret (v := .tuple #[.string ⟨#[]⟩, .string ⟨#[]⟩, .int .i64 0, .bool false]) (by simp [results, Tryd.results36, go_sem]) rfl ⟨rfl, Below.refl _ _⟩
  · have h1 : (s.size : Int) < a := by omega
    go_enter Tryd.func36, Tryd.ntmps36
    go_wp2
    exact bodyPost_ret (v := .tuple #[.string ⟨#[]⟩, .string ⟨#[]⟩, .int .i64 0, .bool false]) (by simp [results, Tryd.results36, go_sem]) rfl ⟨rfl, Below.refl _ _⟩


theorem byte_ne {a b : UInt8} (h : (a != b) = true) : ((a.toNat : Int) == (b.toNat : Int)) = false := by
  have : a ≠ b := by simpa using h
  rw [beq_eq_false_iff_ne]
  intro e
  exact this (UInt8.toNat.inj (by omega))
theorem byte_same {a b : UInt8} (h : (a != b) = false) : ((a.toNat : Int) == (b.toNat : Int)) = true := by
  have : a = b := by simpa using h
  rw [this]
  simp

set_option maxRecDepth 100000 in
set_option maxHeartbeats 4000000 in
theorem ref_in (s : ByteArray) (k : Nat) (w : World) (hs : s.size ≤ 140737488351232) (h1 : k ≤ s.size) :
    Calls Tryd.prog 36 #[.string s, .int .i64 k] w fun e w' => e = .returned (.tuple #[.string (attrF s k).1, .string (attrF s k).2.1, .int .i64 (attrF s k).2.2.1, .bool (attrF s k).2.2.2]) ∧ Below w.heap.size w w' := by
  have hl : s.data.toList.length = s.size := by simp
  obtain ⟨p, hpd⟩ : ∃ p, scan pBS s.data.toList k = p := ⟨_, rfl⟩
  have hkp : k ≤ p := by have := scan_ge pBS s.data.toList k; omega
  have hps : p ≤ s.size := by have := scan_le pBS s.data.toList k (by omega); omega
  have HP : Hid (scan pBS s.data.toList k = p) := hpd
  have HL : Hid (s.data.toList.length = s.size) := hl
  clear hpd hl
  have hk0 : decide ((k : Int) < 0) = false := by simp
  have hk1 : decide (s.size < k) = false := by simp; omega
  generalize hA : attrF s k = A
  have HA : Hid (attrF s k = A) := hA
  clear hA
  go_enter Tryd.func36, Tryd.ntmps36
  go_wp2
  go_loop [1] (fun i => ∃ j : Nat, j ≤ p ∧ i = .int .i64 j ∧ scan pBS s.data.toList j = p) (fun i => p - (intOf i).toNat)
  case atStart => exact ⟨k, hkp, rfl, HP.out⟩
  case round =>
    obtain ⟨j, hj1, rfl, hsc⟩ := hrel
    have HSC : Hid (scan pBS s.data.toList j = p) := hsc
    clear hsc
    by_cases hlt : j < p
    · have hjs : j < s.size := by omega
      have HN : Hid (scan pBS s.data.toList (j + 1) = p ∧ pBS s[j] = true) := scan_next HSC.out hlt hps
      cases hb : blankB s[j]
      · have h47 := pBS_yes HN.out.2 hb
        go_wp2_with (go_at_call 24; refine (blank_to s[j] _).mono ?_; rintro e w' ⟨rfl, rfl⟩)
        go_round
        case rel => exact ⟨j + 1, by omega, by go_num, HN.out.1⟩
        case measure => simp [intOf]; omega
      · go_wp2_with (go_at_call 24; refine (blank_to s[j] _).mono ?_; rintro e w' ⟨rfl, rfl⟩)
        go_round
        case rel => exact ⟨j + 1, by omega, by go_num, HN.out.1⟩
        case measure => simp [intOf]; omega
    obtain rfl : j = p := by omega
    clear hj1 hlt
    by_cases hlt : j < s.size
    rotate_left
    · have hjs : ¬ (j : Int) < (s.size : Int) := by omega
      have hje : ((j : Int) == (s.size : Int)) = true := by simp; omega
      have HE : Hid (j = s.size) := by show _ = _; omega
      go_wp2
      exact bodyPost_ret (v := .tuple #[.string ⟨#[]⟩, .string ⟨#[]⟩, .int .i64 j, .bool false]) (by simp [results, Tryd.results36, go_sem]) rfl ⟨by rw [← HA.out, attrF_end HP.out hlt, HE.out], Below.refl _ _⟩
    have hje : ((j : Int) == (s.size : Int)) = false := by simp; omega
    obtain ⟨hb0, h470⟩ := pBS_no (scan_here HSC.out hlt)
    cases hg : ((s[j].toNat : Int) == 62)
    rotate_left
    · go_wp2_with (go_at_call 24; refine (blank_to s[j] _).mono ?_; rintro e w' ⟨rfl, rfl⟩)
      exact bodyPost_ret (v := .tuple #[.string ⟨#[]⟩, .string ⟨#[]⟩, .int .i64 j, .bool false]) (by simp [results, Tryd.results36, go_sem]) rfl ⟨by rw [← HA.out, attrF_gt HP.out hlt hg], Below.refl _ _⟩
    obtain ⟨e1, hed⟩ : ∃ e1, scan pName s.data.toList (j + 1) = e1 := ⟨_, rfl⟩
    have he0 : j + 1 ≤ e1 := by have := scan_ge pName s.data.toList (j + 1); omega
    have he1 : e1 ≤ s.size := by have := scan_le pName s.data.toList (j + 1) (by have := HL.out; omega); have := HL.out; omega
    have HE1 : Hid (scan pName s.data.toList (j + 1) = e1) := hed
    clear hed
    go_wp2_with (go_at_call 24; refine (blank_to s[j] _).mono ?_; rintro e w' ⟨rfl, rfl⟩)
    go_loop [1] (fun i => ∃ m : Nat, j ≤ m ∧ m ≤ e1 ∧ i = .int .i64 m ∧ (j < m → scan pName s.data.toList m = e1)) (fun i => e1 - (intOf i).toNat)
    case atStart => exact ⟨j, Nat.le_refl _, by omega, rfl, fun h => absurd h (Nat.lt_irrefl _)⟩
    case round =>
      obtain ⟨m, hm0, hm1, rfl, hsc⟩ := hrel
      have HM : Hid (j < m → scan pName s.data.toList m = e1) := hsc
      clear hsc
      by_cases hmj : m = j
      · subst hmj
        go_wp2_with (go_at_call 24; refine (blank_to s[m] _).mono ?_; rintro e w' ⟨rfl, rfl⟩)
        go_round
        case rel => exact ⟨m + 1, by omega, by omega, by go_num, fun _ => HE1.out⟩
        case measure => simp [intOf]; omega
      have hjm : j < m := by omega
      clear hmj
      by_cases hme : m < e1
      · have HN : Hid (scan pName s.data.toList (m + 1) = e1 ∧ pName s[m] = true) := scan_next (HM.out hjm) hme he1
        obtain ⟨g1, g2, g3, g4⟩ := pName_yes HN.out.2
        have hms : ((m : Int) == (s.size : Int)) = false := by simp; omega
        go_wp2_with (go_at_call 24; refine (blank_to s[m] _).mono ?_; rintro e w' ⟨rfl, rfl⟩)
        go_round
        case rel => exact ⟨m + 1, by omega, by omega, by go_num, fun _ => HN.out.1⟩
        case measure => simp [intOf]; omega
      obtain rfl : m = e1 := by omega
      clear hme hm1
      by_cases hes : m < s.size
      rotate_left
      · have hms : ((m : Int) == (s.size : Int)) = true := by simp; omega
        have HZ : Hid (m = s.size) := by show _ = _; omega
        go_wp2
        exact bodyPost_ret (v := .tuple #[.string ⟨#[]⟩, .string ⟨#[]⟩, .int .i64 m, .bool false]) (by simp [results, Tryd.results36, go_sem]) rfl ⟨by rw [← HA.out, attrF_noname HP.out hlt hg HE1.out hes, HZ.out], Below.refl _ _⟩
      have hms : ((m : Int) == (s.size : Int)) = false := by simp; omega
      have HH : Hid (pName s[m] = false) := scan_here (HM.out hjm) hes
      go_upto_region 10 with fail
      go_cut [85] (fun c wx => c = .bool true ∧ w = wx)
      case first =>
        cases g1 : ((s[m].toNat : Int) == 61)
        · cases g2 : ((s[m].toNat : Int) == 47)
          · cases g3 : ((s[m].toNat : Int) == 62)
            · have g4 : blankB s[m] = true := by
                have := HH.out
                rw [pName_eq, g1, g2, g3] at this
                simpa using this
              go_wp2_with (go_at_call 24; refine (blank_to s[m] _).mono ?_; rintro e w' ⟨rfl, rfl⟩)
              go_meet
              exact ⟨rfl, rfl⟩
            · go_wp2_with fail
              go_meet
              exact ⟨rfl, rfl⟩
          · go_wp2_with fail
            go_meet
            exact ⟨rfl, rfl⟩
        · go_wp2_with fail
          go_meet
          exact ⟨rfl, rfl⟩
      case rest =>
        obtain ⟨rfl, rfl⟩ := hcut
        go_wp2_with fail
        refine (refSmall_any _ _ (by simp; omega)).mono ?_
        rintro e w2 ⟨rfl, hb2⟩
        obtain ⟨e2, hfd⟩ : ∃ e2, scan pB s.data.toList m = e2 := ⟨_, rfl⟩
        have hf0 : m ≤ e2 := by have := scan_ge pB s.data.toList m; omega
        have hf1 : e2 ≤ s.size := by have := scan_le pB s.data.toList m (by have := HL.out; omega); have := HL.out; omega
        have HF : Hid (scan pB s.data.toList m = e2) := hfd
        clear hfd
        go_wp2
        go_loop [1] (fun i => ∃ n : Nat, n ≤ e2 ∧ i = .int .i64 n ∧ scan pB s.data.toList n = e2) (fun i => e2 - (intOf i).toNat)
        case atStart => exact ⟨m, hf0, rfl, HF.out⟩
        case round =>
          obtain ⟨n, hn1, rfl, hsc⟩ := hrel
          have HSN : Hid (scan pB s.data.toList n = e2) := hsc
          clear hsc
          by_cases hne : n < e2
          · have HN : Hid (scan pB s.data.toList (n + 1) = e2 ∧ pB s[n] = true) := scan_next HSN.out hne hf1
            have hb : blankB s[n] = true := HN.out.2
            go_wp2_with (go_at_call 24; refine (blank_to s[n] _).mono ?_; rintro e w' ⟨rfl, rfl⟩)
            go_round
            case rel => exact ⟨n + 1, by omega, by go_num, HN.out.1⟩
            case measure => simp [intOf]; omega
          obtain rfl : n = e2 := by omega
          clear hn1 hne
          by_cases hns : n < s.size
          rotate_left
          · have hns' : ¬ (n : Int) < (s.size : Int) := by omega
            have hne : ((n : Int) == (s.size : Int)) = true := by simp; omega
            have HZ : Hid (n = s.size) := by show _ = _; omega
            go_wp2
            exact bodyPost_ret (v := .tuple #[.string (lowS (s.extract j m)), .string ⟨#[]⟩, .int .i64 n, .bool true]) (by simp [results, Tryd.results36, go_sem]) rfl ⟨by rw [← HA.out, attrF_bare_end HP.out hlt hg HE1.out hes HF.out hns, HZ.out], hb2⟩
          have hne : ((n : Int) == (s.size : Int)) = false := by simp; omega
          have hbn : blankB s[n] = false := scan_here HSN.out hns
          cases h61 : ((s[n].toNat : Int) == 61)
          · have h61' : ((s[n].toNat : Int) != 61) = true := by rw [bne, h61]; rfl
            go_wp2_with (go_at_call 24; refine (blank_to s[n] _).mono ?_; rintro e w' ⟨rfl, rfl⟩)
            exact bodyPost_ret (v := .tuple #[.string (lowS (s.extract j m)), .string ⟨#[]⟩, .int .i64 n, .bool true]) (by simp [results, Tryd.results36, go_sem]) rfl ⟨by rw [← HA.out, attrF_bare HP.out hlt hg HE1.out hes HF.out hns h61], hb2⟩
          have h61' : ((s[n].toNat : Int) != 61) = false := by rw [bne, h61]; rfl
          obtain ⟨p3, h3d⟩ : ∃ p3, scan pB s.data.toList (n + 1) = p3 := ⟨_, rfl⟩
          have h30 : n + 1 ≤ p3 := by have := scan_ge pB s.data.toList (n + 1); omega
          have h31 : p3 ≤ s.size := by have := scan_le pB s.data.toList (n + 1) (by have := HL.out; omega); have := HL.out; omega
          have H3 : Hid (scan pB s.data.toList (n + 1) = p3) := h3d
          have HV : Hid (attrF s k = if (valF s (n + 1)).2.2 then ((lowS (s.extract j m)), (valF s (n + 1)).1, (valF s (n + 1)).2.1, true) else (⟨#[]⟩, ⟨#[]⟩, (valF s (n + 1)).2.1, false)) := attrF_val HP.out hlt hg HE1.out hes HF.out hns h61
          clear h3d
          go_wp2_with (go_at_call 24; refine (blank_to s[n] _).mono ?_; rintro e w' ⟨rfl, rfl⟩)
          go_loop [1] (fun i => ∃ q : Nat, q ≤ p3 ∧ i = .int .i64 q ∧ scan pB s.data.toList q = p3) (fun i => p3 - (intOf i).toNat)
          case atStart => exact ⟨n + 1, h30, by go_num, H3.out⟩
          case round =>
            obtain ⟨q, hq1, rfl, hsc⟩ := hrel
            have HSQ : Hid (scan pB s.data.toList q = p3) := hsc
            clear hsc
            by_cases hqe : q < p3
            · have HN : Hid (scan pB s.data.toList (q + 1) = p3 ∧ pB s[q] = true) := scan_next HSQ.out hqe h31
              have hb : blankB s[q] = true := HN.out.2
              go_wp2_with (go_at_call 24; refine (blank_to s[q] _).mono ?_; rintro e w' ⟨rfl, rfl⟩)
              go_round
              case rel => exact ⟨q + 1, by omega, by go_num, HN.out.1⟩
              case measure => simp [intOf]; omega
            obtain rfl : q = p3 := by omega
            clear hq1 hqe
            by_cases hqs : q < s.size
            rotate_left
            · have hqs' : ¬ (q : Int) < (s.size : Int) := by omega
              have hqe : ((q : Int) == (s.size : Int)) = true := by simp; omega
              have HZ : Hid (q = s.size) := by show _ = _; omega
              go_wp2
              exact bodyPost_ret (v := .tuple #[.string ⟨#[]⟩, .string ⟨#[]⟩, .int .i64 q, .bool false]) (by simp [results, Tryd.results36, go_sem]) rfl ⟨by rw [← HA.out, HV.out, valF_end H3.out hqs, HZ.out]; rfl, hb2⟩
            have hqe : ((q : Int) == (s.size : Int)) = false := by simp; omega
            have hbq : blankB s[q] = false := scan_here HSQ.out hqs
            cases h62 : ((s[q].toNat : Int) == 62)
            rotate_left
            · go_wp2_with (go_at_call 24; refine (blank_to s[q] _).mono ?_; rintro e w' ⟨rfl, rfl⟩)
              exact bodyPost_ret (v := .tuple #[.string (lowS (s.extract j m)), .string ⟨#[]⟩, .int .i64 q, .bool true]) (by simp [results, Tryd.results36, go_sem]) rfl ⟨by rw [← HA.out, HV.out, valF_gt H3.out hqs h62]; rfl, hb2⟩
            go_upto_region 24 with (go_at_call 24; refine (blank_to s[q] _).mono ?_; rintro e w' ⟨rfl, rfl⟩)
            go_cut [151] (fun c wx => c = .bool (quoteB s[q]) ∧ w2 = wx)
            case first =>
              have hqq := quoteB_eq s[q]
              cases g1 : ((s[q].toNat : Int) == 34)
              · cases g2 : ((s[q].toNat : Int) == 39)
                · rw [g1, g2] at hqq
                  go_wp2_with fail
                  go_meet
                  exact ⟨by rw [hqq]; rfl, rfl⟩
                · rw [g1, g2] at hqq
                  go_wp2_with fail
                  go_meet
                  exact ⟨by rw [hqq]; rfl, rfl⟩
              · rw [g1] at hqq
                go_wp2_with fail
                go_meet
                exact ⟨by rw [hqq]; rfl, rfl⟩
            case rest =>
              obtain ⟨rfl, rfl⟩ := hcut
              cases hqu : quoteB s[q]
              · obtain ⟨e4, h4d⟩ : ∃ e4, scan pVal s.data.toList q = e4 := ⟨_, rfl⟩
                have h40 : q ≤ e4 := by have := scan_ge pVal s.data.toList q; omega
                have h41 : e4 ≤ s.size := by have := scan_le pVal s.data.toList q (by have := HL.out; omega); have := HL.out; omega
                have H4 : Hid (scan pVal s.data.toList q = e4) := h4d
                clear h4d
                go_wp2_with fail
                go_loop [1] (fun i => ∃ x : Nat, q ≤ x ∧ x ≤ e4 ∧ i = .int .i64 x ∧ scan pVal s.data.toList x = e4) (fun i => e4 - (intOf i).toNat)
                case atStart => exact ⟨q, Nat.le_refl _, h40, rfl, H4.out⟩
                case round =>
                  obtain ⟨x, hx0, hx1, rfl, hsc⟩ := hrel
                  have HSX : Hid (scan pVal s.data.toList x = e4) := hsc
                  clear hsc
                  by_cases hxe : x < e4
                  · have HN : Hid (scan pVal s.data.toList (x + 1) = e4 ∧ pVal s[x] = true) := scan_next HSX.out hxe h41
                    obtain ⟨hb, h6⟩ := pVal_yes HN.out.2
                    go_wp2_with (go_at_call 24; refine (blank_to s[x] _).mono ?_; rintro e w' ⟨rfl, rfl⟩)
                    go_round
                    case rel => exact ⟨x + 1, by omega, by omega, by go_num, HN.out.1⟩
                    case measure => simp [intOf]; omega
                  obtain rfl : x = e4 := by omega
                  clear hx1 hxe
                  by_cases hxs : x < s.size
                  rotate_left
                  · have hxs' : ¬ (x : Int) < (s.size : Int) := by omega
                    have hxe : ((x : Int) == (s.size : Int)) = true := by simp; omega
                    have HZ : Hid (x = s.size) := by show _ = _; omega
                    go_wp2
                    exact bodyPost_ret (v := .tuple #[.string ⟨#[]⟩, .string ⟨#[]⟩, .int .i64 x, .bool false]) (by simp [results, Tryd.results36, go_sem]) rfl ⟨by rw [← HA.out, HV.out, valF_plain_no H3.out hqs hqu H4.out hxs, HZ.out]; rfl, hb2⟩
                  have hxe : ((x : Int) == (s.size : Int)) = false := by simp; omega
                  have HX : Hid (pVal s[x] = false) := scan_here HSX.out hxs
                  cases hb : blankB s[x]
                  · have h6 : ((s[x].toNat : Int) != 62) = false := by
                      have := HX.out
                      rw [pVal_eq, hb] at this
                      simpa using this
                    go_wp2_with (go_at_call 24; refine (blank_to s[x] _).mono ?_; rintro e w' ⟨rfl, rfl⟩)
                    refine (refSmall_any _ _ (by simp; omega)).mono ?_
                    rintro e w3 ⟨rfl, hb3⟩
                    go_wp2
                    exact bodyPost_ret (v := .tuple #[.string (lowS (s.extract j m)), .string (lowS (s.extract q x)), .int .i64 x, .bool true]) (by simp [results, Tryd.results36, go_sem]) rfl ⟨by rw [← HA.out, HV.out, valF_plain H3.out hqs hqu H4.out hxs]; rfl, hb2.trans (hb3.mono hb2.size)⟩
                  · go_wp2_with (go_at_call 24; refine (blank_to s[x] _).mono ?_; rintro e w' ⟨rfl, rfl⟩)
                    refine (refSmall_any _ _ (by simp; omega)).mono ?_
                    rintro e w3 ⟨rfl, hb3⟩
                    go_wp2
                    exact bodyPost_ret (v := .tuple #[.string (lowS (s.extract j m)), .string (lowS (s.extract q x)), .int .i64 x, .bool true]) (by simp [results, Tryd.results36, go_sem]) rfl ⟨by rw [← HA.out, HV.out, valF_plain H3.out hqs hqu H4.out hxs]; rfl, hb2.trans (hb3.mono hb2.size)⟩
              · obtain ⟨jq, h4d⟩ : ∃ jq, scan (fun x => x != s[q]) s.data.toList (q + 1) = jq := ⟨_, rfl⟩
                have h40 : q + 1 ≤ jq := by have := scan_ge (fun x => x != s[q]) s.data.toList (q + 1); omega
                have h41 : jq ≤ s.size := by have := scan_le (fun x => x != s[q]) s.data.toList (q + 1) (by have := HL.out; omega); have := HL.out; omega
                have H4 : Hid (scan (fun x => x != s[q]) s.data.toList (q + 1) = jq) := h4d
                clear h4d
                go_wp2_with fail
                go_loopw [10] (fun i wr => ∃ x : Nat, q + 1 ≤ x ∧ x ≤ jq ∧ i = .int .i64 x ∧ scan (fun x => x != s[q]) s.data.toList x = jq ∧ Below w.heap.size w wr) (fun i _ => jq - (intOf i).toNat)
                case atStart => exact ⟨q + 1, Nat.le_refl _, h40, by go_num, H4.out, hb2⟩
                case round =>
                  obtain ⟨x, hx0, hx1, rfl, hsc, hbr⟩ := hrel
                  have HSX : Hid (scan (fun x => x != s[q]) s.data.toList x = jq) := hsc
                  clear hsc
                  by_cases hxe : x < jq
                  · have hxs : x < s.size := by omega
                    have HN : Hid (scan (fun x => x != s[q]) s.data.toList (x + 1) = jq ∧ (s[x] != s[q]) = true) := scan_next (P := fun x => x != s[q]) HSX.out hxe h41
                    have hne : ((s[x].toNat : Int) == (s[q].toNat : Int)) = false := byte_ne HN.out.2
                    go_wp2_with fail
                    go_quiet (fail)
                    go_wp2
                    go_roundw
                    case rel => exact ⟨x + 1, by omega, by omega, by go_num, HN.out.1, below_drewN hbr _⟩
                    case measure => simp [intOf]; omega
                  obtain rfl : x = jq := by omega
                  clear hx1 hxe
                  by_cases hxs : x < s.size
                  rotate_left
                  · have hxs' : ¬ (x : Int) < (s.size : Int) := by omega
                    go_wp2
                    exact bodyPost_ret (v := .tuple #[.string ⟨#[]⟩, .string ⟨#[]⟩, .int .i64 s.size, .bool false]) (by simp [results, Tryd.results36, go_sem]) rfl ⟨by rw [← HA.out, HV.out, valF_quote_no H3.out hqs hqu H4.out hxs]; rfl, hbr⟩
                  have heq : ((s[x].toNat : Int) == (s[q].toNat : Int)) = true := byte_same (scan_here (P := fun x => x != s[q]) HSX.out hxs)
                  go_wp2_with fail
                  go_quiet (fail)
                  go_wp2_with fail
                  refine (refSmall_any _ _ (by simp; omega)).mono ?_
                  rintro e w3 ⟨rfl, hb3⟩
                  go_wp2
                  exact bodyPost_ret (v := .tuple #[.string (lowS (s.extract j m)), .string (lowS (s.extract (q + 1) x)), .int .i64 (x + 1 : Nat), .bool true]) (by simp [results, Tryd.results36, go_sem]) rfl ⟨by rw [← HA.out, HV.out, valF_quote H3.out hqs hqu H4.out hxs]; rfl, (below_drewN hbr _).trans (hb3.mono hbr.size)⟩
end Go.Proofs.YtddonipfpchabaaDoor

/-
  The reference's stands and Charset.
-/
import Derived.Test.YtddonipfpchabaaDoorCharPlain
import Derived.Deep.DeepCutAuto
import Derived.Deep.QuietTactic
import Derived.BigQuiet
namespace Go.Proofs.YtddonipfpchabaaDoor
open Go.RowKit

def standsB (s : ByteArray) (p : Nat) (word : ByteArray) : Bool := decide (p + word.size ≤ s.size) && ((lowS (s.extract p (p + word.size))).toList == word.toList)

theorem stands_occ (s : ByteArray) (p : Nat) (word : ByteArray) (hw : word.data.toList ≠ []) : standsB s p word = Lib.occAt (low s.data.toList) word.data.toList p := by
  have hl : (low s.data.toList).length = s.size := by rw [low_length]; simp
  have hwl : word.data.toList.length = word.size := by simp
  unfold standsB
  by_cases h : p + word.size ≤ s.size
  · rw [Lib.occAt_iff_take _ _ _ (by omega)]
    simp only [h, decide_true, Bool.true_and]
    have e : (lowS (s.extract p (p + word.size))).toList = ((low s.data.toList).drop p).take word.data.toList.length := by
      rw [Lib.toList_data]
      show low (s.extract p (p + word.size)).data.toList = _
      rw [extract_list]
      show low ((s.data.toList.take (p + word.size)).drop p) = _
      unfold low
      rw [List.drop_take, ← List.map_drop, ← List.map_take, hwl]
      congr 2
      omega
    rw [e, Lib.toList_data]
  · simp only [h, decide_false, Bool.false_and]
    cases ho : Lib.occAt (low s.data.toList) word.data.toList p with
    | false => rfl
    | true =>
      exfalso
      rcases Lib.occAt_room ho with h2 | h2
      · omega
      · exact hw h2

set_option maxRecDepth 100000 in
set_option maxHeartbeats 1000000 in
theorem stands_any (s word : ByteArray) (p : Nat) (w : World) (hs : s.size ≤ 140737488351232) (hp : p ≤ s.size) (hw : word.size ≤ 1000) :
    Calls Tryd.prog 23 #[.string s, .int .i64 p, .string word] w fun e w' => e = .returned (.bool (standsB s p word)) ∧ Below w.heap.size w w' := by
  generalize hV : standsB s p word = V
  have HV : Hid (standsB s p word = V) := hV
  clear hV
  by_cases h : p + word.size ≤ s.size
  · have h' : (p : Int) + (word.size : Int) ≤ (s.size : Int) := by omega
    have HE : Hid (V = ((lowS (s.extract p (p + word.size))).toList == word.toList)) := by
      show _ = _
      rw [← HV.out]
      simp [standsB, h]
    go_enter Tryd.func23, Tryd.ntmps23
    go_wp2_with fail
    refine (refSmall_any _ _ (by simp; omega)).mono ?_
    rintro e w1 ⟨rfl, hb1⟩
    go_wp2
    go_ret
    rw [HE.out]
    exact ⟨rfl, hb1⟩
  · have h' : ¬ (p : Int) + (word.size : Int) ≤ (s.size : Int) := by omega
    have HE : Hid (V = false) := by
      show _ = _
      rw [← HV.out]
      simp [standsB, h]
    go_enter Tryd.func23, Tryd.ntmps23
    go_wp2
    go_ret
    rw [HE.out]
    exact ⟨rfl, Below.refl _ _⟩

theorem standsC (s : ByteArray) (p : Nat) (b : Bool) (w : World) (hs : s.size ≤ 140737488351232) (hp : p ≤ s.size) (hb : occC s p = b) :
    Calls Tryd.prog 23 #[.string s, .int .i64 p, .string ⟨#[99, 104, 97, 114, 115, 101, 116]⟩] w fun e w' => e = .returned (.bool b) ∧ Below w.heap.size w w' := by
  have h := stands_any s ⟨#[99, 104, 97, 114, 115, 101, 116]⟩ p w hs hp (by decide)
  rw [stands_occ s p ⟨#[99, 104, 97, 114, 115, 101, 116]⟩ (by decide)] at h
  rw [← hb]
  exact h

theorem rc_succ (s : ByteArray) (n k : Nat) : charL s (n + 1) k =
    (if findC s (s.size - k) k < s.size then
      (if h : scan pB s.data.toList (findC s (s.size - k) k + 7) < s.size then (if s[scan pB s.data.toList (findC s (s.size - k) k + 7)] == 61 then valC s (scan pB s.data.toList (findC s (s.size - k) k + 7) + 1) else charL s n (scan pB s.data.toList (findC s (s.size - k) k + 7)))
       else charL s n (scan pB s.data.toList (findC s (s.size - k) k + 7)))
    else (⟨#[]⟩, false)) := rfl

theorem rc_byte (c : UInt8) (n : Nat) (hn : n < 256) : ((c.toNat : Int) == (n : Int)) = (c == UInt8.ofNat n) := by
  rw [Bool.eq_iff_iff]
  simp only [beq_iff_eq]
  constructor
  · intro h
    have : c.toNat = n := by omega
    rw [← this]
    simp
  · intro h
    rw [h]
    simp
    omega
theorem rc_all {Q : UInt8 → Prop} (h : ∀ n : Fin 256, Q (UInt8.ofNat n.val)) (c : UInt8) : Q c := by
  have := h ⟨c.toNat, c.toNat_lt⟩
  simpa using this
theorem rc_semi (c : UInt8) : pSemi c = (!blankB c && ((c.toNat : Int) != 59)) :=
  rc_all (Q := fun c => pSemi c = (!blankB c && ((c.toNat : Int) != 59))) (by decide +kernel) c
theorem rc_semi_yes {c : UInt8} (h : pSemi c = true) : blankB c = false ∧ ((c.toNat : Int) != 59) = true := by
  rw [rc_semi] at h
  simpa using h
theorem rc_quote (c : UInt8) : quoteB c = (((c.toNat : Int) == 34) || ((c.toNat : Int) == 39)) :=
  rc_all (Q := fun c => quoteB c = (((c.toNat : Int) == 34) || ((c.toNat : Int) == 39))) (by decide +kernel) c
theorem rc_ne {a b : UInt8} (h : (a != b) = true) : ((a.toNat : Int) == (b.toNat : Int)) = false := by
  have : a ≠ b := by simpa using h
  rw [beq_eq_false_iff_ne]
  intro e
  exact this (UInt8.toNat.inj (by omega))
theorem rc_same {a b : UInt8} (h : (a != b) = false) : ((a.toNat : Int) == (b.toNat : Int)) = true := by
  have : a = b := by simpa using h
  rw [this]
  simp
theorem findC_fix (s : ByteArray) (x : Nat) (hx : x < s.size) (h : findC s (s.size - x) x = x) : occC s x = true := by
  have := findC_occ s (s.size - x) x (by rw [h]; exact hx)
  rw [h] at this
  exact this
theorem findC_next (s : ByteArray) (x j : Nat) (hx : x < j) (hj : j ≤ s.size) (h : findC s (s.size - x) x = j) : occC s x = false ∧ findC s (s.size - (x + 1)) (x + 1) = j := by
  cases ho : occC s x with
  | true =>
    have := findC_hit s x (by omega) ho
    omega
  | false => exact ⟨rfl, by rw [← findC_miss s x (by omega) ho]; exact h⟩

set_option maxRecDepth 100000 in
set_option maxHeartbeats 4000000 in
theorem refCharset_any (s : ByteArray) (w : World) (hs : s.size ≤ 140737488351232) :
    Calls Tryd.prog 11 #[.string s] w fun e w' => e = .returned (.tuple #[.string (charF s).1, .bool (charF s).2]) ∧ Below w.heap.size w w' := by
  generalize hV : charF s = V
  have HV : Hid (charL s (s.size + 1) 0 = V) := hV
  clear hV
  have HL : Hid (s.data.toList.length = s.size) := by show _ = _; simp
  go_enter Tryd.func11, Tryd.ntmps11
  go_wp2
  go_loopw [4] (fun i wr => ∃ k n : Nat, k ≤ s.size ∧ i = .int .i64 k ∧ s.size < k + n ∧ charL s n k = V ∧ Below w.heap.size w wr) (fun i _ => s.size - (intOf i).toNat)
  case atStart => exact ⟨0, s.size + 1, Nat.zero_le _, rfl, by omega, HV.out, Below.refl _ _⟩
  case round =>
    obtain ⟨k, n, hk, rfl, hn, hch, hbr⟩ := hrel
    obtain ⟨n', rfl⟩ : ∃ n', n = n' + 1 := ⟨n - 1, by omega⟩
    have HC : Hid (charL s (n' + 1) k = V) := hch
    clear hch
    obtain ⟨j, hjd⟩ : ∃ j, findC s (s.size - k) k = j := ⟨_, rfl⟩
    have hjk : k ≤ j := by rw [← hjd]; exact findC_ge s _ k hk
    have hjs : j ≤ s.size := by rw [← hjd]; exact findC_le s _ k
    have HJ : Hid (findC s (s.size - k) k = j) := hjd
    clear hjd
    go_wp2
    go_loopw [4] (fun i wx => ∃ x : Nat, k ≤ x ∧ x ≤ j ∧ i = .int .i64 x ∧ findC s (s.size - x) x = j ∧ Below w.heap.size w wx) (fun i _ => j - (intOf i).toNat)
    case atStart => exact ⟨k, Nat.le_refl _, hjk, rfl, HJ.out, hbr⟩
    case round =>
      obtain ⟨x, hx0, hx1, rfl, hfx, hbx⟩ := hrel
      have HX : Hid (findC s (s.size - x) x = j) := hfx
      clear hfx
      by_cases hxj : x < j
      · have HN : Hid (occC s x = false ∧ findC s (s.size - (x + 1)) (x + 1) = j) := findC_next s x j hxj hjs HX.out
        go_wp2_with fail
        refine (standsC _ _ false _ hs (by omega) (by exact HN.out.1)).mono ?_
        rintro e w2 ⟨rfl, hb2⟩
        have hb3 := hbx.trans (hb2.mono hbx.size)
        go_wp2
        go_roundw
        case rel => exact ⟨x + 1, by omega, by omega, by go_num, HN.out.2, hb3⟩
        case measure => simp [intOf]; omega
      obtain rfl : x = j := by omega
      clear hxj hx1
      by_cases hxs : x < s.size
      rotate_left
      · have hge : (s.size : Int) ≤ (x : Int) := by omega
        have HE : Hid (V = (⟨#[]⟩, false)) := by
          show _ = _
          rw [← HC.out, rc_succ, HJ.out, if_neg hxs]
        go_wp2
        go_ret2
        rw [HE.out]
        exact ⟨rfl, hbx⟩
      have ho : occC s x = true := findC_fix s x hxs HX.out
      have HO : Hid (occC s x = true) := ho
      have hgef : decide (s.size ≤ x) = false := by simp; omega
      have hroom : x + 7 ≤ s.size := occC_room ho
      clear ho
      obtain ⟨p, hpd⟩ : ∃ p, scan pB s.data.toList (x + 7) = p := ⟨_, rfl⟩
      have hp0 : x + 7 ≤ p := by have := scan_ge pB s.data.toList (x + 7); omega
      have hp1 : p ≤ s.size := by have := scan_le pB s.data.toList (x + 7) (by have := HL.out; omega); have := HL.out; omega
      have HP : Hid (scan pB s.data.toList (x + 7) = p) := hpd
      clear hpd
      have HS : Hid (charL s (n' + 1) k = (if h : p < s.size then (if s[p] == 61 then valC s (p + 1) else charL s n' p) else charL s n' p)) := by
        have HS := rc_succ s n' k
        rw [HJ.out, if_pos hxs] at HS
        simp only [HP.out] at HS
        exact HS
      go_wp2_with fail
      refine (standsC _ _ true _ hs (by omega) (by exact HO.out)).mono ?_
      rintro e w2 ⟨rfl, hb2⟩
      have hb3 := hbx.trans (hb2.mono hbx.size)
      clear hb2 hbx hbr
      go_wp2
      go_loop [4] (fun i => ∃ y : Nat, x + 7 ≤ y ∧ y ≤ p ∧ i = .int .i64 y ∧ scan pB s.data.toList y = p) (fun i => p - (intOf i).toNat)
      case atStart => exact ⟨x + 7, Nat.le_refl _, hp0, by go_num, HP.out⟩
      case round =>
        obtain ⟨y, hy0, hy1, rfl, hsc⟩ := hrel
        have HY : Hid (scan pB s.data.toList y = p) := hsc
        clear hsc
        by_cases hyp : y < p
        · have HN : Hid (scan pB s.data.toList (y + 1) = p ∧ pB s[y] = true) := rt_next HY.out hyp hp1
          have hb : blankB s[y] = true := HN.out.2
          go_wp2_with (go_at_call 24; refine (rt_blank s[y] _).mono ?_; rintro e w' ⟨rfl, rfl⟩)
          go_round
          case rel => exact ⟨y + 1, by omega, by omega, by go_num, HN.out.1⟩
          case measure => simp [intOf]; omega
        obtain rfl : y = p := by omega
        clear hyp hy1
        by_cases hps : y < s.size
        rotate_left
        · have hps' : ¬ (y : Int) < (s.size : Int) := by omega
          have HX : Hid (charL s n' y = V) := by
            show _ = _
            rw [← HC.out, HS.out, dif_neg hps]
          go_wp2
          go_roundw
          case rel => exact ⟨y, n', hp1, by go_num, by omega, HX.out, hb3⟩
          case measure => simp [intOf]; omega
        have hb0 : blankB s[y] = false := rt_here HY.out hps
        cases h61 : (s[y] == 61)
        · have h61' : ((s[y].toNat : Int) == 61) = false := (rc_byte s[y] 61 (by decide)).trans h61
          have HX : Hid (charL s n' y = V) := by
            show _ = _
            rw [← HC.out, HS.out, dif_pos hps, h61]
            rfl
          go_wp2_with (go_at_call 24; refine (rt_blank s[y] _).mono ?_; rintro e w' ⟨rfl, rfl⟩)
          go_roundw
          case rel => exact ⟨y, n', hp1, by go_num, by omega, HX.out, hb3⟩
          case measure => simp [intOf]; omega
        have h61' : ((s[y].toNat : Int) == 61) = true := (rc_byte s[y] 61 (by decide)).trans h61
        have HX : Hid (valC s (y + 1) = V) := by
          show _ = _
          rw [← HC.out, HS.out, dif_pos hps, h61]
          rfl
        obtain ⟨p3, h3d⟩ : ∃ p3, scan pB s.data.toList (y + 1) = p3 := ⟨_, rfl⟩
        have h30 : y + 1 ≤ p3 := by have := scan_ge pB s.data.toList (y + 1); omega
        have h31 : p3 ≤ s.size := by have := scan_le pB s.data.toList (y + 1) (by have := HL.out; omega); have := HL.out; omega
        have H3 : Hid (scan pB s.data.toList (y + 1) = p3) := h3d
        clear h3d HS HC HV
        go_wp2_with (go_at_call 24; refine (rt_blank s[y] _).mono ?_; rintro e w' ⟨rfl, rfl⟩)
        go_loop [4] (fun i => ∃ q : Nat, q ≤ p3 ∧ i = .int .i64 q ∧ scan pB s.data.toList q = p3) (fun i => p3 - (intOf i).toNat)
        case atStart => exact ⟨y + 1, h30, by go_num, H3.out⟩
        case round =>
          obtain ⟨q, hq1, rfl, hsc⟩ := hrel
          have HSQ : Hid (scan pB s.data.toList q = p3) := hsc
          clear hsc
          by_cases hqe : q < p3
          · have HN : Hid (scan pB s.data.toList (q + 1) = p3 ∧ pB s[q] = true) := rt_next HSQ.out hqe h31
            have hb : blankB s[q] = true := HN.out.2
            go_wp2_with (go_at_call 24; refine (rt_blank s[q] _).mono ?_; rintro e w' ⟨rfl, rfl⟩)
            go_round
            case rel => exact ⟨q + 1, by omega, by go_num, HN.out.1⟩
            case measure => simp [intOf]; omega
          obtain rfl : q = p3 := by omega
          clear hq1 hqe
          by_cases hqs : q < s.size
          rotate_left
          · have hqs' : ¬ (q : Int) < (s.size : Int) := by omega
            have hqe : ((q : Int) == (s.size : Int)) = true := by simp; omega
            have HE : Hid (V = (⟨#[]⟩, false)) := by
              show _ = _
              rw [← HX.out]
              simp [valC, H3.out, hqs]
            go_wp2
            go_ret2
            rw [HE.out]
            exact ⟨rfl, hb3⟩
          have hqe : ((q : Int) == (s.size : Int)) = false := by simp; omega
          have hbq : blankB s[q] = false := rt_here HSQ.out hqs
          go_upto_region 16 with (go_at_call 24; refine (rt_blank s[q] _).mono ?_; rintro e w' ⟨rfl, rfl⟩)
          go_cut [75] (fun c wx => c = .bool (quoteB s[q]) ∧ w2 = wx)
          case first =>
            have hqq := rc_quote s[q]
            cases g1 : ((s[q].toNat : Int) == 34)
            · cases g2 : ((s[q].toNat : Int) == 39)
              · rw [g1, g2] at hqq
                go_wp2_with fail
                go_meet
                exact ⟨by rw [hqq]; rfl, rfl⟩
              · rw [g1, g2] at hqq
                go_wp2_with fail
                go_meet
                exact ⟨by rw [hqq]; rfl, rfl⟩
            · rw [g1] at hqq
              go_wp2_with fail
              go_meet
              exact ⟨by rw [hqq]; rfl, rfl⟩
          case rest =>
            obtain ⟨rfl, rfl⟩ := hcut
            cases hqu : quoteB s[q]
            · obtain ⟨e4, h4d⟩ : ∃ e4, scan pSemi s.data.toList q = e4 := ⟨_, rfl⟩
              have h40 : q ≤ e4 := by have := scan_ge pSemi s.data.toList q; omega
              have h41 : e4 ≤ s.size := by have := scan_le pSemi s.data.toList q (by have := HL.out; omega); have := HL.out; omega
              have H4 : Hid (scan pSemi s.data.toList q = e4) := h4d
              clear h4d
              have HE : Hid (V = (s.extract q e4, true)) := by
                show _ = _
                rw [← HX.out]
                simp [valC, H3.out, hqs, hqu, H4.out]
              go_wp2_with fail
              go_loop [4] (fun i => ∃ z : Nat, q ≤ z ∧ z ≤ e4 ∧ i = .int .i64 z ∧ scan pSemi s.data.toList z = e4) (fun i => e4 - (intOf i).toNat)
              case atStart => exact ⟨q, Nat.le_refl _, h40, rfl, H4.out⟩
              case round =>
                obtain ⟨z, hz0, hz1, rfl, hsc⟩ := hrel
                have HSZ : Hid (scan pSemi s.data.toList z = e4) := hsc
                clear hsc
                by_cases hze : z < e4
                · have HN : Hid (scan pSemi s.data.toList (z + 1) = e4 ∧ pSemi s[z] = true) := rt_next HSZ.out hze h41
                  obtain ⟨hb, h6⟩ := rc_semi_yes HN.out.2
                  go_wp2_with (go_at_call 24; refine (rt_blank s[z] _).mono ?_; rintro e w' ⟨rfl, rfl⟩)
                  go_round
                  case rel => exact ⟨z + 1, by omega, by omega, by go_num, HN.out.1⟩
                  case measure => simp [intOf]; omega
                obtain rfl : z = e4 := by omega
                clear hz1 hze
                by_cases hzs : z < s.size
                rotate_left
                · have hzs' : ¬ (z : Int) < (s.size : Int) := by omega
                  go_wp2
                  go_ret2
                  rw [HE.out]
                  exact ⟨rfl, hb3⟩
                have HZ : Hid (pSemi s[z] = false) := rt_here HSZ.out hzs
                cases hb : blankB s[z]
                · have h6 : ((s[z].toNat : Int) != 59) = false := by
                    have := HZ.out
                    rw [rc_semi, hb] at this
                    simpa using this
                  go_wp2_with (go_at_call 24; refine (rt_blank s[z] _).mono ?_; rintro e w' ⟨rfl, rfl⟩)
                  go_ret2
                  rw [HE.out]
                  exact ⟨rfl, hb3⟩
                · go_wp2_with (go_at_call 24; refine (rt_blank s[z] _).mono ?_; rintro e w' ⟨rfl, rfl⟩)
                  go_ret2
                  rw [HE.out]
                  exact ⟨rfl, hb3⟩
            · obtain ⟨jq, h4d⟩ : ∃ jq, scan (fun x => x != s[q]) s.data.toList (q + 1) = jq := ⟨_, rfl⟩
              have h40 : q + 1 ≤ jq := by have := scan_ge (fun x => x != s[q]) s.data.toList (q + 1); omega
              have h41 : jq ≤ s.size := by have := scan_le (fun x => x != s[q]) s.data.toList (q + 1) (by have := HL.out; omega); have := HL.out; omega
              have H4 : Hid (scan (fun x => x != s[q]) s.data.toList (q + 1) = jq) := h4d
              clear h4d
              go_wp2_with fail
              go_loopw [6] (fun i wy => ∃ z : Nat, q + 1 ≤ z ∧ z ≤ jq ∧ i = .int .i64 z ∧ scan (fun x => x != s[q]) s.data.toList z = jq ∧ Below w.heap.size w wy) (fun i _ => jq - (intOf i).toNat)
              case atStart => exact ⟨q + 1, Nat.le_refl _, h40, by go_num, H4.out, hb3⟩
              case round =>
                obtain ⟨z, hz0, hz1, rfl, hsc, hbr⟩ := hrel
                have HSZ : Hid (scan (fun x => x != s[q]) s.data.toList z = jq) := hsc
                clear hsc
                by_cases hze : z < jq
                · have hzs : z < s.size := by omega
                  have HN : Hid (scan (fun x => x != s[q]) s.data.toList (z + 1) = jq ∧ (s[z] != s[q]) = true) := rt_next (P := fun x => x != s[q]) HSZ.out hze h41
                  have hne : ((s[z].toNat : Int) == (s[q].toNat : Int)) = false := rc_ne HN.out.2
                  go_wp2_with fail
                  go_quiet (fail)
                  go_wp2
                  go_roundw
                  case rel => exact ⟨z + 1, by omega, by omega, by go_num, HN.out.1, below_drewN hbr _⟩
                  case measure => simp [intOf]; omega
                obtain rfl : z = jq := by omega
                clear hz1 hze
                by_cases hzs : z < s.size
                rotate_left
                · have hzs' : ¬ (z : Int) < (s.size : Int) := by omega
                  have HE : Hid (V = (⟨#[]⟩, false)) := by
                    show _ = _
                    rw [← HX.out]
                    simp [valC, H3.out, hqs, hqu, H4.out, hzs]
                  go_wp2
                  go_ret2
                  rw [HE.out]
                  exact ⟨rfl, hbr⟩
                have heq : ((s[z].toNat : Int) == (s[q].toNat : Int)) = true := rc_same (rt_here (P := fun x => x != s[q]) HSZ.out hzs)
                have HE : Hid (V = (s.extract (q + 1) z, true)) := by
                  show _ = _
                  rw [← HX.out]
                  simp [valC, H3.out, hqs, hqu, H4.out, hzs]
                go_wp2_with fail
                go_quiet (fail)
                go_wp2
                go_ret2
                rw [HE.out]
                exact ⟨rfl, below_drewN hbr _⟩
end Go.Proofs.YtddonipfpchabaaDoor

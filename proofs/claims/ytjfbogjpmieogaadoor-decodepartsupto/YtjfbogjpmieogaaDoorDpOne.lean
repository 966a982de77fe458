/-
  The reference's one: the scalar at a place, how many bytes.
-/
import Derived.Test.YtjfbogjpmieogaaDoorDpVal
namespace Go.Proofs.YtjfbogjpmieogaaDoor
open Go.RowKit

theorem fit_drop (r : List (Int × Int)) (l : List UInt8) (k : Nat) (hr : k < r.length) (hl : k < l.length) : fitK (r.drop k) (l.drop k) = if r[k].1 ≤ (l[k].toNat : Int) ∧ (l[k].toNat : Int) ≤ r[k].2 then fitK (r.drop (k + 1)) (l.drop (k + 1)) + 1 else 0 := by
  rw [List.drop_eq_getElem_cons hr, List.drop_eq_getElem_cons hl]
  rfl
theorem fit_none (r : List (Int × Int)) (l : List UInt8) (k : Nat) (h : r.length ≤ k ∨ l.length ≤ k) : fitK (r.drop k) (l.drop k) = 0 := by
  rcases h with h | h
  · rw [List.drop_eq_nil_of_le h]; simp [fitK]
  · rw [List.drop_eq_nil_of_le h]; cases r.drop k <;> simp [fitK]

theorem fold_bd2 : ∀ (r : List UInt8) (v B : Int), 0 ≤ v → v < B → (∀ c ∈ r, 128 ≤ c.toNat ∧ c.toNat ≤ 191) → 0 ≤ r.foldl (fun v c => v * 64 + (c.toNat : Int) - 128) v ∧ r.foldl (fun v c => v * 64 + (c.toNat : Int) - 128) v < B * 64 ^ r.length
  | [], v, B, h0, h1, _ => ⟨h0, by simpa using h1⟩
  | c :: r, v, B, h0, h1, hr => by
    have hc := hr c (by simp)
    have := fold_bd2 r (v * 64 + (c.toNat : Int) - 128) (B * 64) (by omega) (by omega) (fun x hx => hr x (by simp [hx]))
    rw [List.foldl_cons, List.length_cons, Int.pow_succ]
    refine ⟨this.1, ?_⟩
    have e : B * (64 ^ r.length * 64) = B * 64 * 64 ^ r.length := by rw [Int.mul_comm (64 ^ r.length) 64, Int.mul_assoc]
    rw [e]
    exact this.2

theorem fit_first : ∀ (r : List (Int × Int)) (b : UInt8) (l : List UInt8), 0 < fitK r (b :: l) → ∃ lo hi r', r = (lo, hi) :: r' ∧ lo ≤ (b.toNat : Int) ∧ (b.toNat : Int) ≤ hi ∧ fitK r (b :: l) = fitK r' l + 1
  | [], _, _, h => by simp [fitK] at h
  | (lo, hi) :: r, b, l, h => by
    simp only [fitK] at h ⊢
    split at h
    · rename_i hb
      exact ⟨lo, hi, r, rfl, hb.1, hb.2, by rw [if_pos hb]⟩
    · omega

def rowOk (r : List (Int × Int)) : Bool := match r with
  | [] => false
  | (lo, hi) :: t => decide (leadOf (t.length + 1) ≤ lo) && decide (hi - leadOf (t.length + 1) < 128) && t.all (fun x => decide (128 ≤ x.1) && decide (x.2 ≤ 191)) && decide (t.length ≤ 3)
theorem rows_ok : ∀ r ∈ rowsT, rowOk r = true := by decide

theorem val_ok (r : List (Int × Int)) (hr : rowOk r = true) (s : ByteArray) (hs : s.size = r.length) (hf : fitK r s.data.toList = r.length) : ValOk s := by
  have hl : s.data.toList.length = s.size := by simp
  cases r with
  | nil => cases hr
  | cons x t =>
    obtain ⟨lo, hi⟩ := x
    simp only [rowOk, Bool.and_eq_true, decide_eq_true_eq, List.all_eq_true] at hr
    obtain ⟨⟨⟨h1, h2⟩, h3⟩, h4⟩ := hr
    rw [List.length_cons] at hs hf
    cases hb : s.data.toList with
    | nil => rw [hb] at hl; simp at hl; omega
    | cons b l =>
      rw [hb] at hf hl
      obtain ⟨lo', hi', t', e, g1, g2, g3⟩ := fit_first ((lo, hi) :: t) b l (by omega)
      injection e with e1 e2
      injection e1 with e1 e3
      subst e1 e2 e3
      have hft : fitK t l = t.length := by omega
      have hll : l.length = t.length := by simp at hl; omega
      have hrg := fit_range t l h3
      rw [hft, List.take_of_length_le (by omega)] at hrg
      refine ⟨by omega, fun k hk1 hk => ?_⟩
      unfold vAt
      rw [hb, hs]
      simp only [List.head?_cons, Option.getD_some]
      have hsub : ∀ c ∈ ((b :: l).take k).drop 1, 128 ≤ c.toNat ∧ c.toNat ≤ 191 := fun c hc => by
        obtain ⟨k', rfl⟩ : ∃ k', k = k' + 1 := ⟨k - 1, by omega⟩
        rw [List.take_succ_cons] at hc
        exact hrg c (List.mem_of_mem_take (by simpa using hc))
      have := fold_bd2 (((b :: l).take k).drop 1) ((b.toNat : Int) - leadOf (t.length + 1)) 128 (by omega) (by omega) hsub
      refine ⟨this.1, ?_⟩
      have hlen : (((b :: l).take k).drop 1).length ≤ 3 := by simp; omega
      have hp : (64 : Int) ^ (((b :: l).take k).drop 1).length ≤ 64 ^ 3 := by
        have hc : (((b :: l).take k).drop 1).length = 0 ∨ (((b :: l).take k).drop 1).length = 1 ∨ (((b :: l).take k).drop 1).length = 2 ∨ (((b :: l).take k).drop 1).length = 3 := by omega
        rcases hc with h | h | h | h <;> rw [h] <;> decide
      have e3 : (64 : Int) ^ 3 = 262144 := by decide
      omega

theorem fit_take (r : List (Int × Int)) : ∀ l, fitK r (l.take r.length) = fitK r l := by
  induction r with
  | nil => intro l; simp [fitK]
  | cons x r ih =>
    intro l
    cases l with
    | nil => rfl
    | cons b l =>
      obtain ⟨lo, hi⟩ := x
      simp only [List.length_cons, List.take_succ_cons, fitK, ih]

theorem one_bd : ∀ (rs : List (List (Int × Int))) (far : Nat) (l : List UInt8), (∀ r ∈ rs, 1 ≤ r.length) → 1 ≤ far → far ≤ l.length → 1 ≤ (oneGo rs far l).2 ∧ (oneGo rs far l).2 ≤ l.length
  | [], far, l, _, h1, h2 => ⟨h1, h2⟩
  | r :: rs, far, l, hr, h1, h2 => by
    have hk := fitK_le r l
    simp only [oneGo]
    split
    · rename_i h
      exact ⟨hr r (by simp), by show r.length ≤ _; omega⟩
    · refine one_bd rs _ l (fun x hx => hr x (by simp [hx])) ?_ ?_
      · split <;> omega
      · split <;> omega

set_option maxRecDepth 100000 in
set_option maxHeartbeats 8000000 in
theorem one_any (s : ByteArray) (p : Nat) (w : World) (hp : p < s.size) (hs : s.size ≤ 1048576) :
    Calls Tryd.prog 35 #[.string s, .int .i64 (p : Int)] w fun e w' => e = .returned (.tuple #[.int .i64 (oneF (s.data.toList.drop p)).1, .int .i64 ((oneF (s.data.toList.drop p)).2 : Int)]) ∧ Below w.heap.size w w' := by
  have hsl : s.data.toList.length = s.size := by simp
  have HC : Hid _ := rows_any w
  have hsI : (s.size : Int) ≤ 1048576 := by omega
  obtain ⟨l, hl⟩ : ∃ l, s.data.toList.drop p = l := ⟨_, rfl⟩
  have hll : l.length = s.size - p := by rw [← hl]; simp
  rw [hl]
  have HL : Hid (s.data.toList.drop p = l) := hl
  clear hl
  go_enter Tryd.func35, Tryd.ntmps35
  go_wp2_with fail
  refine Calls.mono HC.out ?_
  rintro e w1 ⟨rfl, hw1⟩
  have HW1 : Hid _ := hw1
  obtain ⟨rb, hrb⟩ : ∃ rb, w.heap.size = rb := ⟨_, rfl⟩
  have HRB : Hid (w.heap.size = rb) := hrb
  rw [hrb]
  clear HC hw1 hrb
  go_wp2
  go_loopw [7, 8, 9] (fun f i _ wr => ∃ (j far q : Nat), j ≤ 9 ∧ i = .int .i64 j ∧ f = .int .i64 (far : Int) ∧ far ≤ 4 ∧ oneF l = oneGo (rowsT.drop j) far l ∧ wr = w1.drewN q) (fun _ i _ _ => 9 - (intOf i).toNat)
  case atStart => exact ⟨0, 1, 0, by omega, rfl, rfl, by omega, rfl, rfl⟩
  case round =>
    obtain ⟨j, far, q, hj, rfl, rfl, hfar, hgo, rfl⟩ := hrel
    have HG : Hid _ := hgo
    clear hgo
    by_cases hj9 : j < 9
    · have hjl : j < rowsT.length := hj9
      obtain ⟨r, hr⟩ : ∃ r, rowsT[j]'hjl = r := ⟨_, rfl⟩
      have hmem : r ∈ rowsT := by rw [← hr]; exact List.getElem_mem _
      have HR : Hid (RowIn w1 rb j r) := by
        have := row_in w j hjl
        rw [hr] at this
        rw [HW1.out, ← HRB.out]
        exact this
      have HD : Hid (rowsT.drop j = r :: rowsT.drop (j + 1)) := by
        show _ = _
        rw [List.drop_eq_getElem_cons hjl, hr]
      have h4 := HR.out.four
      have HOK : Hid (rowOk r = true) := rows_ok r hmem
      have hjI : (j : Int) < 9 := by omega
      clear hr hmem hjl
      go_wp2
      go_loopw [9] (fun k wr => ∃ (t q' : Nat), t ≤ r.length ∧ t ≤ l.length ∧ k = .int .i64 (t : Int) ∧ fitK r l = t + fitK (r.drop t) (l.drop t) ∧ wr = w1.drewN q') (fun k _ => r.length - (intOf k).toNat)
      case atStart => exact ⟨0, q, by omega, by omega, rfl, by simp, rfl⟩
      case round =>
        obtain ⟨t, q', ht, htl, rfl, hfit, rfl⟩ := hrel
        have HF : Hid _ := hfit
        clear hfit
        have c8 := HR.out.len
        have htI : (t : Int) ≤ 4 := by omega
        have hptI : (p : Int) + (t : Int) ≤ 1048576 := by omega
        by_cases hgo : ∃ (h1 : t < r.length) (h2 : t < l.length), r[t].1 ≤ (l[t].toNat : Int) ∧ (l[t].toNat : Int) ≤ r[t].2
        · obtain ⟨h1, h2, g1, g2⟩ := hgo
          have cl := HR.out.lo t h1
          have ch := HR.out.hi t h1
          have hN : fitK r l = (t + 1) + fitK (r.drop (t + 1)) (l.drop (t + 1)) := by
            rw [HF.out, fit_drop r l t h1 h2, if_pos ⟨g1, g2⟩]
            omega
          have HN : Hid _ := hN
          obtain ⟨m, hm⟩ : ∃ m, p + t = m := ⟨_, rfl⟩
          have hps : m < s.size := by omega
          have e2 : l[t] = s[m] := by
            rw [byte_at s m hps]
            simp [← HL.out, hm]
          rw [e2] at g1 g2
          have kw : IntKind.i64.wrap ((p : Int) + (t : Int)) = (m : Int) := by
            have : (p : Int) + (t : Int) = (m : Int) := by omega
            rw [this]
            simp only [IntKind.wrap, IntKind.bits, IntKind.signed]
            simp
            omega
          generalize r[t].1 = lo at cl g1
          generalize r[t].2 = hi at ch g2
          have k1 : (t : Int) < (r.length : Int) := by omega
          have k2 : (m : Int) < (s.size : Int) := by omega
          have k3 : (t : Int) < 4 := by omega
          have kb : IntKind.i64.wrap (s[m].toNat : Int) = (s[m].toNat : Int) := by
            have := s[m].toNat_lt
            simp only [IntKind.wrap, IntKind.bits, IntKind.signed]
            simp
            omega
          have HT : Hid (t + 1 ≤ r.length ∧ t + 1 ≤ l.length) := ⟨h1, h2⟩
          clear hN e2 HF HG HD HOK hll htl hm
          go_wp2_with fail
          go_quiet (fail)
          clear kw kb
          go_wp2
          go_roundw
          case rel => exact ⟨t + 1, q' + nq, HT.out.1, HT.out.2, by go_num, HN.out, by simp⟩
          case measure => simp [intOf]; omega
        · by_cases h1 : t < r.length
          · have HFT : Hid (fitK r l = t) := by
              show _ = _
              rw [HF.out]
              by_cases h2 : t < l.length
              · rw [fit_drop r l t h1 h2, if_neg (fun h => hgo ⟨h1, h2, h.1, h.2⟩)]
                rfl
              · rw [fit_none r l t (.inr (by omega))]
                rfl
            obtain ⟨m, hm⟩ : ∃ m, p + t = m := ⟨_, rfl⟩
            have kw : IntKind.i64.wrap ((p : Int) + (t : Int)) = (m : Int) := by
              have : (p : Int) + (t : Int) = (m : Int) := by omega
              rw [this]
              simp only [IntKind.wrap, IntKind.bits, IntKind.signed]
              simp
              omega
            have k1 : (t : Int) < (r.length : Int) := by omega
            have k3 : (t : Int) < 4 := by omega
            have keq : ((t : Int) == (r.length : Int)) = false := by rw [beq_eq_false_iff_ne]; omega
            clear HF
            by_cases h2 : t < l.length
            · have hps : m < s.size := by omega
              have cl := HR.out.lo t h1
              have ch := HR.out.hi t h1
              have hng : ¬ (r[t].1 ≤ (s[m].toNat : Int) ∧ (s[m].toNat : Int) ≤ r[t].2) := fun h => hgo ⟨h1, h2, by
                have e2 : l[t] = s[m] := by
                  rw [byte_at s m hps]
                  simp [← HL.out, hm]
                rw [e2]
                exact h⟩
              have k2 : (m : Int) < (s.size : Int) := by omega
              have kb : IntKind.i64.wrap (s[m].toNat : Int) = (s[m].toNat : Int) := by
                have := s[m].toNat_lt
                simp only [IntKind.wrap, IntKind.bits, IntKind.signed]
                simp
                omega
              generalize r[t].1 = lo at cl hng
              generalize r[t].2 = hi at ch hng
              have HLT : Hid (t < r.length ∧ r.length ≤ 4) := ⟨h1, h4⟩
              clear hgo hm
              by_cases g1 : lo ≤ (s[m].toNat : Int)
              · have g2 : decide ((s[m].toNat : Int) ≤ hi) = false := by
                  simp only [decide_eq_false_iff_not]
                  exact fun h => hng ⟨g1, h⟩
                clear hng
                go_wp2_with fail
                go_quiet (fail)
                clear kw kb g1 g2 cl ch
                by_cases hft : far < t
                · have hfi : (far : Int) < (t : Int) := by omega
                  have HNX : Hid (oneF l = oneGo (rowsT.drop (j + 1)) t l) := by
                    show _ = _
                    rw [HG.out, HD.out]
                    simp only [oneGo]
                    rw [if_neg (by rw [HFT.out]; omega), HFT.out, if_pos hft]
                  go_wp2
                  go_roundw
                  case rel => exact ⟨j + 1, t, q' + nq, by omega, by go_num, rfl, by omega, HNX.out, by simp⟩
                  case measure => simp [intOf]; omega
                · have hfi : ¬ (far : Int) < (t : Int) := by omega
                  have HNX : Hid (oneF l = oneGo (rowsT.drop (j + 1)) far l) := by
                    show _ = _
                    rw [HG.out, HD.out]
                    simp only [oneGo]
                    rw [if_neg (by rw [HFT.out]; omega), HFT.out, if_neg hft]
                  go_wp2
                  go_roundw
                  case rel => exact ⟨j + 1, far, q' + nq, by omega, by go_num, rfl, hfar, HNX.out, by simp⟩
                  case measure => simp [intOf]; omega
              · have g2 : decide (lo ≤ (s[m].toNat : Int)) = false := by simpa using g1
                clear hng g1
                go_wp2_with fail
                go_quiet (fail)
                clear kw kb g2 cl ch
                by_cases hft : far < t
                · have hfi : (far : Int) < (t : Int) := by omega
                  have HNX : Hid (oneF l = oneGo (rowsT.drop (j + 1)) t l) := by
                    show _ = _
                    rw [HG.out, HD.out]
                    simp only [oneGo]
                    rw [if_neg (by rw [HFT.out]; omega), HFT.out, if_pos hft]
                  go_wp2
                  go_roundw
                  case rel => exact ⟨j + 1, t, q' + nq, by omega, by go_num, rfl, by omega, HNX.out, by simp⟩
                  case measure => simp [intOf]; omega
                · have hfi : ¬ (far : Int) < (t : Int) := by omega
                  have HNX : Hid (oneF l = oneGo (rowsT.drop (j + 1)) far l) := by
                    show _ = _
                    rw [HG.out, HD.out]
                    simp only [oneGo]
                    rw [if_neg (by rw [HFT.out]; omega), HFT.out, if_neg hft]
                  go_wp2
                  go_roundw
                  case rel => exact ⟨j + 1, far, q' + nq, by omega, by go_num, rfl, hfar, HNX.out, by simp⟩
                  case measure => simp [intOf]; omega
            · have k2 : decide ((m : Int) < (s.size : Int)) = false := by
                simp only [decide_eq_false_iff_not]
                omega
              have k2n : decide (m < s.size) = false := by
                simp only [decide_eq_false_iff_not]
                omega
              have HLT : Hid (t < r.length ∧ r.length ≤ 4) := ⟨h1, h4⟩
              clear hgo hm
              go_wp2_with fail
              go_quiet (fail)
              clear kw k2 k2n
              by_cases hft : far < t
              · have hfi : (far : Int) < (t : Int) := by omega
                have HNX : Hid (oneF l = oneGo (rowsT.drop (j + 1)) t l) := by
                  show _ = _
                  rw [HG.out, HD.out]
                  simp only [oneGo]
                  rw [if_neg (by rw [HFT.out]; omega), HFT.out, if_pos hft]
                go_wp2
                go_roundw
                case rel => exact ⟨j + 1, t, q' + nq, by omega, by go_num, rfl, by omega, HNX.out, by simp⟩
                case measure => simp [intOf]; omega
              · have hfi : ¬ (far : Int) < (t : Int) := by omega
                have HNX : Hid (oneF l = oneGo (rowsT.drop (j + 1)) far l) := by
                  show _ = _
                  rw [HG.out, HD.out]
                  simp only [oneGo]
                  rw [if_neg (by rw [HFT.out]; omega), HFT.out, if_neg hft]
                go_wp2
                go_roundw
                case rel => exact ⟨j + 1, far, q' + nq, by omega, by go_num, rfl, hfar, HNX.out, by simp⟩
                case measure => simp [intOf]; omega
          · have htr : t = r.length := by omega
            subst htr
            have hfr : fitK r l = r.length := by
              rw [HF.out, fit_none r l r.length (.inl (Nat.le_refl _))]
              rfl
            have hone : oneF l = (valV (l.take r.length), r.length) := by
              rw [HG.out, HD.out]
              simp only [oneGo]
              rw [if_pos hfr]
            obtain ⟨m, hm⟩ : ∃ m, p + r.length = m := ⟨_, rfl⟩
            have hms : m ≤ s.size := by omega
            have kw : (p : Int) + (r.length : Int) = (m : Int) := by omega
            have hex : (s.extract p m).data.toList = l.take r.length := by
              rw [← HL.out, ← hm]
              simp [List.take_drop]
            have hexs : (s.extract p m).size = r.length := by simp; omega
            have hok : ValOk (s.extract p m) := val_ok r HOK.out _ hexs (by rw [hex, fit_take]; exact hfr)
            have hV := fun w => value_any (s.extract p m) w hok
            rw [hex] at hV
            have HV : Hid _ := hV
            have HO : Hid _ := hone
            have HW : Hid (∀ q, Below w.heap.size w (w1.drewN q)) := fun q => by
              rw [HW1.out]
              exact drewN_below ((Below.refl _ _).alloc (Nat.le_refl _) _) q
            have hpm : (p : Int) ≤ (m : Int) := by omega
            have hmI : (m : Int) ≤ (s.size : Int) := by omega
            clear hgo h1 HF HG HD hV hone hok hex hexs hfr
            go_wp2_with fail
            go_quiet (fail)
            go_wp2_with fail
            refine Calls.mono (HV.out _) ?_
            rintro e w2 ⟨rfl, hb2⟩
            have HB2 : Hid (Below w.heap.size w w2) := (HW.out _).trans (hb2.mono (HW.out _).size)
            clear hb2 HW HV
            go_wp2
            go_ret2
            rw [HO.out]
            exact ⟨rfl, HB2.out⟩
    · have hj9' : j = 9 := by omega
      subst hj9'
      have hone : oneF l = (-1, far) := HG.out
      have HO : Hid _ := hone
      have HW : Hid (∀ q, Below w.heap.size w (w1.drewN q)) := fun q => by
        rw [HW1.out]
        exact drewN_below ((Below.refl _ _).alloc (Nat.le_refl _) _) q
      clear hone HG
      go_wp2
      go_ret2
      rw [HO.out]
      exact ⟨rfl, HW.out _⟩
end Go.Proofs.YtjfbogjpmieogaaDoor

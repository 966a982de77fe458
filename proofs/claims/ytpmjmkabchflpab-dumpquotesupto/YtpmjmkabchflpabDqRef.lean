/-
  Quoting and unquoting: the reference's ways.
-/
import Derived.Test.YtpmjmkabchflpabDqUn
namespace Go.Proofs.Ytpmjmkabchflpab
open Go.RowKit Go.Maps

set_option maxRecDepth 100000 in
set_option maxHeartbeats 2000000 in
theorem refQuote_any (s : ByteArray) (w : World) (hs : s.size ≤ 4194304) : Calls Try.prog 6 #[.string s] w fun e w' => e = .returned (.string ⟨(quoteB s.data.toList).toArray⟩) ∧ Below w.heap.size w w' := by
  obtain ⟨i0, hi, hz0, hz1, hz2⟩ := info_parts Try.info5
  have hL : s.data.toList.length = s.size := by simp
  have HO : Hid (OutAt w (w.alloc (.cells #[.int .u8 34] 5)) (quoteP []) (.slice (some ⟨w.heap.size, 0, none⟩) 1 1)) := ⟨own_new w #[.int .u8 34] _ (Nat.le_refl _) (by decide), (Below.refl _ _).alloc (Nat.le_refl _) _⟩
  go_enter Try.func6, Try.ntmps6
  go_wp2
  go_loopw [3, 4] (fun v i wr => ∃ k : Nat, k ≤ s.size ∧ i = .int .i64 k ∧ OutAt w wr (quoteP (s.data.toList.take k)) v) (fun _ i _ => s.size - (intOf i).toNat)
  case atStart => exact ⟨0, by omega, rfl, HO.out⟩
  case round =>
    obtain ⟨k, hk, rfl, hO⟩ := hrel
    clear HO
    have hbs := hO.bel.size
    have hql := quoteP_len (s.data.toList.take k)
    rw [List.length_take] at hql
    by_cases hlt : k < s.size
    · have hlt' : k < s.data.toList.length := by simpa using hlt
      have HT : Hid (quoteP (s.data.toList.take (k + 1)) = quoteP (s.data.toList.take k) ++ quoteC s[k]) := by
        show _ = _
        rw [List.take_succ_eq_append_getElem hlt', quoteP_snoc]
        rfl
      have hbf : ∀ x : UInt8, ¬ s[k] = x → ((s[k].toNat : Int) == (x.toNat : Int)) = false := fun x hx => by
        rw [beq_eq_false_iff_ne]
        intro e
        exact hx (UInt8.toNat_inj.1 (Int.ofNat.inj e))
      by_cases h34 : s[k] = 34
      · have e34 : (s[k].toNat : Int) = 34 := by rw [h34]; rfl
        have HC : Hid (quoteC s[k] = [92, 34]) := by show _ = _; rw [h34]; rfl
        clear h34 hbf
        go_wp2_with (at_builtin; refine wpList_append_own _ rfl _ _ 30 rfl w.heap.size 5 i0 (.int .u8 0) 1 1 Try.underlying30 hi hz0 hz1 hz2 rfl (by decide) _ _ _ rfl (hO.own.alloc _) ⟨wr.heap.size, 0, none⟩ 2 2 [.int .u8 92, .int .u8 34] rfl rfl (news_cells _ #[.int .u8 92, .int .u8 34] _ _ rfl) (bytes_one [92, 34]) (by unfold maxLen; omega) (by omega) (by simp; omega) ?_)
        intro v' w2 hown' hgrow _
        have HN : Hid (OutAt w w2 (quoteP (s.data.toList.take (k + 1))) v') := by
          show OutAt _ _ _ _
          rw [HT.out, HC.out]
          exact hO.next (m := [92, 34]) hown' hgrow
        clear hown' hgrow hO HT HC
        go_wp2
        go_roundw
        case rel => exact ⟨k + 1, by omega, by go_num, HN.out⟩
        case measure => simp [intOf]; omega
      · have b34 : ((s[k].toNat : Int) == 34) = false := hbf 34 h34
        by_cases h92 : s[k] = 92
        · have e92 : (s[k].toNat : Int) = 92 := by rw [h92]; rfl
          have HC : Hid (quoteC s[k] = [92, 92]) := by show _ = _; rw [h92]; rfl
          clear h34 h92 hbf
          go_wp2_with (at_builtin; refine wpList_append_own _ rfl _ _ 30 rfl w.heap.size 5 i0 (.int .u8 0) 1 1 Try.underlying30 hi hz0 hz1 hz2 rfl (by decide) _ _ _ rfl (hO.own.alloc _) ⟨wr.heap.size, 0, none⟩ 2 2 [.int .u8 92, .int .u8 92] rfl rfl (news_cells _ #[.int .u8 92, .int .u8 92] _ _ rfl) (bytes_one [92, 92]) (by unfold maxLen; omega) (by omega) (by simp; omega) ?_)
          intro v' w2 hown' hgrow _
          have HN : Hid (OutAt w w2 (quoteP (s.data.toList.take (k + 1))) v') := by
            show OutAt _ _ _ _
            rw [HT.out, HC.out]
            exact hO.next (m := [92, 92]) hown' hgrow
          clear hown' hgrow hO HT HC
          go_wp2
          go_roundw
          case rel => exact ⟨k + 1, by omega, by go_num, HN.out⟩
          case measure => simp [intOf]; omega
        · have b92 : ((s[k].toNat : Int) == 92) = false := hbf 92 h92
          by_cases h10 : s[k] = 10
          · have e10 : (s[k].toNat : Int) = 10 := by rw [h10]; rfl
            have HC : Hid (quoteC s[k] = [92, 110]) := by show _ = _; rw [h10]; rfl
            clear h34 h92 h10 hbf
            go_wp2_with (at_builtin; refine wpList_append_own _ rfl _ _ 30 rfl w.heap.size 5 i0 (.int .u8 0) 1 1 Try.underlying30 hi hz0 hz1 hz2 rfl (by decide) _ _ _ rfl (hO.own.alloc _) ⟨wr.heap.size, 0, none⟩ 2 2 [.int .u8 92, .int .u8 110] rfl rfl (news_cells _ #[.int .u8 92, .int .u8 110] _ _ rfl) (bytes_one [92, 110]) (by unfold maxLen; omega) (by omega) (by simp; omega) ?_)
            intro v' w2 hown' hgrow _
            have HN : Hid (OutAt w w2 (quoteP (s.data.toList.take (k + 1))) v') := by
              show OutAt _ _ _ _
              rw [HT.out, HC.out]
              exact hO.next (m := [92, 110]) hown' hgrow
            clear hown' hgrow hO HT HC
            go_wp2
            go_roundw
            case rel => exact ⟨k + 1, by omega, by go_num, HN.out⟩
            case measure => simp [intOf]; omega
          · have b10 : ((s[k].toNat : Int) == 10) = false := hbf 10 h10
            have HC : Hid (quoteC s[k] = [s[k]]) := by show _ = _; unfold quoteC; rw [if_neg h34, if_neg h92, if_neg h10]
            clear h34 h92 h10 hbf
            go_wp2_with (at_builtin; refine wpList_append_own _ rfl _ _ 30 rfl w.heap.size 5 i0 (.int .u8 0) 1 1 Try.underlying30 hi hz0 hz1 hz2 rfl (by decide) _ _ _ rfl (hO.own.alloc _) ⟨wr.heap.size, 0, none⟩ 1 1 [.int .u8 (s[k].toNat : Int)] rfl rfl (news_cells _ #[.int .u8 (s[k].toNat : Int)] _ _ rfl) (bytes_one [s[k]]) (by unfold maxLen; omega) (by omega) (by simp; omega) ?_)
            intro v' w2 hown' hgrow _
            have HN : Hid (OutAt w w2 (quoteP (s.data.toList.take (k + 1))) v') := by
              show OutAt _ _ _ _
              rw [HT.out, HC.out]
              exact hO.next (m := [s[k]]) hown' hgrow
            clear hown' hgrow hO HT HC
            go_wp2
            go_roundw
            case rel => exact ⟨k + 1, by omega, by go_num, HN.out⟩
            case measure => simp [intOf]; omega
    · obtain rfl : k = s.size := by omega
      rw [List.take_of_length_le (by omega)] at hO hql
      go_wp2_with (at_builtin; refine wpList_append_own _ rfl _ _ 30 rfl w.heap.size 5 i0 (.int .u8 0) 1 1 Try.underlying30 hi hz0 hz1 hz2 rfl (by decide) _ _ _ rfl (hO.own.alloc _) ⟨wr.heap.size, 0, none⟩ 1 1 [.int .u8 34] rfl rfl (news_cells _ #[.int .u8 34] _ _ rfl) (bytes_one [34]) (by unfold maxLen; omega) (by omega) (by simp; omega) ?_)
      intro v' w2 hown' hgrow _
      have hN := hO.next (m := [34]) hown' hgrow
      have hback := own_back hN.own
      have HB : Hid _ := hN.bel
      clear hown' hgrow hO hN
      go_wp2
      go_ret
      exact ⟨rfl, HB.out⟩

/-- The reference's answer as it is told. -/
def refV (n : Nat) : Option (List UInt8 × List UInt8) → Value
  | none => .tuple #[.string ⟨#[]⟩, .int .i64 (-1)]
  | some (x, r) => .tuple #[.string ⟨x.toArray⟩, .int .i64 ((n : Int) - (r.length : Int))]

set_option maxRecDepth 100000 in
set_option maxHeartbeats 2000000 in
theorem refUnquote_at (s : ByteArray) (p : Nat) (hp0 : p = 0) (w : World) (hs : s.size ≤ 4194304) : Calls Try.prog 7 #[.string s, .int .i64 (p : Int)] w fun e w' => e = .returned (refV s.size (unquoteL s.data.toList)) ∧ Below w.heap.size w w' := by
  obtain ⟨i0, hi, hz0, hz1, hz2⟩ := info_parts Try.info5
  have hL : s.data.toList.length = s.size := by simp
  by_cases hp : p < s.size
  · have hp' : p < s.data.toList.length := by simpa using hp
    have hd0 : s.data.toList = s[p] :: s.data.toList.drop (p + 1) := by
      have h := List.drop_eq_getElem_cons hp'
      rw [show s.data.toList.drop p = s.data.toList by rw [hp0]; rfl] at h
      exact h
    by_cases hq : s[p] = 34
    · have hU : unquoteL s.data.toList = unq [] (s.data.toList.drop (p + 1)) := by
        refine (congrArg unquoteL hd0).trans ?_
        show (if s[p] = 34 then _ else _) = _
        rw [if_pos hq]
      rw [hU]
      have e0 : (s[p].toNat : Int) = 34 := by rw [hq]; rfl
      have hgd : decide (s.size ≤ p) = false := by simp; omega
      clear hU hq hd0 hp0
      go_enter Try.func7, Try.ntmps7
      go_wp2
      go_loopw [1, 6, 7] (fun i v _ wr => ∃ (k : Nat) (acc : List UInt8), p + 1 ≤ k ∧ k ≤ s.size ∧ i = .int .i64 k ∧ acc.length ≤ k ∧ OutAt w wr acc v ∧ unq [] (s.data.toList.drop (p + 1)) = unq acc (s.data.toList.drop k)) (fun i _ _ _ => s.size - (intOf i).toNat)
      case atStart => exact ⟨p + 1, [], by omega, by omega, by go_num, by simp, ⟨World.ownsRow_nil _ _ _ _, Below.refl _ _⟩, rfl⟩
      case round =>
        obtain ⟨k, acc, hk1, hk, rfl, hacc, hO, hU⟩ := hrel
        clear e0
        have hbs := hO.bel.size
        by_cases hlt : k < s.size
        · have hlt' : k < s.data.toList.length := by simpa using hlt
          have hd : s.data.toList.drop k = s[k] :: s.data.toList.drop (k + 1) := List.drop_eq_getElem_cons hlt'
          rw [hd] at hU
          have hbf : ∀ x : UInt8, ¬ s[k] = x → ((s[k].toNat : Int) == (x.toNat : Int)) = false := fun x hx => by
            rw [beq_eq_false_iff_ne]
            intro e
            exact hx (UInt8.toNat_inj.1 (Int.ofNat.inj e))
          by_cases h10 : s[k] = 10
          · have e10 : (s[k].toNat : Int) = 10 := by rw [h10]; rfl
            rw [h10, unq_line] at hU
            have HB : Hid _ := hO.bel
            have HU : Hid _ := hU
            clear hO hU hd hbf h10
            go_wp2
            exact bodyPost_ret (v := .tuple #[.string ⟨#[]⟩, .int .i64 (-1)]) (by simp [results, Try.results7, go_sem]) rfl ⟨by rw [HU.out]; rfl, HB.out⟩
          · have b10 : ((s[k].toNat : Int) == 10) = false := hbf 10 h10
            have n10 : ¬ (s[k].toNat : Int) = 10 := by simpa using b10
            by_cases h34 : s[k] = 34
            · have e34 : (s[k].toNat : Int) = 34 := by rw [h34]; rfl
              rw [h34, unq_end] at hU
              have hback := own_back hO.own
              have HB : Hid _ := hO.bel
              have HU : Hid _ := hU
              have HV : Hid (Value.int .i64 ((k : Int) + 1) = .int .i64 ((s.size : Int) - ((s.data.toList.drop (k + 1)).length : Int))) := by
                show _ = _
                rw [List.length_drop, hL]
                congr 1
                omega
              clear hO hU hd hbf h34 h10
              go_wp2
              exact bodyPost_ret (v := .tuple #[.string ⟨acc.toArray⟩, .int .i64 ((k : Int) + 1)]) (by simp [results, Try.results7, go_sem]) rfl ⟨by rw [HU.out]; show _ = Ending.returned (.tuple #[_, _]); rw [← HV.out], HB.out⟩
            · have b34 : ((s[k].toNat : Int) == 34) = false := hbf 34 h34
              by_cases h92 : s[k] = 92
              · have e92 : (s[k].toNat : Int) = 92 := by rw [h92]; rfl
                rw [h92] at hU
                clear hbf h34 h10 h92 hd
                by_cases hlast : k + 1 = s.size
                · have hdn : s.data.toList.drop (k + 1) = [] := List.drop_of_length_le (by omega)
                  rw [hdn, unq_last] at hU
                  have HB : Hid _ := hO.bel
                  have HU : Hid _ := hU
                  have hI : (k : Int) + 1 = (s.size : Int) := by omega
                  clear hO hU hdn
                  go_wp2
                  exact bodyPost_ret (v := .tuple #[.string ⟨#[]⟩, .int .i64 (-1)]) (by simp [results, Try.results7, go_sem]) rfl ⟨by rw [HU.out]; rfl, HB.out⟩
                · have hlt2 : k + 1 < s.size := by omega
                  have hlt2' : k + 1 < s.data.toList.length := by simpa using hlt2
                  have hd2 : s.data.toList.drop (k + 1) = s[k + 1] :: s.data.toList.drop (k + 2) := List.drop_eq_getElem_cons hlt2'
                  rw [hd2] at hU
                  have hI : ((k : Int) + 1 == (s.size : Int)) = false := by rw [beq_eq_false_iff_ne]; omega
                  have hI2 : (k : Int) + 1 < (s.size : Int) := by omega
                  have hbf : ∀ x : UInt8, ¬ s[k + 1] = x → ((s[k + 1].toNat : Int) == (x.toNat : Int)) = false := fun x hx => by
                    rw [beq_eq_false_iff_ne]
                    intro e
                    exact hx (UInt8.toNat_inj.1 (Int.ofNat.inj e))
                  clear hd2 hlast
                  cases hsg : signB s[k + 1]
                  · rw [unq_bad _ _ _ hsg] at hU
                    obtain ⟨m34, m92, m110⟩ : (((s[k + 1].toNat : Int) == 34) = false) ∧ (((s[k + 1].toNat : Int) == 92) = false) ∧ (((s[k + 1].toNat : Int) == 110) = false) := by
                      unfold signB at hsg
                      simp only [Bool.or_eq_false_iff, beq_eq_false_iff_ne] at hsg
                      exact ⟨hbf 34 hsg.1.1, hbf 92 hsg.1.2, hbf 110 hsg.2⟩
                    have q34 : ((s[k + 1].toNat : Int) != 34) = true := by
                      show (!((s[k + 1].toNat : Int) == 34)) = true
                      rw [m34]
                      rfl
                    have q92 : ((s[k + 1].toNat : Int) != 92) = true := by
                      show (!((s[k + 1].toNat : Int) == 92)) = true
                      rw [m92]
                      rfl
                    have q110 : ((s[k + 1].toNat : Int) != 110) = true := by
                      show (!((s[k + 1].toNat : Int) == 110)) = true
                      rw [m110]
                      rfl
                    have HB : Hid _ := hO.bel
                    have HU : Hid _ := hU
                    clear hO hU hsg hbf
                    go_wp2
                    exact bodyPost_ret (v := .tuple #[.string ⟨#[]⟩, .int .i64 (-1)]) (by simp [results, Try.results7, go_sem]) rfl ⟨by rw [HU.out]; rfl, HB.out⟩
                  · rw [unq_sign _ _ _ hsg] at hU
                    have HU : Hid _ := hU
                    clear hU
                    have h3 : s[k + 1] = 34 ∨ s[k + 1] = 92 ∨ s[k + 1] = 110 := by
                      unfold signB at hsg
                      simp only [Bool.or_eq_true, beq_iff_eq] at hsg
                      rcases hsg with (h | h) | h
                      · exact .inl h
                      · exact .inr (.inl h)
                      · exact .inr (.inr h)
                    clear hsg
                    rcases h3 with h3 | h3 | h3
                    · have e1 : (s[k + 1].toNat : Int) = 34 := by rw [h3]; rfl
                      rw [h3, show meantB 34 = 34 by rfl] at HU
                      clear hbf h3
                      go_wp2_with (at_builtin; refine wpList_append_own _ rfl _ _ 30 rfl w.heap.size 5 i0 (.int .u8 0) 1 1 Try.underlying30 hi hz0 hz1 hz2 rfl (by decide) _ _ _ rfl (hO.own.alloc _) ⟨wr.heap.size, 0, none⟩ 1 1 [.int .u8 34] rfl rfl (news_cells _ #[.int .u8 34] _ _ rfl) (bytes_one [34]) (by unfold maxLen; omega) (by omega) (by simp; omega) ?_)
                      intro v' w2 hown' hgrow _
                      have HN : Hid (OutAt w w2 (acc ++ [34]) v') := hO.next (m := [34]) hown' hgrow
                      clear hown' hgrow hO
                      go_wp2
                      go_roundw
                      case rel => exact ⟨k + 2, _, by omega, by omega, by go_num, by simp; omega, HN.out, HU.out⟩
                      case measure => simp [intOf]; omega
                    · have e1 : (s[k + 1].toNat : Int) = 92 := by rw [h3]; rfl
                      rw [h3, show meantB 92 = 92 by rfl] at HU
                      clear hbf h3
                      go_wp2_with (at_builtin; refine wpList_append_own _ rfl _ _ 30 rfl w.heap.size 5 i0 (.int .u8 0) 1 1 Try.underlying30 hi hz0 hz1 hz2 rfl (by decide) _ _ _ rfl (hO.own.alloc _) ⟨wr.heap.size, 0, none⟩ 1 1 [.int .u8 92] rfl rfl (news_cells _ #[.int .u8 92] _ _ rfl) (bytes_one [92]) (by unfold maxLen; omega) (by omega) (by simp; omega) ?_)
                      intro v' w2 hown' hgrow _
                      have HN : Hid (OutAt w w2 (acc ++ [92]) v') := hO.next (m := [92]) hown' hgrow
                      clear hown' hgrow hO
                      go_wp2
                      go_roundw
                      case rel => exact ⟨k + 2, _, by omega, by omega, by go_num, by simp; omega, HN.out, HU.out⟩
                      case measure => simp [intOf]; omega
                    · have e1 : (s[k + 1].toNat : Int) = 110 := by rw [h3]; rfl
                      rw [h3, show meantB 110 = 10 by rfl] at HU
                      clear hbf h3
                      go_wp2_with (at_builtin; refine wpList_append_own _ rfl _ _ 30 rfl w.heap.size 5 i0 (.int .u8 0) 1 1 Try.underlying30 hi hz0 hz1 hz2 rfl (by decide) _ _ _ rfl (hO.own.alloc _) ⟨wr.heap.size, 0, none⟩ 1 1 [.int .u8 10] rfl rfl (news_cells _ #[.int .u8 10] _ _ rfl) (bytes_one [10]) (by unfold maxLen; omega) (by omega) (by simp; omega) ?_)
                      intro v' w2 hown' hgrow _
                      have HN : Hid (OutAt w w2 (acc ++ [10]) v') := hO.next (m := [10]) hown' hgrow
                      clear hown' hgrow hO
                      go_wp2
                      go_roundw
                      case rel => exact ⟨k + 2, _, by omega, by omega, by go_num, by simp; omega, HN.out, HU.out⟩
                      case measure => simp [intOf]; omega
              · have b92 : ((s[k].toNat : Int) == 92) = false := hbf 92 h92
                rw [unq_plain _ _ _ h34 h10 h92] at hU
                have HU : Hid _ := hU
                clear hbf h34 h10 h92 hd hU
                go_wp2_with (at_builtin; refine wpList_append_own _ rfl _ _ 30 rfl w.heap.size 5 i0 (.int .u8 0) 1 1 Try.underlying30 hi hz0 hz1 hz2 rfl (by decide) _ _ _ rfl (hO.own.alloc _) ⟨wr.heap.size, 0, none⟩ 1 1 [.int .u8 (s[k].toNat : Int)] rfl rfl (news_cells _ #[.int .u8 (s[k].toNat : Int)] _ _ rfl) (bytes_one [s[k]]) (by unfold maxLen; omega) (by omega) (by simp; omega) ?_)
                intro v' w2 hown' hgrow _
                have HN : Hid (OutAt w w2 (acc ++ [s[k]]) v') := hO.next (m := [s[k]]) hown' hgrow
                clear hown' hgrow hO
                go_wp2
                go_roundw
                case rel => exact ⟨k + 1, _, by omega, by omega, by go_num, by simp; omega, HN.out, HU.out⟩
                case measure => simp [intOf]; omega
        · obtain rfl : k = s.size := by omega
          have hdn : s.data.toList.drop s.size = [] := List.drop_of_length_le (by omega)
          rw [hdn] at hU
          have HB : Hid _ := hO.bel
          have HU : Hid _ := hU
          clear hO hU
          go_wp2
          exact bodyPost_ret (v := .tuple #[.string ⟨#[]⟩, .int .i64 (-1)]) (by simp [results, Try.results7, go_sem]) rfl ⟨by rw [HU.out]; rfl, HB.out⟩
    · have hU : unquoteL s.data.toList = none := by
        refine (congrArg unquoteL hd0).trans ?_
        show (if s[p] = 34 then _ else _) = _
        rw [if_neg hq]
      rw [hU]
      have b0 : ((s[p].toNat : Int) == 34) = false := by
        rw [beq_eq_false_iff_ne]
        intro e
        exact hq (UInt8.toNat_inj.1 (Int.ofNat.inj e))
      have q0 : ((s[p].toNat : Int) != 34) = true := by
        show (!((s[p].toNat : Int) == 34)) = true
        rw [b0]
        rfl
      have hgd : decide (s.size ≤ p) = false := by simp; omega
      clear hU hq hd0 hp0
      go_enter Try.func7, Try.ntmps7
      go_wp2
      exact bodyPost_ret (v := .tuple #[.string ⟨#[]⟩, .int .i64 (-1)]) (by simp [results, Try.results7, go_sem]) rfl ⟨rfl, Below.refl _ _⟩
  · have hU : unquoteL s.data.toList = none := by
      have : s.data.toList = [] := List.length_eq_zero_iff.1 (by omega)
      rw [this]
      rfl
    rw [hU]
    have hpI : (s.size : Int) ≤ (p : Int) := by omega
    clear hU hp0
    go_enter Try.func7, Try.ntmps7
    go_wp2
    exact bodyPost_ret (v := .tuple #[.string ⟨#[]⟩, .int .i64 (-1)]) (by simp [results, Try.results7, go_sem]) rfl ⟨rfl, Below.refl _ _⟩
end Go.Proofs.Ytpmjmkabchflpab

/-
  The reference's Decode, walked.
-/
import Derived.Test.YtjfbogjpmieogaaDoorDpDec
namespace Go.Proofs.YtjfbogjpmieogaaDoor
open Go.RowKit

theorem own_head3 {w : World} {base : Nat} {e : TypeId} {size : Nat} {v : Value} {n : Nat} {xs : List Value} (h : w.ownsRow base e size v n xs) : ∃ a cap, v = .slice a n cap := own_head h

theorem RefAt.next {w wr w1 w' : World} {c p : Int} {s : ByteArray} {k n : Nat} {v v' : Value} {os : List (Int × Int × Bool)} {r : Int × Int × Bool} (h : RefAt w wr c p s k v os) (h01 : Below wr.heap.size wr w1) (hn : 1 ≤ n)
    (hstep : refL c (p + k) (s.data.toList.drop k) = r :: refL c (p + k + n) ((s.data.toList.drop k).drop n))
    (hown' : w'.ownsRow w.heap.size 53 3 v' (os.length + 1) (os.flatMap runeC3 ++ runeC3 r)) (hgrow : w1.grownBy w' v.ownBlock) : RefAt w w' c p s (k + n) v' (os ++ [r]) := by
  have hs := h.below.size
  refine ⟨by simpa using hown', by have := h.len; simp; omega, ?_, (h.below.trans (h01.mono hs)).grown hgrow (Nat.le_trans hs h01.size) (own_block_ge h.own)⟩
  rw [h.eq, hstep, List.drop_drop]
  have : p + (k : Int) + (n : Int) = p + ((k + n : Nat) : Int) := by omega
  rw [this]
  simp

set_option maxRecDepth 100000 in
set_option maxHeartbeats 8000000 in
theorem refDec_any (s : ByteArray) (c p : Int) (w : World) (hs : s.size ≤ 1048576) (hp0 : 0 ≤ p) (hp : p ≤ 1099511627775) :
    Calls Tryd.prog 18 #[.string s, .int .i64 c, .int .i64 p] w fun e w' => ∃ v, e = .returned v ∧ w'.ownsRow w.heap.size 53 3 v (refL c p s.data.toList).length ((refL c p s.data.toList).flatMap runeC3) ∧ (refL c p s.data.toList).length ≤ s.size ∧ Below w.heap.size w w' := by
  obtain ⟨i0, hi, hy0, hy1, hy2⟩ := info_parts Tryd.infoRune3
  have hsl : s.data.toList.length = s.size := by simp
  have hsI : (s.size : Int) ≤ 1048576 := by omega
  have HS : Hid _ := hsl
  clear hsl
  go_enter Tryd.func18, Tryd.ntmps18
  go_wp2
  go_loopw [7, 8, 9, 10] (fun o i _ _ wr => ∃ (k : Nat) (os : List (Int × Int × Bool)), k ≤ s.size ∧ i = .int .i64 (k : Int) ∧ RefAt w wr c p s k o os) (fun _ i _ _ _ => s.size - (intOf i).toNat)
  case atStart => exact ⟨0, [], Nat.zero_le _, rfl, ⟨World.ownsRow_nil _ _ _ _, by simp, by simp, Below.refl _ _⟩⟩
  case round =>
    obtain ⟨k, os, hk, rfl, hR⟩ := hrel
    have HR : Hid _ := hR
    have hsz := hR.below.size
    have HLN : Hid (os.length ≤ 1048576) := by show _ ≤ _; have := hR.len; omega
    obtain ⟨va, vcap, hve⟩ := own_head hR.own
    subst hve
    clear hR
    by_cases hlt : k < s.size
    · have hdl : 0 < (s.data.toList.drop k).length := by rw [List.length_drop, HS.out]; omega
      have hst := ref_step c (p + k) (s.data.toList.drop k) hdl
      have h0 : (s.data.toList.drop k)[0]'hdl = s[k] := by
        rw [byte_at s k hlt]
        simp
      rw [h0] at hst
      have HW : Hid _ := rwin_any s[k] wr
      have hwb : 0 ≤ winV s[k] := win_val _
      by_cases hc : c = 1
      · subst hc
        simp only [if_true] at hst
        have hob := one_bd rowsT 1 (s.data.toList.drop k) (by decide) (Nat.le_refl _) hdl
        have HO : Hid (∀ w, _) := fun w => one_any s k w hlt hs
        have hon : 1 ≤ (oneF (s.data.toList.drop k)).2 ∧ (oneF (s.data.toList.drop k)).2 ≤ s.size - k := by
          have := hob
          rw [List.length_drop, HS.out] at this
          exact this
        generalize hone : oneF (s.data.toList.drop k) = O at *
        obtain ⟨v, n⟩ := O
        simp only at hst hon HO
        have HST : Hid _ := hst
        obtain ⟨hn1, hn2⟩ := hon
        have hnI : (n : Int) ≤ 1048576 := by omega
        have hknI : (k : Int) + (n : Int) ≤ (s.size : Int) := by omega
        have HKN : Hid (1 ≤ n ∧ k + n ≤ s.size) := ⟨hn1, by omega⟩
        clear hst hob h0 hdl hone
        by_cases hv : v < 0
        · rw [if_pos hv] at HST
          go_wp2_with fail
          refine Calls.mono HW.out ?_
          rintro e w1 ⟨rfl, hb1⟩
          have HB1 : Hid _ := hb1
          clear hb1 HW
          go_wp2_with fail
          refine Calls.mono (HO.out w1) ?_
          rintro e w2 ⟨rfl, hb2⟩
          have HB2 : Hid (Below wr.heap.size wr w2) := HB1.out.trans (hb2.mono HB1.out.size)
          have HBL : Hid (∀ o, Below wr.heap.size wr (w2.alloc o)) := fun o => HB2.out.alloc HB2.out.size o
          have HSZ : Hid (w.heap.size ≤ w2.heap.size) := Nat.le_trans hsz HB2.out.size
          clear hb2 HO HB1
          go_wp2_with (at_builtin; refine wpList_append_own _ rfl _ _ 50 rfl w.heap.size 53 i0 (.agg #[.int .i64 0, .int .i64 0, .bool false]) 3 24 Tryd.underlying50 hi hy0 hy1 hy2 rfl (by decide) _ _ _ rfl (own_below HR.out.own (HBL.out _)) ⟨w2.heap.size, 0, none⟩ 1 1 (runeC3 (65533, p + k, true)) rfl rfl (news_cells _ #[.int .i64 65533, .int .i64 (p + k), .bool true] _ _ rfl) (by intro u hu; simp [runeC3] at hu; rcases hu with rfl | rfl | rfl <;> rfl) (by have := HLN.out; unfold maxLen; omega) (by have := HLN.out; omega) (by have := HSZ.out; simp; omega) ?_)
          intro v' w3 hown hgrow _
          obtain ⟨⟨g, cap, rfl⟩, HN⟩ : (∃ g cap, v' = .slice (some ⟨g, 0, none⟩) (os.length + 1) cap) ∧ Hid (RefAt w w3 1 p s (k + n) v' (os ++ [(65533, p + k, true)])) := ⟨Joins.ownsRow_form hown (by omega), HR.out.next (HBL.out _) HKN.out.1 HST.out hown hgrow⟩
          clear hown hgrow HR HBL HB2 HST
          go_wp2
          go_roundw
          case rel => exact ⟨k + n, _, HKN.out.2, by go_num, HN.out⟩
          case measure => have := HKN.out; simp [intOf]; omega
        · rw [if_neg hv] at HST
          go_wp2_with fail
          refine Calls.mono HW.out ?_
          rintro e w1 ⟨rfl, hb1⟩
          have HB1 : Hid _ := hb1
          clear hb1 HW
          go_wp2_with fail
          refine Calls.mono (HO.out w1) ?_
          rintro e w2 ⟨rfl, hb2⟩
          have HB2 : Hid (Below wr.heap.size wr w2) := HB1.out.trans (hb2.mono HB1.out.size)
          have HBL : Hid (∀ o, Below wr.heap.size wr (w2.alloc o)) := fun o => HB2.out.alloc HB2.out.size o
          have HSZ : Hid (w.heap.size ≤ w2.heap.size) := Nat.le_trans hsz HB2.out.size
          clear hb2 HO HB1
          go_wp2_with (at_builtin; refine wpList_append_own _ rfl _ _ 50 rfl w.heap.size 53 i0 (.agg #[.int .i64 0, .int .i64 0, .bool false]) 3 24 Tryd.underlying50 hi hy0 hy1 hy2 rfl (by decide) _ _ _ rfl (own_below HR.out.own (HBL.out _)) ⟨w2.heap.size, 0, none⟩ 1 1 (runeC3 (v, p + k, false)) rfl rfl (news_cells _ #[.int .i64 v, .int .i64 (p + k), .bool false] _ _ rfl) (by intro u hu; simp [runeC3] at hu; rcases hu with rfl | rfl | rfl <;> rfl) (by have := HLN.out; unfold maxLen; omega) (by have := HLN.out; omega) (by have := HSZ.out; simp; omega) ?_)
          intro v' w3 hown hgrow _
          obtain ⟨⟨g, cap, rfl⟩, HN⟩ : (∃ g cap, v' = .slice (some ⟨g, 0, none⟩) (os.length + 1) cap) ∧ Hid (RefAt w w3 1 p s (k + n) v' (os ++ [(v, p + k, false)])) := ⟨Joins.ownsRow_form hown (by omega), HR.out.next (HBL.out _) HKN.out.1 HST.out hown hgrow⟩
          clear hown hgrow HR HBL HB2 HST
          go_wp2
          go_roundw
          case rel => exact ⟨k + n, _, HKN.out.2, by go_num, HN.out⟩
          case measure => have := HKN.out; simp [intOf]; omega
      · rw [if_neg hc, if_neg hc] at hst
        have HST : Hid _ := hst
        have hcb : (c == 1) = false := by simpa using hc
        have HKN : Hid (k + 1 ≤ s.size) := hlt
        have hkI : (k : Int) < (s.size : Int) := by omega
        generalize winV s[k] = v at HW HST hwb
        have hv : ¬ v < 0 := by omega
        clear hst h0 hdl hc
        go_wp2_with fail
        refine Calls.mono HW.out ?_
        rintro e w2 ⟨rfl, hb2⟩
        have HB2 : Hid (Below wr.heap.size wr w2) := hb2
        have HBL : Hid (∀ o, Below wr.heap.size wr (w2.alloc o)) := fun o => HB2.out.alloc HB2.out.size o
        have HSZ : Hid (w.heap.size ≤ w2.heap.size) := Nat.le_trans hsz HB2.out.size
        clear hb2 HW
        go_wp2_with (at_builtin; refine wpList_append_own _ rfl _ _ 50 rfl w.heap.size 53 i0 (.agg #[.int .i64 0, .int .i64 0, .bool false]) 3 24 Tryd.underlying50 hi hy0 hy1 hy2 rfl (by decide) _ _ _ rfl (own_below HR.out.own (HBL.out _)) ⟨w2.heap.size, 0, none⟩ 1 1 (runeC3 (v, p + k, false)) rfl rfl (news_cells _ #[.int .i64 v, .int .i64 (p + k), .bool false] _ _ rfl) (by intro u hu; simp [runeC3] at hu; rcases hu with rfl | rfl | rfl <;> rfl) (by have := HLN.out; unfold maxLen; omega) (by have := HLN.out; omega) (by have := HSZ.out; simp; omega) ?_)
        intro v' w3 hown hgrow _
        obtain ⟨⟨g, cap, rfl⟩, HN⟩ : (∃ g cap, v' = .slice (some ⟨g, 0, none⟩) (os.length + 1) cap) ∧ Hid (RefAt w w3 c p s (k + 1) v' (os ++ [(v, p + k, false)])) := ⟨Joins.ownsRow_form hown (by omega), HR.out.next (HBL.out _) (Nat.le_refl _) HST.out hown hgrow⟩
        clear hown hgrow HR HBL HB2 HST
        go_wp2
        go_roundw
        case rel => exact ⟨k + 1, _, HKN.out, by go_num, HN.out⟩
        case measure => have := HKN.out; simp [intOf]; omega
    · have hks : k = s.size := by omega
      subst hks
      have hnil : refL c (p + (s.size : Nat)) (s.data.toList.drop s.size) = [] := by
        rw [List.drop_eq_nil_of_le (by rw [HS.out]; omega)]
        unfold refL
        split <;> rfl
      have he := HR.out.eq
      rw [hnil, List.append_nil] at he
      have HE : Hid (refL c p s.data.toList = os) := he
      clear hlt hk hnil he
      go_wp2
      go_ret
      rw [HE.out]
      exact ⟨_, rfl, HR.out.own, HR.out.len, HR.out.below⟩
end Go.Proofs.YtjfbogjpmieogaaDoor

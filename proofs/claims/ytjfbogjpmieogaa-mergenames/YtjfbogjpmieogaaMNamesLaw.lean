/-
  The name of any code, the code of any name: the law's walk.
-/
import Derived.Test.YtjfbogjpmieogaaNamTab
namespace Go.Proofs.Ytjfbogjpmieogaa
open Go.RowKit

theorem four : nameOf 4 = ⟨#[117, 110, 101, 120, 112, 101, 99, 116, 101, 100, 45, 110, 117, 108, 108, 45, 99, 104, 97, 114, 97, 99, 116, 101, 114]⟩ := by decide +kernel

def wantAt (c : Int) (k : Nat) : ByteArray := if 1 ≤ c ∧ c ≤ k then nmB (c.toNat - 1) else ByteArray.empty
def codeAt (K k : Nat) : Int := if K < k then (K : Int) + 1 else 0
theorem want_next (c : Int) (k : Nat) (h : ¬ c = (k : Int) + 1) : wantAt c (k + 1) = wantAt c k := by
  unfold wantAt
  by_cases h1 : 1 ≤ c ∧ c ≤ k
  · rw [if_pos h1, if_pos (by omega)]
  · rw [if_neg h1, if_neg (by omega)]
theorem want_here (k : Nat) : wantAt ((k : Int) + 1) (k + 1) = nmB k := by
  unfold wantAt
  rw [if_pos (by omega), show ((k : Int) + 1).toNat - 1 = k by omega]
theorem want_end (c : Int) : wantAt c 61 = nameOf c := rfl
theorem code_next (K k : Nat) (h : ¬ k = K) : codeAt K (k + 1) = codeAt K k := by
  unfold codeAt
  by_cases h1 : K < k
  · rw [if_pos h1, if_pos (by omega)]
  · rw [if_neg h1, if_neg (by omega)]
theorem code_here (K : Nat) : codeAt K (K + 1) = (K : Int) + 1 := by
  unfold codeAt
  rw [if_pos (by omega)]
theorem code_end (K : Nat) (hK : K ≤ 61) : ∃ r, codeAt K 61 = r ∧ posOf K + 1 = r ∧ decide (K < 61) = decide (0 < r) ∧ 0 ≤ r ∧ r ≤ 61 := by
  unfold codeAt posOf
  by_cases h : K < 61
  · exact ⟨(K : Int) + 1, by rw [if_pos h], by rw [if_pos h], by rw [decide_eq_true h, decide_eq_true (by omega)], by omega, by omega⟩
  · exact ⟨0, by rw [if_neg h], by rw [if_neg h]; rfl, by rw [decide_eq_false h]; rfl, by omega, by omega⟩

set_option maxRecDepth 1000000 in
set_option maxHeartbeats 4000000 in
theorem mnames_law (c : Int) (s : ByteArray) (w : World) :
    Calls Try.prog 3 #[.int .i64 c, .string s] w fun e w' => e = .returned (.bool true) ∧ Below w.heap.size w w' := by
  obtain ⟨K, hK, hF⟩ := find_K s
  have H4 : Hid (∀ w, Calls Try.prog 6 #[.int .i64 4] w fun e w' => e = .returned (.string ⟨#[117, 110, 101, 120, 112, 101, 99, 116, 101, 100, 45, 110, 117, 108, 108, 45, 99, 104, 97, 114, 97, 99, 116, 101, 114]⟩) ∧ Below w.heap.size w w') := fun w => four ▸ name_any 4 w
  have HC : Hid (∀ w, Calls Try.prog 8 #[.string s] w fun e w' => e = .returned (.tuple #[.int .i64 (posOf K + 1), .bool (decide (K < 61))]) ∧ Below w.heap.size w w') := fun w => code_any s K w hK hF
  have HN : Hid (∀ w, Calls Try.prog 6 #[.int .i64 c] w fun e w' => e = .returned (.string (nameOf c)) ∧ Below w.heap.size w w') := fun w => name_any c w
  have HF : Hid (∀ j, j < 61 → ((nmB j).toList == s.toList) = decide (j = K)) := hF
  clear hF
  go_enter Try.func3, Try.ntmps3
  go_wp2_with fail
  refine Calls.mono (H4.out _) ?_
  rintro e w1 ⟨rfl, hb1⟩
  go_wp2_with fail
  refine Calls.mono (rNames_any _) ?_
  rintro e w2 ⟨rfl, hR, hb2⟩
  have HR : Hid (NmAt w2 w1.heap.size) := hR
  have HB : Hid (Below w.heap.size w w2) := hb1.trans (hb2.mono hb1.size)
  clear hR hb1 hb2 H4
  generalize w1.heap.size = b at HR ⊢
  go_wp2
  go_loopw [6, 7, 8] (fun x d i wr => ∃ k : Nat, k ≤ 61 ∧ x = .string (wantAt c k) ∧ d = .int .i64 (codeAt K k) ∧ i = .int .i64 k ∧ wr = w2) (fun _ _ i _ => 61 - (intOf i).toNat)
  case atStart => exact ⟨0, by omega, by rw [show wantAt c 0 = ByteArray.empty by unfold wantAt; rw [if_neg (by omega)]]; rfl, by rw [show codeAt K 0 = 0 by unfold codeAt; rw [if_neg (by omega)]], rfl, rfl⟩
  case round =>
    obtain ⟨k, hk, rfl, rfl, rfl, rfl⟩ := hrel
    by_cases hin : k < 61
    · have cc := HR.out.cell k hin
      have hf := HF.out k hin
      have hin' : (k : Int) < 61 := by omega
      by_cases he : k = K
      · rw [decide_eq_true he] at hf
        have HV : Hid (codeAt K (k + 1) = (k : Int) + 1) := he ▸ code_here k
        generalize codeAt K k = v0
        by_cases hc : c = (k : Int) + 1
        · have HW : Hid (wantAt c (k + 1) = nmB k) := hc ▸ want_here k
          generalize wantAt c k = u0
          generalize nmB k = y at *
          clear he
          go_wp2
          go_roundw
          case rel => exact ⟨k + 1, by omega, by rw [HW.out], by rw [HV.out], by go_num, by simp⟩
          case measure => simp only [intOf]; go_num
        · have HW : Hid (wantAt c (k + 1) = wantAt c k) := want_next c k hc
          generalize wantAt c k = u0 at *
          generalize nmB k = y at *
          clear he
          go_wp2
          go_roundw
          case rel => exact ⟨k + 1, by omega, by rw [HW.out], by rw [HV.out], by go_num, by simp⟩
          case measure => simp only [intOf]; go_num
      · rw [decide_eq_false he] at hf
        have HV : Hid (codeAt K (k + 1) = codeAt K k) := code_next K k he
        generalize codeAt K k = v0 at *
        by_cases hc : c = (k : Int) + 1
        · have HW : Hid (wantAt c (k + 1) = nmB k) := hc ▸ want_here k
          generalize wantAt c k = u0
          generalize nmB k = y at *
          clear he
          go_wp2
          go_roundw
          case rel => exact ⟨k + 1, by omega, by rw [HW.out], by rw [HV.out], by go_num, by simp⟩
          case measure => simp only [intOf]; go_num
        · have HW : Hid (wantAt c (k + 1) = wantAt c k) := want_next c k hc
          generalize wantAt c k = u0 at *
          generalize nmB k = y at *
          clear he
          go_wp2
          go_roundw
          case rel => exact ⟨k + 1, by omega, by rw [HW.out], by rw [HV.out], by go_num, by simp⟩
          case measure => simp only [intOf]; go_num
    · have hk61 : k = 61 := by omega
      subst hk61
      obtain ⟨r, e1, e2, e3, r0, r1⟩ := code_end K hK
      rw [e1, want_end]
      rw [e2, e3] at HC
      generalize nameOf c = nm at HN ⊢
      clear e1 e2 e3 hin HF HR hK
      go_wp2_with fail
      refine Calls.mono (HC.out _) ?_
      rintro e w3 ⟨rfl, hb3⟩
      have HB3 : Hid _ := HB.out.trans (hb3.mono HB.out.size)
      clear HB hb3
      go_wp2_with fail
      refine Calls.mono (HN.out _) ?_
      rintro e w4 ⟨rfl, hb4⟩
      have HB4 : Hid _ := HB3.out.trans (hb4.mono HB3.out.size)
      clear HB3 hb4
      go_wp2
      go_ret
      exact ⟨by simp, HB4.out⟩
end Go.Proofs.Ytjfbogjpmieogaa

/-
  The law's walk: bytes without signs that begin anything are text, scalar by scalar.
-/
import Derived.Test.YtgdjknbbjpcoiaaGreatDoorLtLexed
namespace Go.Proofs.YtgdjknbbjpcoiaaGreatDoor
open Go.RowKit

/-- The tokens of a plain text, cell by cell. -/
structure LtRow (s : ByteArray) (b : Nat) (w : World) : Prop where
  tok : ∀ i, (h : i < s.size) → w.cell? ⟨b, i * 8, none⟩ = some (.int .i64 1) ∧ w.cell? ⟨b, i * 8 + 1, none⟩ = some (.int .i64 (s[i].toNat : Int)) ∧ w.cell? ⟨b, i * 8 + 2, none⟩ = some (.int .i64 (i : Int))
  last : w.cell? ⟨b, s.size * 8, none⟩ = some (.int .i64 0)

theorem Lt2.row {w w' : World} {s : ByteArray} {v : Value} (h : Lt2 w (rsOf 0 s.data.toList) v w') : ∃ b m cap, v = .slice (some ⟨b, 0, none⟩) m cap ∧ m = s.size + 1 ∧ LtRow s b w' := by
  have hlen : (rsOf 0 s.data.toList).length = s.size := by rw [rsOf_len]; simp
  have ho := h.own
  obtain ⟨b, cap, rfl⟩ := Joins.ownsRow_form ho (Nat.succ_pos _)
  rw [hlen] at ho
  refine ⟨b, s.size + 1, cap, by rw [hlen], rfl, fun i hi => ?_, ?_⟩
  · have hb : s.data.toList[i]? = some s[i] := by
      rw [List.getElem?_eq_getElem (by simpa using hi)]
      rfl
    have hr := rsOf_at s.data.toList 0 i s[i] hb
    have hc := txC_at (rsOf 0 s.data.toList) txE i _ hr
    simp only [Int.zero_add] at hc
    exact ⟨own_at ho _ _ hc.1, own_at ho _ _ hc.2.1, own_at ho _ _ hc.2.2⟩
  · have hc := txC_end (rsOf 0 s.data.toList)
    rw [hlen] at hc
    exact own_at ho _ _ hc

set_option maxRecDepth 100000 in
set_option maxHeartbeats 4000000 in
theorem texts_law (s : ByteArray) (w : World) (hW : IsWin w) :
    Calls Tryz.prog 4 #[.string s] w fun e w' => e = .returned (.bool true) ∧ Below w.heap.size w w' := by
  have HS : Hid _ := lxSpeaks w hW
  have HW : Hid _ := hW
  clear hW
  go_enter Tryz.func4, Tryz.ntmps4
  go_wp2_with fail
  refine Calls.mono HS.out ?_
  rintro e w1 ⟨rfl, hb1⟩
  have HB1 : Hid _ := hb1
  have HW1 : Hid _ := iswin_below HW.out hb1 (Nat.le_refl _)
  clear hb1 HS HW
  by_cases hs : s.size ≤ 5000
  · have hsd : decide ((5000 : Int) < (s.size : Int)) = false := by simp; omega
    go_wp2_with fail
    go_loopw [3] (fun i wr => ∃ k : Nat, k ≤ s.size ∧ i = .int .i64 k ∧ wr = w1 ∧ Hid (∀ j, (h : j < s.size) → j < k → PlainB s[j])) (fun i _ => s.size - (intOf i).toNat)
    case atStart => exact ⟨0, by omega, rfl, rfl, fun j _ h => absurd h (Nat.not_lt_zero _)⟩
    case round =>
      obtain ⟨k, hk, rfl, rfl, hP⟩ := hrel
      by_cases hlt : k < s.size
      · have HPB : Hid (s[k].toNat < 128 → ¬ s[k].toNat = 0 → ¬ s[k].toNat = 60 → ¬ s[k].toNat = 38 → ¬ s[k].toNat = 13 → ∀ j, (h : j < s.size) → j < k + 1 → PlainB s[j]) := fun h1 h2 h3 h4 h5 j hj hjk => by
          rcases Nat.lt_or_ge j k with h | h
          · exact hP.out j hj h
          · obtain rfl : j = k := by omega
            exact ⟨h1, h2, h3, h4, h5⟩
        clear hP
        have hy256 := s[k].toNat_lt
        generalize hy : s[k].toNat = y at HPB hy256
        by_cases h60 : y = 60
        · subst h60
          go_wp2
          go_ret
          exact ⟨rfl, HB1.out⟩
        by_cases h38 : y = 38
        · subst h38
          go_wp2
          go_ret
          exact ⟨rfl, HB1.out⟩
        by_cases h0 : y = 0
        · subst h0
          go_wp2
          go_ret
          exact ⟨rfl, HB1.out⟩
        by_cases h13 : y = 13
        · subst h13
          go_wp2
          go_ret
          exact ⟨rfl, HB1.out⟩
        have b60 : ((y : Int) == 60) = false := by rw [beq_eq_false_iff_ne]; omega
        have b38 : ((y : Int) == 38) = false := by rw [beq_eq_false_iff_ne]; omega
        have b0 : ((y : Int) == 0) = false := by rw [beq_eq_false_iff_ne]; omega
        have b13 : ((y : Int) == 13) = false := by rw [beq_eq_false_iff_ne]; omega
        by_cases h128 : y < 128
        · have d1 : decide ((127 : Int) < (y : Int)) = false := by simp; omega
          have HP2 : Hid (∀ j, (h : j < s.size) → j < k + 1 → PlainB s[j]) := HPB.out h128 h0 h60 h38 h13
          clear HPB h128 h0 h60 h38 h13
          go_wp2
          go_roundw
          case rel => exact ⟨k + 1, by omega, by go_num, (by first | rfl | trivial), HP2⟩
          case measure => simp only [intOf]; go_num
        · have d1 : decide ((127 : Int) < (y : Int)) = true := by simp; omega
          clear HPB h0 h60 h38 h13
          go_wp2
          go_ret
          exact ⟨rfl, HB1.out⟩
      · obtain rfl : k = s.size := by omega
        have HALL : Hid (∀ b ∈ s.data.toList, PlainB b) := by
          intro b hb
          obtain ⟨j, hj, rfl⟩ := List.mem_iff_getElem.1 hb
          have hj2 : j < s.size := by simpa using hj
          exact hP.out j hj2 hj2
        have HL : Hid _ := lexed_plain s wr HW1.out hs HALL.out
        clear hP HALL HW1
        go_wp2_with fail
        refine Calls.mono HL.out ?_
        rintro e w2 ⟨v, rfl, hw2⟩
        obtain ⟨b, m, cap, rfl, hm, hrow⟩ := hw2.out.row
        have HR : Hid _ := hrow
        have HB2 : Hid _ := HB1.out.trans (hw2.out.bel.mono HB1.out.size)
        have cl := hrow.last
        clear hw2 hrow HL HB1
        have hq1 : ((m : Int) == (s.size : Int) + 1) = true := by simp; omega
        have hq2 : ((m : Int) != (s.size : Int) + 1) = false := by simp; omega
        have hwn : wrap64 ((s.size : Int) + 1) = (m : Int) := by unfold wrap64; omega
        have hin : (s.size : Int) < (m : Int) := by omega
        have hin2 : s.size < m := by omega
        have HM : Hid (m = s.size + 1) := hm
        clear hm
        go_wp2_with fail
        go_loopw [6] (fun i wx => ∃ k : Nat, k ≤ s.size ∧ i = .int .i64 k ∧ Hid (LtRow s b wx ∧ Below w.heap.size w wx)) (fun i _ => s.size - (intOf i).toNat)
        case atStart => exact ⟨0, by omega, rfl, HR.out, HB2.out⟩
        case round =>
          clear HR HB2 cl
          obtain ⟨k, hk2, rfl, hK⟩ := hrel
          by_cases hlt2 : k < s.size
          · have ⟨c0, c1, c2⟩ := hK.out.1.tok k hlt2
            have hkI : (k : Int) < (m : Int) := by have := HM.out; omega
            have hkI2 : (k : Int) < (s.size : Int) := by omega
            have hy2 := s[k].toNat_lt
            have hcv : IntKind.i64.wrap (s[k].toNat : Int) = (s[k].toNat : Int) := by
              simp only [IntKind.wrap, IntKind.bits, IntKind.signed]
              simp
              omega
            go_wp2_with fail
            go_quiet (fail)
            clear hcv
            go_wp2
            go_roundw
            case rel => exact ⟨k + 1, by omega, by go_num, ⟨hK.out.1.tok, hK.out.1.last⟩, drewN_below hK.out.2 _⟩
            case measure => simp only [intOf]; go_num
          · obtain rfl : k = s.size := by omega
            go_wp2
            go_ret
            exact ⟨rfl, hK.out.2⟩
  · have hsd : decide ((5000 : Int) < (s.size : Int)) = true := by simp; omega
    go_wp2
    go_ret
    exact ⟨rfl, HB1.out⟩
end Go.Proofs.YtgdjknbbjpcoiaaGreatDoor

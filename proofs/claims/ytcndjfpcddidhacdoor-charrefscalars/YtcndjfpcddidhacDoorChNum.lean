/-
  The scalar of a number, and what is wrong with it: the program's answer.
-/
import Derived.Test.YtcndjfpcddidhacDoorRows
import Derived.Test.YtcndjfpcddidhacDoorNumPlain
import Derived.Below
import Derived.Carry
import Derived.OwnWalk
import Derived.WalkKit
import Derived.WalkSpells
import Derived.WalkLawsBesides
import Derived.Deep.RegionLaw
import Derived.Deep.QuietTactic
import Derived.BigQuiet
namespace Go.Proofs.YtcndjfpcddidhacDoor
open Go.RowKit

def chTab : List Int := [8364, 129, 8218, 402, 8222, 8230, 8224, 8225, 710, 8240, 352, 8249, 338, 141, 381, 143, 144, 8216, 8217, 8220, 8221, 8226, 8211, 8212, 732, 8482, 353, 8250, 339, 157, 382, 376]
def IsChTab (w : World) : Prop := ∀ k, k < 32 → w.cell? ⟨0, k, none⟩ = some (.int .i64 (chTab.getD k 0))

/-- What is wrong: nothing, null, outside, surrogate, no character, control. -/
def chK (n : Int) : Nat :=
  if n = 0 then 1 else if n < 0 ∨ 1114111 < n then 2 else if 55296 ≤ n ∧ n ≤ 57343 then 3
  else if (64976 ≤ n ∧ n ≤ 65007) ∨ 65534 ≤ n % 65536 then 4 else if 127 ≤ n ∧ n ≤ 159 then 5
  else if n < 32 ∧ n ≠ 9 ∧ n ≠ 10 ∧ n ≠ 12 then 5 else 0
def chV (n : Int) : Int :=
  if n ≤ 0 ∨ 1114111 < n then 65533 else if 55296 ≤ n ∧ n ≤ 57343 then 65533
  else if 128 ≤ n ∧ n ≤ 159 then chTab.getD (n - 128).toNat 0 else n
def chCode (k : Nat) : Int := if k = 0 then 0 else 30 + k

theorem chCode_lit : chCode 0 = 0 ∧ chCode 1 = 31 ∧ chCode 2 = 32 ∧ chCode 3 = 33 ∧ chCode 4 = 34 ∧ chCode 5 = 35 := by decide

/-- The cases, one of them for each number. -/
theorem ch_cases (n : Int) :
    (n = 0 ∧ chV n = 65533 ∧ chK n = 1) ∨ (n < 0 ∧ chV n = 65533 ∧ chK n = 2) ∨ (1114111 < n ∧ chV n = 65533 ∧ chK n = 2) ∨
    (0 < n ∧ n ≤ 1114111 ∧ (
      (55296 ≤ n ∧ n ≤ 57343 ∧ chV n = 65533 ∧ chK n = 3) ∨
      (64976 ≤ n ∧ n ≤ 65007 ∧ chV n = n ∧ chK n = 4) ∨
      ((n < 64976 ∨ 65007 < n) ∧ (n < 55296 ∨ 57343 < n) ∧ 65534 ≤ n % 65536 ∧ chV n = n ∧ chK n = 4) ∨
      ((n < 64976 ∨ 65007 < n) ∧ (n < 55296 ∨ 57343 < n) ∧ n % 65536 < 65534 ∧ (
        (128 ≤ n ∧ n ≤ 159 ∧ chV n = chTab.getD (n - 128).toNat 0 ∧ chK n = 5) ∨
        (n = 127 ∧ chV n = n ∧ chK n = 5) ∨
        (n < 32 ∧ n ≠ 9 ∧ n ≠ 10 ∧ n ≠ 12 ∧ chV n = n ∧ chK n = 5) ∨
        ((n = 9 ∨ n = 10 ∨ n = 12) ∧ chV n = n ∧ chK n = 0) ∨
        (32 ≤ n ∧ (n < 127 ∨ 159 < n) ∧ chV n = n ∧ chK n = 0))))) := by
  by_cases a1 : n = 0
  · left; subst a1; decide
  by_cases a2 : n < 0
  · right; left; exact ⟨a2, by unfold chV; rw [if_pos (by omega)], by unfold chK; rw [if_neg a1, if_pos (by omega)]⟩
  by_cases a3 : 1114111 < n
  · right; right; left; exact ⟨a3, by unfold chV; rw [if_pos (by omega)], by unfold chK; rw [if_neg a1, if_pos (by omega)]⟩
  right; right; right
  refine ⟨by omega, by omega, ?_⟩
  have v1 : ∀ x, chV n = x ↔ (if 55296 ≤ n ∧ n ≤ 57343 then 65533 else if 128 ≤ n ∧ n ≤ 159 then chTab.getD (n - 128).toNat 0 else n) = x := by
    intro x; unfold chV; rw [if_neg (by omega)]
  have k1 : ∀ x, chK n = x ↔ (if 55296 ≤ n ∧ n ≤ 57343 then 3
      else if (64976 ≤ n ∧ n ≤ 65007) ∨ 65534 ≤ n % 65536 then 4 else if 127 ≤ n ∧ n ≤ 159 then 5
      else if n < 32 ∧ n ≠ 9 ∧ n ≠ 10 ∧ n ≠ 12 then 5 else 0) = x := by
    intro x; unfold chK; rw [if_neg a1, if_neg (by omega)]
  simp only [v1, k1]
  by_cases a4 : 55296 ≤ n ∧ n ≤ 57343
  · left; exact ⟨a4.1, a4.2, by rw [if_pos a4], by rw [if_pos a4]⟩
  by_cases a5 : 64976 ≤ n ∧ n ≤ 65007
  · right; left; exact ⟨a5.1, a5.2, by rw [if_neg a4, if_neg (by omega)], by rw [if_neg a4, if_pos (by omega)]⟩
  by_cases a6 : 65534 ≤ n % 65536
  · right; right; left; exact ⟨by omega, by omega, a6, by rw [if_neg a4, if_neg (by omega)], by rw [if_neg a4, if_pos (by omega)]⟩
  right; right; right
  refine ⟨by omega, by omega, by omega, ?_⟩
  by_cases a7 : 128 ≤ n ∧ n ≤ 159
  · left; exact ⟨a7.1, a7.2, by rw [if_neg a4, if_pos a7], by rw [if_neg a4, if_neg (by omega), if_pos (by omega)]⟩
  by_cases a8 : n = 127
  · right; left; exact ⟨a8, by rw [if_neg a4, if_neg a7], by rw [if_neg a4, if_neg (by omega), if_pos (by omega)]⟩
  by_cases a9 : n < 32 ∧ n ≠ 9 ∧ n ≠ 10 ∧ n ≠ 12
  · right; right; left; exact ⟨a9.1, a9.2.1, a9.2.2.1, a9.2.2.2, by rw [if_neg a4, if_neg a7], by rw [if_neg a4, if_neg (by omega), if_neg (by omega), if_pos a9]⟩
  by_cases b1 : n = 9 ∨ n = 10 ∨ n = 12
  · right; right; right; left; exact ⟨b1, by rw [if_neg a4, if_neg a7], by rw [if_neg a4, if_neg (by omega), if_neg (by omega), if_neg a9]⟩
  right; right; right; right
  exact ⟨by omega, by omega, by rw [if_neg a4, if_neg a7], by rw [if_neg a4, if_neg (by omega), if_neg (by omega), if_neg a9]⟩

theorem fffe_yes (n : Int) (h0 : 0 < n) (h1 : n ≤ 1114111) (h : 65534 ≤ n % 65536) : bits .and .i64 n 65534 = 65534 := by
  obtain ⟨m, rfl⟩ : ∃ m : Nat, n = (m : Int) := ⟨n.toNat, by omega⟩
  rw [i64_fffe m (by omega)]
  omega
theorem fffe_no (n : Int) (h0 : 0 < n) (h1 : n ≤ 1114111) (h : n % 65536 < 65534) : ¬ bits .and .i64 n 65534 = 65534 := by
  obtain ⟨m, rfl⟩ : ∃ m : Nat, n = (m : Int) := ⟨n.toNat, by omega⟩
  rw [i64_fffe m (by omega)]
  omega

set_option maxRecDepth 100000 in
set_option maxHeartbeats 2000000 in
theorem number_any (n : Int) (w : World) (hW : IsChTab w) :
    Calls Tryd.prog 8 #[.int .i64 n] w fun e w' => e = .returned (.tuple #[.int .i64 (chV n), .int .i64 (chCode (chK n))]) ∧ w' = w := by
  have hc := ch_cases n
  obtain ⟨c0, c1, c2, c3, c4, c5⟩ := chCode_lit
  rcases hc with ⟨rfl, hv, hk⟩ | ⟨h1, hv, hk⟩ | ⟨h1, hv, hk⟩ | ⟨hp, hm, hc⟩
  · rw [hv, hk, c1]
    clear hv hk c0 c1 c2 c3 c4 c5 hW
    go_enter Tryd.func8, Tryd.ntmps8
    go_wp2
    go_ret2
    exact ⟨rfl, rfl⟩
  · rw [hv, hk, c2]
    clear hv hk c0 c1 c2 c3 c4 c5 hW
    have h0 : (n == 0) = false := beq_false_of_ne (by omega)
    go_enter Tryd.func8, Tryd.ntmps8
    go_wp2
    go_ret2
    exact ⟨rfl, rfl⟩
  · rw [hv, hk, c2]
    clear hv hk c0 c1 c2 c3 c4 c5 hW
    have h0 : (n == 0) = false := beq_false_of_ne (by omega)
    have h2 : ¬ n < 0 := by omega
    go_enter Tryd.func8, Tryd.ntmps8
    go_wp2
    go_ret2
    exact ⟨rfl, rfl⟩
  have h0 : (n == 0) = false := beq_false_of_ne (by omega)
  have h2 : ¬ n < 0 := by omega
  have h3 : ¬ 1114111 < n := by omega
  rcases hc with ⟨a1, a2, hv, hk⟩ | ⟨a1, a2, hv, hk⟩ | ⟨a1, a2, a3, hv, hk⟩ | ⟨a1, a2, a3, hc⟩
  · rw [hv, hk, c3]
    clear hv hk c0 c1 c2 c3 c4 c5 hW
    go_enter Tryd.func8, Tryd.ntmps8
    go_wp2
    go_ret2
    exact ⟨rfl, rfl⟩
  · rw [hv, hk, c4]
    clear hv hk c0 c1 c2 c3 c4 c5 hW
    have g1 : ¬ n ≤ 57343 := by omega
    go_enter Tryd.func8, Tryd.ntmps8
    go_wp2
    go_ret2
    exact ⟨rfl, rfl⟩
  · rw [hv, hk, c4]
    have hb := fffe_yes n hp hm a3
    clear hv hk c0 c1 c2 c3 c4 c5 hW a3
    rcases (show n < 55296 ∨ (57343 < n ∧ n < 64976) ∨ 65007 < n by omega) with x1 | ⟨x1, x2⟩ | x1
    · have g1 : ¬ (55296 : Int) ≤ n := by omega
      have g2 : ¬ (64976 : Int) ≤ n := by omega
      clear a1 a2
      go_enter Tryd.func8, Tryd.ntmps8
      go_wp2
      go_ret2
      exact ⟨rfl, rfl⟩
    · have g1 : (55296 : Int) ≤ n := by omega
      have g3 : ¬ n ≤ 57343 := by omega
      have g2 : ¬ (64976 : Int) ≤ n := by omega
      clear a1 a2
      go_enter Tryd.func8, Tryd.ntmps8
      go_wp2
      go_ret2
      exact ⟨rfl, rfl⟩
    · have g1 : (55296 : Int) ≤ n := by omega
      have g3 : ¬ n ≤ 57343 := by omega
      have g2 : (64976 : Int) ≤ n := by omega
      have g4 : ¬ n ≤ 65007 := by omega
      clear a1 a2
      go_enter Tryd.func8, Tryd.ntmps8
      go_wp2
      go_ret2
      exact ⟨rfl, rfl⟩
  have hb := fffe_no n hp hm a3
  rcases hc with ⟨b1, b2, hv, hk⟩ | ⟨b1, hv, hk⟩ | ⟨b1, b2, b3, b4, hv, hk⟩ | ⟨b1, hv, hk⟩ | ⟨b1, b2, hv, hk⟩
  · have hcell := hW (n - 128).toNat (by omega)
    rw [hv, hk, c5]
    have e2 : (0 : Int) ≤ n - 128 := by omega
    have k32 : n - 128 < 32 := by omega
    generalize chTab.getD (n - 128).toNat 0 = x at hcell
    have g1 : ¬ (55296 : Int) ≤ n := by omega
    have g2 : ¬ (64976 : Int) ≤ n := by omega
    clear hv hk c0 c1 c2 c3 c4 c5 hW a1 a2 a3
    go_enter Tryd.func8, Tryd.ntmps8
    go_wp2
    go_ret2
    exact ⟨rfl, rfl⟩
  · rw [hv, hk, c5]
    have g1 : ¬ (55296 : Int) ≤ n := by omega
    have g2 : ¬ (64976 : Int) ≤ n := by omega
    have g3 : ¬ (128 : Int) ≤ n := by omega
    have g4 : ¬ n < 32 := by omega
    have g5 : (n == 127) = true := by simpa using b1
    clear hv hk c0 c1 c2 c3 c4 c5 hW a1 a2 a3 b1
    go_enter Tryd.func8, Tryd.ntmps8
    go_wp2
    go_ret2
    exact ⟨rfl, rfl⟩
  · rw [hv, hk, c5]
    have g1 : ¬ (55296 : Int) ≤ n := by omega
    have g2 : ¬ (64976 : Int) ≤ n := by omega
    have g3 : ¬ (128 : Int) ≤ n := by omega
    have g4 : (n == 9) = false := beq_false_of_ne b2
    have g5 : (n == 10) = false := beq_false_of_ne b3
    have g6 : (n == 12) = false := beq_false_of_ne b4
    clear hv hk c0 c1 c2 c3 c4 c5 hW a1 a2 a3
    go_enter Tryd.func8, Tryd.ntmps8
    go_wp2
    go_ret2
    exact ⟨rfl, rfl⟩
  · rw [hv, hk, c0]
    clear hv hk c0 c1 c2 c3 c4 c5 hW a1 a2 a3
    rcases b1 with rfl | rfl | rfl
    all_goals
      go_enter Tryd.func8, Tryd.ntmps8
      go_wp2
      go_ret2
      exact ⟨rfl, rfl⟩
  · rw [hv, hk, c0]
    have g1 : ¬ n < 32 := by omega
    have g2 : (n == 127) = false := beq_false_of_ne (by omega)
    clear hv hk c0 c1 c2 c3 c4 c5 hW a3
    rcases (show n < 128 ∨ (159 < n ∧ n < 55296) ∨ (57343 < n ∧ n < 64976) ∨ 65007 < n by omega) with x1 | ⟨x1, x2⟩ | ⟨x1, x2⟩ | x1
    · have k1 : ¬ (55296 : Int) ≤ n := by omega
      have k2 : ¬ (64976 : Int) ≤ n := by omega
      have k3 : ¬ (128 : Int) ≤ n := by omega
      clear a1 a2 b2
      go_enter Tryd.func8, Tryd.ntmps8
      go_wp2
      go_ret2
      exact ⟨rfl, rfl⟩
    · have k1 : ¬ (55296 : Int) ≤ n := by omega
      have k2 : ¬ (64976 : Int) ≤ n := by omega
      have k3 : (128 : Int) ≤ n := by omega
      have k4 : ¬ n ≤ 159 := by omega
      clear a1 a2 b2
      go_enter Tryd.func8, Tryd.ntmps8
      go_wp2
      go_ret2
      exact ⟨rfl, rfl⟩
    · have k1 : (55296 : Int) ≤ n := by omega
      have k5 : ¬ n ≤ 57343 := by omega
      have k2 : ¬ (64976 : Int) ≤ n := by omega
      have k3 : (128 : Int) ≤ n := by omega
      have k4 : ¬ n ≤ 159 := by omega
      clear a1 a2 b2
      go_enter Tryd.func8, Tryd.ntmps8
      go_wp2
      go_ret2
      exact ⟨rfl, rfl⟩
    · have k1 : (55296 : Int) ≤ n := by omega
      have k5 : ¬ n ≤ 57343 := by omega
      have k2 : (64976 : Int) ≤ n := by omega
      have k6 : ¬ n ≤ 65007 := by omega
      have k3 : (128 : Int) ≤ n := by omega
      have k4 : ¬ n ≤ 159 := by omega
      clear a1 a2 b2
      go_enter Tryd.func8, Tryd.ntmps8
      go_wp2
      go_ret2
      exact ⟨rfl, rfl⟩
end Go.Proofs.YtcndjfpcddidhacDoor

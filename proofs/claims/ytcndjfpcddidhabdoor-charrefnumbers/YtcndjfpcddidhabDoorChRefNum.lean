/-
  The document's answer on numbers, and the law.
-/
import Derived.Test.YtcndjfpcddidhabDoorChNum
namespace Go.Proofs.YtcndjfpcddidhabDoor
open Go.RowKit

theorem chTab_arr (k : Nat) (h : k < 32) : (#[.int .i64 8364, .int .i64 129, .int .i64 8218, .int .i64 402, .int .i64 8222, .int .i64 8230, .int .i64 8224, .int .i64 8225, .int .i64 710, .int .i64 8240, .int .i64 352, .int .i64 8249, .int .i64 338, .int .i64 141, .int .i64 381, .int .i64 143, .int .i64 144, .int .i64 8216, .int .i64 8217, .int .i64 8220, .int .i64 8221, .int .i64 8226, .int .i64 8211, .int .i64 8212, .int .i64 732, .int .i64 8482, .int .i64 353, .int .i64 8250, .int .i64 339, .int .i64 157, .int .i64 382, .int .i64 376] : Array Value)[k]? = some (.int .i64 (chTab.getD k 0)) := by
  match k, h with
  | 0, _ | 1, _ | 2, _ | 3, _ | 4, _ | 5, _ | 6, _ | 7, _ | 8, _ | 9, _ | 10, _ | 11, _ | 12, _ | 13, _ | 14, _ | 15, _ | 16, _ | 17, _ | 18, _ | 19, _ | 20, _ | 21, _ | 22, _ | 23, _ | 24, _ | 25, _ | 26, _ | 27, _ | 28, _ | 29, _ | 30, _ | 31, _ => rfl
  | k + 32, h => exact absurd h (by omega)

set_option maxRecDepth 100000 in
set_option maxHeartbeats 1000000 in
theorem refWin_any (n : Int) (h1 : 127 ≤ n) (h2 : n ≤ 159) (w : World) :
    Calls Tryd.prog 14 #[.int .u8 n] w fun e w' => e = .returned (.int .i64 (if 128 ≤ n ∧ n ≤ 159 then chTab.getD (n - 128).toNat 0 else n)) ∧ Below w.heap.size w w' := by
  by_cases h3 : 128 ≤ n
  · rw [if_pos ⟨h3, h2⟩]
    have hc := fun w : World => (World.cell?_alloc_at (w := w) _ 3 w.heap.size (n - 128).toNat rfl).trans (chTab_arr (n - 128).toNat (by omega))
    have e2 : (0 : Int) ≤ n - 128 := by omega
    have k32 : n - 128 < 32 := by omega
    have g1 : ¬ n < 128 := by omega
    have g2 : ¬ (159 : Int) < n := by omega
    have g3 : IntKind.u8.wrap (n - 128) = n - 128 := by simp [IntKind.wrap, IntKind.bits, IntKind.signed]; omega
    generalize chTab.getD (n - 128).toNat 0 = x at hc ⊢
    clear h1 h2 h3
    go_enter Tryd.func14, Tryd.ntmps14
    go_wp2
    go_ret
    exact ⟨rfl, (Below.refl _ _).alloc (Nat.le_refl _) _⟩
  · have g1 : n < 128 := by omega
    rw [if_neg (by omega)]
    have g2 : wrap64 n = n := by unfold wrap64; omega
    go_enter Tryd.func14, Tryd.ntmps14
    go_wp2
    go_ret
    exact ⟨rfl, Below.refl _ _⟩

set_option maxRecDepth 100000 in
set_option maxHeartbeats 2000000 in
theorem refNumber_any (n : Int) (w : World) :
    Calls Tryd.prog 8 #[.int .i64 n] w fun e w' => e = .returned (.tuple #[.int .i64 (chV n), .int .i64 (chK n : Nat)]) ∧ Below w.heap.size w w' := by
  have hc := ch_cases n
  rcases hc with ⟨rfl, hv, hk⟩ | ⟨h1, hv, hk⟩ | ⟨h1, hv, hk⟩ | ⟨hp, hm, hc⟩
  · rw [hv, hk]
    clear hv hk
    go_enter Tryd.func8, Tryd.ntmps8
    go_wp2
    go_ret2
    exact ⟨rfl, Below.refl _ _⟩
  · rw [hv, hk]
    clear hv hk
    have h0 : (n == 0) = false := beq_false_of_ne (by omega)
    go_enter Tryd.func8, Tryd.ntmps8
    go_wp2
    go_ret2
    exact ⟨rfl, Below.refl _ _⟩
  · rw [hv, hk]
    clear hv hk
    have h0 : (n == 0) = false := beq_false_of_ne (by omega)
    have h2 : ¬ n < 0 := by omega
    go_enter Tryd.func8, Tryd.ntmps8
    go_wp2
    go_ret2
    exact ⟨rfl, Below.refl _ _⟩
  have h0 : (n == 0) = false := beq_false_of_ne (by omega)
  have h2 : ¬ n < 0 := by omega
  have h3 : ¬ 1114111 < n := by omega
  have ht : n.tmod 65536 = n % 65536 := Int.tmod_eq_emod_of_nonneg (by omega)
  rcases hc with ⟨a1, a2, hv, hk⟩ | ⟨a1, a2, hv, hk⟩ | ⟨a1, a2, a3, hv, hk⟩ | ⟨a1, a2, a3, hc⟩
  · rw [hv, hk]
    clear hv hk ht
    have g1 : (55295 : Int) < n := by omega
    have g2 : n < 57344 := by omega
    go_enter Tryd.func8, Tryd.ntmps8
    go_wp2
    go_ret2
    exact ⟨rfl, Below.refl _ _⟩
  · rw [hv, hk]
    clear hv hk ht
    have g1 : ¬ n < 57344 := by omega
    have g2 : (64975 : Int) < n := by omega
    have g3 : n < 65008 := by omega
    go_enter Tryd.func8, Tryd.ntmps8
    go_wp2
    go_ret2
    exact ⟨rfl, Below.refl _ _⟩
  · rw [hv, hk]
    have g5 : (65533 : Int) < n % 65536 := by omega
    clear hv hk a3
    rcases (show n < 55296 ∨ (57343 < n ∧ n < 64976) ∨ 65007 < n by omega) with x1 | ⟨x1, x2⟩ | x1
    · have g1 : ¬ (55295 : Int) < n := by omega
      have g2 : ¬ (64975 : Int) < n := by omega
      clear a1 a2
      go_enter Tryd.func8, Tryd.ntmps8
      go_wp2
      go_ret2
      exact ⟨rfl, Below.refl _ _⟩
    · have g1 : (55295 : Int) < n := by omega
      have g3 : ¬ n < 57344 := by omega
      have g2 : ¬ (64975 : Int) < n := by omega
      clear a1 a2
      go_enter Tryd.func8, Tryd.ntmps8
      go_wp2
      go_ret2
      exact ⟨rfl, Below.refl _ _⟩
    · have g1 : (55295 : Int) < n := by omega
      have g3 : ¬ n < 57344 := by omega
      have g2 : (64975 : Int) < n := by omega
      have g4 : ¬ n < 65008 := by omega
      clear a1 a2
      go_enter Tryd.func8, Tryd.ntmps8
      go_wp2
      go_ret2
      exact ⟨rfl, Below.refl _ _⟩
  have g5 : ¬ (65533 : Int) < n % 65536 := by omega
  rcases hc with ⟨b1, b2, hv, hk⟩ | ⟨b1, hv, hk⟩ | ⟨b1, b2, b3, b4, hv, hk⟩ | ⟨b1, hv, hk⟩ | ⟨b1, b2, hv, hk⟩
  · have HC : Hid _ := refWin_any n (by omega) b2 w
    rw [if_pos ⟨b1, b2⟩, ← hv] at HC
    rw [hk]
    generalize chV n = x at HC
    have g1 : ¬ (55295 : Int) < n := by omega
    have g2 : ¬ (64975 : Int) < n := by omega
    have g3 : (126 : Int) < n := by omega
    have g4 : n < 160 := by omega
    have g6 : IntKind.u8.wrap n = n := by simp [IntKind.wrap, IntKind.bits, IntKind.signed]; omega
    clear hv hk a1 a2 a3 b1 b2
    go_enter Tryd.func8, Tryd.ntmps8
    go_wp2_with fail
    refine Calls.mono HC.out ?_
    rintro e w1 ⟨rfl, hb1⟩
    go_wp2
    go_ret2
    exact ⟨rfl, hb1⟩
  · have HC : Hid _ := refWin_any n (by omega) (by omega) w
    rw [if_neg (by omega)] at HC
    rw [hk, hv]
    have g1 : ¬ (55295 : Int) < n := by omega
    have g2 : ¬ (64975 : Int) < n := by omega
    have g3 : (126 : Int) < n := by omega
    have g4 : n < 160 := by omega
    have g6 : IntKind.u8.wrap n = n := by simp [IntKind.wrap, IntKind.bits, IntKind.signed]; omega
    clear hv hk a1 a2 a3 b1
    go_enter Tryd.func8, Tryd.ntmps8
    go_wp2_with fail
    refine Calls.mono HC.out ?_
    rintro e w1 ⟨rfl, hb1⟩
    go_wp2
    go_ret2
    exact ⟨rfl, hb1⟩
  · rw [hv, hk]
    have g1 : ¬ (55295 : Int) < n := by omega
    have g2 : ¬ (64975 : Int) < n := by omega
    have g3 : ¬ (126 : Int) < n := by omega
    have g4 : (n != 9) = true := bne_iff_ne.2 b2
    have g5' : (n != 10) = true := bne_iff_ne.2 b3
    have g6 : (n != 12) = true := bne_iff_ne.2 b4
    clear hv hk a1 a2 a3
    go_enter Tryd.func8, Tryd.ntmps8
    go_wp2
    go_ret2
    exact ⟨rfl, Below.refl _ _⟩
  · rw [hv, hk]
    clear hv hk a1 a2 a3
    rcases b1 with rfl | rfl | rfl
    all_goals
      go_enter Tryd.func8, Tryd.ntmps8
      go_wp2
      go_ret2
      exact ⟨rfl, Below.refl _ _⟩
  · rw [hv, hk]
    have g1 : ¬ n < 32 := by omega
    clear hv hk a3
    rcases (show n ≤ 126 ∨ (159 < n ∧ n < 55296) ∨ (57343 < n ∧ n < 64976) ∨ 65007 < n by omega) with x1 | ⟨x1, x2⟩ | ⟨x1, x2⟩ | x1
    · have k1 : ¬ (55295 : Int) < n := by omega
      have k2 : ¬ (64975 : Int) < n := by omega
      have k3 : ¬ (126 : Int) < n := by omega
      clear a1 a2 b2
      go_enter Tryd.func8, Tryd.ntmps8
      go_wp2
      go_ret2
      exact ⟨rfl, Below.refl _ _⟩
    · have k1 : ¬ (55295 : Int) < n := by omega
      have k2 : ¬ (64975 : Int) < n := by omega
      have k3 : (126 : Int) < n := by omega
      have k4 : ¬ n < 160 := by omega
      clear a1 a2 b2
      go_enter Tryd.func8, Tryd.ntmps8
      go_wp2
      go_ret2
      exact ⟨rfl, Below.refl _ _⟩
    · have k1 : (55295 : Int) < n := by omega
      have k5 : ¬ n < 57344 := by omega
      have k2 : ¬ (64975 : Int) < n := by omega
      have k3 : (126 : Int) < n := by omega
      have k4 : ¬ n < 160 := by omega
      clear a1 a2 b2
      go_enter Tryd.func8, Tryd.ntmps8
      go_wp2
      go_ret2
      exact ⟨rfl, Below.refl _ _⟩
    · have k1 : (55295 : Int) < n := by omega
      have k5 : ¬ n < 57344 := by omega
      have k2 : (64975 : Int) < n := by omega
      have k6 : ¬ n < 65008 := by omega
      have k3 : (126 : Int) < n := by omega
      have k4 : ¬ n < 160 := by omega
      clear a1 a2 b2
      go_enter Tryd.func8, Tryd.ntmps8
      go_wp2
      go_ret2
      exact ⟨rfl, Below.refl _ _⟩

theorem chK_le (n : Int) : chK n ≤ 5 := by
  unfold chK
  split <;> (try omega)
  split <;> (try omega)
  split <;> (try omega)
  split <;> (try omega)
  split <;> (try omega)
  split <;> omega

theorem ischtab_below {w w' : World} (h : IsChTab w) (hb : Below w.heap.size w w') : IsChTab w' := fun k hk => by
  have h := h k hk
  have hl : 0 < w.heap.size := World.block_lt_of_cell? w _ h
  rw [← h]
  exact World.cell?_of_block (hb.block _ hl)

set_option maxRecDepth 100000 in
set_option maxHeartbeats 2000000 in
theorem numbers_law (n : Int) (w : World) (hW : IsChTab w) :
    Calls Tryd.prog 4 #[.int .i64 n] w fun e w' => e = .returned (.bool true) ∧ Below w.heap.size w w' := by
  have HS : Hid (Calls Tryd.prog 7 #[.int .i64 128] w fun e w' => e = .returned (.tuple #[.int .i64 8364, .int .i64 35]) ∧ w' = w) := number_any 128 w hW
  have HN : Hid _ := number_any n w hW
  have HR : Hid _ := refNumber_any n w
  have hk := chK_le n
  clear hW
  generalize chV n = v at HN HR
  obtain ⟨k, hke⟩ : ∃ k, chK n = k := ⟨_, rfl⟩
  rw [hke] at HN HR hk
  clear hke
  go_enter Tryd.func4, Tryd.ntmps4
  go_wp2_with fail
  refine Calls.mono HS.out ?_
  rintro e w1 ⟨rfl, hw1⟩
  subst w1
  go_wp2_with fail
  refine Calls.mono HN.out ?_
  rintro e w1 ⟨rfl, hw1⟩
  subst w1
  go_wp2_with fail
  refine Calls.mono HR.out ?_
  rintro e w1 ⟨rfl, hb1⟩
  have HB : Hid (∀ o, Below w.heap.size w (w1.alloc o)) := fun o => hb1.alloc hb1.size o
  clear HS HN HR hb1
  match k, hk with
  | 0, _ | 1, _ | 2, _ | 3, _ | 4, _ | 5, _ =>
    go_wp2
    go_ret
    exact ⟨rfl, HB.out _⟩
end Go.Proofs.YtcndjfpcddidhabDoor

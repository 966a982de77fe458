/-
  What a number tells is a scalar: the law's walk.
-/
import Derived.Test.YtcndjfpcddidhacDoorRefSpeaks
import Derived.Test.YtcndjfpcddidhacDoorChNum
namespace Go.Proofs.YtcndjfpcddidhacDoor
open Go.RowKit

theorem chTab_range : chTab.all (fun v => decide (0 < v ∧ v ≤ 1114111 ∧ v < 55296)) = true := by decide

/-- What a number from nought on tells. -/
theorem ch_scalar (n : Int) (h : 0 ≤ n) : 0 < chV n ∧ chV n ≤ 1114111 ∧ (chV n < 55296 ∨ 57343 < chV n) ∧ (chV n = n ∨ ¬ chCode (chK n) = 0) := by
  obtain ⟨c0, c1, c2, c3, c4, c5⟩ := chCode_lit
  have tab : ∀ k, k < 32 → 0 < chTab.getD k 0 ∧ chTab.getD k 0 ≤ 1114111 ∧ chTab.getD k 0 < 55296 := fun k hk => by
    have hl : chTab.length = 32 := by decide
    have := List.all_eq_true.1 chTab_range (chTab[k]'(by omega)) (List.getElem_mem _)
    simpa [List.getD, show k < chTab.length by omega] using this
  rcases ch_cases n with ⟨rfl, hv, hk⟩ | ⟨h1, hv, hk⟩ | ⟨h1, hv, hk⟩ | ⟨hp, hm, hc⟩
  · rw [hv, hk, c1]; omega
  · omega
  · rw [hv, hk, c2]; omega
  rcases hc with ⟨a1, a2, hv, hk⟩ | ⟨a1, a2, hv, hk⟩ | ⟨a1, a2, a3, hv, hk⟩ | ⟨a1, a2, a3, hc⟩
  · rw [hv, hk, c3]; omega
  · rw [hv]; omega
  · rw [hv]; omega
  rcases hc with ⟨b1, b2, hv, hk⟩ | ⟨b1, hv, hk⟩ | ⟨b1, b2, b3, b4, hv, hk⟩ | ⟨b1, hv, hk⟩ | ⟨b1, b2, hv, hk⟩
  · have := tab (n - 128).toNat (by omega)
    rw [hv, hk, c5]
    omega
  · rw [hv]; omega
  · rw [hv]; omega
  · rw [hv]; omega
  · rw [hv]; omega

set_option maxRecDepth 100000 in
set_option maxHeartbeats 2000000 in
theorem scalars_pos (n : Int) (w : World) (hW : IsChTab w) (h0 : 0 ≤ n) (neg : Int) (hneg : neg = n ∨ (neg < 0 ∧ -9223372036854775808 ≤ neg ∧ -(neg + 1) = n)) :
    Calls Tryd.prog 3 #[.int .i64 neg] w fun e w' => e = .returned (.bool true) ∧ Below w.heap.size w w' := by
  have HS : Hid _ := speaks4_any w
  obtain ⟨v1, v2, v3, v4'⟩ := ch_scalar n h0
  have v4 : chV n = n ∨ (¬ chV n = n ∧ ¬ chCode (chK n) = 0) := by omega
  clear v4'
  have HN : Hid (∀ W, IsChTab W → Calls Tryd.prog 8 #[.int .i64 n] W fun e w' => e = .returned (.tuple #[.int .i64 (chV n), .int .i64 (chCode (chK n))]) ∧ w' = W) := fun W h => number_any n W h
  generalize chV n = v at *
  generalize chCode (chK n) = c at *
  have HT : Hid (∀ W, Below w.heap.size w W → IsChTab W) := fun W hb k hk => by
    have h := hW k hk
    have hl : 0 < w.heap.size := World.block_lt_of_cell? w _ h
    rw [← h]
    exact World.cell?_of_block (hb.block _ hl)
  clear hW
  rcases hneg with rfl | ⟨g1, g2, rfl⟩
  · have gn : ¬ neg < 0 := by omega
    rcases v3 with v3 | v3 <;> rcases v4 with rfl | ⟨v4, v5⟩
    all_goals
      go_enter Tryd.func3, Tryd.ntmps3
      go_wp2_with fail
      refine Calls.mono HS.out ?_
      rintro e w1 ⟨rfl, hb1⟩
      go_wp2_with fail
      refine Calls.mono (HN.out w1 (HT.out _ hb1)) ?_
      rintro e w2 ⟨rfl, hw2⟩
      subst w2
      try have c1 : (c != 0) = true := bne_iff_ne.2 v5
      try have c2 : ¬ v < 55296 := by omega
      try have c3 : (v == neg) = false := beq_false_of_ne v4
      go_wp2
      go_ret
      exact ⟨rfl, hb1⟩
  · rcases v3 with v3 | v3 <;> rcases v4 with rfl | ⟨v4, v5⟩
    all_goals
      go_enter Tryd.func3, Tryd.ntmps3
      go_wp2_with fail
      refine Calls.mono HS.out ?_
      rintro e w1 ⟨rfl, hb1⟩
      go_wp2_with fail
      refine Calls.mono (HN.out w1 (HT.out _ hb1)) ?_
      rintro e w2 ⟨rfl, hw2⟩
      subst w2
      try have c1 : (c != 0) = true := bne_iff_ne.2 v5
      try have c2 : ¬ v < 55296 := by omega
      try have c3 : (v == -(neg + 1)) = false := beq_false_of_ne v4
      try have c4 : ¬ -(neg + 1) < 55296 := by omega
      go_wp2
      go_ret
      exact ⟨rfl, hb1⟩

theorem scalars_law (n : Int) (w : World) (hn : -9223372036854775808 ≤ n) (hW : IsChTab w) :
    Calls Tryd.prog 3 #[.int .i64 n] w fun e w' => e = .returned (.bool true) ∧ Below w.heap.size w w' := by
  by_cases h : 0 ≤ n
  · exact scalars_pos n w hW h n (.inl rfl)
  · exact scalars_pos (-(n + 1)) w hW (by omega) n (.inr ⟨by omega, hn, rfl⟩)
end Go.Proofs.YtcndjfpcddidhacDoor

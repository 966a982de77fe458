/-
  Plain facts on lines and columns of what is read. No program stands in it.
-/
import Derived.Test.YtjfbogjpmieogacDoorSamePlain
import Derived.Test.YtjfbogjpmieogacDoorPlaceRowP
namespace Go.Proofs.YtjfbogjpmieogacDoor
open Go.RowKit

theorem chain_pairs : ∀ (R : List (Int × Int)) (i n N : Int), chain i n R = some N → (R.map (·.2)).Pairwise (· < ·) ∧ ∀ x ∈ R.map (·.2), n ≤ x ∧ x ≤ i
  | [], _, _, _, _ => ⟨List.Pairwise.nil, fun x hx => by cases hx⟩
  | r :: R, i, n, N, h => by
    simp only [chain] at h
    split at h
    · rename_i hc
      obtain ⟨h1, h2⟩ := chain_pairs R i (r.2 + 1) N h
      refine ⟨?_, ?_⟩
      · rw [List.map_cons, List.pairwise_cons]
        exact ⟨fun x hx => by have := (h2 x hx).1; omega, h1⟩
      · intro x hx
        rw [List.map_cons, List.mem_cons] at hx
        rcases hx with rfl | hx
        · exact hc
        · have := h2 x hx
          omega
    · cases h

theorem ahead_at (R : List (Int × Int)) (h : (R.map (·.2)).Pairwise (· < ·)) (k : Nat) (hk : k < R.length) : Pl.aheadOf R R[k].2 = k := by
  have hl : (R.map (·.2)).length = R.length := by simp
  have hx : (R.map (·.2))[k]'(by omega) = R[k].2 := by simp
  have up : ¬ k < Pl.aheadOf R R[k].2 := by
    intro hlt
    have := (Pl.rise_take _ h R[k].2 k (by omega)).2 hlt
    rw [hx] at this
    omega
  have low : k ≤ Pl.aheadOf R R[k].2 := by
    rcases Nat.eq_zero_or_pos k with h0 | h0
    · omega
    · have hlt : (R.map (·.2))[k - 1]'(by omega) < R[k].2 := by
        rw [← hx]
        exact List.pairwise_iff_getElem.1 h (k - 1) k (by omega) (by omega) (by omega)
      have := (Pl.rise_take _ h R[k].2 (k - 1) (by omega)).1 hlt
      show k ≤ _
      unfold Pl.aheadOf
      omega
  omega

theorem ahead_all (R : List (Int × Int)) (x : Int) (h : ∀ y ∈ R.map (·.2), y < x) : Pl.aheadOf R x = R.length := by
  unfold Pl.aheadOf
  rw [Pl.countP_all _ _ (fun y hy => by have := h y hy; simp; omega)]
  simp

theorem no13 : ∀ (R : List (Int × Int)) (b : Bool), ∀ r ∈ passR b R, ¬ r.1 = 13
  | [], _, r, hr => by cases hr
  | a :: R, b, r, hr => by
    simp only [passR, List.mem_append] at hr
    rcases hr with hr | hr
    · unfold passOne at hr
      split at hr
      · cases hr
      · rw [List.mem_singleton] at hr
        subst hr
        show ¬ (if a.1 = 13 then (10 : Int) else a.1) = 13
        split
        · decide
        · assumption
    · exact no13 R _ r hr

theorem fold_bd : ∀ (l : List Int) (p : Int × Int), 1 ≤ p.1 → 1 ≤ p.2 → 1 ≤ (l.foldl Pl.stepLC p).1 ∧ 1 ≤ (l.foldl Pl.stepLC p).2 ∧ (l.foldl Pl.stepLC p).1 ≤ p.1 + l.length ∧ (l.foldl Pl.stepLC p).2 ≤ p.2 + l.length
  | [], p, h1, h2 => ⟨h1, h2, by simp, by simp⟩
  | v :: l, p, h1, h2 => by
    rw [List.foldl_cons, List.length_cons]
    by_cases hv : v = 10
    · have e : Pl.stepLC p v = (p.1 + 1, 1) := by unfold Pl.stepLC; rw [if_pos hv]
      rw [e]
      have := fold_bd l (p.1 + 1, 1) (by simp; omega) (by simp)
      simp only at this
      omega
    · have e : Pl.stepLC p v = (p.1, p.2 + 1) := by unfold Pl.stepLC; rw [if_neg hv]
      rw [e]
      have := fold_bd l (p.1, p.2 + 1) h1 (by simp; omega)
      simp only at this
      omega
theorem line_bd (l : List Int) : 1 ≤ (Pl.lineCol l).1 ∧ 1 ≤ (Pl.lineCol l).2 ∧ (Pl.lineCol l).1 ≤ 1 + l.length ∧ (Pl.lineCol l).2 ≤ 1 + l.length := fold_bd l (1, 1) (by simp) (by simp)

theorem line_next (R : List (Int × Int)) (k : Nat) (hk : k < R.length) : Pl.lineCol ((R.map (·.1)).take (k + 1)) = Pl.stepLC (Pl.lineCol ((R.map (·.1)).take k)) R[k].1 := by
  rw [Pl.take_next R k hk, Pl.lineCol_snoc]

/-- What is asked of what is read, place by place. -/
structure Lined (R : List (Int × Int)) (n : Int) : Prop where
  rise : (R.map (·.2)).Pairwise (· < ·)
  at' : ∀ k, (hk : k < R.length) → Pl.aheadOf R R[k].2 = k
  all : Pl.aheadOf R (n + 1) = R.length
  no : ∀ k, (hk : k < R.length) → ¬ R[k].1 = 13

theorem read_lined (c : Int) (l : List UInt8) : Lined (readR c 0 l) l.length := by
  obtain ⟨N, h1, _⟩ := read_chain c l
  obtain ⟨h2, h3⟩ := chain_pairs _ _ _ _ h1
  exact ⟨h2, fun k hk => ahead_at _ h2 k hk, ahead_all _ _ (fun y hy => by have := (h3 y hy).2; omega), fun k hk => no13 (rawR c 0 l) false _ (List.getElem_mem hk)⟩
end Go.Proofs.YtjfbogjpmieogacDoor

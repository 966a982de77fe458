/-
  Plain facts on what one byte tells: at most three bytes in a row tell nothing, and places rise. No program stands in it.
-/
import Derived.Test.YtjfbogjpmieogaaDoorFeed
namespace Go.Proofs.YtjfbogjpmieogaaDoor
open Go.RowKit

/-- The places of what is told, from n on, none behind i; the next that may be told. -/
def chain (i : Int) : Int → List (Int × Int) → Option Int
  | n, [] => some n
  | n, r :: l => if n ≤ r.2 ∧ r.2 ≤ i then chain i (r.2 + 1) l else none

structure Soon (D : DSt) (n q i : Int) : Prop where
  place : D.place = i
  ok : DOk D
  none : D.want = 0 → n ≤ i ∧ q = 0
  some : 0 < D.want → n ≤ D.sat ∧ D.sat < i ∧ q + D.want ≤ 4
  cod : ¬ D.coding = 1 → D.want = 0
  zero : 0 ≤ n ∧ 0 ≤ q

theorem opWant_le (b : UInt8) : 0 < opWant b ∧ opWant b ≤ 3 := by
  unfold opWant
  split
  · omega
  · split <;> omega

/-- A first byte, where no sequence is open. -/
theorem soon_begin (D : DSt) (i : Int) (b : UInt8) (hw : D.want = 0) (hp : D.place = i) :
    (∃ v, beginR D b = [(v, i)] ∧ (beginD D b).want = 0) ∨ (beginR D b = [] ∧ 0 < (beginD D b).want ∧ (beginD D b).want ≤ 3 ∧ (beginD D b).sat = i) := by
  unfold beginR beginD
  by_cases h1 : b < 128
  · have g : b < 194 := by rw [UInt8.lt_iff_toNat_lt] at *; simp at *; omega
    left
    refine ⟨_, by rw [if_pos h1, hp], ?_⟩
    simp [g, hw]
  · by_cases h2 : (b < 194 || b > 244) = true
    · left
      exact ⟨65533, by rw [if_neg h1, if_pos h2, hp], by rw [if_pos h2]; exact hw⟩
    · right
      have := opWant_le b
      refine ⟨by rw [if_neg h1, if_neg h2], ?_, ?_, ?_⟩
      · rw [if_neg h2]; exact this.1
      · rw [if_neg h2]; exact this.2
      · rw [if_neg h2]; exact hp

theorem soon_step (D : DSt) (n q i : Int) (b : UInt8) (h : Soon D n q i) :
    ∃ n', chain i n (nextR D b) = some n' ∧ Soon (nextD D b) n' (if nextR D b = [] then q + 1 else 0) (i + 1) ∧ (if nextR D b = [] then q + 1 else 0) ≤ 3 ∧ (¬ D.coding = 1 → (nextR D b).length = 1) := by
  have hok := nextD_ok D b h.ok
  have hco := nextD_coding D b
  have hz := h.zero
  by_cases hc : D.coding = 1
  · have hR := (nextR_utf b hc).1
    have hD := nextD_utf b hc
    have hwant : (nextD D b).want = (takeD D b).want := by rw [← hD]
    have hsat : (nextD D b).sat = (takeD D b).sat := by rw [← hD]
    have close : ∀ n' q' : Int, 0 ≤ n' → 0 ≤ q' → ((takeD D b).want = 0 → n' ≤ i + 1 ∧ q' = 0) → (0 < (takeD D b).want → n' ≤ (takeD D b).sat ∧ (takeD D b).sat < i + 1 ∧ q' + (takeD D b).want ≤ 4) → Soon (nextD D b) n' q' (i + 1) := by
      intro n' q' a1 a2 a3 a4
      refine ⟨by rw [hco.2, h.place], hok, ?_, ?_, ?_, a1, a2⟩
      · rw [hwant]; exact a3
      · rw [hwant, hsat]; exact a4
      · intro hx; exact absurd (hco.1.trans hc) hx
    rw [hR]
    by_cases hw : 0 < D.want
    · obtain ⟨s1, s2, s3⟩ := h.some hw
      cases hf : fitsB D.lo D.hi b
      · have eR : takeR D b = (65533, D.sat) :: beginR D.shut b := by simp [takeR, hw, hf]
        have eD : takeD D b = beginD D.shut b := by simp [takeD, hw, hf]
        rw [eD] at close
        rw [eR]
        rcases soon_begin D.shut i b rfl h.place with ⟨v, e1, e2⟩ | ⟨e1, e2, e3, e4⟩
        · refine ⟨i + 1, ?_, ?_, by simp, fun hx => absurd hc hx⟩
          · rw [e1]
            simp only [chain]
            rw [if_pos ⟨s1, by omega⟩, if_pos ⟨by omega, by omega⟩]
          · exact close _ _ (by omega) (by simp) (fun _ => ⟨by omega, by simp⟩) (fun hx => by omega)
        · refine ⟨D.sat + 1, ?_, ?_, by simp, fun hx => absurd hc hx⟩
          · rw [e1]
            simp only [chain]
            rw [if_pos ⟨s1, by omega⟩]
          · refine close _ _ (by omega) (by simp) (fun hx => by omega) (fun _ => ?_)
            rw [e4]
            simp
            omega
      · have eR : takeR D b = goOnR D b := by simp [takeR, hw, hf]
        have eD : takeD D b = goOnD D b := by simp [takeD, hw, hf]
        rw [eD] at close
        rw [eR]
        by_cases g1 : D.want = 1
        · have e1 : goOnR D b = [(((D.sval * 64 + b.toNat % 64 : Nat) : Int), D.sat)] := by simp [goOnR, g1]
          have e2 : goOnD D b = D.shut := by simp [goOnD, g1]
          rw [e2] at close
          refine ⟨D.sat + 1, ?_, ?_, by rw [e1]; simp, fun hx => absurd hc hx⟩
          · rw [e1]
            simp only [chain]
            rw [if_pos ⟨s1, by omega⟩]
          · rw [e1]
            exact close _ _ (by omega) (by simp) (fun _ => ⟨by omega, by simp⟩) (fun hx => by simp [DSt.shut] at hx)
        · have e1 : goOnR D b = [] := by simp [goOnR, g1]
          have e2 : (goOnD D b).want = D.want - 1 ∧ (goOnD D b).sat = D.sat := by simp [goOnD, g1]
          rw [e2.1, e2.2] at close
          refine ⟨n, by rw [e1]; rfl, ?_, by rw [e1]; simp; omega, fun hx => absurd hc hx⟩
          rw [e1]
          exact close _ _ hz.1 (by simp; omega) (fun hx => by omega) (fun _ => ⟨s1, by omega, by simp; omega⟩)
    · have hw0 : D.want = 0 := by omega
      obtain ⟨s1, s2⟩ := h.none hw0
      have eR : takeR D b = beginR D b := by simp [takeR, hw]
      have eD : takeD D b = beginD D b := by simp [takeD, hw]
      rw [eD] at close
      rw [eR]
      rcases soon_begin D i b hw0 h.place with ⟨v, e1, e2⟩ | ⟨e1, e2, e3, e4⟩
      · refine ⟨i + 1, ?_, ?_, by rw [e1]; simp, fun hx => absurd hc hx⟩
        · rw [e1]
          simp only [chain]
          rw [if_pos ⟨s1, by omega⟩]
        · rw [e1]
          exact close _ _ (by omega) (by simp) (fun _ => ⟨by omega, by simp⟩) (fun hx => by omega)
      · refine ⟨n, by rw [e1]; rfl, ?_, by rw [e1]; simp; omega, fun hx => absurd hc hx⟩
        rw [e1]
        refine close _ _ hz.1 (by simp; omega) (fun hx => by omega) (fun _ => ?_)
        rw [e4]
        simp
        omega
  · have hR := (nextR_win b hc).1
    have hD := nextD_win b hc
    have hw0 := h.cod hc
    obtain ⟨s1, s2⟩ := h.none hw0
    have hwant : (nextD D b).want = 0 := by rw [← hD]; exact hw0
    rw [hR, h.place]
    refine ⟨i + 1, ?_, ⟨by rw [hco.2, h.place], hok, fun _ => ⟨by omega, by simp⟩, fun hx => by omega, fun _ => hwant, by omega, by simp⟩, by simp, fun _ => rfl⟩
    simp only [chain]
    rw [if_pos ⟨s1, by omega⟩]
end Go.Proofs.YtjfbogjpmieogaaDoor

/-
  Plain facts on paths that are written: they are read as they were. No program stands in it.
-/
import Derived.Test.YtjfbogjpmieogaaDoorStepsProgB
import Derived.Lib.ItoaNum
import Derived.Lib.ItoaMem
namespace Go.Proofs.YtjfbogjpmieogaaDoor
open Go.RowKit

theorem dec_small (u : Nat) (h : u < 10) : Lib.decDigits u = [UInt8.ofNat (48 + u)] := Lib.decDigits_one h
theorem dec_step (u : Nat) (h : ¬ u < 10) : Lib.decDigits u = Lib.decDigits (u / 10) ++ [UInt8.ofNat (48 + u % 10)] := by
  rw [Lib.decDigits, dif_neg h]

theorem dig_ofNat (d : Nat) (h : d < 10) : isDig (UInt8.ofNat (48 + d)) = true ∧ (UInt8.ofNat (48 + d)).toNat - 48 = d ∧ (UInt8.ofNat (48 + d) = 48 → d = 0) := by
  have : d = 0 ∨ d = 1 ∨ d = 2 ∨ d = 3 ∨ d = 4 ∨ d = 5 ∨ d = 6 ∨ d = 7 ∨ d = 8 ∨ d = 9 := by omega
  rcases this with rfl | rfl | rfl | rfl | rfl | rfl | rfl | rfl | rfl | rfl <;> decide

theorem dec_all (u : Nat) : (Lib.decDigits u).all isDig = true ∧ numV (Lib.decDigits u) = u ∧ Lib.decDigits u ≠ [] := by
  induction u using Nat.strongRecOn with
  | _ u ih =>
    by_cases h : u < 10
    · rw [dec_small u h]
      have := dig_ofNat u h
      refine ⟨by rw [List.all_cons, this.1]; rfl, ?_, by simp⟩
      show 0 * 10 + ((UInt8.ofNat (48 + u)).toNat - 48) = u
      omega
    · obtain ⟨h1, h2, _⟩ := ih (u / 10) (by omega)
      have := dig_ofNat (u % 10) (by omega)
      rw [dec_step u h]
      refine ⟨by rw [List.all_append, h1, List.all_cons, this.1]; rfl, ?_, by simp⟩
      rw [numV_snoc, h2, this.2.1]
      omega

theorem dec_head (u : Nat) : 0 < u → (Lib.decDigits u).head? ≠ some 48 := by
  induction u using Nat.strongRecOn with
  | _ u ih =>
    intro h0
    by_cases h : u < 10
    · rw [dec_small u h]
      intro he
      have := (dig_ofNat u h).2.2 (by simpa using he)
      omega
    · rw [dec_step u h]
      have hne := (dec_all (u / 10)).2.2
      have := ih (u / 10) (by omega) (by omega)
      cases hd : Lib.decDigits (u / 10) with
      | nil => exact absurd hd hne
      | cons c l => rw [hd] at this; simpa using this

theorem dec_len (k : Nat) : ∀ u, u < 10 ^ (k + 1) → (Lib.decDigits u).length ≤ k + 1 := by
  induction k with
  | zero => intro u h; rw [dec_small u (by simpa using h)]; simp
  | succ k ih =>
    intro u h
    by_cases h10 : u < 10
    · rw [dec_small u h10]; simp
    · rw [dec_step u h10]
      have := ih (u / 10) (by rw [Nat.div_lt_iff_lt_mul (by omega)]; rw [Nat.pow_succ] at h; exact h)
      simp only [List.length_append, List.length_singleton]
      omega

theorem dec_num (u : Nat) (h : u < 1000000000000000000) : isNum (Lib.decDigits u) = true := by
  obtain ⟨h1, _, h3⟩ := dec_all u
  have hl := dec_len 17 u (by simpa using h)
  refine isNum_all h3 (by omega) ?_ h1
  rintro ⟨h4, h5⟩
  rcases Nat.eq_zero_or_pos u with h0 | h0
  · subst h0
    rw [dec_small 0 (by omega)] at h5
    simp at h5
  · exact dec_head u h0 h4

theorem dig_not47 (c : UInt8) (h : isDig c = true) : c ≠ 47 := by
  intro e
  subst e
  exact absurd h (by decide)

theorem cut_end (p : List UInt8) (h : ∀ c ∈ p, c ≠ 47) : cutAt p = [p] := by
  induction p with
  | nil => rfl
  | cons c p ih =>
    have := ih (fun x hx => h x (by simp [hx]))
    simp [cutAt, h c (by simp), this]
theorem cut_more (p l : List UInt8) (h : ∀ c ∈ p, c ≠ 47) : cutAt (p ++ 47 :: l) = p :: cutAt l := by
  induction p with
  | nil => simp [cutAt]
  | cons c p ih =>
    have := ih (fun x hx => h x (by simp [hx]))
    simp [cutAt, h c (by simp), this]

/-- The text of steps. -/
def catL : List Nat → List UInt8
  | [] => []
  | n :: ns => 47 :: (Lib.decDigits n ++ catL ns)

theorem cat_snoc (ns : List Nat) (n : Nat) : catL (ns ++ [n]) = catL ns ++ (47 :: Lib.decDigits n) := by
  induction ns with
  | nil => simp [catL]
  | cons a ns ih => simp [catL, ih]

theorem cat_len (ns : List Nat) (h : ∀ n ∈ ns, n < 10000000000000000000) : (catL ns).length ≤ 20 * ns.length := by
  induction ns with
  | nil => simp [catL]
  | cons a ns ih =>
    have h1 := ih (fun n hn => h n (by simp [hn]))
    have h2 := dec_len 18 a (by have := h a (by simp); simpa using this)
    simp only [catL, List.length_cons, List.length_append]
    omega

theorem cat_nil (ns : List Nat) : catL ns = [] ↔ ns = [] := by
  cases ns <;> simp [catL]

theorem nums_cat (ns : List Nat) : ∀ n, (∀ m ∈ n :: ns, m < 1000000000000000000) → allNums (cutAt (Lib.decDigits n ++ catL ns)) = some (n :: ns) := by
  induction ns with
  | nil =>
    intro n h
    obtain ⟨h1, h2, _⟩ := dec_all n
    have hn := dec_num n (h n (by simp))
    rw [List.all_eq_true] at h1
    simp only [catL, List.append_nil]
    rw [cut_end _ (fun c hc => dig_not47 c (h1 c hc))]
    simp [allNums, hn, h2]
  | cons a ns ih =>
    intro n h
    obtain ⟨h1, h2, _⟩ := dec_all n
    have hn := dec_num n (h n (by simp))
    rw [List.all_eq_true] at h1
    simp only [catL]
    rw [cut_more _ _ (fun c hc => dig_not47 c (h1 c hc))]
    have := ih a (fun m hm => h m (by simp at hm ⊢; right; exact hm))
    simp [allNums, hn, h2, this]

/-- What is written is read as it was. -/
theorem steps_cat (ns : List Nat) (h : ∀ m ∈ ns, m < 1000000000000000000) : stepsP (if ns = [] then [47] else catL ns) = some ns := by
  cases ns with
  | nil => rfl
  | cons n ns =>
    rw [if_neg (by simp)]
    unfold stepsP
    have hne := (dec_all n).2.2
    rw [if_neg (by simp [catL]; intro h1; exact absurd h1 hne)]
    simp only [catL, if_true]
    exact nums_cat ns n h

/-- The text of whole numbers: none of a negative one. -/
def pathS (Z : List Int) : List UInt8 := if Z = [] then [47] else if Z.all (fun z => decide (0 ≤ z)) then catL (Z.map Int.toNat) else []
end Go.Proofs.YtjfbogjpmieogaaDoor

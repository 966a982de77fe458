/-
  Plain facts on lines and columns: no program stands in it.
-/
namespace Go.Proofs.YtjfbogjpmieogacDoor.Pl

/-- Line and column behind one scalar more. -/
def stepLC (p : Int × Int) (v : Int) : Int × Int := if v = 10 then (p.1 + 1, 1) else (p.1, p.2 + 1)
def lineCol (vs : List Int) : Int × Int := vs.foldl stepLC (1, 1)

/-- Which of the scalars are newlines, counted from k on. -/
def brkFrom (k : Nat) : List Int → List Nat
  | [] => []
  | v :: l => if v = 10 then k :: brkFrom (k + 1) l else brkFrom (k + 1) l

theorem brkFrom_append (k : Nat) (a b : List Int) : brkFrom k (a ++ b) = brkFrom k a ++ brkFrom (k + a.length) b := by
  induction a generalizing k with
  | nil => simp [brkFrom]
  | cons v a ih =>
    simp only [List.cons_append, brkFrom, List.length_cons]
    rw [ih, show k + 1 + a.length = k + (a.length + 1) by omega]
    split <;> simp

theorem brkFrom_mem (k : Nat) (l : List Int) : ∀ x, x ∈ brkFrom k l → k ≤ x ∧ x < k + l.length := by
  induction l generalizing k with
  | nil => intro x hx; simp [brkFrom] at hx
  | cons v l ih =>
    intro x hx
    simp only [brkFrom] at hx
    simp only [List.length_cons]
    split at hx
    · rcases List.mem_cons.1 hx with rfl | hx
      · omega
      · have := ih _ _ hx; omega
    · have := ih _ _ hx; omega

theorem brkFrom_len (k : Nat) (l : List Int) : (brkFrom k l).length ≤ l.length := by
  induction l generalizing k with
  | nil => simp [brkFrom]
  | cons v l ih =>
    have := ih (k + 1)
    simp only [brkFrom]
    split <;> simp <;> omega

theorem brkFrom_rise (k : Nat) (l : List Int) : (brkFrom k l).Pairwise (· < ·) := by
  induction l generalizing k with
  | nil => simp [brkFrom]
  | cons v l ih =>
    simp only [brkFrom]
    split
    · refine List.Pairwise.cons (fun x hx => ?_) (ih _)
      have := brkFrom_mem _ _ x hx
      omega
    · exact ih _

theorem lineCol_snoc (l : List Int) (v : Int) : lineCol (l ++ [v]) = stepLC (lineCol l) v := by
  simp [lineCol, List.foldl_append]

theorem brk_snoc (l : List Int) (v : Int) : brkFrom 0 (l ++ [v]) = brkFrom 0 l ++ (if v = 10 then [l.length] else []) := by
  rw [brkFrom_append]
  congr 1
  simp only [brkFrom, Nat.zero_add]

/-- What line and column are, by the newlines. -/
theorem lineCol_eq (n : Nat) : ∀ l : List Int, l.length = n → lineCol l = (1 + ((brkFrom 0 l).length : Int), (match (brkFrom 0 l).getLast? with | none => 1 + (l.length : Int) | some b => (l.length : Int) - b)) := by
  induction n with
  | zero =>
    intro l hl
    obtain rfl : l = [] := List.length_eq_zero_iff.1 hl
    rfl
  | succ n ih =>
    intro l hl
    obtain ⟨l', v, rfl⟩ : ∃ l' v, l = l' ++ [v] := ⟨l.dropLast, l.getLast (by intro h; rw [h] at hl; cases hl), (List.dropLast_concat_getLast _).symm⟩
    have hl' : l'.length = n := by simpa using hl
    rw [lineCol_snoc, brk_snoc, ih l' hl']
    unfold stepLC
    split
    · rw [show (brkFrom 0 l' ++ [l'.length]).getLast? = some l'.length from by simp]
      simp only [List.length_append, List.length_cons, List.length_nil]
      refine Prod.ext ?_ ?_
      · simp only []; omega
      · simp only []; omega
    · simp only [List.append_nil, List.length_append, List.length_cons, List.length_nil]
      cases (brkFrom 0 l').getLast? with
      | none => simp; omega
      | some b => simp; omega

theorem brk_take (vs : List Int) (a : Nat) (ha : a ≤ vs.length) : brkFrom 0 vs = brkFrom 0 (vs.take a) ++ brkFrom a (vs.drop a) := by
  have h := brkFrom_append 0 (vs.take a) (vs.drop a)
  rw [List.take_append_drop, List.length_take, Nat.min_eq_left ha, Nat.zero_add] at h
  exact h

theorem countP_all {α : Type} (p : α → Bool) (l : List α) (h : ∀ x ∈ l, p x = true) : l.countP p = l.length := List.countP_eq_length.2 h
theorem countP_no {α : Type} (p : α → Bool) (l : List α) (h : ∀ x ∈ l, p x = false) : l.countP p = 0 := List.countP_eq_zero.2 (fun x hx => by rw [h x hx]; decide)

/-- How many newlines stand below a place. -/
theorem brk_count (vs : List Int) (a : Nat) (ha : a ≤ vs.length) : ((brkFrom 0 vs).map (fun n : Nat => (n : Int))).countP (fun y => !decide ((a : Int) ≤ y)) = (brkFrom 0 (vs.take a)).length := by
  rw [brk_take vs a ha, List.map_append, List.countP_append, countP_all, countP_no]
  · simp
  · intro x hx
    obtain ⟨n, hn, rfl⟩ := List.mem_map.1 hx
    have := brkFrom_mem _ _ n hn
    simp
    omega
  · intro x hx
    obtain ⟨n, hn, rfl⟩ := List.mem_map.1 hx
    have := brkFrom_mem _ _ n hn
    rw [List.length_take, Nat.min_eq_left ha] at this
    simp
    omega

/-- The last of them. -/
theorem brk_last (vs : List Int) (a : Nat) (ha : a ≤ vs.length) (h : 0 < (brkFrom 0 (vs.take a)).length) :
    ∃ b, (brkFrom 0 vs)[(brkFrom 0 (vs.take a)).length - 1]? = some b ∧ b < a ∧ lineCol (vs.take a) = (1 + ((brkFrom 0 (vs.take a)).length : Int), (a : Int) - b) := by
  have hl : (vs.take a).length = a := by rw [List.length_take, Nat.min_eq_left ha]
  have e := lineCol_eq a (vs.take a) hl
  have hne : brkFrom 0 (vs.take a) ≠ [] := by intro h0; rw [h0] at h; cases h
  refine ⟨(brkFrom 0 (vs.take a)).getLast hne, ?_, ?_, ?_⟩
  · rw [brk_take vs a ha, List.getElem?_append_left (by omega), List.getElem?_eq_getElem (by omega), List.getLast_eq_getElem]
  · have := brkFrom_mem _ _ _ (List.getLast_mem hne)
    omega
  · rw [List.getLast?_eq_some_getLast hne, hl] at e
    exact e

theorem brk_none (vs : List Int) (a : Nat) (ha : a ≤ vs.length) (h : (brkFrom 0 (vs.take a)).length = 0) : lineCol (vs.take a) = (1, 1 + (a : Int)) := by
  have hl : (vs.take a).length = a := by rw [List.length_take, Nat.min_eq_left ha]
  have e := lineCol_eq a (vs.take a) hl
  rw [List.length_eq_zero_iff.1 h, hl] at e
  exact e

/-- Among rising places: those below a bound are the first ones. -/
theorem rise_take (ps : List Int) (h : ps.Pairwise (· < ·)) (x : Int) (k : Nat) (hk : k < ps.length) : ps[k] < x ↔ k < ps.countP (fun y => !decide (x ≤ y)) := by
  induction ps generalizing k with
  | nil => simp at hk
  | cons p ps ih =>
    obtain ⟨h1, h2⟩ := List.pairwise_cons.1 h
    by_cases hp : p < x
    · have e : (p :: ps).countP (fun y => !decide (x ≤ y)) = ps.countP (fun y => !decide (x ≤ y)) + 1 := List.countP_cons_of_pos (by simp; omega)
      rw [e]
      match k, hk with
      | 0, _ => simp [hp]
      | k + 1, hk =>
        have := ih h2 k (by simpa using hk)
        simp only [List.getElem_cons_succ]
        omega
    · have hall : (p :: ps).countP (fun y => !decide (x ≤ y)) = 0 := countP_no _ _ (fun y hy => by
        rcases List.mem_cons.1 hy with rfl | hy
        · simp; omega
        · have := h1 y hy; simp; omega)
      rw [hall]
      match k, hk with
      | 0, _ => simp; omega
      | k + 1, hk =>
        have hk' : k < ps.length := by simpa using hk
        have := h1 ps[k] (List.getElem_mem _)
        simp only [List.getElem_cons_succ]
        omega

theorem count_le (ps : List Int) (x : Int) : ps.countP (fun y => !decide (x ≤ y)) ≤ ps.length := List.countP_le_length
end Go.Proofs.YtjfbogjpmieogacDoor.Pl

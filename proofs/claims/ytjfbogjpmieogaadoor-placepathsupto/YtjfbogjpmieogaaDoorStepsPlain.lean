/-
  Plain facts on paths: no program stands in it.
-/
namespace Go.Proofs.YtjfbogjpmieogaaDoor

def isDig (c : UInt8) : Bool := 48 ≤ c && c ≤ 57
def numV (l : List UInt8) : Nat := l.foldl (fun n c => n * 10 + (c.toNat - 48)) 0
/-- A number's digits: none but digits, one to eighteen, no nought ahead. -/
def isNum (l : List UInt8) : Bool := !l.isEmpty && decide (l.length ≤ 18) && !(l.head? == some 48 && decide (1 < l.length)) && l.all isDig

/-- What stands between slashes. -/
def cutAt : List UInt8 → List (List UInt8)
  | [] => [[]]
  | c :: l => if c = 47 then [] :: cutAt l else match cutAt l with
    | [] => [[c]]
    | p :: ps => (c :: p) :: ps

def allNums : List (List UInt8) → Option (List Nat)
  | [] => some []
  | p :: ps => if isNum p then (allNums ps).map (numV p :: ·) else none

/-- The digits ahead, eighteen at most. -/
def ahead (l : List UInt8) : List UInt8 := (l.take 18).takeWhile isDig

/-- The reader that goes from slash to slash. -/
def walkS : Nat → List UInt8 → Option (List Nat)
  | 0, _ => none
  | _ + 1, [] => some []
  | k + 1, c :: l => if c = 47 then
      (if ahead l = [] then none else if (ahead l).head? = some 48 ∧ 1 < (ahead l).length then none else (walkS k (l.drop (ahead l).length)).map (numV (ahead l) :: ·))
    else none

theorem cutAt_ne (l : List UInt8) : cutAt l ≠ [] := by
  induction l with
  | nil => simp [cutAt]
  | cons c l ih =>
    simp only [cutAt]
    split
    · simp
    · split <;> simp

/-- The first piece, and what stands behind it. -/
theorem cutAt_first (l : List UInt8) : ∃ p, (∀ c ∈ p, c ≠ 47) ∧ ((l = p ∧ cutAt l = [p]) ∨ ∃ l', l = p ++ 47 :: l' ∧ cutAt l = p :: cutAt l') := by
  induction l with
  | nil => exact ⟨[], by simp, .inl ⟨rfl, rfl⟩⟩
  | cons c l ih =>
    by_cases hc : c = 47
    · subst hc
      exact ⟨[], by simp, .inr ⟨l, rfl, by simp [cutAt]⟩⟩
    · obtain ⟨p, hp, h⟩ := ih
      refine ⟨c :: p, ?_, ?_⟩
      · intro x hx
        rcases List.mem_cons.1 hx with rfl | hx
        · exact hc
        · exact hp x hx
      · rcases h with ⟨rfl, h⟩ | ⟨l', rfl, h⟩
        · left
          exact ⟨rfl, by simp [cutAt, hc, h]⟩
        · right
          exact ⟨l', rfl, by simp only [cutAt, hc, if_false, h]⟩

theorem takeWhile_stop {α : Type} (q : α → Bool) (a b : List α) (h : ∀ c, b.head? = some c → q c = false) : (a ++ b).takeWhile q = a.takeWhile q := by
  induction a with
  | nil =>
    cases b with
    | nil => rfl
    | cons c b => simp [h c rfl]
  | cons x a ih =>
    simp only [List.cons_append, List.takeWhile_cons, ih]

theorem takeWhile_all {α : Type} (q : α → Bool) (a : List α) (h : a.all q = true) : a.takeWhile q = a := by
  induction a with
  | nil => rfl
  | cons x a ih =>
    simp only [List.all_cons, Bool.and_eq_true] at h
    simp [h.1, ih h.2]

/-- The digits ahead are those of the first piece. -/
theorem ahead_piece (p b : List UInt8) (h : ∀ c, b.head? = some c → c = 47) : ahead (p ++ b) = ahead p := by
  unfold ahead
  rw [List.take_append]
  refine takeWhile_stop _ _ _ (fun c hc => ?_)
  have : b.head? = some c := by
    cases b with
    | nil => simp at hc
    | cons x b =>
      cases hn : 18 - p.length with
      | zero => rw [hn] at hc; simp at hc
      | succ m => rw [hn] at hc; simpa using hc
  rw [h c this]
  rfl

theorem ahead_prefix (p : List UInt8) : ∃ q, p = ahead p ++ q := by
  have h : (p.take 18).takeWhile isDig ++ (p.take 18).dropWhile isDig = p.take 18 := List.takeWhile_append_dropWhile
  exact ⟨(p.take 18).dropWhile isDig ++ p.drop 18, by unfold ahead; rw [← List.append_assoc, h, List.take_append_drop]⟩

theorem ahead_dig (p : List UInt8) : (ahead p).all isDig = true ∧ (ahead p).length ≤ 18 := by
  constructor
  · unfold ahead
    exact List.all_takeWhile
  · unfold ahead
    have h1 : ((p.take 18).takeWhile isDig).length ≤ (p.take 18).length := (List.takeWhile_sublist _).length_le
    have h2 : (p.take 18).length ≤ 18 := List.length_take_le _ _
    omega

theorem isNum_ahead (p : List UInt8) (h : isNum p = true) : ahead p = p := by
  simp only [isNum, Bool.and_eq_true, decide_eq_true_eq] at h
  unfold ahead
  rw [List.take_of_length_le h.1.1.2, takeWhile_all _ _ h.2]

theorem isNum_iff (p : List UInt8) : isNum p = true ↔ ahead p = p ∧ ¬ p = [] ∧ ¬ (p.head? = some 48 ∧ 1 < p.length) := by
  constructor
  · intro h
    refine ⟨isNum_ahead p h, ?_⟩
    simp only [isNum, Bool.and_eq_true, decide_eq_true_eq, Bool.not_eq_true', Bool.and_eq_false_iff] at h
    refine ⟨?_, ?_⟩
    · intro h0; rw [h0] at h; simp at h
    · intro h0
      rcases h.1.2 with h1 | h1
      · simp [h0.1] at h1
      · simp at h1; omega
  · rintro ⟨h1, h2, h3⟩
    have hd := ahead_dig p
    rw [h1] at hd
    simp only [isNum, Bool.and_eq_true, decide_eq_true_eq, Bool.not_eq_true', Bool.and_eq_false_iff]
    refine ⟨⟨⟨by cases p <;> simp_all, hd.2⟩, ?_⟩, hd.1⟩
    by_cases h4 : p.head? = some 48
    · right
      have h5 : ¬ 1 < p.length := fun h5 => h3 ⟨h4, h5⟩
      simpa using h5
    · left; simpa using h4

theorem walkS_no (k : Nat) (c : UInt8) (l : List UInt8) (h : c ≠ 47) : walkS k (c :: l) = none := by
  cases k with
  | zero => rfl
  | succ k => simp [walkS, h]

/-- Both readers tell the same. -/
theorem walkS_cut (k : Nat) : ∀ l : List UInt8, l.length + 2 ≤ k → walkS k (47 :: l) = allNums (cutAt l) := by
  induction k with
  | zero => intro l h; omega
  | succ k ih =>
    intro l hk
    obtain ⟨p, hp, hl⟩ := cutAt_first l
    have hb : ∃ b ps, l = p ++ b ∧ (∀ c, b.head? = some c → c = 47) ∧ cutAt l = p :: ps ∧ walkS k b = allNums ps := by
      rcases hl with ⟨h1, h2⟩ | ⟨l', h1, h2⟩
      · refine ⟨[], [], by rw [h1]; simp, by simp, h2, ?_⟩
        cases k with
        | zero => omega
        | succ k => rfl
      · refine ⟨47 :: l', cutAt l', h1, by simp, h2, ih l' ?_⟩
        rw [h1] at hk
        simp at hk
        omega
    obtain ⟨b, ps, h1, h2, h3, h4⟩ := hb
    have ha : ahead l = ahead p := by rw [h1]; exact ahead_piece p b h2
    rw [h3]
    simp only [walkS, if_true, ha, allNums]
    obtain ⟨q, hq⟩ := ahead_prefix p
    by_cases hn : isNum p = true
    · obtain ⟨n1, n2, n3⟩ := (isNum_iff p).1 hn
      rw [if_pos hn, n1, if_neg n2, if_neg n3, h1, List.drop_left, h4]
    · rw [if_neg hn]
      by_cases e1 : ahead p = []
      · rw [if_pos e1]
      · rw [if_neg e1]
        by_cases e2 : (ahead p).head? = some 48 ∧ 1 < (ahead p).length
        · rw [if_pos e2]
        · rw [if_neg e2]
          have hqn : q ≠ [] := by
            intro h0
            rw [h0, List.append_nil] at hq
            rw [← hq] at e1 e2
            exact hn ((isNum_iff p).2 ⟨hq.symm, e1, e2⟩)
          obtain ⟨c, q', rfl⟩ : ∃ c q', q = c :: q' := by
            cases q with
            | nil => exact absurd rfl hqn
            | cons c q' => exact ⟨c, q', rfl⟩
          have hc : c ≠ 47 := hp c (by rw [hq]; simp)
          have hd : l.drop (ahead p).length = c :: (q' ++ b) := by
            have hx : l = ahead p ++ c :: (q' ++ b) := by
              rw [h1]
              conv => lhs; rw [hq]
              simp
            generalize ahead p = a at hx
            rw [hx]
            simp
          rw [hd, walkS_no _ _ _ hc]
          rfl

theorem numV_snoc (l : List UInt8) (c : UInt8) : numV (l ++ [c]) = numV l * 10 + (c.toNat - 48) := by
  simp [numV, List.foldl_append]

theorem numV_lt (l : List UInt8) (h : l.all isDig = true) : numV l < 10 ^ l.length := by
  have key : ∀ n (l : List UInt8), l.length = n → l.all isDig = true → numV l < 10 ^ n := by
    intro n
    induction n with
    | zero =>
      intro l hl _
      obtain rfl : l = [] := List.length_eq_zero_iff.1 hl
      decide
    | succ n ih =>
      intro l hl ha
      obtain ⟨l', c, rfl⟩ : ∃ l' c, l = l' ++ [c] := ⟨l.dropLast, l.getLast (by intro h; rw [h] at hl; cases hl), (List.dropLast_concat_getLast _).symm⟩
      rw [List.all_append, Bool.and_eq_true] at ha
      have := ih l' (by simpa using hl) ha.1
      have hc : c.toNat ≤ 57 := by
        have := ha.2
        simp [isDig, UInt8.le_iff_toNat_le] at this
        omega
      rw [numV_snoc, Nat.pow_succ]
      omega
  exact key _ l rfl h
end Go.Proofs.YtjfbogjpmieogaaDoor

/-
  Plain facts on names in the order of their bytes, and on the longest one with which a text begins. No program stands in it.
-/
import GoSem.Op.String
namespace Go.Proofs.YtjfbogjpmieogacDoor.Ch
open Go

def less (a b : List UInt8) : Bool := Op.bytesLess a b

theorem getD_at {α : Type} (l : List α) (d : α) (k : Nat) (h : k < l.length) : l.getD k d = l[k] := by simp [List.getD, h]

theorem less_nil (a : List UInt8) : less a [] = false := by cases a <;> rfl
theorem less_cons (a b : UInt8) (x y : List UInt8) : less (a :: x) (b :: y) = (decide (a < b) || (a == b && less x y)) := rfl

theorem less_irrefl : ∀ a : List UInt8, less a a = false
  | [] => rfl
  | a :: x => by rw [less_cons, less_irrefl x]; simp

theorem less_trans : ∀ a b c : List UInt8, less a b = true → less b c = true → less a c = true
  | _, [], _, h, _ => by rw [less_nil] at h; cases h
  | _, _ :: _, [], _, h => by rw [less_nil] at h; cases h
  | [], _ :: _, _ :: _, _, _ => rfl
  | a :: x, b :: y, c :: z, h1, h2 => by
    rw [less_cons] at h1 h2 ⊢
    simp only [Bool.or_eq_true, decide_eq_true_eq, Bool.and_eq_true, beq_iff_eq, UInt8.lt_iff_toNat_lt] at h1 h2 ⊢
    rcases h1 with h1 | ⟨rfl, h1⟩
    · rcases h2 with h2 | ⟨rfl, h2⟩
      · left; omega
      · left; exact h1
    · rcases h2 with h2 | ⟨rfl, h2⟩
      · left; exact h2
      · right; exact ⟨rfl, less_trans x y z h1 h2⟩

theorem less_tri : ∀ a b : List UInt8, less a b = true ∨ a = b ∨ less b a = true
  | [], [] => .inr (.inl rfl)
  | [], _ :: _ => .inl rfl
  | _ :: _, [] => .inr (.inr rfl)
  | a :: x, b :: y => by
    rw [less_cons, less_cons]
    simp only [Bool.or_eq_true, decide_eq_true_eq, Bool.and_eq_true, beq_iff_eq, UInt8.lt_iff_toNat_lt]
    by_cases h1 : a.toNat < b.toNat
    · left; left; exact h1
    · by_cases h2 : b.toNat < a.toNat
      · right; right; left; exact h2
      · have e : a = b := UInt8.toNat_inj.1 (by omega)
        subst e
        rcases less_tri x y with h | rfl | h
        · left; right; exact ⟨rfl, h⟩
        · right; left; rfl
        · right; right; right; exact ⟨rfl, h⟩

/-- Above, as the program asks it. -/
theorem above_eq (x t : List UInt8) : (!(Op.bytesLess x t || x == t)) = less t x := by
  show (!(less x t || x == t)) = less t x
  rcases less_tri x t with h | rfl | h
  · rw [h]
    cases h2 : less t x with
    | false => rfl
    | true => have := less_trans _ _ _ h h2; rw [less_irrefl] at this; cases this
  · rw [less_irrefl]; simp
  · rw [h]
    cases h2 : less x t with
    | true => have := less_trans _ _ _ h h2; rw [less_irrefl] at this; cases this
    | false =>
      have : ¬ x = t := by rintro rfl; rw [less_irrefl] at h; cases h
      simp [this]

theorem pre_not_above : ∀ p t : List UInt8, p.isPrefixOf t = true → less t p = false
  | [], t, _ => less_nil t
  | _ :: _, [], h => by cases h
  | a :: x, b :: y, h => by
    simp only [List.isPrefixOf, Bool.and_eq_true, beq_iff_eq] at h
    obtain ⟨rfl, h⟩ := h
    rw [less_cons, pre_not_above x y h]
    simp

theorem pre_longer (a b t : List UInt8) (ha : a.isPrefixOf t = true) (hb : b.isPrefixOf t = true) (h : less a b = true) : a.length < b.length := by
  rw [List.isPrefixOf_iff_prefix] at ha hb
  rcases Nat.lt_or_ge a.length b.length with hl | hl
  · exact hl
  · have := pre_not_above b a (by rw [List.isPrefixOf_iff_prefix]; exact List.prefix_of_prefix_length_le hb ha hl)
    rw [this] at h
    cases h

theorem pre_between : ∀ t m b : List UInt8, t.isPrefixOf b = true → less t m = true → (less m b = true ∨ m = b) → t.isPrefixOf m = true
  | [], _, _, _, _, _ => rfl
  | _ :: _, [], _, _, h, _ => by rw [less_nil] at h; cases h
  | _ :: _, _ :: _, [], h, _, _ => by cases h
  | c :: t, d :: m, e :: b, h1, h2, h3 => by
    rw [less_cons] at h2
    rw [less_cons] at h3
    simp only [List.isPrefixOf, Bool.and_eq_true, beq_iff_eq, Bool.or_eq_true, decide_eq_true_eq, UInt8.lt_iff_toNat_lt, List.cons.injEq] at h1 h2 h3 ⊢
    obtain ⟨rfl, h1⟩ := h1
    rcases h2 with h2 | ⟨rfl, h2⟩
    · rcases h3 with (h3 | ⟨rfl, _⟩) | ⟨rfl, _⟩ <;> omega
    · refine ⟨rfl, pre_between t m b h1 h2 ?_⟩
      rcases h3 with (h3 | ⟨_, h3⟩) | ⟨_, h3⟩
      · omega
      · left; exact h3
      · right; exact h3

theorem pre_above : ∀ t b : List UInt8, t.isPrefixOf b = true → less t b = decide (t.length < b.length)
  | [], [], _ => rfl
  | [], _ :: _, _ => by simp [less, Op.bytesLess]
  | _ :: _, [], h => by cases h
  | a :: x, b :: y, h => by
    simp only [List.isPrefixOf, Bool.and_eq_true, beq_iff_eq] at h
    obtain ⟨rfl, h⟩ := h
    rw [less_cons, pre_above x y h]
    simp

/-- How many names are not above a text. -/
def belowN (ns : List (List UInt8)) (t : List UInt8) : Nat := ns.countP (fun x => !less t x)

theorem belowN_iff (ns : List (List UInt8)) (h : ns.Pairwise (fun a b => less a b = true)) (t : List UInt8) (k : Nat) (hk : k < ns.length) : less t ns[k] = false ↔ k < belowN ns t := by
  unfold belowN
  induction ns generalizing k with
  | nil => simp at hk
  | cons p ns ih =>
    obtain ⟨h1, h2⟩ := List.pairwise_cons.1 h
    cases hp : less t p with
    | false =>
      have e : (p :: ns).countP (fun x => !less t x) = ns.countP (fun x => !less t x) + 1 := List.countP_cons_of_pos (by simp [hp])
      rw [e]
      match k, hk with
      | 0, _ => simp [hp]
      | k + 1, hk =>
        have := ih h2 k (by simpa using hk)
        simp only [List.getElem_cons_succ]
        rw [this]
        omega
    | true =>
      have hall : (p :: ns).countP (fun x => !less t x) = 0 := List.countP_eq_zero.2 (fun y hy => by
        rcases List.mem_cons.1 hy with rfl | hy
        · simp [hp]
        · have := less_trans _ _ _ hp (h1 y hy); simp [this])
      rw [hall]
      match k, hk with
      | 0, _ => simp [hp]
      | k + 1, hk =>
        have hk' : k < ns.length := by simpa using hk
        have := less_trans _ _ _ hp (h1 ns[k] (List.getElem_mem _))
        simp [this]

theorem belowN_le (ns : List (List UInt8)) (t : List UInt8) : belowN ns t ≤ ns.length := List.countP_le_length

/-- The last name ahead of place k with which a text begins. -/
def downPre (ns : List (List UInt8)) (t : List UInt8) : Nat → Option Nat
  | 0 => none
  | k + 1 => if (ns.getD k []).isPrefixOf t && decide (k < ns.length) then some k else downPre ns t k

theorem downPre_some (ns : List (List UInt8)) (t : List UInt8) : ∀ k b, downPre ns t k = some b → b < k ∧ b < ns.length ∧ (ns.getD b []).isPrefixOf t = true
  | 0, b, h => by cases h
  | k + 1, b, h => by
    unfold downPre at h
    split at h
    · rename_i hp
      obtain rfl := Option.some.inj h
      simp only [Bool.and_eq_true, decide_eq_true_eq] at hp
      exact ⟨Nat.lt_succ_self _, hp.2, hp.1⟩
    · have := downPre_some ns t k b h
      exact ⟨by omega, this.2⟩

theorem downPre_below (ns : List (List UInt8)) (h : ns.Pairwise (fun a b => less a b = true)) (t : List UInt8) : ∀ k, belowN ns t ≤ k → downPre ns t k = downPre ns t (belowN ns t) := by
  intro k hk
  induction k with
  | zero => rw [Nat.le_zero.1 hk]
  | succ k ih =>
    rcases Nat.lt_or_ge k (belowN ns t) with hl | hl
    · rw [show k + 1 = belowN ns t by omega]
    · rw [← ih hl]
      have hn : ¬ ((ns.getD k []).isPrefixOf t && decide (k < ns.length)) = true := by
        intro hp
        simp only [Bool.and_eq_true, decide_eq_true_eq] at hp
        rw [getD_at _ _ _ hp.2] at hp
        have := (belowN_iff ns h t k hp.2).1 (pre_not_above _ _ hp.1)
        omega
      rw [downPre, if_neg hn]

/-- Going up: a name with which the text begins is longer than those ahead of it. -/
theorem downPre_longer (ns : List (List UInt8)) (h : ns.Pairwise (fun a b => less a b = true)) (t : List UInt8) (k b : Nat) (hk : k < ns.length) (hp : (ns.getD k []).isPrefixOf t = true) (hb : downPre ns t k = some b) : (ns.getD b []).length < (ns.getD k []).length := by
  obtain ⟨h1, h2, h3⟩ := downPre_some ns t k b hb
  refine pre_longer _ _ t h3 hp ?_
  rw [getD_at _ _ _ h2, getD_at _ _ _ hk]
  exact List.pairwise_iff_getElem.1 h b k h2 hk h1

/-- Is a text the beginning of a longer name? -/
theorem begins_eq (ns : List (List UInt8)) (h : ns.Pairwise (fun a b => less a b = true)) (t : List UInt8) :
    (decide (belowN ns t < ns.length) && t.isPrefixOf (ns.getD (belowN ns t) [])) = ns.any (fun x => decide (t.length < x.length) && t.isPrefixOf x) := by
  rw [Bool.eq_iff_iff]
  simp only [Bool.and_eq_true, decide_eq_true_eq, List.any_eq_true]
  constructor
  · rintro ⟨h1, h2⟩
    rw [getD_at _ _ _ h1] at h2
    refine ⟨_, List.getElem_mem h1, ?_, h2⟩
    have h3 := pre_above _ _ h2
    have h4 : less t ns[belowN ns t] = true := by
      cases h5 : less t ns[belowN ns t] with
      | true => rfl
      | false => have := (belowN_iff ns h t _ h1).1 h5; omega
    rw [h4] at h3
    simpa using h3.symm
  · rintro ⟨x, hx, h1, h2⟩
    obtain ⟨k, hk, rfl⟩ := List.getElem_of_mem hx
    have h3 := pre_above _ _ h2
    have h4 : less t ns[k] = true := by rw [h3]; simpa using h1
    have hge : belowN ns t ≤ k := by
      rcases Nat.lt_or_ge k (belowN ns t) with hl | hl
      · have := (belowN_iff ns h t k hk).2 hl; rw [this] at h4; cases h4
      · exact hl
    have hlt : belowN ns t < ns.length := by omega
    refine ⟨hlt, ?_⟩
    rw [getD_at _ _ _ hlt]
    have h5 : less t ns[belowN ns t] = true := by
      cases h6 : less t ns[belowN ns t] with
      | true => rfl
      | false => have := (belowN_iff ns h t _ hlt).1 h6; omega
    refine pre_between _ _ _ h2 h5 ?_
    rcases Nat.lt_or_ge (belowN ns t) k with hl | hl
    · left; exact List.pairwise_iff_getElem.1 h _ _ hlt hk hl
    · right
      have : belowN ns t = k := by omega
      simp [this]
end Go.Proofs.YtjfbogjpmieogacDoor.Ch

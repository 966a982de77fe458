/-
  Words between blanks: as lists of octets.
-/
import Derived.Test.YtjbfgiicaaljjaaRows
import Derived.Lib.FieldsP
import Derived.Lib.TrimUEq
import Derived.Lib.SpaceUEq
import Derived.Lib.IndexBytes
import Derived.Lib.Join
namespace Go.Proofs.Ytjbfgiicaaljjaa
open Go.Lib

def blR (r : Nat) : Bool := r == 9 || r == 10 || r == 12 || r == 13 || r == 32
def blB (b : UInt8) : Bool := blR b.toNat
theorem blR_le {r : Nat} (h : blR r = true) : r ≤ 32 := by
  unfold blR at h
  simp only [Bool.or_eq_true, beq_iff_eq] at h
  omega

def wordsA : List UInt8 → List UInt8 → List (List UInt8)
  | cur, [] => if cur = [] then [] else [cur]
  | cur, b :: l => if blB b then (if cur = [] then wordsA [] l else cur :: wordsA [] l) else wordsA (cur ++ [b]) l
def wordsL (l : List UInt8) : List (List UInt8) := wordsA [] l

/-- Octets that are no blanks are put to the word that is under way. -/
theorem wordsA_run : ∀ (k : Nat) (cur l : List UInt8), k ≤ l.length → (∀ j, j < k → blB (l.getD j 0) = false) → wordsA cur l = wordsA (cur ++ l.take k) (l.drop k)
  | 0, cur, l, _, _ => by simp
  | k + 1, cur, [], h, _ => by simp at h
  | k + 1, cur, b :: l, h, hz => by
    have h0 : blB b = false := by simpa using hz 0 (by omega)
    rw [wordsA, h0]
    simp only [Bool.false_eq_true, if_false, List.take_succ_cons, List.drop_succ_cons]
    rw [wordsA_run k (cur ++ [b]) l (by simp at h; omega) (fun j hj => by have := hz (j + 1) (by omega); simpa using this)]
    simp

theorem rune_blank (n b0 b1 b2 b3 : Nat) (h : blR (decodeN n b0 b1 b2 b3).1 = true) : (decodeN n b0 b1 b2 b3).2 = 1 ∧ (decodeN n b0 b1 b2 b3).1 = b0 := by
  have hle := blR_le h
  rcases decodeN_cases n b0 b1 b2 b3 with ⟨_, e⟩ | ⟨h1, _, _, h4, e⟩ | ⟨h1, _, _, _, h4, e⟩ | ⟨h1, _⟩ | e
  · rw [e]; exact ⟨rfl, rfl⟩
  · rw [e] at hle; simp only at hle; omega
  · rw [e] at hle; simp only at hle; omega
  · omega
  · rw [e] at hle; simp only at hle; omega
theorem rune_first (n b0 b1 b2 b3 : Nat) (h : blR (decodeN n b0 b1 b2 b3).1 = false) : blR b0 = false := by
  by_cases h0 : b0 < 128
  · have e : decodeN n b0 b1 b2 b3 = (b0, 1) := by unfold decodeN; rw [if_pos h0]
    rw [e] at h
    exact h
  · cases hb : blR b0
    · rfl
    · have := blR_le hb
      omega

/-- One rune further. -/
theorem step_blank (s : ByteArray) (pos : Nat) (h : blR (Utf8.decode s pos).1 = true) : (Utf8.decode s pos).2 = 1 ∧ blB (s.data.toList.getD pos 0) = true := by
  rw [decode_N] at h ⊢
  obtain ⟨h1, h2⟩ := rune_blank _ _ _ _ _ h
  refine ⟨h1, ?_⟩
  rw [h2] at h
  exact h
theorem step_plain (s : ByteArray) (pos : Nat) (hp : pos < s.size) (h : blR (Utf8.decode s pos).1 = false) : (Utf8.decode s pos).2 ≤ s.size - pos ∧ ∀ j, j < (Utf8.decode s pos).2 → blB ((s.data.toList.drop pos).getD j 0) = false := by
  have hw := width_pos s pos
  have hs : s.data.toList.length = s.size := (size_eq s).symm
  rw [decode_N] at h hw ⊢
  have h0 := rune_first _ _ _ _ _ h
  obtain ⟨c2, c3, c4, c5⟩ := decodeN_conts (s.data.toList.length - pos) (s.data.toList.getD pos 0).toNat (s.data.toList.getD (pos + 1) 0).toNat (s.data.toList.getD (pos + 2) 0).toNat (s.data.toList.getD (pos + 3) 0).toNat
  have hbig : ∀ b : UInt8, b.toNat / 64 = 2 → blB b = false := by
    intro b hb
    cases hq : blB b
    · rfl
    · have := blR_le hq
      omega
  refine ⟨by omega, fun j hj => ?_⟩
  rw [getD_dropU]
  match j, hj with
  | 0, _ => exact h0
  | 1, hj => exact hbig _ (c2 (by omega)).1
  | 2, hj => exact hbig _ (c3 (by omega)).1
  | 3, hj => exact hbig _ (c4 (by omega)).1
  | (j + 4), hj => omega

def piece (s : ByteArray) (x : Nat × Nat) : List UInt8 := (s.data.toList.drop x.1).take (x.2 - x.1)
def openP (s : ByteArray) (st : Option Nat) (pos : Nat) : List UInt8 := match st with
  | none => []
  | some a => piece s (a, pos)

theorem piece_more' (s : ByteArray) (a pos w : Nat) (ha : a ≤ pos) : piece s (a, pos) ++ (s.data.toList.drop pos).take w = piece s (a, pos + w) := by
  unfold piece
  simp only
  rw [show pos + w - a = (pos - a) + w by omega, List.take_add, List.drop_drop, show a + (pos - a) = pos by omega]
theorem piece_ne' (s : ByteArray) (a pos : Nat) (ha : a < pos) (hp : pos ≤ s.size) : piece s (a, pos) ≠ [] := by
  intro e
  have := congrArg List.length e
  have hs : s.data.toList.length = s.size := (size_eq s).symm
  unfold piece at this
  simp only [List.length_take, List.length_drop, List.length_nil] at this
  omega

theorem spans_words (s : ByteArray) : ∀ (f pos : Nat) (st : Option Nat) (acc : List (Nat × Nat)), s.size ≤ pos + f → pos ≤ s.size → (∀ a, st = some a → a < pos) →
    (closeSpans s (spansFromP blR s f pos st acc)).map (piece s) = acc.map (piece s) ++ wordsA (openP s st pos) (s.data.toList.drop pos)
  | 0, pos, st, acc, hf, hp, hst => by
    have hs : s.data.toList.length = s.size := (size_eq s).symm
    obtain rfl : pos = s.size := by omega
    rw [List.drop_eq_nil_of_le (by omega)]
    cases st with
    | none => simp [spansFromP, closeSpans, openP, wordsA]
    | some a =>
      have := piece_ne' s a s.size (hst a rfl) (Nat.le_refl _)
      simp [spansFromP, closeSpans, openP, wordsA, this]
  | f + 1, pos, st, acc, hf, hp, hst => by
    have hs : s.data.toList.length = s.size := (size_eq s).symm
    by_cases hlt : pos < s.size
    · have hw := width_pos s pos
      unfold spansFromP
      rw [if_pos hlt]
      cases hb : blR (Utf8.decode s pos).1
      · obtain ⟨h1, h2⟩ := step_plain s pos hlt hb
        simp only [Bool.false_eq_true, if_false]
        rw [wordsA_run (Utf8.decode s pos).2 _ (s.data.toList.drop pos) (by rw [List.length_drop]; omega) h2, List.drop_drop]
        cases st with
        | none =>
          simp only
          rw [spans_words s f _ (some pos) acc (by omega) (by omega) (fun a e => by injection e; omega)]
          have e : openP s none pos ++ (s.data.toList.drop pos).take (Utf8.decode s pos).2 = openP s (some pos) (pos + (Utf8.decode s pos).2) := by
            show [] ++ _ = piece s (pos, _)
            unfold piece
            simp
          rw [e]
        | some a =>
          simp only
          rw [spans_words s f _ (some a) acc (by omega) (by omega) (fun b e => by have := hst b e; omega)]
          have e : openP s (some a) pos ++ (s.data.toList.drop pos).take (Utf8.decode s pos).2 = openP s (some a) (pos + (Utf8.decode s pos).2) := piece_more' s a pos _ (by have := hst a rfl; omega)
          rw [e]
      · obtain ⟨h1, h2⟩ := step_blank s pos hb
        simp only [if_true]
        rw [h1]
        have hd : s.data.toList.drop pos = s.data.toList.getD pos 0 :: s.data.toList.drop (pos + 1) := by
          rw [List.drop_eq_getElem_cons (by omega)]
          simp [List.getD, hs, hlt]
        rw [hd, wordsA, h2]
        simp only [if_true]
        cases st with
        | none =>
          simp only
          rw [spans_words s f _ none acc (by omega) (by omega) (fun a e => by cases e)]
          simp [openP]
        | some a =>
          simp only
          rw [spans_words s f _ none _ (by omega) (by omega) (fun a e => by cases e)]
          have hne : openP s (some a) pos ≠ [] := piece_ne' s a pos (hst a rfl) hp
          rw [if_neg hne]
          simp [openP]
    · obtain rfl : pos = s.size := by omega
      rw [spansFromP_end _ _ _ _ _ _ (by omega), List.drop_eq_nil_of_le (by omega)]
      cases st with
      | none => simp [closeSpans, openP, wordsA]
      | some a =>
        have := piece_ne' s a s.size (hst a rfl) (Nat.le_refl _)
        simp [closeSpans, openP, wordsA, this]

theorem piece_extract (s : ByteArray) (x : Nat × Nat) : (s.extract x.1 x.2).data.toList = piece s x := by
  unfold piece
  rw [ByteArray.data_extract, Array.toList_extract]

/-- What strings.FieldsFunc tells at blanks. -/
theorem fields_words (s : ByteArray) : (goFieldsP blR s).map (fun x => x.data.toList) = wordsL s.data.toList := by
  unfold goFieldsP spansOfP wordsL
  rw [List.map_map]
  have h := spans_words s s.size 0 none [] (by omega) (by omega) (fun a e => by cases e)
  simp only [List.map_nil, List.nil_append, List.drop_zero] at h
  rw [show openP s none 0 = [] from rfl] at h
  rw [← h]
  refine List.map_congr_left fun x _ => ?_
  exact piece_extract s x
theorem fields_words' (s : ByteArray) : goFieldsP blR s = (wordsL s.data.toList).map (fun l => (⟨l.toArray⟩ : ByteArray)) := by
  rw [← fields_words, List.map_map]
  conv => lhs; rw [← List.map_id (goFieldsP blR s)]
  exact List.map_congr_left fun x _ => (mk_data x).symm

/-! What words are. -/
theorem words_ok : ∀ (l cur : List UInt8), (∀ b ∈ cur, blB b = false) → ∀ w ∈ wordsA cur l, w ≠ [] ∧ ∀ b ∈ w, blB b = false
  | [], cur, hc, w, hw => by
    unfold wordsA at hw
    split at hw
    · cases hw
    · rename_i hne
      simp only [List.mem_singleton] at hw
      subst hw
      exact ⟨hne, hc⟩
  | b :: l, cur, hc, w, hw => by
    unfold wordsA at hw
    split at hw
    · split at hw
      · exact words_ok l [] (by simp) w hw
      · rename_i hne
        simp only [List.mem_cons] at hw
        rcases hw with rfl | hw
        · exact ⟨hne, hc⟩
        · exact words_ok l [] (by simp) w hw
    · rename_i hb
      refine words_ok l (cur ++ [b]) (fun c h => ?_) w hw
      simp only [List.mem_append, List.mem_singleton] at h
      rcases h with h | rfl
      · exact hc c h
      · simpa using hb

theorem words_total : ∀ (l cur : List UInt8), ((wordsA cur l).map fun w => w.length + 1).sum ≤ cur.length + l.length + 1
  | [], cur => by
    unfold wordsA
    split <;> simp
  | b :: l, cur => by
    unfold wordsA
    split
    · have := words_total l []
      split
      · simp only [List.length_nil, List.length_cons] at this ⊢; omega
      · simp only [List.map_cons, List.sum_cons, List.length_nil, List.length_cons] at this ⊢; omega
    · have := words_total l (cur ++ [b])
      simp only [List.length_append, List.length_cons, List.length_nil] at this ⊢
      omega
theorem words_word (w l : List UInt8) (hw : ∀ b ∈ w, blB b = false) : wordsA [] (w ++ l) = wordsA w l := by
  rw [wordsA_run w.length [] (w ++ l) (by simp) (fun j hj => ?_)]
  · simp
  · rw [List.getD_eq_getElem?_getD, List.getElem?_append_left hj, List.getElem?_eq_getElem hj]
    exact hw _ (List.getElem_mem hj)

def joinB (ws : List (List UInt8)) : List UInt8 := join ws [32]
theorem joinB_cons (w x : List UInt8) (ws : List (List UInt8)) : joinB (w :: x :: ws) = w ++ 32 :: joinB (x :: ws) := by
  unfold joinB
  rw [join_cons, join_cons]
  simp [joinTail]
theorem words_join : ∀ ws : List (List UInt8), (∀ w ∈ ws, w ≠ [] ∧ ∀ b ∈ w, blB b = false) → wordsL (joinB ws) = ws
  | [], _ => by simp [joinB, join_nil, wordsL, wordsA]
  | [w], h => by
    obtain ⟨h1, h2⟩ := h w (by simp)
    unfold wordsL joinB
    rw [join_one]
    have := words_word w [] h2
    rw [List.append_nil] at this
    rw [this]
    simp [wordsA, h1]
  | w :: x :: ws, h => by
    obtain ⟨h1, h2⟩ := h w (by simp)
    have ih := words_join (x :: ws) (fun y hy => h y (by simp at hy ⊢; right; exact hy))
    unfold wordsL at ih ⊢
    rw [joinB_cons, words_word w _ h2, wordsA, show blB 32 = true by decide]
    simp [h1, ih]
theorem joinB_len : ∀ ws : List (List UInt8), (joinB ws).length + 1 ≤ (ws.map fun w => w.length + 1).sum + 1
  | [] => by simp [joinB, join_nil]
  | [w] => by simp [joinB, join_one]
  | w :: x :: ws => by
    have ih := joinB_len (x :: ws)
    rw [joinB_cons]
    simp only [List.length_append, List.length_cons, List.map_cons, List.sum_cons] at ih ⊢
    omega
theorem joinB_short : ∀ ws : List (List UInt8), ws ≠ [] → (joinB ws).length + 1 ≤ (ws.map fun w => w.length + 1).sum
  | [], h => absurd rfl h
  | [w], _ => by simp [joinB, join_one]
  | w :: x :: ws, _ => by
    have ih := joinB_short (x :: ws) (by simp)
    rw [joinB_cons]
    simp only [List.length_append, List.length_cons, List.map_cons, List.sum_cons] at ih ⊢
    omega
theorem strip_le (l : List UInt8) : (joinB (wordsL l)).length ≤ l.length := by
  by_cases h : wordsL l = []
  · rw [h]; simp [joinB, join_nil]
  · have h1 := joinB_short _ h
    have h2 := words_total l []
    unfold wordsL at *
    simp only [List.length_nil] at h2
    omega
theorem words_strip (l : List UInt8) : wordsL (joinB (wordsL l)) = wordsL l := words_join _ (fun w hw => words_ok l [] (by simp) w hw)
theorem words_few (l : List UInt8) : (wordsL l).length ≤ l.length + 1 := by
  have h := words_total l []
  have : ∀ ws : List (List UInt8), ws.length ≤ (ws.map fun w => w.length + 1).sum := by
    intro ws
    induction ws with
    | nil => simp
    | cons w ws ih => simp only [List.length_cons, List.map_cons, List.sum_cons]; omega
  have := this (wordsA [] l)
  unfold wordsL
  simp only [List.length_nil] at h
  omega
theorem word_le (l w : List UInt8) (hw : w ∈ wordsL l) : w.length ≤ l.length := by
  have h := words_total l []
  have : ∀ ws : List (List UInt8), w ∈ ws → w.length + 1 ≤ (ws.map fun w => w.length + 1).sum := by
    intro ws
    induction ws with
    | nil => intro h; cases h
    | cons x ws ih =>
      intro h
      simp only [List.mem_cons] at h
      simp only [List.map_cons, List.sum_cons]
      rcases h with rfl | h
      · omega
      · have := ih h
        omega
  have := this _ hw
  unfold wordsL at *
  simp only [List.length_nil] at h
  omega

/-! Each once. -/
def onceA : List (List UInt8) → List (List UInt8) → List (List UInt8)
  | _, [] => []
  | seen, w :: ws => if seen.contains w then onceA seen ws else w :: onceA (w :: seen) ws
def once (ws : List (List UInt8)) : List (List UInt8) := onceA [] ws
theorem onceA_seen : ∀ (ws s1 s2 : List (List UInt8)), (∀ x, s1.contains x = s2.contains x) → onceA s1 ws = onceA s2 ws
  | [], _, _, _ => rfl
  | w :: ws, s1, s2, h => by
    unfold onceA
    rw [h w]
    split
    · exact onceA_seen ws s1 s2 h
    · rw [onceA_seen ws (w :: s1) (w :: s2) (fun x => by simp only [List.contains_cons, h x])]
theorem onceA_snoc : ∀ (ws seen : List (List UInt8)) (w : List UInt8), onceA seen (ws ++ [w]) = onceA seen ws ++ (if (seen ++ ws).contains w then [] else [w])
  | [], seen, w => by
    simp only [List.nil_append, onceA, List.append_nil]
  | x :: ws, seen, w => by
    rw [List.cons_append, onceA, onceA]
    split
    · rename_i hx
      rw [onceA_snoc ws seen w]
      congr 1
      have : (seen ++ x :: ws).contains w = (seen ++ ws).contains w := by
        simp only [List.contains_eq_mem, List.mem_append, List.mem_cons, decide_eq_decide]
        constructor
        · rintro (h | rfl | h)
          · exact .inl h
          · exact .inl (by simpa using hx)
          · exact .inr h
        · rintro (h | h)
          · exact .inl h
          · exact .inr (.inr h)
      rw [this]
    · rw [onceA_snoc ws (x :: seen) w, List.cons_append]
      congr 2
      have : (seen ++ x :: ws).contains w = (x :: seen ++ ws).contains w := by
        simp only [List.contains_eq_mem, List.mem_append, List.mem_cons, decide_eq_decide]
        constructor
        · rintro (h | h | h)
          · exact .inl (.inr h)
          · exact .inl (.inl h)
          · exact .inr h
        · rintro ((h | h) | h)
          · exact .inr (.inl h)
          · exact .inl h
          · exact .inr (.inr h)
      rw [this]
      rfl
theorem once_snoc (ws : List (List UInt8)) (w : List UInt8) : once (ws ++ [w]) = once ws ++ (if ws.contains w then [] else [w]) := by
  unfold once
  rw [onceA_snoc, List.nil_append]
theorem once_has (ws : List (List UInt8)) (w : List UInt8) : (once ws).contains w = ws.contains w := by
  have : ∀ (ws seen : List (List UInt8)), ((onceA seen ws).contains w || seen.contains w) = (ws.contains w || seen.contains w) := by
    intro ws
    induction ws with
    | nil => intro seen; rfl
    | cons x ws ih =>
      intro seen
      unfold onceA
      split
      · rename_i hx
        rw [ih seen, List.contains_cons]
        cases hxw : (w == x)
        · rfl
        · obtain rfl := eq_of_beq hxw
          rw [hx]
          simp
      · have := ih (x :: seen)
        simp only [List.contains_cons] at this ⊢
        cases h1 : (w == x) <;> simp only [h1, Bool.true_or, Bool.or_true, Bool.false_or] at this ⊢
        exact this
  have := this ws []
  simpa [once] using this
theorem once_len (ws : List (List UInt8)) : (once ws).length ≤ ws.length := by
  have : ∀ (ws seen : List (List UInt8)), (onceA seen ws).length ≤ ws.length := by
    intro ws
    induction ws with
    | nil => intro _; simp [onceA]
    | cons x ws ih =>
      intro seen
      unfold onceA
      split
      · have := ih seen; simp only [List.length_cons]; omega
      · have := ih (x :: seen); simp only [List.length_cons]; omega
  exact this ws []
theorem once_apart (ws : List (List UInt8)) : (once ws).Pairwise (· ≠ ·) := by
  have : ∀ (ws seen : List (List UInt8)), (onceA seen ws).Pairwise (· ≠ ·) ∧ ∀ x ∈ onceA seen ws, seen.contains x = false := by
    intro ws
    induction ws with
    | nil => intro _; exact ⟨List.Pairwise.nil, by simp [onceA]⟩
    | cons x ws ih =>
      intro seen
      unfold onceA
      split
      · exact ih seen
      · rename_i hx
        obtain ⟨h1, h2⟩ := ih (x :: seen)
        refine ⟨List.pairwise_cons.2 ⟨fun y hy e => ?_, h1⟩, fun y hy => ?_⟩
        · have := h2 y hy
          subst e
          simp at this
        · simp only [List.mem_cons] at hy
          rcases hy with rfl | hy
          · simpa using hx
          · have := h2 y hy
            simp only [List.contains_cons, Bool.or_eq_false_iff] at this
            exact this.2
  exact (this ws []).1
end Go.Proofs.Ytjbfgiicaaljjaa

/-
  Plain: what the walk of the reference's Prescan asks.
-/
import Derived.Test.YtddonipfpchabaaDoorRefMeta
namespace Go.Proofs.YtddonipfpchabaaDoor
open Go.RowKit

theorem drop_one (t : ByteArray) (p : Nat) (h : p < t.size) : t.data.toList.drop p = t[p] :: t.data.toList.drop (p + 1) := by
  rw [List.drop_eq_getElem_cons (by simpa using h)]
  rfl
theorem drop_two (t : ByteArray) (p : Nat) (h : p + 1 < t.size) : t.data.toList.drop p = t[p] :: t[p + 1] :: t.data.toList.drop (p + 2) := by
  rw [drop_one t p (by omega), drop_one t (p + 1) h]

theorem not60 {c : UInt8} {l : List UInt8} (h : ¬ c = 60) : Lib.hasPrefix (c :: l) [60, 33, 45, 45] = false ∧ metaL (c :: l) = false ∧ tagL (c :: l) = false ∧ otherL (c :: l) = false := by
  refine ⟨?_, ?_, ?_, ?_⟩
  · simp [Lib.hasPrefix, List.isPrefixOf]
    exact fun e => absurd e.symm h
  · have hl : ∀ c : UInt8, lowB c = 60 → c = 60 := by
      intro c
      exact ps_all (Q := fun c => lowB c = 60 → c = 60) (by decide +kernel) c
    unfold metaL low
    rw [List.take_succ_cons, List.map_cons]
    have : (lowB c :: List.map lowB (List.take 4 l) == [60, 109, 101, 116, 97]) = false := by
      rw [beq_eq_false_iff_ne]
      intro e
      injection e with e _
      exact h (hl c e)
    rw [this]
    rfl
  · unfold tagL
    split <;> simp_all
  · unfold otherL
    split <;> simp_all

theorem alone {c : UInt8} : Lib.hasPrefix [c] [60, 33, 45, 45] = false ∧ metaL [c] = false ∧ tagL [c] = false ∧ otherL [c] = false := by
  refine ⟨?_, ?_, ?_, ?_⟩
  · simp [Lib.hasPrefix, List.isPrefixOf]
  · simp [metaL]
  · unfold tagL
    split <;> simp_all
  · unfold otherL
    split <;> simp_all

/-- The words without letters stand where they stand, however letters are made. -/
theorem prefix_low (W : List UInt8) (hW : ∀ x ∈ W, ∀ c, (x == lowB c) = (x == c)) : ∀ l : List UInt8, W.isPrefixOf (low l) = W.isPrefixOf l := by
  induction W with
  | nil => intro l; simp [List.isPrefixOf]
  | cons a W ih =>
    intro l
    match l with
    | [] => rfl
    | c :: l =>
      show (a :: W).isPrefixOf (lowB c :: low l) = _
      rw [List.isPrefixOf, List.isPrefixOf, hW a (List.mem_cons_self ..) c, ih (fun x hx => hW x (List.mem_cons_of_mem _ hx)) l]
theorem low_drop (l : List UInt8) (p : Nat) : (low l).drop p = low (l.drop p) := by
  unfold low
  rw [List.map_drop]
theorem sign_low (x : UInt8) (h : x = 60 ∨ x = 33 ∨ x = 45 ∨ x = 62) (c : UInt8) : (x == lowB c) = (x == c) := by
  rcases h with rfl | rfl | rfl | rfl
  · exact ps_all (Q := fun c => ((60 : UInt8) == lowB c) = (60 == c)) (by decide +kernel) c
  · exact ps_all (Q := fun c => ((33 : UInt8) == lowB c) = (33 == c)) (by decide +kernel) c
  · exact ps_all (Q := fun c => ((45 : UInt8) == lowB c) = (45 == c)) (by decide +kernel) c
  · exact ps_all (Q := fun c => ((62 : UInt8) == lowB c) = (62 == c)) (by decide +kernel) c
theorem stands_open (t : ByteArray) (p : Nat) : standsB t p ⟨#[60, 33, 45, 45]⟩ = Lib.hasPrefix (t.data.toList.drop p) [60, 33, 45, 45] := by
  rw [stands_occ t p ⟨#[60, 33, 45, 45]⟩ (by decide)]
  unfold Lib.occAt Lib.hasPrefix
  rw [low_drop]
  exact prefix_low _ (fun x hx c => sign_low x ((show ∀ x ∈ ([60, 33, 45, 45] : List UInt8), x = 60 ∨ x = 33 ∨ x = 45 ∨ x = 62 by decide) x hx) c) _
theorem stands_close (t : ByteArray) (p : Nat) : standsB t p ⟨#[45, 45, 62]⟩ = Lib.occAt t.data.toList [45, 45, 62] p := by
  rw [stands_occ t p ⟨#[45, 45, 62]⟩ (by decide)]
  unfold Lib.occAt
  rw [low_drop]
  exact prefix_low _ (fun x hx c => sign_low x ((show ∀ x ∈ ([45, 45, 62] : List UInt8), x = 60 ∨ x = 33 ∨ x = 45 ∨ x = 62 by decide) x hx) c) _

/-- The first place from k on at which a comment closes, or the end. -/
def findD (t : ByteArray) : Nat → Nat → Nat
  | 0, _ => t.size
  | n + 1, k => if k < t.size then (if Lib.occAt t.data.toList [45, 45, 62] k then k else findD t n (k + 1)) else t.size

theorem findD_le (t : ByteArray) : ∀ n k, findD t n k ≤ t.size
  | 0, _ => Nat.le_refl _
  | n + 1, k => by
    unfold findD
    split
    · split
      · omega
      · exact findD_le t n (k + 1)
    · exact Nat.le_refl _
theorem findD_ge (t : ByteArray) : ∀ n k, k ≤ t.size → k ≤ findD t n k
  | 0, _, h => h
  | n + 1, k, h => by
    unfold findD
    split
    · split
      · exact Nat.le_refl _
      · have := findD_ge t n (k + 1) (by omega)
        omega
    · exact h
theorem findD_hit (t : ByteArray) (k : Nat) (hk : k < t.size) (ho : Lib.occAt t.data.toList [45, 45, 62] k = true) : findD t (t.size - k) k = k := by
  obtain ⟨n, hn⟩ : ∃ n, t.size - k = n + 1 := ⟨t.size - k - 1, by omega⟩
  rw [hn]
  simp [findD, hk, ho]
theorem findD_miss (t : ByteArray) (k : Nat) (hk : k < t.size) (ho : Lib.occAt t.data.toList [45, 45, 62] k = false) : findD t (t.size - k) k = findD t (t.size - (k + 1)) (k + 1) := by
  obtain ⟨n, hn⟩ : ∃ n, t.size - k = n + 1 := ⟨t.size - k - 1, by omega⟩
  rw [hn, show t.size - (k + 1) = n by omega]
  simp [findD, hk, ho]
theorem findD_occ (t : ByteArray) : ∀ n k, findD t n k < t.size → Lib.occAt t.data.toList [45, 45, 62] (findD t n k) = true
  | 0, _, h => absurd h (Nat.lt_irrefl _)
  | n + 1, k, h => by
    unfold findD at h ⊢
    by_cases hk : k < t.size
    · rw [if_pos hk] at h ⊢
      by_cases ho : Lib.occAt t.data.toList [45, 45, 62] k = true
      · rw [if_pos ho]; exact ho
      · rw [if_neg ho] at h ⊢
        exact findD_occ t n (k + 1) h
    · rw [if_neg hk] at h
      exact absurd h (Nat.lt_irrefl _)
theorem findD_index (t : ByteArray) : ∀ n k, t.size - k = n → k ≤ t.size →
    Lib.index (t.data.toList.drop k) [45, 45, 62] = if findD t n k < t.size then ((findD t n k - k : Nat) : Int) else -1 := by
  intro n
  induction n with
  | zero =>
    intro k hn hk
    rw [List.drop_eq_nil_of_le (by simp; omega)]
    simp [findD, Lib.index]
  | succ n ih =>
    intro k hn hk
    have hks : k < t.size := by omega
    by_cases ho : Lib.occAt t.data.toList [45, 45, 62] k = true
    · have e : findD t (n + 1) k = k := by rw [← hn]; exact findD_hit t k hks ho
      rw [e, if_pos hks]
      have : Lib.occAt (t.data.toList.drop k) [45, 45, 62] 0 = true := by
        unfold Lib.occAt at ho ⊢
        simpa using ho
      rw [Lib.index_hit (Lib.NoOcc.zero _ _) (Nat.zero_le _) this]
      simp
    · have ho' : Lib.occAt t.data.toList [45, 45, 62] k = false := by simpa using ho
      have e : findD t (n + 1) k = findD t n (k + 1) := by
        have := findD_miss t k hks ho'
        rw [hn, show t.size - (k + 1) = n by omega] at this
        exact this
      have h0 : Lib.occAt (t.data.toList.drop k) [45, 45, 62] 0 = false := by
        unfold Lib.occAt at ho' ⊢
        simpa using ho'
      have h1 := Lib.index_drop (i := 1) ((Lib.NoOcc.zero _ _).succ h0) (by simp; omega)
      rw [h1, List.drop_drop, ih (k + 1) (by omega) (by omega), e]
      have hg := findD_ge t n (k + 1) (by omega)
      by_cases hf : findD t n (k + 1) < t.size
      · simp only [hf, if_true]
        rw [if_neg (by simp)]
        omega
      · simp [hf]
theorem endC_find (t : ByteArray) (p : Nat) (hp : p + 2 ≤ t.size) : endC t p = if findD t (t.size - (p + 2)) (p + 2) < t.size then findD t (t.size - (p + 2)) (p + 2) + 2 else t.size := by
  have h := findD_index t _ (p + 2) rfl hp
  have hg := findD_ge t (t.size - (p + 2)) (p + 2) hp
  unfold endC
  rw [h]
  by_cases hf : findD t (t.size - (p + 2)) (p + 2) < t.size
  · simp only [hf, if_true]
    rw [if_neg (by omega)]
    omega
  · simp [hf]
theorem findD_next (t : ByteArray) (x j : Nat) (hx : x < j) (hj : j ≤ t.size) (h : findD t (t.size - x) x = j) : Lib.occAt t.data.toList [45, 45, 62] x = false ∧ findD t (t.size - (x + 1)) (x + 1) = j := by
  cases ho : Lib.occAt t.data.toList [45, 45, 62] x with
  | true =>
    have := findD_hit t x (by omega) ho
    omega
  | false => exact ⟨rfl, by rw [← findD_miss t x (by omega) ho]; exact h⟩
theorem findD_fix (t : ByteArray) (x : Nat) (hx : x < t.size) (h : findD t (t.size - x) x = x) : Lib.occAt t.data.toList [45, 45, 62] x = true := by
  have := findD_occ t (t.size - x) x (by rw [h]; exact hx)
  rw [h] at this
  exact this

theorem prescan_out (t : ByteArray) (f p : Nat) (h : t.size ≤ p) : prescanL t f p = (⟨#[]⟩, false) := by
  cases f with
  | zero => rfl
  | succ f => simp [prescanL, show ¬ p < t.size by omega]

/-- Does a meta element begin there? -/
theorem metaL_eq (t : ByteArray) (p : Nat) (hp : p ≤ t.size) : metaL (t.data.toList.drop p) = (standsB t p ⟨#[60, 109, 101, 116, 97]⟩ && (match t.data.toList[p + 5]? with | some c => inSet [9, 10, 12, 13, 32, 47] c | none => false)) := by
  rw [stands_occ t p ⟨#[60, 109, 101, 116, 97]⟩ (by decide)]
  unfold metaL
  rw [List.getElem?_drop]
  have hl : (low t.data.toList).length = t.size := by rw [low_length]; simp
  by_cases h : p + 5 ≤ t.size
  · have e := Lib.occAt_iff_take (low t.data.toList) [60, 109, 101, 116, 97] p (by rw [hl]; exact h)
    show (low ((t.data.toList.drop p).take 5) == [60, 109, 101, 116, 97] && _) = (Lib.occAt (low t.data.toList) [60, 109, 101, 116, 97] p && _)
    rw [e, low_drop]
    congr 1
    show (low ((t.data.toList.drop p).take 5) == _) = ((low (t.data.toList.drop p)).take 5 == _)
    unfold low
    rw [List.map_take]
  · have : t.data.toList[p + 5]? = none := List.getElem?_eq_none (by simp; omega)
    rw [this]
    simp
theorem tells_name {st : MSt} (h : tellsB st = true) : st.name.toList.isEmpty = false := by
  unfold tellsB at h
  have h1 : (trimX st.name).toList.isEmpty = false := by
    cases hx : (trimX st.name).toList.isEmpty with
    | false => rfl
    | true => rw [hx] at h; simp at h
  have h2 := trimX_size st.name
  rw [Lib.toList_data] at h1 ⊢
  cases hn : st.name.data.toList with
  | cons => rfl
  | nil =>
    have e : st.name.data.toList.length = st.name.size := by simp
    rw [hn] at e
    have e2 : (trimX st.name).data.toList.length = (trimX st.name).size := by simp
    have : (trimX st.name).data.toList = [] := by
      rw [← List.length_eq_zero_iff]
      simp at e
      omega
    rw [this] at h1
    simp at h1
theorem pVal_sign {c : UInt8} (h : c = 60 ∨ c = 47) : pVal c = true := by
  rcases h with rfl | rfl <;> decide

def tagK (t : ByteArray) (p : Nat) (h : p + 1 < t.size) : Nat := if t[p + 1] == 47 then p + 2 else p + 1
theorem tagK_no (t : ByteArray) (p : Nat) (h : p + 1 < t.size) (hs : ((t[p + 1].toNat : Int) == 47) = false) : tagK t p h = p + 1 := by
  have e : (t[p + 1] == 47) = false := (byteJ t[p + 1] 47 (by decide)).symm.trans hs
  unfold tagK
  rw [e]
  rfl
theorem tagK_yes (t : ByteArray) (p : Nat) (h : p + 1 < t.size) (hs : ((t[p + 1].toNat : Int) == 47) = true) : tagK t p h = p + 2 := by
  have e : (t[p + 1] == 47) = true := (byteJ t[p + 1] 47 (by decide)).symm.trans hs
  unfold tagK
  rw [e]
  rfl
theorem tagL_at (t : ByteArray) (p : Nat) (h : p + 1 < t.size) (h60 : t[p] = 60) : tagL (t.data.toList.drop p) = (if hk : tagK t p h < t.size then letterB t[tagK t p h] else false) := by
  rw [drop_two t p h, h60]
  unfold tagK
  cases hc : (t[p + 1] == 47)
  · have hne : ¬ t[p + 1] = 47 := by simpa using hc
    simp only [Bool.false_eq_true, if_false]
    rw [dif_pos h]
    unfold tagL
    split
    · rename_i e
      injection e with _ e
      injection e with e _
      exact absurd e hne
    · rename_i e
      injection e with _ e
      injection e with e _
      rw [e]
    · rename_i e
      exact absurd rfl (e _ _)
  · have he : t[p + 1] = 47 := by simpa using hc
    simp only [if_true]
    rw [he]
    by_cases hk : p + 2 < t.size
    · rw [dif_pos hk, drop_one t (p + 2) hk]
      rfl
    · rw [dif_neg hk, List.drop_eq_nil_of_le (by simp; omega)]
      decide
theorem otherL_at (t : ByteArray) (p : Nat) (h : p + 1 < t.size) (h60 : t[p] = 60) : otherL (t.data.toList.drop p) = inSet [33, 47, 63] t[p + 1] := by
  rw [drop_two t p h, h60]
  rfl
theorem other_eq (c : UInt8) : inSet [33, 47, 63] c = ((((c.toNat : Int) == 33) || ((c.toNat : Int) == 47)) || ((c.toNat : Int) == 63)) :=
  ps_all (Q := fun c => inSet [33, 47, 63] c = ((((c.toNat : Int) == 33) || ((c.toNat : Int) == 47)) || ((c.toNat : Int) == 63))) (by decide +kernel) c
theorem tag_scan (t : ByteArray) (p : Nat) (h : p + 1 < t.size) (h60 : t[p] = 60) : scan pVal t.data.toList (tagK t p h) = scan pVal t.data.toList p := by
  have e1 : scan pVal t.data.toList p = scan pVal t.data.toList (p + 1) := scan_step pVal _ p (by simp; omega) (pVal_sign (Or.inl h60))
  unfold tagK
  split
  · rename_i hc
    have hc' : t[p + 1] = 47 := by simpa using hc
    rw [e1]
    exact (scan_step pVal _ (p + 1) (by simp; omega) (pVal_sign (Or.inr hc'))).symm
  · exact e1.symm
theorem slash_eq (c : UInt8) : inSet [9, 10, 12, 13, 32, 47] c = (blankB c || ((c.toNat : Int) == 47)) :=
  ps_all (Q := fun c => inSet [9, 10, 12, 13, 32, 47] c = (blankB c || ((c.toNat : Int) == 47))) (by decide +kernel) c
theorem gt_eq (c : UInt8) : (!inSet [62] c) = ((c.toNat : Int) != 62) :=
  ps_all (Q := fun c => (!inSet [62] c) = ((c.toNat : Int) != 62)) (by decide +kernel) c
def boolOf : Value → Nat
  | .bool true => 1
  | _ => 0
end Go.Proofs.YtddonipfpchabaaDoor

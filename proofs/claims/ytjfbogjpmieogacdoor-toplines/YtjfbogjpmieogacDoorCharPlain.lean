/-
  Plain: what the name behind the word charset is.
-/
import Derived.Test.YtjfbogjpmieogacDoorPlain2
import Derived.Test.YtjfbogjpmieogacDoorRefTrimP
import Derived.Lib.IndexLaws
import Derived.Lib.SlTrimSet
namespace Go.Proofs.YtjfbogjpmieogacDoor.Sn
open Go.RowKit

def wordC : List UInt8 := [99, 104, 97, 114, 115, 101, 116]
def pSemi (c : UInt8) : Bool := !inSet [9, 10, 12, 13, 32, 59] c

/-- The name from place k on; whether there is one. -/
def valC (s : ByteArray) (k : Nat) : ByteArray × Bool :=
  let p := scan pB s.data.toList k
  if h : p < s.size then
    if quoteB s[p] then
      let j := scan (fun x => x != s[p]) s.data.toList (p + 1)
      if j < s.size then (s.extract (p + 1) j, true) else (⟨#[]⟩, false)
    else (s.extract p (scan pSemi s.data.toList p), true)
  else (⟨#[]⟩, false)

/-- Does the word stand at place j, whatever the size of its letters? -/
def occC (s : ByteArray) (j : Nat) : Bool := Lib.occAt (low s.data.toList) wordC j

/-- The first place from k on at which the word stands, or the end. -/
def findC (s : ByteArray) : Nat → Nat → Nat
  | 0, _ => s.size
  | n + 1, k => if k < s.size then (if occC s k then k else findC s n (k + 1)) else s.size

/-- The name, looked for from place k on. -/
def charL (s : ByteArray) : Nat → Nat → ByteArray × Bool
  | 0, _ => (⟨#[]⟩, false)
  | n + 1, k =>
    let j := findC s (s.size - k) k
    if j < s.size then
      let p := scan pB s.data.toList (j + 7)
      if h : p < s.size then (if s[p] == 61 then valC s (p + 1) else charL s n p) else charL s n p
    else (⟨#[]⟩, false)

def charF (s : ByteArray) : ByteArray × Bool := charL s (s.size + 1) 0

theorem findC_le (s : ByteArray) : ∀ n k, findC s n k ≤ s.size
  | 0, _ => Nat.le_refl _
  | n + 1, k => by
    unfold findC
    split
    · split
      · omega
      · exact findC_le s n (k + 1)
    · exact Nat.le_refl _
theorem findC_ge (s : ByteArray) : ∀ n k, k ≤ s.size → k ≤ findC s n k
  | 0, _, h => h
  | n + 1, k, h => by
    unfold findC
    split
    · split
      · exact Nat.le_refl _
      · have := findC_ge s n (k + 1) (by omega)
        omega
    · exact h

theorem findC_hit (s : ByteArray) (k : Nat) (hk : k < s.size) (ho : occC s k = true) : findC s (s.size - k) k = k := by
  obtain ⟨n, hn⟩ : ∃ n, s.size - k = n + 1 := ⟨s.size - k - 1, by omega⟩
  rw [hn]
  simp [findC, hk, ho]
theorem findC_miss (s : ByteArray) (k : Nat) (hk : k < s.size) (ho : occC s k = false) : findC s (s.size - k) k = findC s (s.size - (k + 1)) (k + 1) := by
  obtain ⟨n, hn⟩ : ∃ n, s.size - k = n + 1 := ⟨s.size - k - 1, by omega⟩
  rw [hn, show s.size - (k + 1) = n by omega]
  simp [findC, hk, ho]

/-- Where it stands there is room for it. -/
theorem occC_room {s : ByteArray} {j : Nat} (h : occC s j = true) : j + 7 ≤ s.size := by
  rcases Lib.occAt_room h with h | h
  · have : (low s.data.toList).length = s.size := by rw [low_length]; simp
    have h7 : wordC.length = 7 := rfl
    omega
  · cases h

theorem findC_occ (s : ByteArray) : ∀ n k, findC s n k < s.size → occC s (findC s n k) = true
  | 0, _, h => absurd h (Nat.lt_irrefl _)
  | n + 1, k, h => by
    unfold findC at h ⊢
    by_cases hk : k < s.size
    · rw [if_pos hk] at h ⊢
      by_cases ho : occC s k = true
      · rw [if_pos ho]; exact ho
      · rw [if_neg ho] at h ⊢
        exact findC_occ s n (k + 1) h
    · rw [if_neg hk] at h
      exact absurd h (Nat.lt_irrefl _)

/-- What strings.Index answers over the rest. -/
theorem findC_index (s : ByteArray) : ∀ n k, s.size - k = n → k ≤ s.size →
    Lib.index ((low s.data.toList).drop k) wordC = if findC s n k < s.size then ((findC s n k - k : Nat) : Int) else -1 := by
  intro n
  induction n with
  | zero =>
    intro k hn hk
    have hl : (low s.data.toList).length = s.size := by rw [low_length]; simp
    rw [List.drop_eq_nil_of_le (by omega)]
    simp [findC, Lib.index, wordC]
  | succ n ih =>
    intro k hn hk
    have hks : k < s.size := by omega
    have hl : (low s.data.toList).length = s.size := by rw [low_length]; simp
    by_cases ho : occC s k = true
    · have e : findC s (n + 1) k = k := by rw [← hn]; exact findC_hit s k hks ho
      rw [e, if_pos hks]
      have : Lib.occAt ((low s.data.toList).drop k) wordC 0 = true := by
        unfold occC Lib.occAt at ho
        unfold Lib.occAt
        simpa using ho
      rw [Lib.index_hit (Lib.NoOcc.zero _ _) (Nat.zero_le _) this]
      simp
    · have ho' : occC s k = false := by simpa using ho
      have e : findC s (n + 1) k = findC s n (k + 1) := by
        have := findC_miss s k hks ho'
        rw [hn, show s.size - (k + 1) = n by omega] at this
        exact this
      have h0 : Lib.occAt ((low s.data.toList).drop k) wordC 0 = false := by
        unfold occC Lib.occAt at ho'
        unfold Lib.occAt
        simpa using ho'
      have h1 := Lib.index_drop (i := 1) ((Lib.NoOcc.zero _ _).succ h0) (by simp; omega)
      rw [h1, List.drop_drop, ih (k + 1) (by omega) (by omega), e]
      have hg := findC_ge s n (k + 1) (by omega)
      by_cases hf : findC s n (k + 1) < s.size
      · simp only [hf, if_true]
        rw [if_neg (by simp)]
        omega
      · simp [hf]

/-- The name at the beginning of a text without blanks there. -/
def valQ (q : ByteArray) : ByteArray × Bool :=
  if h : 0 < q.size then
    if quoteB q[0] then (if qIdx q h < 0 then (⟨#[]⟩, false) else (q.extract 1 (1 + (qIdx q h).toNat), true))
    else (q.extract 0 (scan pSemi q.data.toList 0), true)
  else (⟨#[]⟩, false)

theorem scan_drop (P : UInt8 → Bool) (l : List UInt8) (p k : Nat) : scan P (l.drop p) k + p = scan P l (p + k) := by
  unfold scan
  rw [List.drop_drop]
  omega

theorem trimLeft_scan (l : List UInt8) : Lib.trimLeftS l [9, 10, 12, 13, 32] = l.drop (scan pB l 0) := by
  unfold Lib.trimLeftS scan
  rw [List.drop_zero, Nat.zero_add]
  show List.dropWhile pB l = _
  induction l with
  | nil => rfl
  | cons c l ih =>
    rw [List.dropWhile_cons, List.takeWhile_cons]
    split
    · simp [ih]
    · simp

theorem extract_nested (s : ByteArray) (p a b : Nat) (h : p + b ≤ s.size) : (s.extract p s.size).extract a b = s.extract (p + a) (p + b) := by
  apply ByteArray.ext
  simp only [ByteArray.data_extract, Array.extract_extract]
  congr 1
  have : s.data.size = s.size := rfl
  omega

theorem valQ_eq (s : ByteArray) (p : Nat) (hp : p ≤ s.size) (hs : scan pB s.data.toList p = p) : valQ (s.extract p s.size) = valC s p := by
  unfold valC
  rw [hs]
  by_cases h : p < s.size
  · have hq0 : 0 < (s.extract p s.size).size := by simp; omega
    simp only [h, dif_pos]
    unfold valQ
    rw [dif_pos hq0, at_extract s p h hq0]
    cases hq : quoteB s[p]
    · simp only [Bool.false_eq_true, if_false]
      have hl := scan_le pSemi s.data.toList p (by simp; omega)
      have e := scan_drop pSemi s.data.toList p 0
      rw [Nat.add_zero] at e
      have hle : s.data.toList.length = s.size := by simp
      rw [Lib.extract_to_end, extract_nested s p 0 _ (by omega)]
      congr 2
      omega
    · simp only [if_true]
      rw [qIdx_scan s p h hq0]
      have hg := scan_ge (fun x => x != s[p]) s.data.toList (p + 1)
      by_cases hj : scan (fun x => x != s[p]) s.data.toList (p + 1) < s.size
      · simp only [hj, if_true]
        rw [if_neg (by omega), extract_nested s p 1 _ (by omega)]
        congr 2
        omega
      · simp [hj]
  · have hq0 : ¬ 0 < (s.extract p s.size).size := by simp; omega
    simp only [h, dif_neg, not_false_iff]
    unfold valQ
    rw [dif_neg hq0]
/-- The same, with blanks ahead passed over. -/
theorem valC_scan (s : ByteArray) (k : Nat) : valC s (scan pB s.data.toList k) = valC s k := by
  have e : scan pB s.data.toList (scan pB s.data.toList k) = scan pB s.data.toList k := by
    by_cases h : scan pB s.data.toList k < s.data.toList.length
    · exact scan_stop _ _ _ h (scan_at _ _ _ h)
    · exact scan_end _ _ _ (by omega)
  unfold valC
  rw [e]
end Go.Proofs.YtjfbogjpmieogacDoor.Sn

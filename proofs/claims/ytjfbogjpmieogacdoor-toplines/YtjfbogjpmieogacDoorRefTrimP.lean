/-
  The reference's Trim: what strings.Trim answers at the blanks.
-/
import Derived.Test.YtjfbogjpmieogacDoorRefLowP
import Derived.Lib.SlTrimSet
namespace Go.Proofs.YtjfbogjpmieogacDoor.Sn
open Go.RowKit

/-- A text without blanks at both its ends. -/
def trimX (s : ByteArray) : ByteArray := ⟨(Lib.trimS s.data.toList [9, 10, 12, 13, 32]).toArray⟩

theorem scan_before {P : UInt8 → Bool} {l : List UInt8} : ∀ (n k a : Nat), a - k = n → scan P l k = a → ∀ (j : Nat) b, k ≤ j → j < a → l[j]? = some b → P b = true := by
  intro n
  induction n with
  | zero =>
    intro k a hn _ j b hj hja _
    omega
  | succ n ih =>
    intro k a hn hs j b hj hja hb
    have hkl : k < l.length := by
      rcases Nat.lt_or_ge k l.length with h | h
      · exact h
      · have := scan_end P l k h
        omega
    cases hP : P l[k] with
    | false =>
      have := scan_stop P l k hkl hP
      omega
    | true =>
      by_cases e : j = k
      · subst e
        rw [List.getElem?_eq_getElem hkl] at hb
        obtain rfl := Option.some.inj hb
        exact hP
      · exact ih (k + 1) a (by omega) (by rw [← scan_step P l k hkl hP]; exact hs) j b (by omega) hja hb

theorem extract_list (s : ByteArray) (a b : Nat) : s.extract a b = ⟨((s.data.toList.take b).drop a).toArray⟩ := by
  apply ByteArray.ext
  apply Array.toList_inj.1
  simp only [ByteArray.data_extract, Array.toList_extract, List.drop_take]

theorem trim_of (s : ByteArray) (a m : Nat) (ha : scan (inSet [9, 10, 12, 13, 32]) s.data.toList 0 = a) (ham : a ≤ m) (hm : m ≤ s.size)
    (hall : ∀ (x : Nat) b, m ≤ x → s.data.toList[x]? = some b → inSet [9, 10, 12, 13, 32] b = true) (hend : a < m → ∀ b, s.data.toList[m - 1]? = some b → inSet [9, 10, 12, 13, 32] b = false) :
    s.extract a m = trimX s := by
  have hl : s.data.toList.length = s.size := by simp
  have hbefore := scan_before _ 0 a rfl ha
  unfold trimX
  rw [extract_list]
  congr 2
  unfold Lib.trimS
  by_cases hlt : a < m
  · rw [Lib.trimRightS_take s.data.toList _ m (by omega) hall (fun b _ => hend hlt b)]
    rw [Lib.trimLeftS_drop (s.data.toList.take m) _ a (by simp; omega)]
    · intro j b hj hb
      rw [List.getElem?_take, if_pos (by omega)] at hb
      exact hbefore j b (Nat.zero_le _) hj hb
    · intro b hb
      rw [List.getElem?_take, if_pos hlt] at hb
      obtain ⟨hal, e⟩ := List.getElem?_eq_some_iff.1 hb
      have := scan_at (inSet [9, 10, 12, 13, 32]) s.data.toList 0 (by rw [ha]; exact hal)
      simp only [ha] at this
      rw [← e]
      exact this
  · obtain rfl : a = m := by omega
    have h0 : Lib.trimRightS s.data.toList [9, 10, 12, 13, 32] = s.data.toList.take 0 :=
      Lib.trimRightS_take s.data.toList _ 0 (Nat.zero_le _) (fun j b _ hb => by
        by_cases hja : j < a
        · exact hbefore j b (Nat.zero_le _) hja hb
        · exact hall j b (by omega) hb) (fun b h => absurd h (Nat.lt_irrefl _))
    rw [h0]
    simp [Lib.trimLeftS]

theorem trimX_size (s : ByteArray) : (trimX s).size ≤ s.size := by
  unfold trimX Lib.trimS Lib.trimLeftS Lib.trimRightS
  have h1 := (List.dropWhile_suffix (l := (s.data.toList.reverse.dropWhile ([9, 10, 12, 13, 32].contains ·)).reverse) ([9, 10, 12, 13, 32].contains ·)).length_le
  have h2 := (List.dropWhile_suffix (l := s.data.toList.reverse) ([9, 10, 12, 13, 32].contains ·)).length_le
  simp only [List.length_reverse] at h1 h2
  have h3 : s.data.toList.length = s.size := by simp
  show (List.toArray _).size ≤ _
  simp only [List.size_toArray]
  omega

theorem rt_next {P : UInt8 → Bool} {s : ByteArray} {j p : Nat} (h : scan P s.data.toList j = p) (hlt : j < p) (hp : p ≤ s.size) : scan P s.data.toList (j + 1) = p ∧ P (s[j]'(by omega)) = true := by
  have hl : j < s.data.toList.length := by simp; omega
  cases hP : P (s.data.toList[j]) with
  | false =>
    have := scan_stop P s.data.toList j hl hP
    omega
  | true => exact ⟨by rw [← scan_step P s.data.toList j hl hP]; exact h, hP⟩
theorem rt_here {P : UInt8 → Bool} {s : ByteArray} {p : Nat} (h : scan P s.data.toList p = p) (hp : p < s.size) : P s[p] = false := by
  have hl : p < s.data.toList.length := by simp; exact hp
  cases hP : P (s.data.toList[p]) with
  | false => exact hP
  | true =>
    have h1 := scan_step P s.data.toList p hl hP
    have h2 := scan_ge P s.data.toList (p + 1)
    omega

theorem ret_str {a b : ByteArray} (h : a = b) : Ending.returned (.string a) = .returned (.string b) := by rw [h]

end Go.Proofs.YtjfbogjpmieogacDoor.Sn

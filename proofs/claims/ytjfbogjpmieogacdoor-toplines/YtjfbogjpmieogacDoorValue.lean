/-
  attributeValue: the value of an attribute.
-/
import Derived.Test.YtjfbogjpmieogacDoorPlain2
namespace Go.Proofs.YtjfbogjpmieogacDoor.Sn
open Go.RowKit

theorem passOver_to (s set : ByteArray) (a : Int) (r : Nat) (w : World) (hs : s.size ≤ maxLen) (h0 : 0 ≤ a) (h1 : a ≤ s.size) (hr : scan (inSet set.data.toList) s.data.toList a.toNat = r) :
    Calls Tryd.prog 63 #[.string s, .int .i64 a, .string set] w fun e w' => e = .returned (.int .i64 r) ∧ w = w' := by
  obtain ⟨k, rfl⟩ := Int.eq_ofNat_of_zero_le h0
  rw [← hr]
  exact (passOver_any s set k w hs (by omega)).mono fun e w' h => ⟨h.1, h.2.symm⟩
theorem upTo_to (s set : ByteArray) (a : Int) (r : Nat) (w : World) (hs : s.size ≤ maxLen) (h0 : 0 ≤ a) (h1 : a ≤ s.size) (hr : scan (fun c => !inSet set.data.toList c) s.data.toList a.toNat = r) :
    Calls Tryd.prog 28 #[.string s, .int .i64 a, .string set] w fun e w' => e = .returned (.int .i64 r) ∧ w = w' := by
  obtain ⟨k, rfl⟩ := Int.eq_ofNat_of_zero_le h0
  rw [← hr]
  exact (upTo_any s set k w hs (by omega)).mono fun e w' h => ⟨h.1, h.2.symm⟩

theorem ret3_int {a b : Int} {x y : Value} (h : a = b) : Ending.returned (.tuple #[x, .int .i64 a, y]) = .returned (.tuple #[x, .int .i64 b, y]) := by rw [h]

set_option maxHeartbeats 400000 in
theorem value_end (s : ByteArray) (k p : Nat) (w : World) (hs : s.size ≤ 140737488351232) (h1 : k ≤ s.size) (HP : Hid (scan pB s.data.toList k = p)) (hp : p = s.size) :
    Calls Tryd.prog 64 #[.string s, .int .i64 k] w fun e w' => e = .returned (.tuple #[.string ⟨#[]⟩, .int .i64 s.size, .bool false]) ∧ Below w.heap.size w w' := by
  have hm : s.size ≤ maxLen := by unfold maxLen; omega
  subst hp
  have hpe : ((s.size : Int) == (s.size : Int)) = true := by simp
  go_enter Tryd.func64, Tryd.ntmps64
  go_wp2_with fail
  refine (passOver_to _ _ _ s.size _ hm (by omega) (by omega) (by exact HP.out)).mono ?_
  rintro e w' ⟨rfl, rfl⟩
  go_wp2
  go_ret3
  exact ⟨rfl, Below.refl _ _⟩

set_option maxHeartbeats 400000 in
theorem value_quote_no (s : ByteArray) (k p : Nat) (w : World) (hs : s.size ≤ 140737488351232) (h1 : k ≤ s.size) (HP : Hid (scan pB s.data.toList k = p)) (hp : p < s.size) (hq : quoteB s[p] = true) (hj : ¬ scan (fun x => x != s[p]) s.data.toList (p + 1) < s.size) :
    Calls Tryd.prog 64 #[.string s, .int .i64 k] w fun e w' => e = .returned (.tuple #[.string ⟨#[]⟩, .int .i64 s.size, .bool false]) ∧ Below w.heap.size w w' := by
  have hm : s.size ≤ maxLen := by unfold maxLen; omega
  have hpe : ((p : Int) == (s.size : Int)) = false := by simp; omega
  have HZ : Hid (0 < (s.extract p s.size).size) := by show 0 < _; simp; omega
  have HQ : Hid (qIdx (s.extract p s.size) HZ.out < 0) := by
    show _ < _
    rw [qIdx_scan s p hp, if_neg hj]
    decide
  have HS : Hid ((s.extract p s.size).size ≤ maxLen) := by show _ ≤ _; simp; omega
  clear hj
  go_enter Tryd.func64, Tryd.ntmps64
  go_wp2_with fail
  refine (passOver_to _ _ _ p _ hm (by omega) (by omega) (by exact HP.out)).mono ?_
  rintro e w' ⟨rfl, rfl⟩
  go_wp2_with fail
  refine (isQuote_any s[p] _).mono ?_
  rintro e w' ⟨rfl, rfl⟩
  go_wp2_with fail
  refine (quoted_no _ _ HZ.out HS.out HQ.out).mono ?_
  rintro e w1 ⟨rfl, hb1⟩
  go_wp2
  go_ret3
  exact ⟨rfl, hb1⟩

set_option maxHeartbeats 400000 in
theorem value_quote_yes (s : ByteArray) (k p : Nat) (w : World) (hs : s.size ≤ 140737488351232) (h1 : k ≤ s.size) (HP : Hid (scan pB s.data.toList k = p)) (j : Nat) (hp : p < s.size) (hq : quoteB s[p] = true) (HJ : Hid (scan (fun x => x != s[p]) s.data.toList (p + 1) = j)) (hj0 : p + 1 ≤ j) (hj : j < s.size) :
    Calls Tryd.prog 64 #[.string s, .int .i64 k] w fun e w' => e = .returned (.tuple #[.string (lowS (s.extract (p + 1) j)), .int .i64 (j + 1 : Nat), .bool true]) ∧ Below w.heap.size w w' := by
  have hm : s.size ≤ maxLen := by unfold maxLen; omega
  have hpe : ((p : Int) == (s.size : Int)) = false := by simp; omega
  have HZ : Hid (0 < (s.extract p s.size).size) := by show 0 < _; simp; omega
  have HQ : Hid (qIdx (s.extract p s.size) HZ.out = ((j - (p + 1) : Nat) : Int)) := by
    show _ = _
    rw [qIdx_scan s p hp, HJ.out, if_pos hj]
  have HS : Hid ((s.extract p s.size).size ≤ maxLen) := by show _ ≤ _; simp; omega
  have HT : Hid (j - (p + 1) + 1 < (s.extract p s.size).size) := by show _ < _; simp; omega
  have HX : Hid ((s.extract p s.size).extract 1 (1 + (j - (p + 1))) = s.extract (p + 1) j) := by
    show _ = _
    rw [extract_twice s p _ (by omega)]
    congr 1
    omega
  go_enter Tryd.func64, Tryd.ntmps64
  go_wp2_with fail
  refine (passOver_to _ _ _ p _ hm (by omega) (by omega) (by exact HP.out)).mono ?_
  rintro e w' ⟨rfl, rfl⟩
  go_wp2_with fail
  refine (isQuote_any s[p] _).mono ?_
  rintro e w' ⟨rfl, rfl⟩
  go_wp2_with fail
  refine (quoted_yes _ _ _ HZ.out HS.out HQ.out HT.out).mono ?_
  rintro e w1 ⟨rfl, hb1⟩
  rw [HX.out]
  go_wp2_with fail
  refine (small_any _ _ (by unfold maxLen; simp; omega)).mono ?_
  rintro e w2 ⟨rfl, hb2⟩
  go_wp2
  go_ret3
  exact ⟨ret3_int (by omega), hb1.trans (hb2.mono hb1.size)⟩

set_option maxHeartbeats 400000 in
theorem value_plain_no (s : ByteArray) (k p : Nat) (w : World) (hs : s.size ≤ 140737488351232) (h1 : k ≤ s.size) (HP : Hid (scan pB s.data.toList k = p)) (hp : p < s.size) (hq : quoteB s[p] = false) (HE : Hid (scan pVal s.data.toList p = s.size)) :
    Calls Tryd.prog 64 #[.string s, .int .i64 k] w fun e w' => e = .returned (.tuple #[.string ⟨#[]⟩, .int .i64 s.size, .bool false]) ∧ Below w.heap.size w w' := by
  have hm : s.size ≤ maxLen := by unfold maxLen; omega
  have hpe : ((p : Int) == (s.size : Int)) = false := by simp; omega
  go_enter Tryd.func64, Tryd.ntmps64
  go_wp2_with fail
  refine (passOver_to _ _ _ p _ hm (by omega) (by omega) (by exact HP.out)).mono ?_
  rintro e w' ⟨rfl, rfl⟩
  go_wp2_with fail
  refine (isQuote_any s[p] _).mono ?_
  rintro e w' ⟨rfl, rfl⟩
  go_wp2_with fail
  refine (upTo_to _ _ _ s.size _ hm (by omega) (by omega) (by exact HE.out)).mono ?_
  rintro e w' ⟨rfl, rfl⟩
  have hee : ((s.size : Int) == (s.size : Int)) = true := by simp
  go_wp2
  go_ret3
  exact ⟨rfl, Below.refl _ _⟩

set_option maxHeartbeats 400000 in
theorem value_plain_yes (s : ByteArray) (k p : Nat) (w : World) (hs : s.size ≤ 140737488351232) (h1 : k ≤ s.size) (HP : Hid (scan pB s.data.toList k = p)) (j : Nat) (hp : p < s.size) (hq : quoteB s[p] = false) (HE : Hid (scan pVal s.data.toList p = j)) (hj0 : p ≤ j) (hj : j < s.size) :
    Calls Tryd.prog 64 #[.string s, .int .i64 k] w fun e w' => e = .returned (.tuple #[.string (lowS (s.extract p j)), .int .i64 j, .bool true]) ∧ Below w.heap.size w w' := by
  have hm : s.size ≤ maxLen := by unfold maxLen; omega
  have hpe : ((p : Int) == (s.size : Int)) = false := by simp; omega
  have hee : ((j : Int) == (s.size : Int)) = false := by simp; omega
  go_enter Tryd.func64, Tryd.ntmps64
  go_wp2_with fail
  refine (passOver_to _ _ _ p _ hm (by omega) (by omega) (by exact HP.out)).mono ?_
  rintro e w' ⟨rfl, rfl⟩
  go_wp2_with fail
  refine (isQuote_any s[p] _).mono ?_
  rintro e w' ⟨rfl, rfl⟩
  go_wp2_with fail
  refine (upTo_to _ _ _ j _ hm (by omega) (by omega) (by exact HE.out)).mono ?_
  rintro e w' ⟨rfl, rfl⟩
  go_wp2_with fail
  refine (small_any _ _ (by unfold maxLen; simp; omega)).mono ?_
  rintro e w2 ⟨rfl, hb2⟩
  go_wp2
  go_ret3
  exact ⟨rfl, hb2⟩

theorem value_any (s : ByteArray) (a : Int) (w : World) (hs : s.size ≤ 140737488351232) (h0 : 0 ≤ a) (h1 : a ≤ s.size) :
    Calls Tryd.prog 64 #[.string s, .int .i64 a] w fun e w' => e = .returned (.tuple #[.string (valF s a.toNat).1, .int .i64 (valF s a.toNat).2.1, .bool (valF s a.toNat).2.2]) ∧ Below w.heap.size w w' := by
  obtain ⟨k, rfl⟩ := Int.eq_ofNat_of_zero_le h0
  rw [Int.toNat_natCast]
  have hk : k ≤ s.size := by omega
  have hl : s.data.toList.length = s.size := by simp
  have hp1 := scan_le pB s.data.toList k (by omega)
  by_cases hp : scan pB s.data.toList k < s.size
  · cases hq : quoteB s[scan pB s.data.toList k]
    · have hj1 := scan_le pVal s.data.toList (scan pB s.data.toList k) (by omega)
      by_cases hj : scan pVal s.data.toList (scan pB s.data.toList k) < s.size
      · have e : valF s k = (lowS (s.extract (scan pB s.data.toList k) (scan pVal s.data.toList (scan pB s.data.toList k))), scan pVal s.data.toList (scan pB s.data.toList k), true) := by
          simp [valF, hp, hq, hj]
        rw [e]
        exact value_plain_yes s k _ w hs hk rfl _ hp hq rfl (scan_ge _ _ _) hj
      · have e : valF s k = (⟨#[]⟩, s.size, false) := by simp [valF, hp, hq, hj]
        rw [e]
        exact value_plain_no s k _ w hs hk rfl hp hq (by show _ = _; omega)
    · by_cases hj : scan (fun x => x != s[scan pB s.data.toList k]) s.data.toList (scan pB s.data.toList k + 1) < s.size
      · have e : valF s k = (lowS (s.extract (scan pB s.data.toList k + 1) (scan (fun x => x != s[scan pB s.data.toList k]) s.data.toList (scan pB s.data.toList k + 1))), scan (fun x => x != s[scan pB s.data.toList k]) s.data.toList (scan pB s.data.toList k + 1) + 1, true) := by
          simp [valF, hp, hq, hj]
        rw [e]
        exact value_quote_yes s k _ w hs hk rfl _ hp hq rfl (scan_ge _ _ _) hj
      · have e : valF s k = (⟨#[]⟩, s.size, false) := by simp [valF, hp, hq, hj]
        rw [e]
        exact value_quote_no s k _ w hs hk rfl hp hq hj
  · have e : valF s k = (⟨#[]⟩, s.size, false) := by simp [valF, hp]
    rw [e]
    exact value_end s k _ w hs hk rfl (by omega)

/-- Where a value ends, and how long it is. -/
theorem valF_le (s : ByteArray) (k : Nat) : (valF s k).2.1 ≤ s.size := by
  unfold valF
  dsimp only
  split
  · split
    · split
      · assumption
      · exact Nat.le_refl _
    · split
      · exact Nat.le_of_lt ‹_›
      · exact Nat.le_refl _
  · exact Nat.le_refl _
theorem valF_ge (s : ByteArray) (k : Nat) (hk : k ≤ s.size) : k ≤ (valF s k).2.1 := by
  have h1 := scan_ge pB s.data.toList k
  unfold valF
  dsimp only
  split
  · split
    · split
      · have := scan_ge (fun x => x != s[scan pB s.data.toList k]) s.data.toList (scan pB s.data.toList k + 1)
        show k ≤ _ + 1
        omega
      · exact hk
    · split
      · have := scan_ge pVal s.data.toList (scan pB s.data.toList k)
        show k ≤ scan pVal _ _
        omega
      · exact hk
  · exact hk
end Go.Proofs.YtjfbogjpmieogacDoor.Sn

/-
  Any text in quotes, and what stands in quotes ahead in any text: the law's walk.
-/
import Derived.Test.YtpmjmkabchflpabDqRef
namespace Go.Proofs.Ytpmjmkabchflpab
open Go.RowKit Go.Maps

theorem unq_suffix : ∀ (n : Nat) (l acc x r : List UInt8), l.length ≤ n → unq acc l = some (x, r) → ∃ k, k ≤ l.length ∧ r = l.drop k := by
  intro n
  induction n with
  | zero =>
    intro l acc x r hl h
    obtain rfl : l = [] := List.length_eq_zero_iff.1 (by omega)
    simp [unq] at h
  | succ n ih =>
    intro l acc x r hl h
    match l, hl, h with
    | [], _, h => simp [unq] at h
    | c :: l, hl, h =>
      by_cases h34 : c = 34
      · subst h34
        rw [unq_end] at h
        injection h with h
        injection h with _ h
        exact ⟨1, by simp, by simp [h]⟩
      · by_cases h10 : c = 10
        · subst h10
          rw [unq_line] at h
          cases h
        · by_cases h92 : c = 92
          · subst h92
            match l, hl, h with
            | [], _, h => rw [unq_last] at h; cases h
            | d :: l, hl, h =>
              cases hs : signB d
              · rw [unq_bad _ _ _ hs] at h
                cases h
              · rw [unq_sign _ _ _ hs] at h
                obtain ⟨k, hk, e⟩ := ih l _ x r (by simp at hl; omega) h
                exact ⟨k + 2, by simp; omega, by simpa using e⟩
          · rw [unq_plain _ _ _ h34 h10 h92] at h
            obtain ⟨k, hk, e⟩ := ih l _ x r (by simp at hl; omega) h
            exact ⟨k + 1, by simp; omega, by simpa using e⟩

theorem unquote_suffix (l x r : List UInt8) (h : unquoteL l = some (x, r)) : ∃ k, k ≤ l.length ∧ r = l.drop k := by
  match l, h with
  | [], h => cases h
  | c :: l, h =>
    by_cases hc : c = 34
    · have h2 : unq [] l = some (x, r) := by
        have : unquoteL (c :: l) = unq [] l := by
          show (if c = 34 then _ else _) = _
          rw [if_pos hc]
        rw [← this]; exact h
      obtain ⟨k, hk, e⟩ := unq_suffix _ l [] x r (Nat.le_refl _) h2
      exact ⟨k + 1, by simp; omega, by simpa using e⟩
    · have : unquoteL (c :: l) = none := by
        show (if c = 34 then _ else _) = _
        rw [if_neg hc]
      rw [this] at h
      cases h

theorem back_self (s : ByteArray) : (⟨s.data.toList.toArray⟩ : ByteArray) = s := by
  apply ByteArray.ext
  simp
theorem drop_extract (s : ByteArray) (k : Nat) : (⟨(s.data.toList.drop k).toArray⟩ : ByteArray) = s.extract k s.size := by
  apply ByteArray.ext
  apply Array.ext'
  rw [ByteArray.data_extract, Array.toList_extract, List.extract_eq_take_drop, List.take_of_length_le (by simp)]

def qBytes (s : ByteArray) : ByteArray := ⟨(quoteB s.data.toList).toArray⟩
theorem qBytes_size (s : ByteArray) : (qBytes s).size ≤ 2 * s.size + 2 := by
  show (quoteB s.data.toList).toArray.size ≤ _
  have h := quoteP_len s.data.toList
  have hL : s.data.toList.length = s.size := by simp
  simp only [quoteB, List.size_toArray, List.length_append, List.length_cons, List.length_nil]
  omega
theorem qBytes_back (s more : ByteArray) : unquoteL (qBytes s ++ more).data.toList = some (s.data.toList, more.data.toList) := by
  have e : (qBytes s ++ more).data.toList = quoteB s.data.toList ++ more.data.toList := by
    rw [ByteArray.data_append, Array.toList_append]
    rfl
  rw [e]
  exact unquote_quote _ _
theorem quote_first : qBytes ⟨#[97, 34, 10]⟩ = ⟨#[34, 97, 92, 34, 92, 110, 34]⟩ := by rfl

set_option maxRecDepth 100000 in
set_option maxHeartbeats 4000000 in
theorem quotes_law (s more : ByteArray) (w : World) (hs : s.size ≤ 1048576) (hm : more.size ≤ 1048576) :
    Calls Try.prog 3 #[.string s, .string more] w fun e w' => e = .returned (.bool true) ∧ Below w.heap.size w w' := by
  have HQ0 : Hid (∀ w, Calls Try.prog 4 #[.string ⟨#[97, 34, 10]⟩] w fun e w' => e = .returned (.string ⟨#[34, 97, 92, 34, 92, 110, 34]⟩) ∧ Below w.heap.size w w') := fun w => quote_any ⟨#[97, 34, 10]⟩ w (by decide)
  have HQ : Hid (∀ w, Calls Try.prog 4 #[.string s] w fun e w' => e = .returned (.string (qBytes s)) ∧ Below w.heap.size w w') := fun w => quote_any s w (by omega)
  have HR : Hid (∀ w, Calls Try.prog 6 #[.string s] w fun e w' => e = .returned (.string (qBytes s)) ∧ Below w.heap.size w w') := fun w => refQuote_any s w (by omega)
  have hqs := qBytes_size s
  have hsz : (qBytes s ++ more).size = (qBytes s).size + more.size := by simp
  have HU : Hid (∀ w, Calls Try.prog 5 #[.string (qBytes s ++ more)] w fun e w' => e = .returned (.tuple #[.string s, .string more, .bool true]) ∧ Below w.heap.size w w') := fun w => (unquote_any (qBytes s ++ more) w (by omega)).mono fun e w' ⟨he, hb⟩ => ⟨by rw [he, qBytes_back]; simp only [unqV, back_self], hb⟩
  have HM : Hid (∀ w, _) := fun w => unquote_any more w (by omega)
  have HN : Hid (∀ w, Calls Try.prog 7 #[.string more, .int .i64 0] w _) := fun w => refUnquote_at more 0 rfl w (by omega)
  clear hsz
  generalize qBytes s = q at *
  cases hu : unquoteL more.data.toList with
  | none =>
    rw [hu] at HM HN
    clear hu
    go_enter Try.func3, Try.ntmps3
    go_wp2_with fail
    refine Calls.mono (HQ0.out _) ?_
    rintro e w1 ⟨rfl, hb1⟩
    have HB1 : Hid _ := hb1
    clear hb1
    go_wp2_with fail
    refine Calls.mono (HQ.out _) ?_
    rintro e w2 ⟨rfl, hb2⟩
    have HB2 : Hid (Below w.heap.size w w2) := HB1.out.trans (hb2.mono HB1.out.size)
    clear hb2 HB1
    go_wp2_with fail
    refine Calls.mono (HU.out _) ?_
    rintro e w3 ⟨rfl, hb3⟩
    have HB3 : Hid (Below w.heap.size w w3) := HB2.out.trans (hb3.mono HB2.out.size)
    clear hb3 HB2
    go_wp2_with fail
    refine Calls.mono (HR.out _) ?_
    rintro e w4 ⟨rfl, hb4⟩
    have HB4 : Hid (Below w.heap.size w w4) := HB3.out.trans (hb4.mono HB3.out.size)
    clear hb4 HB3
    go_wp2_with fail
    refine Calls.mono (HM.out _) ?_
    rintro e w5 ⟨rfl, hb5⟩
    have HB5 : Hid (Below w.heap.size w w5) := HB4.out.trans (hb5.mono HB4.out.size)
    clear hb5 HB4
    unfold unqV
    go_wp2_with fail
    refine Calls.mono (HN.out _) ?_
    rintro e w6 ⟨rfl, hb6⟩
    have HB6 : Hid (Below w.heap.size w w6) := HB5.out.trans (hb6.mono HB5.out.size)
    clear hb6 HB5
    unfold refV
    go_wp2
    go_ret
    exact ⟨rfl, HB6.out⟩
  | some z =>
    obtain ⟨x, r⟩ := z
    obtain ⟨k, hk, rfl⟩ := unquote_suffix _ _ _ hu
    have hL : more.data.toList.length = more.size := by simp
    have e1 : unqV (some (x, more.data.toList.drop k)) = .tuple #[.string ⟨x.toArray⟩, .string (more.extract k more.size), .bool true] := by
      simp only [unqV, drop_extract]
    have e2 : refV more.size (some (x, more.data.toList.drop k)) = .tuple #[.string ⟨x.toArray⟩, .int .i64 (k : Int)] := by
      have e : (more.size : Int) - ((more.data.toList.drop k).length : Int) = (k : Int) := by
        rw [List.length_drop, hL]
        omega
      simp only [refV, e]
    rw [hu, e1] at HM
    rw [hu, e2] at HN
    have hkI : (k : Int) ≤ (more.size : Int) := by omega
    have hk0 : (0 : Int) ≤ (k : Int) := by omega
    clear hu e1 e2 hL
    generalize (⟨x.toArray⟩ : ByteArray) = xb at *
    go_enter Try.func3, Try.ntmps3
    go_wp2_with fail
    refine Calls.mono (HQ0.out _) ?_
    rintro e w1 ⟨rfl, hb1⟩
    have HB1 : Hid _ := hb1
    clear hb1
    go_wp2_with fail
    refine Calls.mono (HQ.out _) ?_
    rintro e w2 ⟨rfl, hb2⟩
    have HB2 : Hid (Below w.heap.size w w2) := HB1.out.trans (hb2.mono HB1.out.size)
    clear hb2 HB1
    go_wp2_with fail
    refine Calls.mono (HU.out _) ?_
    rintro e w3 ⟨rfl, hb3⟩
    have HB3 : Hid (Below w.heap.size w w3) := HB2.out.trans (hb3.mono HB2.out.size)
    clear hb3 HB2
    go_wp2_with fail
    refine Calls.mono (HR.out _) ?_
    rintro e w4 ⟨rfl, hb4⟩
    have HB4 : Hid (Below w.heap.size w w4) := HB3.out.trans (hb4.mono HB3.out.size)
    clear hb4 HB3
    go_wp2_with fail
    refine Calls.mono (HM.out _) ?_
    rintro e w5 ⟨rfl, hb5⟩
    have HB5 : Hid (Below w.heap.size w w5) := HB4.out.trans (hb5.mono HB4.out.size)
    clear hb5 HB4
    go_wp2_with fail
    refine Calls.mono (HN.out _) ?_
    rintro e w6 ⟨rfl, hb6⟩
    have HB6 : Hid (Below w.heap.size w w6) := HB5.out.trans (hb6.mono HB5.out.size)
    clear hb6 HB5
    go_wp2
    go_ret
    exact ⟨rfl, HB6.out⟩
end Go.Proofs.Ytpmjmkabchflpab

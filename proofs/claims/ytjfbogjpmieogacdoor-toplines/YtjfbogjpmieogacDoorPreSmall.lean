/-
  The small functions by which Prescan tells what stands at a place.
-/
import Derived.Test.YtjfbogjpmieogacDoorCharset
import Derived.Lib.IndexBytes
namespace Go.Proofs.YtjfbogjpmieogacDoor.Sn
open Go.RowKit

def letterB (c : UInt8) : Bool := (decide (65 ≤ c) && decide (c ≤ 90)) || (decide (97 ≤ c) && decide (c ≤ 122))
def metaL (l : List UInt8) : Bool := (low (l.take 5) == [60, 109, 101, 116, 97]) && (match l[5]? with | some c => inSet [9, 10, 12, 13, 32, 47] c | none => false)
def tagL : List UInt8 → Bool
  | 60 :: 47 :: c :: _ => letterB c
  | 60 :: c :: _ => letterB c
  | _ => false
def otherL : List UInt8 → Bool
  | 60 :: c :: _ => inSet [33, 47, 63] c
  | _ => false

theorem ps_all {Q : UInt8 → Prop} (h : ∀ n : Fin 256, Q (UInt8.ofNat n.val)) (c : UInt8) : Q c := by
  have := h ⟨c.toNat, c.toNat_lt⟩
  simpa using this

theorem letter_eq (c : UInt8) : letterB c = ((decide ((65 : Int) ≤ (c.toNat : Int)) && decide ((c.toNat : Int) ≤ 90)) || (decide ((97 : Int) ≤ (c.toNat : Int)) && decide ((c.toNat : Int) ≤ 122))) :=
  ps_all (Q := fun c => letterB c = ((decide ((65 : Int) ≤ (c.toNat : Int)) && decide ((c.toNat : Int) ≤ 90)) || (decide ((97 : Int) ≤ (c.toNat : Int)) && decide ((c.toNat : Int) ≤ 122)))) (by decide +kernel) c

set_option maxHeartbeats 400000 in
theorem isLetter_any (c : UInt8) (w : World) :
    Calls Tryd.prog 48 #[.int .u8 (c.toNat : Int)] w fun e w' => e = .returned (.bool (letterB c)) ∧ w = w' := by
  have h := letter_eq c
  rw [h]
  clear h
  go_enter Tryd.func48, Tryd.ntmps48
  go_wp2
  all_goals go_ret
  all_goals exact ⟨by first | (simp [*]; done) | (simp [*]; omega), rfl⟩

theorem ret_bool {a b : Bool} (h : a = b) : Ending.returned (.bool a) = .returned (.bool b) := by rw [h]
theorem dec_mem (l : List UInt8) (c : UInt8) : decide (0 ≤ Lib.indexByte l c) = inSet l c := by
  rw [Bool.eq_iff_iff, decide_eq_true_iff]
  exact mem_index l c

theorem at_get (r : ByteArray) (i : Nat) (h : i < r.size) : r.data.toList[i]? = some r[i] := Lib.data_getElem? r i h

set_option maxRecDepth 100000 in
set_option maxHeartbeats 1000000 in
theorem beginsMeta_any (r : ByteArray) (w : World) (hs : r.size ≤ maxLen) :
    Calls Tryd.prog 23 #[.string r] w fun e w' => e = .returned (.bool (metaL r.data.toList)) ∧ Below w.heap.size w w' := by
  unfold maxLen at hs
  generalize hV : metaL r.data.toList = V
  have HV : Hid (metaL r.data.toList = V) := hV
  clear hV
  by_cases h5 : 5 < r.size
  · have h5' : (5 : Int) < (r.size : Int) := by omega
    obtain ⟨y, hyd⟩ : ∃ y, lowS (r.extract 0 5) = y := ⟨_, rfl⟩
    have HY : Hid (lowS (r.extract 0 5) = y) := hyd
    have HYL : Hid (y.toList = low (r.data.toList.take 5)) := by
      show _ = _
      rw [← hyd, Lib.toList_data]
      show low (r.extract 0 5).data.toList = _
      rw [extract_list, List.drop_zero]
    clear hyd
    have hg := at_get r 5 h5
    have HG : Hid (r.data.toList[5]? = some r[5]) := hg
    clear hg
    cases g : (y.toList == [60, 109, 101, 116, 97])
    · have HE : Hid (V = false) := by
        show _ = _
        rw [← HV.out]
        unfold metaL
        rw [← HYL.out, g]
        rfl
      go_enter Tryd.func23, Tryd.ntmps23
      go_wp2_with fail
      refine (small_any _ _ (by unfold maxLen; simp; omega)).mono ?_
      rintro e w1 ⟨rfl, hb1⟩
      rw [HY.out]
      go_wp2
      go_ret
      rw [HE.out]
      exact ⟨rfl, hb1⟩
    · have HE : Hid (V = inSet [9, 10, 12, 13, 32, 47] r[5]) := by
        show _ = _
        rw [← HV.out]
        unfold metaL
        rw [← HYL.out, g, HG.out]
        rfl
      go_enter Tryd.func23, Tryd.ntmps23
      go_wp2_with fail
      refine (small_any _ _ (by unfold maxLen; simp; omega)).mono ?_
      rintro e w1 ⟨rfl, hb1⟩
      rw [HY.out]
      go_wp2_with (go_at_call 43; refine (Tryd.strings_IndexByte _ _ _).mono ?_; rintro e w' ⟨rfl, rfl⟩)
      go_ret
      rw [HE.out]
      exact ⟨ret_bool (dec_mem _ _), hb1⟩
  · have h5' : ¬ (5 : Int) < (r.size : Int) := by omega
    have HE : Hid (V = false) := by
      show _ = _
      rw [← HV.out]
      unfold metaL
      rw [List.getElem?_eq_none (by simp; omega)]
      simp
    go_enter Tryd.func23, Tryd.ntmps23
    go_wp2
    go_ret
    rw [HE.out]
    exact ⟨rfl, Below.refl _ _⟩

theorem byteJ (c : UInt8) (n : Nat) (hn : n < 256) : ((c.toNat : Int) == (n : Int)) = (c == UInt8.ofNat n) := by
  rw [Bool.eq_iff_iff]
  simp only [beq_iff_eq]
  constructor
  · intro h
    have : c.toNat = n := by omega
    rw [← this]
    simp
  · intro h
    rw [h]
    simp
    omega

theorem list_two (r : ByteArray) (h : 1 < r.size) : ∃ l, r.data.toList = r[0] :: r[1] :: l := by
  have h0 := at_get r 0 (by omega)
  have h1 := at_get r 1 h
  match hl : r.data.toList with
  | [] => rw [hl] at h0; simp at h0
  | [a] => rw [hl] at h1; simp at h1
  | a :: b :: l =>
    rw [hl] at h0 h1
    simp at h0 h1
    exact ⟨l, by rw [h0, h1]⟩

set_option maxRecDepth 100000 in
set_option maxHeartbeats 1000000 in
theorem beginsOther_any (r : ByteArray) (w : World) (hs : r.size ≤ maxLen) :
    Calls Tryd.prog 29 #[.string r] w fun e w' => e = .returned (.bool (otherL r.data.toList)) ∧ w = w' := by
  unfold maxLen at hs
  generalize hV : otherL r.data.toList = V
  have HV : Hid (otherL r.data.toList = V) := hV
  clear hV
  by_cases h1 : 1 < r.size
  · have h1' : (1 : Int) < (r.size : Int) := by omega
    obtain ⟨l, hl⟩ := list_two r h1
    have HL : Hid (r.data.toList = r[0] :: r[1] :: l) := hl
    clear hl
    cases g : ((r[0].toNat : Int) == 60)
    · have HE : Hid (V = false) := by
        show _ = _
        rw [← HV.out, HL.out]
        have : ¬ r[0] = 60 := by simpa using (byteJ r[0] 60 (by decide)).symm.trans g
        unfold otherL
        split
        · rename_i h
          injection h with h _
          exact absurd h this
        · rfl
      go_enter Tryd.func29, Tryd.ntmps29
      go_wp2
      go_ret
      rw [HE.out]
      exact ⟨rfl, rfl⟩
    · have HE : Hid (V = inSet [33, 47, 63] r[1]) := by
        show _ = _
        rw [← HV.out, HL.out]
        have : r[0] = 60 := by simpa using (byteJ r[0] 60 (by decide)).symm.trans g
        rw [this]
        rfl
      go_enter Tryd.func29, Tryd.ntmps29
      go_wp2_with (go_at_call 43; refine (Tryd.strings_IndexByte _ _ _).mono ?_; rintro e w' ⟨rfl, rfl⟩)
      go_ret
      rw [HE.out]
      exact ⟨ret_bool (dec_mem _ _), rfl⟩
  · have h1' : ¬ (1 : Int) < (r.size : Int) := by omega
    have HE : Hid (V = false) := by
      show _ = _
      rw [← HV.out]
      have hl : r.data.toList.length ≤ 1 := by simp; omega
      match hm : r.data.toList with
      | [] => rfl
      | [a] => unfold otherL; split <;> simp_all
      | a :: b :: l => rw [hm] at hl; simp at hl
    go_enter Tryd.func29, Tryd.ntmps29
    go_wp2
    go_ret
    rw [HE.out]
    exact ⟨rfl, rfl⟩

/-- The text behind a sign and perhaps a solidus. -/
def nameL (l : List UInt8) : List UInt8 := Lib.trimPrefix (Lib.trimPrefix l [60]) [47]

theorem tagL_eq (l : List UInt8) : tagL l = (Lib.hasPrefix l [60] && (match nameL l with | c :: _ => letterB c | [] => false)) := by
  match l with
  | [] => rfl
  | [a] =>
    by_cases h : a = 60
    · subst h; rfl
    · have : Lib.hasPrefix [a] [60] = false := by simp [Lib.hasPrefix, List.isPrefixOf]; exact fun e => h e.symm
      rw [this]
      unfold tagL
      split <;> simp_all
  | a :: b :: r =>
    by_cases h : a = 60
    · subst h
      have h1 : Lib.hasPrefix (60 :: b :: r) [60] = true := by simp [Lib.hasPrefix, List.isPrefixOf]
      have h2 : Lib.trimPrefix (60 :: b :: r) [60] = b :: r := by simp [Lib.trimPrefix, h1]
      rw [h1]
      unfold nameL
      rw [h2]
      by_cases hb : b = 47
      · subst hb
        have h3 : Lib.trimPrefix (47 :: r) [47] = r := by simp [Lib.trimPrefix, Lib.hasPrefix, List.isPrefixOf]
        rw [h3]
        match r with
        | [] => decide
        | c :: r => rfl
      · have h3 : Lib.trimPrefix (b :: r) [47] = b :: r := by
          have : Lib.hasPrefix (b :: r) [47] = false := by simp [Lib.hasPrefix, List.isPrefixOf]; exact fun e => hb e.symm
          simp [Lib.trimPrefix, this]
        rw [h3]
        unfold tagL
        split
        · simp_all
        · simp_all
        · simp_all
    · have : Lib.hasPrefix (a :: b :: r) [60] = false := by simp [Lib.hasPrefix, List.isPrefixOf]; exact fun e => h e.symm
      rw [this]
      unfold tagL
      split <;> simp_all

theorem trimPrefix_to (s p n : ByteArray) (w : World) (h : (⟨(Lib.trimPrefix s.data.toList p.data.toList).toArray⟩ : ByteArray) = n) :
    Calls Tryd.prog 47 #[.string s, .string p] w fun e w' => e = .returned (.string n) ∧ w = w' := by
  rw [← h]
  exact (Tryd.strings_TrimPrefix s p w).mono fun e w' h => ⟨h.1, h.2.symm⟩

set_option maxRecDepth 100000 in
set_option maxHeartbeats 1000000 in
theorem beginsTag_any (r : ByteArray) (w : World) :
    Calls Tryd.prog 26 #[.string r] w fun e w' => e = .returned (.bool (tagL r.data.toList)) ∧ w = w' := by
  have HT := tagL_eq r.data.toList
  generalize hV : tagL r.data.toList = V at *
  have HV : Hid (V = (Lib.hasPrefix r.data.toList [60] && (match nameL r.data.toList with | c :: _ => letterB c | [] => false))) := HT
  clear hV HT
  obtain ⟨n, hnd⟩ : ∃ n : ByteArray, (⟨(nameL r.data.toList).toArray⟩ : ByteArray) = n := ⟨_, rfl⟩
  have hnl : n.data.toList = nameL r.data.toList := by rw [← hnd]
  have HN : Hid ((⟨(Lib.trimPrefix (Lib.trimPrefix r.data.toList [60]) [47]).toArray⟩ : ByteArray) = n) := hnd
  have HNL : Hid (n.data.toList = nameL r.data.toList) := hnl
  clear hnd hnl
  cases hp : Lib.hasPrefix r.data.toList [60]
  · have HE : Hid (V = false) := by
      show _ = _
      rw [HV.out, hp]
      rfl
    go_enter Tryd.func26, Tryd.ntmps26
    go_wp2_with fail
    refine (Tryd.strings_CutPrefix _ _ _).mono ?_
    rintro e w1 ⟨rfl, hw1⟩
    subst hw1
    go_wp2_with fail
    refine (trimPrefix_to _ _ n _ (by exact HN.out)).mono ?_
    rintro e w2 ⟨rfl, rfl⟩
    go_wp2
    go_ret
    rw [HE.out]
    exact ⟨rfl, rfl⟩
  by_cases h0 : 0 < n.size
  · have hem : n.toList.isEmpty = false := by
      rw [Lib.toList_data]
      cases h : n.data.toList with
      | nil => have : n.data.toList.length = n.size := by simp
               rw [h] at this
               simp at this
               omega
      | cons => rfl
    have HE : Hid (V = letterB n[0]) := by
      show _ = _
      rw [HV.out, hp, ← HNL.out]
      have h := at_get n 0 h0
      match hm : n.data.toList with
      | [] => rw [hm] at h; simp at h
      | c :: l => rw [hm] at h; simp at h; simp [h]
    go_enter Tryd.func26, Tryd.ntmps26
    go_wp2_with fail
    refine (Tryd.strings_CutPrefix _ _ _).mono ?_
    rintro e w1 ⟨rfl, hw1⟩
    subst hw1
    go_wp2_with fail
    refine (trimPrefix_to _ _ n _ (by exact HN.out)).mono ?_
    rintro e w2 ⟨rfl, rfl⟩
    go_wp2_with fail
    refine (isLetter_any n[0] _).mono ?_
    rintro e w3 ⟨rfl, rfl⟩
    go_wp2
    go_ret
    rw [HE.out]
    exact ⟨rfl, rfl⟩
  · have hem : n.toList.isEmpty = true := by
      rw [Lib.toList_data]
      have : n.data.toList.length = n.size := by simp
      rw [List.isEmpty_iff, ← List.length_eq_zero_iff]
      omega
    have HE : Hid (V = false) := by
      show _ = _
      rw [HV.out, hp, ← HNL.out]
      have : n.data.toList.length = n.size := by simp
      match hm : n.data.toList with
      | [] => rfl
      | c :: l => rw [hm] at this; simp at this; omega
    go_enter Tryd.func26, Tryd.ntmps26
    go_wp2_with fail
    refine (Tryd.strings_CutPrefix _ _ _).mono ?_
    rintro e w1 ⟨rfl, hw1⟩
    subst hw1
    go_wp2_with fail
    refine (trimPrefix_to _ _ n _ (by exact HN.out)).mono ?_
    rintro e w2 ⟨rfl, rfl⟩
    go_wp2
    go_ret
    rw [HE.out]
    exact ⟨rfl, rfl⟩
end Go.Proofs.YtjfbogjpmieogacDoor.Sn

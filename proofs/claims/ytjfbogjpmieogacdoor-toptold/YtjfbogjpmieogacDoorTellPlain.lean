/-
  Plain: what a document tells that begins with a meta element that names a coding. No program stands in it.
-/
import Derived.Test.YtjfbogjpmieogacDoorChooseP
namespace Go.Proofs.YtjfbogjpmieogacDoor.Sn
open Go.RowKit

/-- The signs of a name that is looked at. -/
def nameB (c : UInt8) : Bool := (decide (97 ≤ c) && decide (c ≤ 122)) || (decide (48 ≤ c) && decide (c ≤ 57)) || c == 45

theorem name_facts (c : UInt8) (h : nameB c = true) : pB c = false ∧ quoteB c = false ∧ pVal c = true ∧ lowB c = c ∧ inSet [9, 10, 12, 13, 32] c = false :=
  ps_all (Q := fun c => nameB c = true → pB c = false ∧ quoteB c = false ∧ pVal c = true ∧ lowB c = c ∧ inSet [9, 10, 12, 13, 32] c = false) (by decide +kernel) c h

theorem low_name : ∀ (N : List UInt8), (∀ c ∈ N, nameB c = true) → low N = N
  | [], _ => rfl
  | c :: N, h => by
    unfold low
    rw [List.map_cons, (name_facts c (h c (by simp))).2.2.2.1]
    congr 1
    exact low_name N (fun x hx => h x (by simp [hx]))

/-- The scan over what answers yes, up to what answers no. -/
theorem scan_over (p : UInt8 → Bool) (A N R : List UInt8) (c : UInt8) (hN : ∀ x ∈ N, p x = true) (hc : p c = false) : scan p (A ++ (N ++ c :: R)) A.length = A.length + N.length := by
  unfold scan
  rw [List.drop_left]
  have : (N ++ c :: R).takeWhile p = N := by
    rw [List.takeWhile_append_of_pos hN, List.takeWhile_cons]
    simp [hc]
  rw [this]

def meta14 : List UInt8 := [60, 109, 101, 116, 97, 32, 99, 104, 97, 114, 115, 101, 116, 61]

theorem trim_name (N : List UInt8) (h : ∀ c ∈ N, nameB c = true) : trimX ⟨N.toArray⟩ = ⟨N.toArray⟩ := by
  have hs : scan (inSet [9, 10, 12, 13, 32]) (⟨N.toArray⟩ : ByteArray).data.toList 0 = 0 := by
    cases N with
    | nil => rfl
    | cons c N => exact scan_stop _ _ 0 (by simp) (by simpa using (name_facts c (h c (by simp))).2.2.2.2)
  have e := trim_of ⟨N.toArray⟩ 0 N.length hs (Nat.zero_le _) (by simp [ByteArray.size]) (fun x b hx hb => by
      rw [List.getElem?_eq_none (by simpa using hx)] at hb
      cases hb)
    (fun _ b hb => (name_facts b (h b (by have := List.mem_of_getElem? hb; simpa using this))).2.2.2.2)
  rw [← e, extract_list]
  simp

theorem get_ba (t : ByteArray) (p : Nat) (h : p < t.size) : t[p] = t.data.toList[p]'(by simpa using h) := by
  simp [ByteArray.getElem_eq_getElem_data]

theorem ch_list : (⟨#[99, 104, 97, 114, 115, 101, 116]⟩ : ByteArray).toList = [99, 104, 97, 114, 115, 101, 116] := by decide +kernel
theorem mstep_ch (v : ByteArray) : mstep st0 ⟨#[99, 104, 97, 114, 115, 101, 116]⟩ v = ⟨[⟨#[99, 104, 97, 114, 115, 101, 116]⟩], v, false, false⟩ := by
  unfold mstep
  rw [ch_list, if_neg (show ¬ Lib.containsS st0.seen ⟨#[99, 104, 97, 114, 115, 101, 116]⟩ = true by decide +kernel)]
  rfl

set_option maxRecDepth 100000 in
theorem prescan_meta (N R : List UInt8) (hN : ∀ c ∈ N, nameB c = true) (h0 : N ≠ []) (n : Nat) (t : ByteArray) (ht : t.data.toList = meta14 ++ (N ++ 62 :: R)) : prescanL t (n + 1) 0 = (⟨N.toArray⟩, true) := by
  have hsz : t.size = 14 + (N.length + (R.length + 1)) := by
    have : t.data.toList.length = t.size := by simp
    rw [← this, ht]
    simp [meta14]
    omega
  have hl6 : t.data.toList = [60, 109, 101, 116, 97, 32] ++ ([] ++ 99 :: ([104, 97, 114, 115, 101, 116, 61] ++ (N ++ 62 :: R))) := by rw [ht]; rfl
  have hl7 : t.data.toList = [60, 109, 101, 116, 97, 32, 99] ++ ([104, 97, 114, 115, 101, 116] ++ 61 :: (N ++ 62 :: R)) := by rw [ht]; rfl
  have hl5 : t.data.toList = [60, 109, 101, 116, 97] ++ ([32] ++ 99 :: ([104, 97, 114, 115, 101, 116, 61] ++ (N ++ 62 :: R))) := by rw [ht]; rfl
  have hl13 : t.data.toList = [60, 109, 101, 116, 97, 32, 99, 104, 97, 114, 115, 101, 116] ++ ([] ++ 61 :: (N ++ 62 :: R)) := by rw [ht]; rfl
  obtain ⟨c0, N', hc0⟩ : ∃ c0 N', N = c0 :: N' := by cases N with | nil => exact absurd rfl h0 | cons a b => exact ⟨a, b, rfl⟩
  have hl14 : t.data.toList = meta14 ++ ([] ++ c0 :: (N' ++ 62 :: R)) := by rw [ht, hc0]; rfl
  have hlE : t.data.toList = (meta14 ++ N) ++ ([] ++ 62 :: R) := by rw [ht]; simp
  have f0 := name_facts c0 (hN c0 (by rw [hc0]; simp))
  have s5 : scan pBS t.data.toList 5 = 6 := by rw [hl5]; exact scan_over pBS [60, 109, 101, 116, 97] [32] _ 99 (by decide) (by decide)
  have s7 : scan pName t.data.toList 7 = 13 := by rw [hl7]; exact scan_over pName [60, 109, 101, 116, 97, 32, 99] [104, 97, 114, 115, 101, 116] _ 61 (by decide) (by decide)
  have s13 : scan pB t.data.toList 13 = 13 := by rw [hl13]; exact scan_over pB [60, 109, 101, 116, 97, 32, 99, 104, 97, 114, 115, 101, 116] [] _ 61 (by decide) (by decide)
  have s14 : scan pB t.data.toList 14 = 14 := by rw [hl14]; exact scan_over pB meta14 [] _ c0 (by simp) f0.1
  have sV : scan pVal t.data.toList 14 = 14 + N.length := by rw [ht]; exact scan_over pVal meta14 N R 62 (fun x hx => (name_facts x (hN x hx)).2.2.1) (by decide)
  have sE : scan pBS t.data.toList (14 + N.length) = 14 + N.length := by
    have hL : (meta14 ++ N).length = 14 + N.length := by simp [meta14]; omega
    have := scan_over pBS (meta14 ++ N) [] R 62 (by simp) (by decide)
    rw [hL] at this
    rw [hlE]
    exact this
  have g6 : t[6]'(by omega) = 99 := by rw [get_ba]; simp [ht, meta14]
  have g13 : t[13]'(by omega) = 61 := by rw [get_ba]; simp [ht, meta14]
  have g14 : t[14]'(by omega) = c0 := by rw [get_ba]; simp [hl14, meta14]
  have gE : t[14 + N.length]'(by omega) = 62 := by
    rw [get_ba]
    simp only [hlE]
    have hL : (meta14 ++ N).length = 14 + N.length := by simp [meta14]; omega
    rw [List.getElem_append_right (by omega)]
    simp [hL]
  have hx : t.extract 14 (14 + N.length) = ⟨N.toArray⟩ := by
    rw [extract_list, ht]
    congr 2
    have e1 : (meta14 ++ (N ++ 62 :: R)).take (14 + N.length) = meta14 ++ N := by
      have : meta14 ++ (N ++ 62 :: R) = (meta14 ++ N) ++ 62 :: R := by simp
      rw [this]
      exact List.take_left' (by simp [meta14]; omega)
    rw [e1]
    exact List.drop_left' rfl
  have hx6 : t.extract 6 13 = ⟨#[99, 104, 97, 114, 115, 101, 116]⟩ := by
    rw [extract_list, ht]
    rfl
  have hv : valF t 14 = (⟨N.toArray⟩, 14 + N.length, true) := by
    unfold valF
    simp only [s14]
    rw [dif_pos (show 14 < t.size by omega)]
    simp only [g14, f0.2.1, sV]
    rw [if_neg (by simp), if_pos (by omega), hx]
    congr 1
    unfold lowS
    congr 2
    exact low_name N hN
  have ha : attrF t 5 = (⟨#[99, 104, 97, 114, 115, 101, 116]⟩, ⟨N.toArray⟩, 14 + N.length, true) := by
    unfold attrF
    simp only [s5]
    rw [dif_pos (show 6 < t.size by omega)]
    simp only [g6, s7, s13, hv, hx6]
    rw [if_neg (by decide), if_pos (by omega), dif_pos (by omega)]
    simp only [g13]
    rfl
  have hE : attrF t (14 + N.length) = (⟨#[]⟩, ⟨#[]⟩, 14 + N.length, false) := by
    unfold attrF
    simp only [sE]
    rw [dif_pos (by omega)]
    simp only [gE]
    rfl
  have hm : mread t (t.size + 1) 5 st0 = (⟨[⟨#[99, 104, 97, 114, 115, 101, 116]⟩], ⟨N.toArray⟩, false, false⟩, 14 + N.length) := by
    have e1 : t.size + 1 = (13 + (N.length + (R.length + 1))) + 1 + 1 := by omega
    rw [e1]
    unfold mread
    rw [ha]
    simp only [if_true]
    unfold mread
    rw [hE]
    simp only [Bool.false_eq_true, if_false]
    rw [mstep_ch]
  unfold prescanL
  rw [if_pos (by omega), ht]
  rw [if_neg (by simp [meta14, Lib.hasPrefix]), if_pos (by simp [meta14, metaL, low, lowB, inSet])]
  show (if tellsB (mread t (t.size + 1) 5 st0).1 = true then _ else _) = _
  rw [hm]
  have ht : tellsB ⟨[⟨#[99, 104, 97, 114, 115, 101, 116]⟩], ⟨N.toArray⟩, false, false⟩ = true := by
    unfold tellsB
    rw [trim_name N hN, hc0]
    simp
  rw [if_pos ht]

theorem prescan_told (N R : List UInt8) (hN : ∀ c ∈ N, nameB c = true) (h0 : N ≠ []) (h60 : N.length ≤ 60) (d : ByteArray) (hd : d.data.toList = meta14 ++ (N ++ 62 :: R)) : prescanF d = (⟨N.toArray⟩, true) := by
  unfold prescanF
  refine prescan_meta N (R.take (1024 - (15 + N.length))) hN h0 _ _ ?_
  unfold pre1024
  have hsz : d.size = 14 + (N.length + (R.length + 1)) := by
    have : d.data.toList.length = d.size := by simp
    rw [← this, hd]
    simp [meta14]
    omega
  rw [extract_list]
  show ((d.data.toList.take (min d.size 1024)).drop 0) = _
  rw [List.drop_zero, hd]
  have e : meta14 ++ (N ++ 62 :: R) = (meta14 ++ (N ++ [62])) ++ R := by simp
  rw [e, List.take_append, List.take_of_length_le (by simp [meta14]; omega)]
  have e2 : min d.size 1024 - (meta14 ++ (N ++ [62])).length = min R.length (1024 - (15 + N.length)) := by
    simp [meta14]
    omega
  rw [e2]
  have e3 : R.take (min R.length (1024 - (15 + N.length))) = R.take (1024 - (15 + N.length)) := by
    rw [Nat.min_comm, List.take_eq_take_iff]
    omega
  rw [e3]
  simp

theorem choose_meta (N R : List UInt8) (hN : ∀ c ∈ N, nameB c = true) (h0 : N ≠ []) (h60 : N.length ≤ 60) (d tr : ByteArray) (hd : d.data.toList = meta14 ++ (N ++ 62 :: R)) (ht : tr.toList.isEmpty = true) : chooseF d tr = byName (labS ⟨N.toArray⟩) := by
  unfold chooseF
  rw [if_neg (by simp [hd, meta14, Lib.hasPrefix]), if_pos ht, prescan_told N R hN h0 h60 d hd]
  rfl
theorem choose_outer (d tr : ByteArray) (hd : Lib.hasPrefix d.data.toList [239, 187, 191] = false) (ht : tr.toList.isEmpty = false) : chooseF d tr = byName (labS tr) := by
  unfold chooseF
  rw [if_neg (by simp [hd]), if_neg (by simp [ht])]
theorem choose_mark (d tr : ByteArray) (hd : Lib.hasPrefix d.data.toList [239, 187, 191] = true) : chooseF d tr = (1, 3, false) := by
  unfold chooseF
  rw [if_pos hd]
end Go.Proofs.YtjfbogjpmieogacDoor.Sn

/-
  TopTold: a name from outside and one of a document's own choose the same coding; a mark is stronger than both: the law's walk.
-/
import Derived.Test.YtjfbogjpmieogacDoorWakes
import Derived.Test.YtjfbogjpmieogacDoorTellPlain
namespace Go.Proofs.YtjfbogjpmieogacDoor
open Go.RowKit

theorem name_lower (c : UInt8) (h : 97 ≤ c.toNat ∧ c.toNat ≤ 122 ∨ 48 ≤ c.toNat ∧ c.toNat ≤ 57 ∨ c.toNat = 45) : Sn.nameB c = true :=
  Sn.ps_all (Q := fun c => (97 ≤ c.toNat ∧ c.toNat ≤ 122 ∨ 48 ≤ c.toNat ∧ c.toNat ≤ 57 ∨ c.toNat = 45) → Sn.nameB c = true) (by decide +kernel) c h

/-- What the law comes to, once its name is one that is looked at. -/
structure Tells (s x : ByteArray) : Prop where
  one : Sn.chooseF (⟨#[60, 109, 101, 116, 97, 32, 99, 104, 97, 114, 115, 101, 116, 61]⟩ ++ x ++ ⟨#[62]⟩ ++ s) ⟨#[]⟩ = Sn.byName (Sn.labS x)
  two : Sn.chooseF (⟨#[60, 112, 62]⟩ ++ s) x = Sn.byName (Sn.labS x)
  three : Sn.chooseF (⟨#[239, 187, 191, 60, 109, 101, 116, 97, 32, 99, 104, 97, 114, 115, 101, 116, 61]⟩ ++ x ++ ⟨#[62]⟩ ++ s) x = (1, 3, false)

theorem tells_of (s x : ByteArray) (hx : ∀ c ∈ x.data.toList, Sn.nameB c = true) (h0 : x.toList.isEmpty = false) (h60 : x.size ≤ 60) : Tells s x := by
  have hl : x.data.toList.length = x.size := by simp
  have hne : x.data.toList ≠ [] := by
    intro h
    have : x.size = 0 := by rw [← hl, h]; rfl
    have : x.toList = [] := by
      have e : x.toList = x.data.toList := by simp [ByteArray.toList_eq]
      rw [e, h]
    rw [this] at h0
    cases h0
  refine ⟨?_, ?_, ?_⟩
  · have h := Sn.choose_meta x.data.toList s.data.toList hx hne (by omega) (⟨#[60, 109, 101, 116, 97, 32, 99, 104, 97, 114, 115, 101, 116, 61]⟩ ++ x ++ ⟨#[62]⟩ ++ s) ⟨#[]⟩ (by simp [Sn.meta14]) (by decide +kernel)
    simpa using h
  · exact Sn.choose_outer _ _ (by simp [Lib.hasPrefix, List.isPrefixOf]) h0
  · exact Sn.choose_mark _ _ (by simp [Lib.hasPrefix, List.isPrefixOf])

theorem size_a (s x : ByteArray) (h : s.size ≤ 140737488351232 ∧ x.size ≤ 60) : (⟨#[60, 109, 101, 116, 97, 32, 99, 104, 97, 114, 115, 101, 116, 61]⟩ ++ x ++ ⟨#[62]⟩ ++ s : ByteArray).size ≤ 4611686018427387904 := by
  rw [ByteArray.size_append, ByteArray.size_append, ByteArray.size_append]
  have e1 : (⟨#[60, 109, 101, 116, 97, 32, 99, 104, 97, 114, 115, 101, 116, 61]⟩ : ByteArray).size = 14 := rfl
  have e2 : (⟨#[62]⟩ : ByteArray).size = 1 := rfl
  omega
theorem size_b (s : ByteArray) (h : s.size ≤ 140737488351232) : (⟨#[60, 112, 62]⟩ ++ s : ByteArray).size ≤ 4611686018427387904 := by
  rw [ByteArray.size_append]
  have e1 : (⟨#[60, 112, 62]⟩ : ByteArray).size = 3 := rfl
  omega
theorem size_c (s x : ByteArray) (h : s.size ≤ 140737488351232 ∧ x.size ≤ 60) : (⟨#[239, 187, 191, 60, 109, 101, 116, 97, 32, 99, 104, 97, 114, 115, 101, 116, 61]⟩ ++ x ++ ⟨#[62]⟩ ++ s : ByteArray).size ≤ 4611686018427387904 := by
  rw [ByteArray.size_append, ByteArray.size_append, ByteArray.size_append]
  have e1 : (⟨#[239, 187, 191, 60, 109, 101, 116, 97, 32, 99, 104, 97, 114, 115, 101, 116, 61]⟩ : ByteArray).size = 17 := rfl
  have e2 : (⟨#[62]⟩ : ByteArray).size = 1 := rfl
  omega
theorem cell_later {w w' : World} {a : Addr} {v : Value} (h : w.cell? a = some v) (hb : Below w.heap.size w w') : w'.cell? a = some v :=
  (hb.cell (p := a) (World.block_lt_of_cell? w _ h)).trans h

theorem byName_form (N : Nat) : ∃ (c : Nat) (b : Bool), Sn.byName N = (c, 0, b) := by
  unfold Sn.byName
  split
  · exact ⟨_, _, rfl⟩
  · exact ⟨_, _, rfl⟩

set_option maxRecDepth 100000 in
set_option maxHeartbeats 4000000 in
theorem told_law (s x : ByteArray) (m : Int) (w : World) (hW : IsWin w) (hg : 1 < w.heap.size) (hm : w.cell? ⟨1, 0, none⟩ = some (.int .i64 m)) (hs : s.size ≤ 140737488351232) (hx : x.size ≤ 140737488351232) :
    Calls Tryd.prog 3 #[.string s, .string x] w fun e w' => e = .returned (.bool true) ∧ Below w.heap.size w w' := by
  have HK : Hid _ := wakes_any m w hW hg hm
  have HM : Hid _ := hm
  clear hW hm
  go_enter Tryd.func3, Tryd.ntmps3
  go_wp2_with fail
  refine Calls.mono HK.out ?_
  rintro e w1 ⟨rfl, hb1⟩
  have HB1 : Hid _ := hb1
  clear hb1 HK
  go_wp2
  go_loopw [5, 6] (fun i c wr => ∃ k : Nat, k ≤ x.size ∧ i = .int .i64 k ∧ (∀ j, (h : j < x.size) → j < k → Sn.nameB x[j] = true) ∧ wr = w1) (fun i _ _ => x.size - (intOf i).toNat)
  case atStart => exact ⟨0, Nat.zero_le _, rfl, fun _ _ h => absurd h (Nat.not_lt_zero _), rfl⟩
  case round =>
    obtain ⟨k, hk, rfl, hall, rfl⟩ := hrel
    have HALL : Hid _ := hall
    clear hall
    by_cases hlt : k < x.size
    · obtain ⟨v, hv⟩ : ∃ v, x[k].toNat = v := ⟨_, rfl⟩
      have HV : Hid (x[k].toNat = v) := hv
      have hspl : (97 ≤ v ∧ v ≤ 122 ∨ 48 ≤ v ∧ v ≤ 57 ∨ v = 45) ∨ (v < 45 ∨ (45 < v ∧ v < 48) ∨ (57 < v ∧ v < 97) ∨ 122 < v) := by omega
      rcases hspl with hin | hout
      · have HN : Hid (∀ j, (h : j < x.size) → j < k + 1 → Sn.nameB x[j] = true) := fun j h hj => by
          by_cases e : j = k
          · subst e
            exact name_lower _ (by rw [HV.out]; exact hin)
          · exact HALL.out j h (by omega)
        clear HALL
        rcases hin with ⟨i1, i2⟩ | ⟨i1, i2⟩ | i1
        all_goals
          go_wp2
          go_roundw
          case rel => exact ⟨k + 1, by omega, by go_num, HN.out, by simp⟩
          case measure => simp [intOf]; omega
      · clear HALL
        have hne : ((v : Int) != 45) = true := by rw [bne_iff_ne]; omega
        rcases hout with i1 | ⟨i1, i2⟩ | ⟨i1, i2⟩ | i1
        all_goals
          go_wp2
          go_ret
          exact ⟨rfl, HB1.out⟩
    · have hks : k = x.size := by omega
      subst hks
      clear hlt hk
      have HXA : Hid (∀ c ∈ x.data.toList, Sn.nameB c = true) := fun c hc => by
        obtain ⟨j, hj, rfl⟩ := List.mem_iff_getElem.1 hc
        have hj2 : j < x.size := by simpa using hj
        have := HALL.out j hj2 hj2
        simpa [ByteArray.getElem_eq_getElem_data] using this
      clear HALL
      cases hem : x.toList.isEmpty
      · by_cases h60 : 60 < x.size
        · have h6 : (60 : Int) < (x.size : Int) := by omega
          go_wp2
          go_ret
          exact ⟨rfl, HB1.out⟩
        · have h6 : ¬ (60 : Int) < (x.size : Int) := by omega
          have hT := tells_of s x HXA.out hem (by omega)
          obtain ⟨c, b, hcb⟩ := byName_form (Sn.labS x)
          have HT1 : Hid _ := hT.one.trans hcb
          have HT2 : Hid _ := hT.two.trans hcb
          have HT3 : Hid _ := hT.three
          have HZ : Hid (s.size ≤ 140737488351232 ∧ x.size ≤ 60) := ⟨hs, by omega⟩
          clear hT hcb HXA
          have HM1 : Hid _ := cell_later HM.out HB1.out
          have hg1 : 1 < wr.heap.size := Nat.lt_of_lt_of_le hg HB1.out.size
          have HC1 : Hid _ := Sn.choose_any _ ⟨#[]⟩ m c 0 b wr (size_a s x HZ.out) (by decide) hg1 HM1.out HT1.out
          go_wp2_with fail
          refine Calls.mono HC1.out ?_
          rintro e w2 ⟨rfl, hb2⟩
          have HM2 : Hid _ := cell_later HM1.out hb2
          have HB2 : Hid (Below w.heap.size w w2) := HB1.out.trans (hb2.mono HB1.out.size)
          have hg2 : 1 < w2.heap.size := Nat.lt_of_lt_of_le hg1 hb2.size
          have HC2 : Hid _ := Sn.choose_any _ x m c 0 b w2 (size_b s HZ.out.1) (by have := HZ.out; omega) hg2 HM2.out HT2.out
          clear HC1 HM1 hb2 HT1 HT2
          go_wp2_with fail
          refine Calls.mono HC2.out ?_
          rintro e w3 ⟨rfl, hb3⟩
          have HM3 : Hid _ := cell_later HM2.out hb3
          have HB3 : Hid (Below w.heap.size w w3) := HB2.out.trans (hb3.mono HB2.out.size)
          have hg3 : 1 < w3.heap.size := Nat.lt_of_lt_of_le hg2 hb3.size
          have HC3 : Hid _ := Sn.choose_any _ x m 1 3 false w3 (size_c s x HZ.out) (by have := HZ.out; omega) hg3 HM3.out HT3.out
          clear HC2 HM2 hb3 HT3 HB2
          go_wp2_with fail
          refine Calls.mono HC3.out ?_
          rintro e w4 ⟨rfl, hb4⟩
          have HB4 : Hid (Below w.heap.size w w4) := HB3.out.trans (hb4.mono HB3.out.size)
          clear HC3 HM3 hb4 HB3
          go_wp2
          go_ret
          exact ⟨rfl, HB4.out⟩
      · go_wp2
        go_ret
        exact ⟨rfl, HB1.out⟩

theorem top_told (s x : ByteArray) (w : World) (hs : s.size ≤ 140737488351232) (hx : x.size ≤ 140737488351232) (hsh : w.ShapedOpen Tryd.prog) (hW : IsWin w) :
    Calls Tryd.prog 3 #[.string s, .string x] w fun e w' => e = .returned (.bool true) ∧ Below w.heap.size w w' := by
  obtain ⟨m, hm⟩ := Tryd.maxlen w hsh
  exact told_law s x m w hW (World.block_lt_of_cell? w _ hm) hm hs hx
end Go.Proofs.YtjfbogjpmieogacDoor

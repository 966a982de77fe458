/-
  The reference's Label: the coding of a name.
-/
import Derived.Test.YtddonipfpchabaaDoorRefTrim
import Derived.Test.YtddonipfpchabaaDoorLabel
namespace Go.Proofs.YtddonipfpchabaaDoor
open Go.RowKit

def labS (s : ByteArray) : Nat := labL (lowS (trimX s)).toList

theorem lab_utf {l : List UInt8} {x : Nat} (h : utfNames[x]? = some l) : labL l = 1 := by
  have : utfNames.contains l = true := by simpa using List.mem_of_getElem? h
  simp only [labL, this, if_true]
theorem not_among {ns : List (List UInt8)} {l : List UInt8} (h : ∀ x, x < ns.length → ns[x]? ≠ some l) : ns.contains l = false := by
  rw [Bool.eq_false_iff]
  intro hc
  have hm : l ∈ ns := by simpa using hc
  obtain ⟨x, hx⟩ := List.getElem?_of_mem hm
  exact h x (List.getElem?_eq_some_iff.1 hx).1 hx
theorem lab_win {l : List UInt8} {x : Nat} (h0 : ∀ x, x < 6 → utfNames[x]? ≠ some l) (h : winNames[x]? = some l) : labL l = 2 := by
  have e0 : utfNames.contains l = false := not_among h0
  have : winNames.contains l = true := by simpa using List.mem_of_getElem? h
  simp only [labL, this, e0, if_true, Bool.false_eq_true, if_false]
theorem lab_no {l : List UInt8} (h0 : ∀ x, x < 6 → utfNames[x]? ≠ some l) (h1 : ∀ x, x < 7 → winNames[x]? ≠ some l) : labL l = 0 := by
  have e0 : utfNames.contains l = false := not_among h0
  have e1 : winNames.contains l = false := not_among h1
  simp only [labL, e0, e1, Bool.false_eq_true, if_false]
theorem more {ns : List (List UInt8)} {l n : List UInt8} {k : Nat} (h : ∀ x, x < k → ns[x]? ≠ some l) (hk : ns[k]? = some n) (hn : (l == n) = false) : ∀ x, x < k + 1 → ns[x]? ≠ some l := by
  intro x hx
  by_cases e : x = k
  · subst e
    rw [hk]
    intro e2
    have := Option.some.inj e2
    subst this
    simp at hn
  · exact h x (by omega)

set_option maxRecDepth 100000 in
set_option maxHeartbeats 1000000 in
theorem refLabel_any (s : ByteArray) (w : World) (hs : s.size ≤ 140737488351232) :
    Calls Tryd.prog 9 #[.string s] w fun e w' => e = .returned (.int .i64 (labS s)) ∧ Below w.heap.size w w' := by
  have hm : s.size ≤ maxLen := by unfold maxLen; omega
  have ht : (trimX s).size ≤ 140737488351232 := Nat.le_trans (trimX_size s) hs
  unfold labS
  generalize hy : lowS (trimX s) = y
  have HY : Hid (lowS (trimX s) = y) := hy
  clear hy
  go_enter Tryd.func9, Tryd.ntmps9
  go_wp2_with fail
  refine (refTrim_any _ _ hm).mono ?_
  rintro e w1 ⟨rfl, rfl⟩
  go_wp2_with fail
  refine (refSmall_any _ _ ht).mono ?_
  rintro e w2 ⟨rfl, hb2⟩
  rw [HY.out]
  go_wp2
  go_loop [4] (fun i => ∃ k : Nat, k ≤ 6 ∧ i = .int .i64 k ∧ (∀ x, x < k → utfNames[x]? ≠ some y.toList)) (fun i => 6 - (intOf i).toNat)
  case atStart => exact ⟨0, by omega, rfl, fun x hx => absurd hx (Nat.not_lt_zero _)⟩
  case round =>
    obtain ⟨k, hk, rfl, hkk⟩ := hrel
    have HK : Hid (∀ x, x < k → utfNames[x]? ≠ some y.toList) := hkk
    clear hkk
    rcases (show k = 0 ∨ k = 1 ∨ k = 2 ∨ k = 3 ∨ k = 4 ∨ k = 5 ∨ k = 6 by omega) with rfl | rfl | rfl | rfl | rfl | rfl | rfl
    · cases g : (y.toList == [117, 116, 102, 45, 56])
      · go_wp2
        go_round
        case rel => exact ⟨1, by omega, by go_num, more HK.out (n := [117, 116, 102, 45, 56]) rfl g⟩
        case measure => simp [intOf]
      · have HV : Hid (labL y.toList = 1) := lab_utf (x := 0) (by rw [show y.toList = [117, 116, 102, 45, 56] from by simpa using g]; rfl)
        go_wp2
        go_ret
        rw [HV.out]
        exact ⟨rfl, hb2.alloc hb2.size _⟩
    · cases g : (y.toList == [117, 116, 102, 56])
      · go_wp2
        go_round
        case rel => exact ⟨2, by omega, by go_num, more HK.out (n := [117, 116, 102, 56]) rfl g⟩
        case measure => simp [intOf]
      · have HV : Hid (labL y.toList = 1) := lab_utf (x := 1) (by rw [show y.toList = [117, 116, 102, 56] from by simpa using g]; rfl)
        go_wp2
        go_ret
        rw [HV.out]
        exact ⟨rfl, hb2.alloc hb2.size _⟩
    · cases g : (y.toList == [117, 110, 105, 99, 111, 100, 101, 45, 49, 45, 49, 45, 117, 116, 102, 45, 56])
      · go_wp2
        go_round
        case rel => exact ⟨3, by omega, by go_num, more HK.out (n := [117, 110, 105, 99, 111, 100, 101, 45, 49, 45, 49, 45, 117, 116, 102, 45, 56]) rfl g⟩
        case measure => simp [intOf]
      · have HV : Hid (labL y.toList = 1) := lab_utf (x := 2) (by rw [show y.toList = [117, 110, 105, 99, 111, 100, 101, 45, 49, 45, 49, 45, 117, 116, 102, 45, 56] from by simpa using g]; rfl)
        go_wp2
        go_ret
        rw [HV.out]
        exact ⟨rfl, hb2.alloc hb2.size _⟩
    · cases g : (y.toList == [117, 116, 102, 45, 49, 54])
      · go_wp2
        go_round
        case rel => exact ⟨4, by omega, by go_num, more HK.out (n := [117, 116, 102, 45, 49, 54]) rfl g⟩
        case measure => simp [intOf]
      · have HV : Hid (labL y.toList = 1) := lab_utf (x := 3) (by rw [show y.toList = [117, 116, 102, 45, 49, 54] from by simpa using g]; rfl)
        go_wp2
        go_ret
        rw [HV.out]
        exact ⟨rfl, hb2.alloc hb2.size _⟩
    · cases g : (y.toList == [117, 116, 102, 45, 49, 54, 108, 101])
      · go_wp2
        go_round
        case rel => exact ⟨5, by omega, by go_num, more HK.out (n := [117, 116, 102, 45, 49, 54, 108, 101]) rfl g⟩
        case measure => simp [intOf]
      · have HV : Hid (labL y.toList = 1) := lab_utf (x := 4) (by rw [show y.toList = [117, 116, 102, 45, 49, 54, 108, 101] from by simpa using g]; rfl)
        go_wp2
        go_ret
        rw [HV.out]
        exact ⟨rfl, hb2.alloc hb2.size _⟩
    · cases g : (y.toList == [117, 116, 102, 45, 49, 54, 98, 101])
      · go_wp2
        go_round
        case rel => exact ⟨6, by omega, by go_num, more HK.out (n := [117, 116, 102, 45, 49, 54, 98, 101]) rfl g⟩
        case measure => simp [intOf]
      · have HV : Hid (labL y.toList = 1) := lab_utf (x := 5) (by rw [show y.toList = [117, 116, 102, 45, 49, 54, 98, 101] from by simpa using g]; rfl)
        go_wp2
        go_ret
        rw [HV.out]
        exact ⟨rfl, hb2.alloc hb2.size _⟩
    · have H6 : Hid (∀ x, x < 6 → utfNames[x]? ≠ some y.toList) := HK
      go_wp2
      go_loop [6] (fun i => ∃ k : Nat, k ≤ 7 ∧ i = .int .i64 k ∧ (∀ x, x < k → winNames[x]? ≠ some y.toList)) (fun i => 7 - (intOf i).toNat)
      case atStart => exact ⟨0, by omega, rfl, fun x hx => absurd hx (Nat.not_lt_zero _)⟩
      case round =>
        obtain ⟨k, hk, rfl, hkk⟩ := hrel
        have HK : Hid (∀ x, x < k → winNames[x]? ≠ some y.toList) := hkk
        clear hkk
        have hb4 : Below w.heap.size w ((w2.alloc (Obj.cells #[.string ⟨#[117, 116, 102, 45, 56]⟩, .string ⟨#[117, 116, 102, 56]⟩, .string ⟨#[117, 110, 105, 99, 111, 100, 101, 45, 49, 45, 49, 45, 117, 116, 102, 45, 56]⟩, .string ⟨#[117, 116, 102, 45, 49, 54]⟩, .string ⟨#[117, 116, 102, 45, 49, 54, 108, 101]⟩, .string ⟨#[117, 116, 102, 45, 49, 54, 98, 101]⟩] 9)).alloc (Obj.cells #[.string ⟨#[119, 105, 110, 100, 111, 119, 115, 45, 49, 50, 53, 50]⟩, .string ⟨#[99, 112, 49, 50, 53, 50]⟩, .string ⟨#[108, 97, 116, 105, 110, 49]⟩, .string ⟨#[108, 49]⟩, .string ⟨#[105, 115, 111, 45, 56, 56, 53, 57, 45, 49]⟩, .string ⟨#[97, 115, 99, 105, 105]⟩, .string ⟨#[117, 115, 45, 97, 115, 99, 105, 105]⟩] 9)) := (hb2.alloc hb2.size _).alloc (by have := hb2.size; simp; omega) _
        rcases (show k = 0 ∨ k = 1 ∨ k = 2 ∨ k = 3 ∨ k = 4 ∨ k = 5 ∨ k = 6 ∨ k = 7 by omega) with rfl | rfl | rfl | rfl | rfl | rfl | rfl | rfl
        · cases g : (y.toList == [119, 105, 110, 100, 111, 119, 115, 45, 49, 50, 53, 50])
          · go_wp2
            go_round
            case rel => exact ⟨1, by omega, by go_num, more HK.out (n := [119, 105, 110, 100, 111, 119, 115, 45, 49, 50, 53, 50]) rfl g⟩
            case measure => simp [intOf]
          · have HV : Hid (labL y.toList = 2) := lab_win H6.out (x := 0) (by rw [show y.toList = [119, 105, 110, 100, 111, 119, 115, 45, 49, 50, 53, 50] from by simpa using g]; rfl)
            go_wp2
            go_ret
            rw [HV.out]
            exact ⟨rfl, hb4⟩
        · cases g : (y.toList == [99, 112, 49, 50, 53, 50])
          · go_wp2
            go_round
            case rel => exact ⟨2, by omega, by go_num, more HK.out (n := [99, 112, 49, 50, 53, 50]) rfl g⟩
            case measure => simp [intOf]
          · have HV : Hid (labL y.toList = 2) := lab_win H6.out (x := 1) (by rw [show y.toList = [99, 112, 49, 50, 53, 50] from by simpa using g]; rfl)
            go_wp2
            go_ret
            rw [HV.out]
            exact ⟨rfl, hb4⟩
        · cases g : (y.toList == [108, 97, 116, 105, 110, 49])
          · go_wp2
            go_round
            case rel => exact ⟨3, by omega, by go_num, more HK.out (n := [108, 97, 116, 105, 110, 49]) rfl g⟩
            case measure => simp [intOf]
          · have HV : Hid (labL y.toList = 2) := lab_win H6.out (x := 2) (by rw [show y.toList = [108, 97, 116, 105, 110, 49] from by simpa using g]; rfl)
            go_wp2
            go_ret
            rw [HV.out]
            exact ⟨rfl, hb4⟩
        · cases g : (y.toList == [108, 49])
          · go_wp2
            go_round
            case rel => exact ⟨4, by omega, by go_num, more HK.out (n := [108, 49]) rfl g⟩
            case measure => simp [intOf]
          · have HV : Hid (labL y.toList = 2) := lab_win H6.out (x := 3) (by rw [show y.toList = [108, 49] from by simpa using g]; rfl)
            go_wp2
            go_ret
            rw [HV.out]
            exact ⟨rfl, hb4⟩
        · cases g : (y.toList == [105, 115, 111, 45, 56, 56, 53, 57, 45, 49])
          · go_wp2
            go_round
            case rel => exact ⟨5, by omega, by go_num, more HK.out (n := [105, 115, 111, 45, 56, 56, 53, 57, 45, 49]) rfl g⟩
            case measure => simp [intOf]
          · have HV : Hid (labL y.toList = 2) := lab_win H6.out (x := 4) (by rw [show y.toList = [105, 115, 111, 45, 56, 56, 53, 57, 45, 49] from by simpa using g]; rfl)
            go_wp2
            go_ret
            rw [HV.out]
            exact ⟨rfl, hb4⟩
        · cases g : (y.toList == [97, 115, 99, 105, 105])
          · go_wp2
            go_round
            case rel => exact ⟨6, by omega, by go_num, more HK.out (n := [97, 115, 99, 105, 105]) rfl g⟩
            case measure => simp [intOf]
          · have HV : Hid (labL y.toList = 2) := lab_win H6.out (x := 5) (by rw [show y.toList = [97, 115, 99, 105, 105] from by simpa using g]; rfl)
            go_wp2
            go_ret
            rw [HV.out]
            exact ⟨rfl, hb4⟩
        · cases g : (y.toList == [117, 115, 45, 97, 115, 99, 105, 105])
          · go_wp2
            go_round
            case rel => exact ⟨7, by omega, by go_num, more HK.out (n := [117, 115, 45, 97, 115, 99, 105, 105]) rfl g⟩
            case measure => simp [intOf]
          · have HV : Hid (labL y.toList = 2) := lab_win H6.out (x := 6) (by rw [show y.toList = [117, 115, 45, 97, 115, 99, 105, 105] from by simpa using g]; rfl)
            go_wp2
            go_ret
            rw [HV.out]
            exact ⟨rfl, hb4⟩
        · have HV : Hid (labL y.toList = 0) := lab_no H6.out HK.out
          go_wp2
          go_ret
          rw [HV.out]
          exact ⟨rfl, hb4⟩
end Go.Proofs.YtddonipfpchabaaDoor

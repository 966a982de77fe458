/-
  Label of the program: the coding of a name.
-/
import Derived.Test.YtjfbogjpmieogacDoorRows
import Derived.Test.YtjfbogjpmieogacDoorRefLowP
namespace Go.Proofs.YtjfbogjpmieogacDoor.Sn
open Go.RowKit

def utfNames : List (List UInt8) := [[117, 116, 102, 45, 56], [117, 116, 102, 56], [117, 110, 105, 99, 111, 100, 101, 45, 49, 45, 49, 45, 117, 116, 102, 45, 56], [117, 116, 102, 45, 49, 54], [117, 116, 102, 45, 49, 54, 108, 101], [117, 116, 102, 45, 49, 54, 98, 101]]
def winNames : List (List UInt8) := [[119, 105, 110, 100, 111, 119, 115, 45, 49, 50, 53, 50], [99, 112, 49, 50, 53, 50], [108, 97, 116, 105, 110, 49], [108, 49], [105, 115, 111, 45, 56, 56, 53, 57, 45, 49], [97, 115, 99, 105, 105], [117, 115, 45, 97, 115, 99, 105, 105]]
/-- The coding of a name that is small and without blanks at its ends. -/
def labL (l : List UInt8) : Nat := if utfNames.contains l then 1 else if winNames.contains l then 2 else 0

set_option maxRecDepth 100000 in
set_option maxHeartbeats 2000000 in
theorem label_any (s x y : ByteArray) (w : World) (hT : ∀ w, Calls Tryd.prog 31 #[.string s, .string ⟨#[9, 10, 12, 13, 32]⟩] w fun e w' => e = .returned (.string x) ∧ Below w.heap.size w w') (hy : lowS x = y) (hx : x.size ≤ maxLen) :
    Calls Tryd.prog 14 #[.string s] w fun e w' => e = .returned (.tuple #[.int .i64 (labL y.toList), .bool (decide (0 < labL y.toList))]) ∧ Below w.heap.size w w' := by
  have HY : Hid (lowS x = y) := hy
  clear hy
  have HB : ∀ w1 w2, Below w.heap.size w w1 → Below w1.heap.size w1 w2 → Below w.heap.size w w2 := fun w1 w2 h1 h2 => h1.trans (h2.mono h1.size)
  generalize hN : labL y.toList = N
  have HN : Hid (labL y.toList = N) := hN
  clear hN
  go_enter Tryd.func14, Tryd.ntmps14
  go_wp2_with fail
  refine (hT _).mono ?_
  rintro e w1 ⟨rfl, hb1⟩
  go_wp2_with fail
  refine (small_any _ _ hx).mono ?_
  rintro e w2 ⟨rfl, hb2⟩
  rw [HY.out]
  have hbb := HB w1 w2 hb1 hb2
  clear hb1 hb2 HB hT
  cases g0 : (y.toList == [117, 116, 102, 45, 56])
  rotate_left
  · have HV : Hid (N = 1) := by
      have e : y.toList = [117, 116, 102, 45, 56] := by simpa using g0
      have := HN.out
      rw [e] at this
      rw [← this]
      show labL _ = _
      decide
    go_wp2
    go_ret2
    rw [HV.out]
    exact ⟨rfl, hbb⟩
  cases g1 : (y.toList == [117, 116, 102, 56])
  rotate_left
  · have HV : Hid (N = 1) := by
      have e : y.toList = [117, 116, 102, 56] := by simpa using g1
      have := HN.out
      rw [e] at this
      rw [← this]
      show labL _ = _
      decide
    go_wp2
    go_ret2
    rw [HV.out]
    exact ⟨rfl, hbb⟩
  cases g2 : (y.toList == [117, 110, 105, 99, 111, 100, 101, 45, 49, 45, 49, 45, 117, 116, 102, 45, 56])
  rotate_left
  · have HV : Hid (N = 1) := by
      have e : y.toList = [117, 110, 105, 99, 111, 100, 101, 45, 49, 45, 49, 45, 117, 116, 102, 45, 56] := by simpa using g2
      have := HN.out
      rw [e] at this
      rw [← this]
      show labL _ = _
      decide
    go_wp2
    go_ret2
    rw [HV.out]
    exact ⟨rfl, hbb⟩
  cases g3 : (y.toList == [117, 116, 102, 45, 49, 54])
  rotate_left
  · have HV : Hid (N = 1) := by
      have e : y.toList = [117, 116, 102, 45, 49, 54] := by simpa using g3
      have := HN.out
      rw [e] at this
      rw [← this]
      show labL _ = _
      decide
    go_wp2
    go_ret2
    rw [HV.out]
    exact ⟨rfl, hbb⟩
  cases g4 : (y.toList == [117, 116, 102, 45, 49, 54, 108, 101])
  rotate_left
  · have HV : Hid (N = 1) := by
      have e : y.toList = [117, 116, 102, 45, 49, 54, 108, 101] := by simpa using g4
      have := HN.out
      rw [e] at this
      rw [← this]
      show labL _ = _
      decide
    go_wp2
    go_ret2
    rw [HV.out]
    exact ⟨rfl, hbb⟩
  cases g5 : (y.toList == [117, 116, 102, 45, 49, 54, 98, 101])
  rotate_left
  · have HV : Hid (N = 1) := by
      have e : y.toList = [117, 116, 102, 45, 49, 54, 98, 101] := by simpa using g5
      have := HN.out
      rw [e] at this
      rw [← this]
      show labL _ = _
      decide
    go_wp2
    go_ret2
    rw [HV.out]
    exact ⟨rfl, hbb⟩
  cases g6 : (y.toList == [119, 105, 110, 100, 111, 119, 115, 45, 49, 50, 53, 50])
  rotate_left
  · have HV : Hid (N = 2) := by
      have e : y.toList = [119, 105, 110, 100, 111, 119, 115, 45, 49, 50, 53, 50] := by simpa using g6
      have := HN.out
      rw [e] at this
      rw [← this]
      show labL _ = _
      decide
    go_wp2
    go_ret2
    rw [HV.out]
    exact ⟨rfl, hbb⟩
  cases g7 : (y.toList == [99, 112, 49, 50, 53, 50])
  rotate_left
  · have HV : Hid (N = 2) := by
      have e : y.toList = [99, 112, 49, 50, 53, 50] := by simpa using g7
      have := HN.out
      rw [e] at this
      rw [← this]
      show labL _ = _
      decide
    go_wp2
    go_ret2
    rw [HV.out]
    exact ⟨rfl, hbb⟩
  cases g8 : (y.toList == [108, 97, 116, 105, 110, 49])
  rotate_left
  · have HV : Hid (N = 2) := by
      have e : y.toList = [108, 97, 116, 105, 110, 49] := by simpa using g8
      have := HN.out
      rw [e] at this
      rw [← this]
      show labL _ = _
      decide
    go_wp2
    go_ret2
    rw [HV.out]
    exact ⟨rfl, hbb⟩
  cases g9 : (y.toList == [108, 49])
  rotate_left
  · have HV : Hid (N = 2) := by
      have e : y.toList = [108, 49] := by simpa using g9
      have := HN.out
      rw [e] at this
      rw [← this]
      show labL _ = _
      decide
    go_wp2
    go_ret2
    rw [HV.out]
    exact ⟨rfl, hbb⟩
  cases g10 : (y.toList == [105, 115, 111, 45, 56, 56, 53, 57, 45, 49])
  rotate_left
  · have HV : Hid (N = 2) := by
      have e : y.toList = [105, 115, 111, 45, 56, 56, 53, 57, 45, 49] := by simpa using g10
      have := HN.out
      rw [e] at this
      rw [← this]
      show labL _ = _
      decide
    go_wp2
    go_ret2
    rw [HV.out]
    exact ⟨rfl, hbb⟩
  cases g11 : (y.toList == [97, 115, 99, 105, 105])
  rotate_left
  · have HV : Hid (N = 2) := by
      have e : y.toList = [97, 115, 99, 105, 105] := by simpa using g11
      have := HN.out
      rw [e] at this
      rw [← this]
      show labL _ = _
      decide
    go_wp2
    go_ret2
    rw [HV.out]
    exact ⟨rfl, hbb⟩
  cases g12 : (y.toList == [117, 115, 45, 97, 115, 99, 105, 105])
  rotate_left
  · have HV : Hid (N = 2) := by
      have e : y.toList = [117, 115, 45, 97, 115, 99, 105, 105] := by simpa using g12
      have := HN.out
      rw [e] at this
      rw [← this]
      show labL _ = _
      decide
    go_wp2
    go_ret2
    rw [HV.out]
    exact ⟨rfl, hbb⟩
  have HV : Hid (N = 0) := by
    have := HN.out
    rw [← this]
    show labL _ = _
    have n0 : ¬ y.toList = [117, 116, 102, 45, 56] := by simpa using g0
    have n1 : ¬ y.toList = [117, 116, 102, 56] := by simpa using g1
    have n2 : ¬ y.toList = [117, 110, 105, 99, 111, 100, 101, 45, 49, 45, 49, 45, 117, 116, 102, 45, 56] := by simpa using g2
    have n3 : ¬ y.toList = [117, 116, 102, 45, 49, 54] := by simpa using g3
    have n4 : ¬ y.toList = [117, 116, 102, 45, 49, 54, 108, 101] := by simpa using g4
    have n5 : ¬ y.toList = [117, 116, 102, 45, 49, 54, 98, 101] := by simpa using g5
    have n6 : ¬ y.toList = [119, 105, 110, 100, 111, 119, 115, 45, 49, 50, 53, 50] := by simpa using g6
    have n7 : ¬ y.toList = [99, 112, 49, 50, 53, 50] := by simpa using g7
    have n8 : ¬ y.toList = [108, 97, 116, 105, 110, 49] := by simpa using g8
    have n9 : ¬ y.toList = [108, 49] := by simpa using g9
    have n10 : ¬ y.toList = [105, 115, 111, 45, 56, 56, 53, 57, 45, 49] := by simpa using g10
    have n11 : ¬ y.toList = [97, 115, 99, 105, 105] := by simpa using g11
    have n12 : ¬ y.toList = [117, 115, 45, 97, 115, 99, 105, 105] := by simpa using g12
    simp [labL, utfNames, winNames, n0, n1, n2, n3, n4, n5, n6, n7, n8, n9, n10, n11, n12]
  go_wp2
  go_ret2
  rw [HV.out]
  exact ⟨rfl, hbb⟩
end Go.Proofs.YtjfbogjpmieogacDoor.Sn

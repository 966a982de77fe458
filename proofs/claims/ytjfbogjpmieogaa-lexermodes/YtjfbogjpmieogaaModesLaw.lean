/-
  The mode behind the start tag of a name: the program's, the reference's, and the law.
-/
import Derived.Test.YtjfbogjpmieogaaRows
import Derived.Below
import Derived.Carry
import Derived.OwnWalk
import Derived.WalkKit
import Derived.WalkSpells
import Derived.WalkLawsBesides
import Derived.Deep.RegionLaw
import Derived.Deep.QuietTactic
import Derived.BigQuiet
namespace Go.Proofs.Ytjfbogjpmieogaa
open Go.RowKit

/-- The mode behind the start tag of a name. -/
def modeOf (l : List UInt8) : Int := if l = [116, 105, 116, 108, 101] then 1 else if l = [116, 101, 120, 116, 97, 114, 101, 97] then 1 else if l = [115, 116, 121, 108, 101] then 2 else if l = [115, 99, 114, 105, 112, 116] then 2 else if l = [120, 109, 112] then 2 else if l = [112, 108, 97, 105, 110, 116, 101, 120, 116] then 3 else 0

set_option maxRecDepth 100000 in
set_option maxHeartbeats 2000000 in
theorem of_any (y : ByteArray) (w : World) : Calls Try.prog 11 #[.string y] w fun e w' => e = .returned (.int .i64 (modeOf y.toList)) ∧ w' = w := by
  generalize hN : modeOf y.toList = N
  have HN : Hid (modeOf y.toList = N) := hN
  clear hN
  go_enter Try.func11, Try.ntmps11
  cases g0 : (y.toList == [116, 105, 116, 108, 101])
  rotate_left
  · have HV : Hid (N = 1) := by
      have e : y.toList = [116, 105, 116, 108, 101] := by simpa using g0
      have := HN.out
      rw [e] at this
      rw [← this]
      show modeOf _ = _
      decide
    go_wp2
    go_ret
    rw [HV.out]
    exact ⟨rfl, rfl⟩
  cases g1 : (y.toList == [116, 101, 120, 116, 97, 114, 101, 97])
  rotate_left
  · have HV : Hid (N = 1) := by
      have e : y.toList = [116, 101, 120, 116, 97, 114, 101, 97] := by simpa using g1
      have := HN.out
      rw [e] at this
      rw [← this]
      show modeOf _ = _
      decide
    go_wp2
    go_ret
    rw [HV.out]
    exact ⟨rfl, rfl⟩
  cases g2 : (y.toList == [115, 116, 121, 108, 101])
  rotate_left
  · have HV : Hid (N = 2) := by
      have e : y.toList = [115, 116, 121, 108, 101] := by simpa using g2
      have := HN.out
      rw [e] at this
      rw [← this]
      show modeOf _ = _
      decide
    go_wp2
    go_ret
    rw [HV.out]
    exact ⟨rfl, rfl⟩
  cases g3 : (y.toList == [115, 99, 114, 105, 112, 116])
  rotate_left
  · have HV : Hid (N = 2) := by
      have e : y.toList = [115, 99, 114, 105, 112, 116] := by simpa using g3
      have := HN.out
      rw [e] at this
      rw [← this]
      show modeOf _ = _
      decide
    go_wp2
    go_ret
    rw [HV.out]
    exact ⟨rfl, rfl⟩
  cases g4 : (y.toList == [120, 109, 112])
  rotate_left
  · have HV : Hid (N = 2) := by
      have e : y.toList = [120, 109, 112] := by simpa using g4
      have := HN.out
      rw [e] at this
      rw [← this]
      show modeOf _ = _
      decide
    go_wp2
    go_ret
    rw [HV.out]
    exact ⟨rfl, rfl⟩
  cases g5 : (y.toList == [112, 108, 97, 105, 110, 116, 101, 120, 116])
  rotate_left
  · have HV : Hid (N = 3) := by
      have e : y.toList = [112, 108, 97, 105, 110, 116, 101, 120, 116] := by simpa using g5
      have := HN.out
      rw [e] at this
      rw [← this]
      show modeOf _ = _
      decide
    go_wp2
    go_ret
    rw [HV.out]
    exact ⟨rfl, rfl⟩
  have HV : Hid (N = 0) := by
    have := HN.out
    simp only [beq_eq_false_iff_ne, ne_eq] at g0 g1 g2 g3 g4 g5
    rw [← this]
    show modeOf _ = _
    unfold modeOf
    rw [if_neg g0, if_neg g1, if_neg g2, if_neg g3, if_neg g4, if_neg g5]
  go_wp2
  go_ret
  rw [HV.out]
  exact ⟨rfl, rfl⟩

set_option maxRecDepth 100000 in
set_option maxHeartbeats 2000000 in
theorem refOf_any (y : ByteArray) (w : World) : Calls Try.prog 12 #[.string y] w fun e w' => e = .returned (.int .i64 (modeOf y.toList)) ∧ w' = w := by
  generalize hN : modeOf y.toList = N
  have HN : Hid (modeOf y.toList = N) := hN
  clear hN
  go_enter Try.func12, Try.ntmps12
  cases g0 : (y.toList == [116, 105, 116, 108, 101])
  rotate_left
  · have HV : Hid (N = 1) := by
      have e : y.toList = [116, 105, 116, 108, 101] := by simpa using g0
      have := HN.out
      rw [e] at this
      rw [← this]
      show modeOf _ = _
      decide
    go_wp2
    go_ret
    rw [HV.out]
    exact ⟨rfl, rfl⟩
  cases g1 : (y.toList == [116, 101, 120, 116, 97, 114, 101, 97])
  rotate_left
  · have HV : Hid (N = 1) := by
      have e : y.toList = [116, 101, 120, 116, 97, 114, 101, 97] := by simpa using g1
      have := HN.out
      rw [e] at this
      rw [← this]
      show modeOf _ = _
      decide
    go_wp2
    go_ret
    rw [HV.out]
    exact ⟨rfl, rfl⟩
  cases g2 : (y.toList == [115, 116, 121, 108, 101])
  rotate_left
  · have HV : Hid (N = 2) := by
      have e : y.toList = [115, 116, 121, 108, 101] := by simpa using g2
      have := HN.out
      rw [e] at this
      rw [← this]
      show modeOf _ = _
      decide
    go_wp2
    go_ret
    rw [HV.out]
    exact ⟨rfl, rfl⟩
  cases g3 : (y.toList == [115, 99, 114, 105, 112, 116])
  rotate_left
  · have HV : Hid (N = 2) := by
      have e : y.toList = [115, 99, 114, 105, 112, 116] := by simpa using g3
      have := HN.out
      rw [e] at this
      rw [← this]
      show modeOf _ = _
      decide
    go_wp2
    go_ret
    rw [HV.out]
    exact ⟨rfl, rfl⟩
  cases g4 : (y.toList == [120, 109, 112])
  rotate_left
  · have HV : Hid (N = 2) := by
      have e : y.toList = [120, 109, 112] := by simpa using g4
      have := HN.out
      rw [e] at this
      rw [← this]
      show modeOf _ = _
      decide
    go_wp2
    go_ret
    rw [HV.out]
    exact ⟨rfl, rfl⟩
  cases g5 : (y.toList == [112, 108, 97, 105, 110, 116, 101, 120, 116])
  rotate_left
  · have HV : Hid (N = 3) := by
      have e : y.toList = [112, 108, 97, 105, 110, 116, 101, 120, 116] := by simpa using g5
      have := HN.out
      rw [e] at this
      rw [← this]
      show modeOf _ = _
      decide
    go_wp2
    go_ret
    rw [HV.out]
    exact ⟨rfl, rfl⟩
  have HV : Hid (N = 0) := by
    have := HN.out
    simp only [beq_eq_false_iff_ne, ne_eq] at g0 g1 g2 g3 g4 g5
    rw [← this]
    show modeOf _ = _
    unfold modeOf
    rw [if_neg g0, if_neg g1, if_neg g2, if_neg g3, if_neg g4, if_neg g5]
  go_wp2
  go_ret
  rw [HV.out]
  exact ⟨rfl, rfl⟩

set_option maxRecDepth 100000 in
set_option maxHeartbeats 2000000 in
theorem modes_law (s : ByteArray) (w : World) : Calls Try.prog 5 #[.string s] w fun e w' => e = .returned (.bool true) ∧ Below w.heap.size w w' := by
  have h1 : modeOf (ByteArray.toList ⟨#[116, 105, 116, 108, 101]⟩) = 1 := by
    have : ByteArray.toList ⟨#[116, 105, 116, 108, 101]⟩ = [116, 105, 116, 108, 101] := by simp
    rw [this]
    decide
  have HT : Hid (∀ w, Calls Try.prog 11 #[.string ⟨#[116, 105, 116, 108, 101]⟩] w fun e w' => e = .returned (.int .i64 1) ∧ w' = w) := by
    intro w
    have := of_any ⟨#[116, 105, 116, 108, 101]⟩ w
    rw [h1] at this
    exact this
  clear h1
  have H2 : Hid (∀ w, Calls Try.prog 11 #[.string s] w fun e w' => e = .returned (.int .i64 (modeOf s.toList)) ∧ w' = w) := fun w => of_any s w
  have H3 : Hid (∀ w, Calls Try.prog 12 #[.string s] w fun e w' => e = .returned (.int .i64 (modeOf s.toList)) ∧ w' = w) := fun w => refOf_any s w
  generalize modeOf s.toList = m at H2 H3
  go_enter Try.func5, Try.ntmps5
  go_wp2_with fail
  refine Calls.mono (HT.out _) ?_
  rintro e w1 ⟨rfl, rfl⟩
  go_wp2_with fail
  refine Calls.mono (H2.out _) ?_
  rintro e w1 ⟨rfl, rfl⟩
  go_wp2_with fail
  refine Calls.mono (H3.out _) ?_
  rintro e w1 ⟨rfl, rfl⟩
  go_wp2
  go_ret
  exact ⟨rfl, Below.refl _ _⟩
end Go.Proofs.Ytjfbogjpmieogaa

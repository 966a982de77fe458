/-
  passOver and upTo: each returns the first place from a place on whose byte is none (or one) of a set; the world is as it was.
-/
import Derived.Test.YtjfbogjpmieogacDoorRows
import Derived.Test.YtjfbogjpmieogacDoorPlain
import Derived.WalkKit
import Derived.WalkSpells
import Derived.WalkLawsBesides
import Derived.Test.YtjfbogjpmieogacDoorShelf
namespace Go.Proofs.YtjfbogjpmieogacDoor.Sn
open Go.RowKit

theorem ret_int {k : IntKind} {a b : Int} (h : a = b) : Ending.returned (.int k a) = .returned (.int k b) := by rw [h]

set_option maxHeartbeats 400000 in
theorem passOver_any (s set : ByteArray) (k : Nat) (w : World) (hs : s.size ≤ maxLen) (hk : k ≤ s.size) :
    Calls Tryd.prog 63 #[.string s, .int .i64 k, .string set] w fun e w' => e = .returned (.int .i64 (scan (inSet set.data.toList) s.data.toList k)) ∧ w' = w := by
  unfold maxLen at hs
  go_enter Tryd.func63, Tryd.ntmps63
  go_wp2
  go_loop [1] (fun i => ∃ j : Nat, j ≤ s.size ∧ i = .int .i64 j ∧ scan (inSet set.data.toList) s.data.toList k = scan (inSet set.data.toList) s.data.toList j) (fun i => s.size - (intOf i).toNat)
  case atStart => exact ⟨k, hk, rfl, rfl⟩
  case round =>
    obtain ⟨j, hj, rfl, hsc⟩ := hrel
    have HS : Hid (scan (inSet set.data.toList) s.data.toList k = scan (inSet set.data.toList) s.data.toList j) := hsc
    clear hsc
    by_cases hlt : j < s.size
    · have HY : Hid (0 ≤ Lib.indexByte set.data.toList s[j] → scan (inSet set.data.toList) s.data.toList j = scan (inSet set.data.toList) s.data.toList (j + 1)) :=
        fun h => scan_step _ _ j (by simpa using hlt) ((mem_index _ _).1 h)
      have HN : Hid (Lib.indexByte set.data.toList s[j] < 0 → scan (inSet set.data.toList) s.data.toList j = j) :=
        fun h => scan_stop _ _ j (by simpa using hlt) ((mem_index_no _ _).1 h)
      go_wp2_with (go_at_call 43; refine (Tryd.strings_IndexByte _ _ _).mono ?_; rintro e w' ⟨rfl, rfl⟩)
      · have hy : 0 ≤ Lib.indexByte set.data.toList s[j] := by assumption
        go_round
        case rel => exact ⟨j + 1, by omega, by go_num, HS.out.trans (HY.out hy)⟩
        case measure => simp [intOf]; omega
      · have hn : Lib.indexByte set.data.toList s[j] < 0 := by assumption
        go_ret
        exact ⟨ret_int (by rw [HS.out, HN.out hn]), rfl⟩
    · have HE : Hid (scan (inSet set.data.toList) s.data.toList j = j) := scan_end _ _ j (by simp; omega)
      go_wp2
      go_ret
      exact ⟨ret_int (by rw [HS.out, HE.out]), rfl⟩

set_option maxHeartbeats 400000 in
theorem upTo_any (s set : ByteArray) (k : Nat) (w : World) (hs : s.size ≤ maxLen) (hk : k ≤ s.size) :
    Calls Tryd.prog 28 #[.string s, .int .i64 k, .string set] w fun e w' => e = .returned (.int .i64 (scan (fun c => !inSet set.data.toList c) s.data.toList k)) ∧ w' = w := by
  unfold maxLen at hs
  go_enter Tryd.func28, Tryd.ntmps28
  go_wp2
  go_loop [1] (fun i => ∃ j : Nat, j ≤ s.size ∧ i = .int .i64 j ∧ scan (fun c => !inSet set.data.toList c) s.data.toList k = scan (fun c => !inSet set.data.toList c) s.data.toList j) (fun i => s.size - (intOf i).toNat)
  case atStart => exact ⟨k, hk, rfl, rfl⟩
  case round =>
    obtain ⟨j, hj, rfl, hsc⟩ := hrel
    have HS : Hid (scan (fun c => !inSet set.data.toList c) s.data.toList k = scan (fun c => !inSet set.data.toList c) s.data.toList j) := hsc
    clear hsc
    by_cases hlt : j < s.size
    · have HY : Hid (Lib.indexByte set.data.toList s[j] < 0 → scan (fun c => !inSet set.data.toList c) s.data.toList j = scan (fun c => !inSet set.data.toList c) s.data.toList (j + 1)) :=
        fun h => scan_step _ _ j (by simpa using hlt) (congrArg (fun b => !b) ((mem_index_no _ _).1 h))
      have HN : Hid (0 ≤ Lib.indexByte set.data.toList s[j] → scan (fun c => !inSet set.data.toList c) s.data.toList j = j) :=
        fun h => scan_stop _ _ j (by simpa using hlt) (congrArg (fun b => !b) ((mem_index _ _).1 h))
      go_wp2_with (go_at_call 43; refine (Tryd.strings_IndexByte _ _ _).mono ?_; rintro e w' ⟨rfl, rfl⟩)
      · have hy : Lib.indexByte set.data.toList s[j] < 0 := by assumption
        go_round
        case rel => exact ⟨j + 1, by omega, by go_num, HS.out.trans (HY.out hy)⟩
        case measure => simp [intOf]; omega
      · have hn : 0 ≤ Lib.indexByte set.data.toList s[j] := by assumption
        go_ret
        exact ⟨ret_int (by rw [HS.out, HN.out hn]), rfl⟩
    · have HE : Hid (scan (fun c => !inSet set.data.toList c) s.data.toList j = j) := scan_end _ _ j (by simp; omega)
      go_wp2
      go_ret
      exact ⟨ret_int (by rw [HS.out, HE.out]), rfl⟩

end Go.Proofs.YtjfbogjpmieogacDoor.Sn

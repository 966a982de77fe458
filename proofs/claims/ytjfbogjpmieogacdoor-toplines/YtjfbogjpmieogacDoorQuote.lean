/-
  quoted and isQuote.
-/
import Derived.Test.YtjfbogjpmieogacDoorScan
import Derived.Test.YtjfbogjpmieogacDoorLow
import Derived.Deep.QuietTactic
import Derived.BigQuiet
namespace Go.Proofs.YtjfbogjpmieogacDoor.Sn
open Go.RowKit

def quoteB (c : UInt8) : Bool := c == 34 || c == 39

theorem isQuote_any (c : UInt8) (w : World) :
    Calls Tryd.prog 78 #[.int .u8 (c.toNat : Int)] w fun e w' => e = .returned (.bool (quoteB c)) ∧ w' = w := by
  have hb : quoteB c = (((c.toNat : Int) == 34) || ((c.toNat : Int) == 39)) := by
    have key : ∀ n : Fin 256, quoteB (UInt8.ofNat n.val) = ((((UInt8.ofNat n.val).toNat : Int) == 34) || (((UInt8.ofNat n.val).toNat : Int) == 39)) := by decide +kernel
    have := key ⟨c.toNat, c.toNat_lt⟩
    simpa using this
  rw [hb]
  clear hb
  go_enter Tryd.func78, Tryd.ntmps78
  go_wp2
  all_goals go_ret
  all_goals exact ⟨by simp [*], rfl⟩

/-- Where the next sign like the first one stands, counted behind the first. -/
def qIdx (q : ByteArray) (h : 0 < q.size) : Int := Lib.indexByte (List.take (q.size - 1) q.data.toList.tail) q[0]

set_option maxHeartbeats 400000 in
theorem quoted_no (q : ByteArray) (w : World) (hq : 0 < q.size) (hs : q.size ≤ maxLen) (hn : qIdx q hq < 0) :
    Calls Tryd.prog 79 #[.string q] w fun e w' => e = .returned (.tuple #[.string ⟨#[]⟩, .bool false]) ∧ Below w.heap.size w w' := by
  unfold maxLen at hs
  unfold qIdx at hn
  go_enter Tryd.func79, Tryd.ntmps79
  go_wp2
  go_quiet ((go_at_call 43; exact Calls.quiet_of_same (Tryd.strings_IndexByte _ _ _)))
  go_wp2
  go_ret2
  exact ⟨rfl, below_drewN (Below.refl _ _) _⟩

set_option maxHeartbeats 400000 in
theorem quoted_yes (q : ByteArray) (i : Nat) (w : World) (hq : 0 < q.size) (hs : q.size ≤ maxLen) (hn : qIdx q hq = (i : Int)) (hi : i + 1 < q.size) :
    Calls Tryd.prog 79 #[.string q] w fun e w' => e = .returned (.tuple #[.string (q.extract 1 (1 + i)), .bool true]) ∧ Below w.heap.size w w' := by
  unfold maxLen at hs
  unfold qIdx at hn
  go_enter Tryd.func79, Tryd.ntmps79
  go_wp2
  go_quiet ((go_at_call 43; exact Calls.quiet_of_same (Tryd.strings_IndexByte _ _ _)))
  go_wp2
  go_ret2
  exact ⟨rfl, below_drewN (Below.refl _ _) _⟩
end Go.Proofs.YtjfbogjpmieogacDoor.Sn

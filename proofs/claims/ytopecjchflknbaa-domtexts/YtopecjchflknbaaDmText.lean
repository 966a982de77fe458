/-
  No scalar is written as none; the octets of a row back to a text.
-/
import Derived.Test.YtopecjchflknbaaDmSpeaks
import Derived.Laws.BytesArg
namespace Go.Proofs.Ytopecjchflknbaa
open Go.RowKit

set_option maxRecDepth 100000 in
set_option maxHeartbeats 1000000 in
theorem write_bad (t B g cap : Nat) (cs : List Cel) (p : Nat) (cp : Cel) (v at' : Int) (w : World) (hT : TreeAt w t B g cap cs) (hp : cs[p]? = some cp) (hk : cp.kind = 0 ∨ cp.kind = 2) (hv : scalarI v = false) :
    Calls Try.prog 23 #[.pointer (some ⟨t, 0, none⟩), .int .i64 v, .int .i64 at', .int .i64 (p : Int), .int .i64 (-1)] w fun e w' => e = .returned (.int .i64 1) ∧ w' = w := by
  have H1 : Hid _ := isPlace_end t B g cap cs w p cp hT hp hk
  have H2 : Hid (∀ w, _) := fun w => isScalar_any v w
  rw [hv] at H2
  clear hT hp hk hv
  go_enter Try.func23, Try.ntmps23
  go_wp2_with fail
  refine Calls.mono H1.out ?_
  rintro e w1 ⟨rfl, hw1⟩
  subst hw1
  go_wp2_with fail
  refine Calls.mono (H2.out _) ?_
  rintro e w2 ⟨rfl, hw2⟩
  subst hw2
  go_wp2
  go_ret
  exact ⟨rfl, rfl⟩

def byteC (l : List UInt8) : List Value := l.map fun b => Value.int .u8 (b.toNat : Int)
theorem byteBack {w : World} {base : Nat} {v : Value} {l : List UInt8} (h : w.ownsRow base 5 1 v l.length (byteC l)) : (convert 62 9 v).run Try.prog w = .ok (.string ⟨l.toArray⟩) w := by
  rcases h.2 with ⟨rfl, hn⟩ | ⟨g, cap, cur, rfl, _, hg, _, _, hs, htk⟩
  · have : l = [] := List.length_eq_zero_iff.1 hn
    subst this
    exact run_convert_bytes_nil (P := Try.prog) w 62 5 Try.underlying62 Try.underlying5 0 0 9 Try.underlying9
  · refine run_convert_bytes_back w 62 9 5 ⟨g, 0, none⟩ cap l Try.underlying62 Try.underlying5 Try.underlying9 (fun j hj => ?_)
    exact h.cells rfl j _ (by simp [byteC, List.getElem?_eq_getElem hj])

end Go.Proofs.Ytopecjchflknbaa

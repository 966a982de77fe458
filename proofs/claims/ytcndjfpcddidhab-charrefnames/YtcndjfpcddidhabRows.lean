/-
  No cell of these rows narrows 'for every input' (looked for: loops, veiled, ifaces, maps, wideKeys, modest, calm, conditions, laid).
  DERIVED. THE GIVEN ROWS OF THIS SEAT. 4 by the template 'for every input the law returns true; each argument reads behind the call as it read before'; 0 by the template 'total and deterministic' (their statements: YtcndjfpcddidhabTotals.lean).
  GIVEN WITH THE SEED: the statements are not yours to turn. If you find one false, say at which input.
  Laid BY PROGRAM, IN A SANDBOX (cutbox-rows.mjs): the forced cells as the released guide's own fill.sh prints them over the translation 66c5f2596fc48b37… (all of the seat's roots in one cut). By AI agents, Wed Nov 11 2026. No macro, syntax, notation, axiom, sorry.
-/
import Derived.Test.YtcndjfpcddidhabChecked
import GoSem.Claim
import GoSem.ClaimJoined
import GoSem.ClaimMapViews
import Derived.JoinedTies
import Derived.KernelRfl
namespace Go.Proofs.Ytcndjfpcddidhab
/- THE CELL 'sum', in the pinned program and in every row, IS THE sha256 OF THE DUMP (.gsa) THAT YtcndjfpcddidhabProg.lean LOADS. Nothing in Lean hashes anything: it is a label: what it is worth is what the hold of that sum in a sandbox is worth. -/
noncomputable def Try.pinned : Pinned := { name := "ytcndjfpcddidhab", sum := "66c5f2596fc48b377cdf6783ec66b90f140b093ef0aad8d775a8abf15b70a33c", checked := Try.checked }
namespace Rows
def none {H : Type} : Left H := { results := [], args := [] }

/-- 'beadlelaw03.PlaceRises': WHATEVER THE INPUT: true; the input reads as it did. -/
def placeRisesSpec : ChangeSpec := { name := "placeRises", fn := fun _ => fun
  | [d1, d2, d3] => { results := [.lit (.bool true)], args := [d1, d2, d3] }
  | _ => none }
def placeRisesRow : OpenClaim := { program := "ytcndjfpcddidhab", sum := "66c5f2596fc48b377cdf6783ec66b90f140b093ef0aad8d775a8abf15b70a33c", func := "beadle/beadlelaw03.PlaceRises", spec := "placeRises", unfollowed := true, recurses := true, apart := false }
def PlaceRisesSaid : Prop := placeRisesRow.holds Try.pinned (OpenSpec.ofChange placeRisesSpec)

/-- ITS FALSE NEIGHBOUR: 'it returns false'. Refute it at one input. -/
def placeRisesWrong : ChangeSpec := { name := "placeRises", fn := fun _ => fun
  | [d1, d2, d3] => { results := [.lit (.bool false)], args := [d1, d2, d3] }
  | _ => none }
def PlaceRisesWrongFalsely : Prop := placeRisesRow.holds Try.pinned (OpenSpec.ofChange placeRisesWrong)

/-- 'beadlelaw04.CharrefNames': WHATEVER THE INPUT: true; the input reads as it did. -/
def charrefNamesSpec : ChangeSpec := { name := "charrefNames", fn := fun _ => fun
  | [d] => { results := [.lit (.bool true)], args := [d] }
  | _ => none }
def charrefNamesRow : OpenClaim := { program := "ytcndjfpcddidhab", sum := "66c5f2596fc48b377cdf6783ec66b90f140b093ef0aad8d775a8abf15b70a33c", func := "beadle/beadlelaw04.CharrefNames", spec := "charrefNames", unfollowed := true, recurses := true, apart := false }
def CharrefNamesSaid : Prop := charrefNamesRow.holds Try.pinned (OpenSpec.ofChange charrefNamesSpec)

/-- ITS FALSE NEIGHBOUR: 'it returns false'. Refute it at one input. -/
def charrefNamesWrong : ChangeSpec := { name := "charrefNames", fn := fun _ => fun
  | [d] => { results := [.lit (.bool false)], args := [d] }
  | _ => none }
def CharrefNamesWrongFalsely : Prop := charrefNamesRow.holds Try.pinned (OpenSpec.ofChange charrefNamesWrong)

/-- 'beadlelaw04.CharrefList': WHATEVER THE INPUT: true; the input reads as it did. -/
def charrefListSpec : ChangeSpec := { name := "charrefList", fn := fun _ => fun
  | [d] => { results := [.lit (.bool true)], args := [d] }
  | _ => none }
def charrefListRow : OpenClaim := { program := "ytcndjfpcddidhab", sum := "66c5f2596fc48b377cdf6783ec66b90f140b093ef0aad8d775a8abf15b70a33c", func := "beadle/beadlelaw04.CharrefList", spec := "charrefList", unfollowed := true, recurses := true, apart := false }
def CharrefListSaid : Prop := charrefListRow.holds Try.pinned (OpenSpec.ofChange charrefListSpec)

/-- ITS FALSE NEIGHBOUR: 'it returns false'. Refute it at one input. -/
def charrefListWrong : ChangeSpec := { name := "charrefList", fn := fun _ => fun
  | [d] => { results := [.lit (.bool false)], args := [d] }
  | _ => none }
def CharrefListWrongFalsely : Prop := charrefListRow.holds Try.pinned (OpenSpec.ofChange charrefListWrong)

/-- 'beadlelaw04.CharrefLonger': WHATEVER THE INPUT: true; the input reads as it did. -/
def charrefLongerSpec : ChangeSpec := { name := "charrefLonger", fn := fun _ => fun
  | [d1, d2] => { results := [.lit (.bool true)], args := [d1, d2] }
  | _ => none }
def charrefLongerRow : OpenClaim := { program := "ytcndjfpcddidhab", sum := "66c5f2596fc48b377cdf6783ec66b90f140b093ef0aad8d775a8abf15b70a33c", func := "beadle/beadlelaw04.CharrefLonger", spec := "charrefLonger", unfollowed := true, recurses := true, apart := false }
def CharrefLongerSaid : Prop := charrefLongerRow.holds Try.pinned (OpenSpec.ofChange charrefLongerSpec)

/-- ITS FALSE NEIGHBOUR: 'it returns false'. Refute it at one input. -/
def charrefLongerWrong : ChangeSpec := { name := "charrefLonger", fn := fun _ => fun
  | [d1, d2] => { results := [.lit (.bool false)], args := [d1, d2] }
  | _ => none }
def CharrefLongerWrongFalsely : Prop := charrefLongerRow.holds Try.pinned (OpenSpec.ofChange charrefLongerWrong)

/- THE SECOND FORM. 'bulk': how many values and letters a reading holds, each counted each time it is reached (what is shared counts as often as it is met; a slice's spare places count too). A statement '..UptoSaid' is the law's where the arguments, and the package variables that the reading takes, are together of bulk at most 1048576: NARROWER than '..Said'. Prove '..Said' where nothing that the law and all that it calls make is longer than what came in: it says more and counts as full. Else prove '..UptoSaid'. A law counts once. -/
mutual
def uptoBulk {H : Type} : DataW H → Nat
  | .lit (.string bytes) => bytes.length + 1
  | .lit _ => 1
  | .nil => 1
  | .ptr d => uptoBulk d + 1
  | .slice elems spare => uptoBulkAll elems + uptoBulkAll spare + 1
  | .agg parts => uptoBulkAll parts + 1
  | .iface _ d => uptoBulk d + 1
  | .map entries => uptoBulkEntries entries + 1
  | .held _ => 1
def uptoBulkAll {H : Type} : List (DataW H) → Nat
  | [] => 0
  | d :: r => uptoBulk d + uptoBulkAll r
def uptoBulkEntries {H : Type} : List (Lit × DataW H) → Nat
  | [] => 0
  | x :: r => uptoBulkEntry x + uptoBulkEntries r
def uptoBulkEntry {H : Type} : Lit × DataW H → Nat
  | (.string bytes, d) => bytes.length + uptoBulk d + 1
  | (_, d) => uptoBulk d + 1
 end
def uptoSmall : (H : Type) → List (DataW H) → Bool := fun _ ds => decide (uptoBulkAll ds ≤ 1048576)
def OpenSpec.upto (s : _root_.Go.ChangeSpec) : _root_.Go.OpenSpec := { _root_.Go.OpenSpec.ofChange s with cond := some uptoSmall }

/-- 'beadlelaw03.PlaceRises', WHERE WHAT IT READS IS OF BULK AT MOST 1048576: true; the input reads as it did. -/
def placeRisesUptoRow : OpenClaim := { program := "ytcndjfpcddidhab", sum := "66c5f2596fc48b377cdf6783ec66b90f140b093ef0aad8d775a8abf15b70a33c", func := "beadle/beadlelaw03.PlaceRises", spec := "placeRises", unfollowed := true, recurses := true, apart := false, narrowed := true }
def PlaceRisesUptoSaid : Prop := placeRisesUptoRow.holds Try.pinned (OpenSpec.upto placeRisesSpec)

/-- 'beadlelaw04.CharrefNames', WHERE WHAT IT READS IS OF BULK AT MOST 1048576: true; the input reads as it did. -/
def charrefNamesUptoRow : OpenClaim := { program := "ytcndjfpcddidhab", sum := "66c5f2596fc48b377cdf6783ec66b90f140b093ef0aad8d775a8abf15b70a33c", func := "beadle/beadlelaw04.CharrefNames", spec := "charrefNames", unfollowed := true, recurses := true, apart := false, narrowed := true }
def CharrefNamesUptoSaid : Prop := charrefNamesUptoRow.holds Try.pinned (OpenSpec.upto charrefNamesSpec)

/-- 'beadlelaw04.CharrefList', WHERE WHAT IT READS IS OF BULK AT MOST 1048576: true; the input reads as it did. -/
def charrefListUptoRow : OpenClaim := { program := "ytcndjfpcddidhab", sum := "66c5f2596fc48b377cdf6783ec66b90f140b093ef0aad8d775a8abf15b70a33c", func := "beadle/beadlelaw04.CharrefList", spec := "charrefList", unfollowed := true, recurses := true, apart := false, narrowed := true }
def CharrefListUptoSaid : Prop := charrefListUptoRow.holds Try.pinned (OpenSpec.upto charrefListSpec)

/-- 'beadlelaw04.CharrefLonger', WHERE WHAT IT READS IS OF BULK AT MOST 1048576: true; the input reads as it did. -/
def charrefLongerUptoRow : OpenClaim := { program := "ytcndjfpcddidhab", sum := "66c5f2596fc48b377cdf6783ec66b90f140b093ef0aad8d775a8abf15b70a33c", func := "beadle/beadlelaw04.CharrefLonger", spec := "charrefLonger", unfollowed := true, recurses := true, apart := false, narrowed := true }
def CharrefLongerUptoSaid : Prop := charrefLongerUptoRow.holds Try.pinned (OpenSpec.upto charrefLongerSpec)

end Rows
end Go.Proofs.Ytcndjfpcddidhab

/-
  No cell of these rows narrows 'for every input' (looked for: loops, veiled, ifaces, maps, wideKeys, modest, calm, conditions, laid).
  DERIVED. THE GIVEN ROWS OF THIS SEAT. 5 by the template 'for every input the law returns true; each argument reads behind the call as it read before'; 0 by the template 'total and deterministic' (their statements: YtjbfgiicaaljjaaTotals.lean).
  GIVEN WITH THE SEED: the statements are not yours to turn. If you find one false, say at which input.
  Laid BY PROGRAM, IN A SANDBOX (cutbox-rows.mjs): the forced cells as the released guide's own fill.sh prints them over the translation 71d7fe013017b02f… (all of the seat's roots in one cut). By AI agents, Wed Nov 11 2026. No macro, syntax, notation, axiom, sorry.
-/
import Derived.Test.YtjbfgiicaaljjaaChecked
import GoSem.Claim
import GoSem.ClaimJoined
import GoSem.ClaimMapViews
import Derived.JoinedTies
import Derived.KernelRfl
namespace Go.Proofs.Ytjbfgiicaaljjaa
/- THE CELL 'sum', in the pinned program and in every row, IS THE sha256 OF THE DUMP (.gsa) THAT YtjbfgiicaaljjaaProg.lean LOADS. Nothing in Lean hashes anything: it is a label: what it is worth is what the hold of that sum in a sandbox is worth. -/
noncomputable def Try.pinned : Pinned := { name := "ytjbfgiicaaljjaa", sum := "71d7fe013017b02f26053593197c705c1742d74d1ab0987ebc2a66b7e18ccdd8", checked := Try.checked }
namespace Rows
def none {H : Type} : Left H := { results := [], args := [] }

/-- 'beadlelaw13.QueryTrees': WHATEVER THE INPUT: true; the input reads as it did. -/
def queryTreesSpec : ChangeSpec := { name := "queryTrees", fn := fun _ => fun
  | [d1, d2, d3] => { results := [.lit (.bool true)], args := [d1, d2, d3] }
  | _ => none }
def queryTreesRow : OpenClaim := { program := "ytjbfgiicaaljjaa", sum := "71d7fe013017b02f26053593197c705c1742d74d1ab0987ebc2a66b7e18ccdd8", func := "beadle/beadlelaw13.QueryTrees", spec := "queryTrees", inPlace := ["slices.overlaps[int]", "internal/abi.NoEscape"], unfollowed := true, recurses := true, apart := false }
def QueryTreesSaid : Prop := queryTreesRow.holds Try.pinned (OpenSpec.ofChange queryTreesSpec)

/-- ITS FALSE NEIGHBOUR: 'it returns false'. Refute it at one input. -/
def queryTreesWrong : ChangeSpec := { name := "queryTrees", fn := fun _ => fun
  | [d1, d2, d3] => { results := [.lit (.bool false)], args := [d1, d2, d3] }
  | _ => none }
def QueryTreesWrongFalsely : Prop := queryTreesRow.holds Try.pinned (OpenSpec.ofChange queryTreesWrong)

/-- 'beadlelaw13.QueryInner': WHATEVER THE INPUT: true; the input reads as it did. -/
def queryInnerSpec : ChangeSpec := { name := "queryInner", fn := fun _ => fun
  | [d1, d2] => { results := [.lit (.bool true)], args := [d1, d2] }
  | _ => none }
def queryInnerRow : OpenClaim := { program := "ytjbfgiicaaljjaa", sum := "71d7fe013017b02f26053593197c705c1742d74d1ab0987ebc2a66b7e18ccdd8", func := "beadle/beadlelaw13.QueryInner", spec := "queryInner", inPlace := ["slices.overlaps[int]"], unfollowed := true, recurses := true, apart := false }
def QueryInnerSaid : Prop := queryInnerRow.holds Try.pinned (OpenSpec.ofChange queryInnerSpec)

/-- ITS FALSE NEIGHBOUR: 'it returns false'. Refute it at one input. -/
def queryInnerWrong : ChangeSpec := { name := "queryInner", fn := fun _ => fun
  | [d1, d2] => { results := [.lit (.bool false)], args := [d1, d2] }
  | _ => none }
def QueryInnerWrongFalsely : Prop := queryInnerRow.holds Try.pinned (OpenSpec.ofChange queryInnerWrong)

/-- 'beadlelaw13.QueryJoined': WHATEVER THE INPUT: true; the input reads as it did. -/
def queryJoinedSpec : ChangeSpec := { name := "queryJoined", fn := fun _ => fun
  | [d] => { results := [.lit (.bool true)], args := [d] }
  | _ => none }
def queryJoinedRow : OpenClaim := { program := "ytjbfgiicaaljjaa", sum := "71d7fe013017b02f26053593197c705c1742d74d1ab0987ebc2a66b7e18ccdd8", func := "beadle/beadlelaw13.QueryJoined", spec := "queryJoined", inPlace := ["slices.overlaps[int]", "internal/abi.NoEscape"], unfollowed := true, recurses := true, apart := false }
def QueryJoinedSaid : Prop := queryJoinedRow.holds Try.pinned (OpenSpec.ofChange queryJoinedSpec)

/-- ITS FALSE NEIGHBOUR: 'it returns false'. Refute it at one input. -/
def queryJoinedWrong : ChangeSpec := { name := "queryJoined", fn := fun _ => fun
  | [d] => { results := [.lit (.bool false)], args := [d] }
  | _ => none }
def QueryJoinedWrongFalsely : Prop := queryJoinedRow.holds Try.pinned (OpenSpec.ofChange queryJoinedWrong)

/-- 'beadlelaw07.DomWalks': WHATEVER THE INPUT: true; the input reads as it did. -/
def domWalksSpec : ChangeSpec := { name := "domWalks", fn := fun _ => fun
  | [d] => { results := [.lit (.bool true)], args := [d] }
  | _ => none }
def domWalksRow : OpenClaim := { program := "ytjbfgiicaaljjaa", sum := "71d7fe013017b02f26053593197c705c1742d74d1ab0987ebc2a66b7e18ccdd8", func := "beadle/beadlelaw07.DomWalks", spec := "domWalks", inPlace := ["slices.overlaps[int]"], unfollowed := true, recurses := true, apart := false }
def DomWalksSaid : Prop := domWalksRow.holds Try.pinned (OpenSpec.ofChange domWalksSpec)

/-- ITS FALSE NEIGHBOUR: 'it returns false'. Refute it at one input. -/
def domWalksWrong : ChangeSpec := { name := "domWalks", fn := fun _ => fun
  | [d] => { results := [.lit (.bool false)], args := [d] }
  | _ => none }
def DomWalksWrongFalsely : Prop := domWalksRow.holds Try.pinned (OpenSpec.ofChange domWalksWrong)

/-- 'beadlelaw07.DomRefused': WHATEVER THE INPUT: true; the input reads as it did. -/
def domRefusedSpec : ChangeSpec := { name := "domRefused", fn := fun _ => fun
  | [d1, d2] => { results := [.lit (.bool true)], args := [d1, d2] }
  | _ => none }
def domRefusedRow : OpenClaim := { program := "ytjbfgiicaaljjaa", sum := "71d7fe013017b02f26053593197c705c1742d74d1ab0987ebc2a66b7e18ccdd8", func := "beadle/beadlelaw07.DomRefused", spec := "domRefused", inPlace := ["slices.overlaps[int]"], unfollowed := true, recurses := true, apart := false }
def DomRefusedSaid : Prop := domRefusedRow.holds Try.pinned (OpenSpec.ofChange domRefusedSpec)

/-- ITS FALSE NEIGHBOUR: 'it returns false'. Refute it at one input. -/
def domRefusedWrong : ChangeSpec := { name := "domRefused", fn := fun _ => fun
  | [d1, d2] => { results := [.lit (.bool false)], args := [d1, d2] }
  | _ => none }
def DomRefusedWrongFalsely : Prop := domRefusedRow.holds Try.pinned (OpenSpec.ofChange domRefusedWrong)

/- THE SECOND FORM. 'bulk': how many values and letters a reading holds, each counted each time it is reached (what is shared counts as often as it is met; a slice's spare places count too). A statement '..UptoSaid' is the law's where the arguments, and the package variables that the reading takes, are together of bulk at most 1048576: NARROWER than '..Said'. Prove '..Said' where nothing that the law and all that it calls make is longer than what came in: it says more and counts as full. Else prove '..UptoSaid'. A law counts once. -/
mutual
def uptoBulk {H : Type} : DataW H → Nat
  | .lit (.string bytes) => bytes.length + 1
  | .lit _ => 1
  | .nil => 1
  | .ptr d => uptoBulk d + 1
  | .slice elems spare => uptoBulkAll elems + uptoBulkAll spare + 1
  | .agg parts => uptoBulkAll parts + 1
  | .iface _ d => uptoBulk d + 1
  | .map entries => uptoBulkEntries entries + 1
  | .held _ => 1
def uptoBulkAll {H : Type} : List (DataW H) → Nat
  | [] => 0
  | d :: r => uptoBulk d + uptoBulkAll r
def uptoBulkEntries {H : Type} : List (Lit × DataW H) → Nat
  | [] => 0
  | x :: r => uptoBulkEntry x + uptoBulkEntries r
def uptoBulkEntry {H : Type} : Lit × DataW H → Nat
  | (.string bytes, d) => bytes.length + uptoBulk d + 1
  | (_, d) => uptoBulk d + 1
 end
def uptoSmall : (H : Type) → List (DataW H) → Bool := fun _ ds => decide (uptoBulkAll ds ≤ 1048576)
def OpenSpec.upto (s : _root_.Go.ChangeSpec) : _root_.Go.OpenSpec := { _root_.Go.OpenSpec.ofChange s with cond := some uptoSmall }

/-- 'beadlelaw13.QueryTrees', WHERE WHAT IT READS IS OF BULK AT MOST 1048576: true; the input reads as it did. -/
def queryTreesUptoRow : OpenClaim := { program := "ytjbfgiicaaljjaa", sum := "71d7fe013017b02f26053593197c705c1742d74d1ab0987ebc2a66b7e18ccdd8", func := "beadle/beadlelaw13.QueryTrees", spec := "queryTrees", inPlace := ["slices.overlaps[int]", "internal/abi.NoEscape"], unfollowed := true, recurses := true, apart := false, narrowed := true }
def QueryTreesUptoSaid : Prop := queryTreesUptoRow.holds Try.pinned (OpenSpec.upto queryTreesSpec)

/-- 'beadlelaw13.QueryInner', WHERE WHAT IT READS IS OF BULK AT MOST 1048576: true; the input reads as it did. -/
def queryInnerUptoRow : OpenClaim := { program := "ytjbfgiicaaljjaa", sum := "71d7fe013017b02f26053593197c705c1742d74d1ab0987ebc2a66b7e18ccdd8", func := "beadle/beadlelaw13.QueryInner", spec := "queryInner", inPlace := ["slices.overlaps[int]"], unfollowed := true, recurses := true, apart := false, narrowed := true }
def QueryInnerUptoSaid : Prop := queryInnerUptoRow.holds Try.pinned (OpenSpec.upto queryInnerSpec)

/-- 'beadlelaw13.QueryJoined', WHERE WHAT IT READS IS OF BULK AT MOST 1048576: true; the input reads as it did. -/
def queryJoinedUptoRow : OpenClaim := { program := "ytjbfgiicaaljjaa", sum := "71d7fe013017b02f26053593197c705c1742d74d1ab0987ebc2a66b7e18ccdd8", func := "beadle/beadlelaw13.QueryJoined", spec := "queryJoined", inPlace := ["slices.overlaps[int]", "internal/abi.NoEscape"], unfollowed := true, recurses := true, apart := false, narrowed := true }
def QueryJoinedUptoSaid : Prop := queryJoinedUptoRow.holds Try.pinned (OpenSpec.upto queryJoinedSpec)

/-- 'beadlelaw07.DomWalks', WHERE WHAT IT READS IS OF BULK AT MOST 1048576: true; the input reads as it did. -/
def domWalksUptoRow : OpenClaim := { program := "ytjbfgiicaaljjaa", sum := "71d7fe013017b02f26053593197c705c1742d74d1ab0987ebc2a66b7e18ccdd8", func := "beadle/beadlelaw07.DomWalks", spec := "domWalks", inPlace := ["slices.overlaps[int]"], unfollowed := true, recurses := true, apart := false, narrowed := true }
def DomWalksUptoSaid : Prop := domWalksUptoRow.holds Try.pinned (OpenSpec.upto domWalksSpec)

/-- 'beadlelaw07.DomRefused', WHERE WHAT IT READS IS OF BULK AT MOST 1048576: true; the input reads as it did. -/
def domRefusedUptoRow : OpenClaim := { program := "ytjbfgiicaaljjaa", sum := "71d7fe013017b02f26053593197c705c1742d74d1ab0987ebc2a66b7e18ccdd8", func := "beadle/beadlelaw07.DomRefused", spec := "domRefused", inPlace := ["slices.overlaps[int]"], unfollowed := true, recurses := true, apart := false, narrowed := true }
def DomRefusedUptoSaid : Prop := domRefusedUptoRow.holds Try.pinned (OpenSpec.upto domRefusedSpec)

end Rows
end Go.Proofs.Ytjbfgiicaaljjaa

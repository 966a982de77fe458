/-
  No cell of these rows narrows 'for every input' (looked for: loops, veiled, ifaces, maps, wideKeys, modest, calm, conditions, laid).
  DERIVED. THE GIVEN ROWS OF THIS SEAT. 5 by the template 'for every input the law returns true; each argument reads behind the call as it read before'; 0 by the template 'total and deterministic' (their statements: YtopecjchflknbaaTotals.lean).
  GIVEN WITH THE SEED: the statements are not yours to turn. If you find one false, say at which input.
  Laid BY PROGRAM, IN A SANDBOX (cutbox-rows.mjs): the forced cells as the released guide's own fill.sh prints them over the translation 0a31e02ebbf7c40a… (all of the seat's roots in one cut). By AI agents, Wed Nov 11 2026. No macro, syntax, notation, axiom, sorry.
-/
import Derived.Test.YtopecjchflknbaaChecked
import GoSem.Claim
import GoSem.ClaimJoined
import GoSem.ClaimMapViews
import Derived.JoinedTies
import Derived.KernelRfl
namespace Go.Proofs.Ytopecjchflknbaa
/- THE CELL 'sum', in the pinned program and in every row, IS THE sha256 OF THE DUMP (.gsa) THAT YtopecjchflknbaaProg.lean LOADS. Nothing in Lean hashes anything: it is a label: what it is worth is what the hold of that sum in a sandbox is worth. -/
noncomputable def Try.pinned : Pinned := { name := "ytopecjchflknbaa", sum := "0a31e02ebbf7c40aefc6b492b9c4d35243c8e847b040280f16f75c0c32fa06ef", checked := Try.checked }
namespace Rows
def none {H : Type} : Left H := { results := [], args := [] }

/-- 'beadlelaw07.DomScripts': WHATEVER THE INPUT: true; the input reads as it did. -/
def domScriptsSpec : ChangeSpec := { name := "domScripts", fn := fun _ => fun
  | [d] => { results := [.lit (.bool true)], args := [d] }
  | _ => none }
def domScriptsRow : OpenClaim := { program := "ytopecjchflknbaa", sum := "0a31e02ebbf7c40aefc6b492b9c4d35243c8e847b040280f16f75c0c32fa06ef", func := "beadle/beadlelaw07.DomScripts", spec := "domScripts", inPlace := ["slices.overlaps[int]"], unfollowed := true, recurses := true, apart := false }
def DomScriptsSaid : Prop := domScriptsRow.holds Try.pinned (OpenSpec.ofChange domScriptsSpec)

/-- ITS FALSE NEIGHBOUR: 'it returns false'. Refute it at one input. -/
def domScriptsWrong : ChangeSpec := { name := "domScripts", fn := fun _ => fun
  | [d] => { results := [.lit (.bool false)], args := [d] }
  | _ => none }
def DomScriptsWrongFalsely : Prop := domScriptsRow.holds Try.pinned (OpenSpec.ofChange domScriptsWrong)

/-- 'beadlelaw07.DomRefused': WHATEVER THE INPUT: true; the input reads as it did. -/
def domRefusedSpec : ChangeSpec := { name := "domRefused", fn := fun _ => fun
  | [d1, d2] => { results := [.lit (.bool true)], args := [d1, d2] }
  | _ => none }
def domRefusedRow : OpenClaim := { program := "ytopecjchflknbaa", sum := "0a31e02ebbf7c40aefc6b492b9c4d35243c8e847b040280f16f75c0c32fa06ef", func := "beadle/beadlelaw07.DomRefused", spec := "domRefused", inPlace := ["slices.overlaps[int]"], unfollowed := true, recurses := true, apart := false }
def DomRefusedSaid : Prop := domRefusedRow.holds Try.pinned (OpenSpec.ofChange domRefusedSpec)

/-- ITS FALSE NEIGHBOUR: 'it returns false'. Refute it at one input. -/
def domRefusedWrong : ChangeSpec := { name := "domRefused", fn := fun _ => fun
  | [d1, d2] => { results := [.lit (.bool false)], args := [d1, d2] }
  | _ => none }
def DomRefusedWrongFalsely : Prop := domRefusedRow.holds Try.pinned (OpenSpec.ofChange domRefusedWrong)

/-- 'beadlelaw07.DomWalks': WHATEVER THE INPUT: true; the input reads as it did. -/
def domWalksSpec : ChangeSpec := { name := "domWalks", fn := fun _ => fun
  | [d] => { results := [.lit (.bool true)], args := [d] }
  | _ => none }
def domWalksRow : OpenClaim := { program := "ytopecjchflknbaa", sum := "0a31e02ebbf7c40aefc6b492b9c4d35243c8e847b040280f16f75c0c32fa06ef", func := "beadle/beadlelaw07.DomWalks", spec := "domWalks", inPlace := ["slices.overlaps[int]"], unfollowed := true, recurses := true, apart := false }
def DomWalksSaid : Prop := domWalksRow.holds Try.pinned (OpenSpec.ofChange domWalksSpec)

/-- ITS FALSE NEIGHBOUR: 'it returns false'. Refute it at one input. -/
def domWalksWrong : ChangeSpec := { name := "domWalks", fn := fun _ => fun
  | [d] => { results := [.lit (.bool false)], args := [d] }
  | _ => none }
def DomWalksWrongFalsely : Prop := domWalksRow.holds Try.pinned (OpenSpec.ofChange domWalksWrong)

/-- 'beadlelaw07.DomNil': WHATEVER THE INPUT: true; the input reads as it did. -/
def domNilSpec : ChangeSpec := { name := "domNil", fn := fun _ => fun
  | [d1, d2] => { results := [.lit (.bool true)], args := [d1, d2] }
  | _ => none }
def domNilRow : OpenClaim := { program := "ytopecjchflknbaa", sum := "0a31e02ebbf7c40aefc6b492b9c4d35243c8e847b040280f16f75c0c32fa06ef", func := "beadle/beadlelaw07.DomNil", spec := "domNil", inPlace := ["slices.overlaps[int]"], unfollowed := true, recurses := true, apart := false }
def DomNilSaid : Prop := domNilRow.holds Try.pinned (OpenSpec.ofChange domNilSpec)

/-- ITS FALSE NEIGHBOUR: 'it returns false'. Refute it at one input. -/
def domNilWrong : ChangeSpec := { name := "domNil", fn := fun _ => fun
  | [d1, d2] => { results := [.lit (.bool false)], args := [d1, d2] }
  | _ => none }
def DomNilWrongFalsely : Prop := domNilRow.holds Try.pinned (OpenSpec.ofChange domNilWrong)

/-- 'beadlelaw07.DomTexts': WHATEVER THE INPUT: true; the input reads as it did. -/
def domTextsSpec : ChangeSpec := { name := "domTexts", fn := fun _ => fun
  | [d1, d2] => { results := [.lit (.bool true)], args := [d1, d2] }
  | _ => none }
def domTextsRow : OpenClaim := { program := "ytopecjchflknbaa", sum := "0a31e02ebbf7c40aefc6b492b9c4d35243c8e847b040280f16f75c0c32fa06ef", func := "beadle/beadlelaw07.DomTexts", spec := "domTexts", inPlace := ["slices.overlaps[int]"], unfollowed := true, recurses := true, apart := false }
def DomTextsSaid : Prop := domTextsRow.holds Try.pinned (OpenSpec.ofChange domTextsSpec)

/-- ITS FALSE NEIGHBOUR: 'it returns false'. Refute it at one input. -/
def domTextsWrong : ChangeSpec := { name := "domTexts", fn := fun _ => fun
  | [d1, d2] => { results := [.lit (.bool false)], args := [d1, d2] }
  | _ => none }
def DomTextsWrongFalsely : Prop := domTextsRow.holds Try.pinned (OpenSpec.ofChange domTextsWrong)

/- THE SECOND FORM. 'bulk': how many values and letters a reading holds, each counted each time it is reached (what is shared counts as often as it is met; a slice's spare places count too). A statement '..UptoSaid' is the law's where the arguments, and the package variables that the reading takes, are together of bulk at most 1048576: NARROWER than '..Said'. Prove '..Said' where nothing that the law and all that it calls make is longer than what came in: it says more and counts as full. Else prove '..UptoSaid'. A law counts once. -/
mutual
def uptoBulk {H : Type} : DataW H → Nat
  | .lit (.string bytes) => bytes.length + 1
  | .lit _ => 1
  | .nil => 1
  | .ptr d => uptoBulk d + 1
  | .slice elems spare => uptoBulkAll elems + uptoBulkAll spare + 1
  | .agg parts => uptoBulkAll parts + 1
  | .iface _ d => uptoBulk d + 1
  | .map entries => uptoBulkEntries entries + 1
  | .held _ => 1
def uptoBulkAll {H : Type} : List (DataW H) → Nat
  | [] => 0
  | d :: r => uptoBulk d + uptoBulkAll r
def uptoBulkEntries {H : Type} : List (Lit × DataW H) → Nat
  | [] => 0
  | x :: r => uptoBulkEntry x + uptoBulkEntries r
def uptoBulkEntry {H : Type} : Lit × DataW H → Nat
  | (.string bytes, d) => bytes.length + uptoBulk d + 1
  | (_, d) => uptoBulk d + 1
 end
def uptoSmall : (H : Type) → List (DataW H) → Bool := fun _ ds => decide (uptoBulkAll ds ≤ 1048576)
def OpenSpec.upto (s : _root_.Go.ChangeSpec) : _root_.Go.OpenSpec := { _root_.Go.OpenSpec.ofChange s with cond := some uptoSmall }

/-- 'beadlelaw07.DomScripts', WHERE WHAT IT READS IS OF BULK AT MOST 1048576: true; the input reads as it did. -/
def domScriptsUptoRow : OpenClaim := { program := "ytopecjchflknbaa", sum := "0a31e02ebbf7c40aefc6b492b9c4d35243c8e847b040280f16f75c0c32fa06ef", func := "beadle/beadlelaw07.DomScripts", spec := "domScripts", inPlace := ["slices.overlaps[int]"], unfollowed := true, recurses := true, apart := false, narrowed := true }
def DomScriptsUptoSaid : Prop := domScriptsUptoRow.holds Try.pinned (OpenSpec.upto domScriptsSpec)

/-- 'beadlelaw07.DomRefused', WHERE WHAT IT READS IS OF BULK AT MOST 1048576: true; the input reads as it did. -/
def domRefusedUptoRow : OpenClaim := { program := "ytopecjchflknbaa", sum := "0a31e02ebbf7c40aefc6b492b9c4d35243c8e847b040280f16f75c0c32fa06ef", func := "beadle/beadlelaw07.DomRefused", spec := "domRefused", inPlace := ["slices.overlaps[int]"], unfollowed := true, recurses := true, apart := false, narrowed := true }
def DomRefusedUptoSaid : Prop := domRefusedUptoRow.holds Try.pinned (OpenSpec.upto domRefusedSpec)

/-- 'beadlelaw07.DomWalks', WHERE WHAT IT READS IS OF BULK AT MOST 1048576: true; the input reads as it did. -/
def domWalksUptoRow : OpenClaim := { program := "ytopecjchflknbaa", sum := "0a31e02ebbf7c40aefc6b492b9c4d35243c8e847b040280f16f75c0c32fa06ef", func := "beadle/beadlelaw07.DomWalks", spec := "domWalks", inPlace := ["slices.overlaps[int]"], unfollowed := true, recurses := true, apart := false, narrowed := true }
def DomWalksUptoSaid : Prop := domWalksUptoRow.holds Try.pinned (OpenSpec.upto domWalksSpec)

/-- 'beadlelaw07.DomNil', WHERE WHAT IT READS IS OF BULK AT MOST 1048576: true; the input reads as it did. -/
def domNilUptoRow : OpenClaim := { program := "ytopecjchflknbaa", sum := "0a31e02ebbf7c40aefc6b492b9c4d35243c8e847b040280f16f75c0c32fa06ef", func := "beadle/beadlelaw07.DomNil", spec := "domNil", inPlace := ["slices.overlaps[int]"], unfollowed := true, recurses := true, apart := false, narrowed := true }
def DomNilUptoSaid : Prop := domNilUptoRow.holds Try.pinned (OpenSpec.upto domNilSpec)

/-- 'beadlelaw07.DomTexts', WHERE WHAT IT READS IS OF BULK AT MOST 1048576: true; the input reads as it did. -/
def domTextsUptoRow : OpenClaim := { program := "ytopecjchflknbaa", sum := "0a31e02ebbf7c40aefc6b492b9c4d35243c8e847b040280f16f75c0c32fa06ef", func := "beadle/beadlelaw07.DomTexts", spec := "domTexts", inPlace := ["slices.overlaps[int]"], unfollowed := true, recurses := true, apart := false, narrowed := true }
def DomTextsUptoSaid : Prop := domTextsUptoRow.holds Try.pinned (OpenSpec.upto domTextsSpec)

end Rows
end Go.Proofs.Ytopecjchflknbaa

/-
  No cell of these rows narrows 'for every input' (looked for: loops, veiled, ifaces, maps, wideKeys, modest, calm, conditions, laid).
  DERIVED. THE GIVEN ROWS OF THIS SEAT. 6 by the template 'for every input the law returns true; each argument reads behind the call as it read before'; 0 by the template 'total and deterministic' (their statements: YtkkhajipleiniaaTotals.lean).
  GIVEN WITH THE SEED: the statements are not yours to turn. If you find one false, say at which input.
  Laid BY PROGRAM, IN A SANDBOX (cutbox-rows.mjs): the forced cells as the released guide's own fill.sh prints them over the translation 45b0c052f36cca3f… (all of the seat's roots in one cut). By AI agents, Wed Nov 11 2026. No macro, syntax, notation, axiom, sorry.
-/
import Derived.Test.YtkkhajipleiniaaChecked
import GoSem.Claim
import GoSem.ClaimJoined
import GoSem.ClaimMapViews
import Derived.JoinedTies
import Derived.KernelRfl
namespace Go.Proofs.Ytkkhajipleiniaa
/- THE CELL 'sum', in the pinned program and in every row, IS THE sha256 OF THE DUMP (.gsa) THAT YtkkhajipleiniaaProg.lean LOADS. Nothing in Lean hashes anything: it is a label: what it is worth is what the hold of that sum in a sandbox is worth. -/
noncomputable def Try.pinned : Pinned := { name := "ytkkhajipleiniaa", sum := "45b0c052f36cca3ffa3cd069e26da4727e315c4b80be7491fd8d02828f679105", checked := Try.checked }
namespace Rows
def none {H : Type} : Left H := { results := [], args := [] }

/-- 'beadlelaw09.StackScripts': WHATEVER THE INPUT: true; the input reads as it did. -/
def stackScriptsSpec : ChangeSpec := { name := "stackScripts", fn := fun _ => fun
  | [d] => { results := [.lit (.bool true)], args := [d] }
  | _ => none }
def stackScriptsRow : OpenClaim := { program := "ytkkhajipleiniaa", sum := "45b0c052f36cca3ffa3cd069e26da4727e315c4b80be7491fd8d02828f679105", func := "beadle/beadlelaw09.StackScripts", spec := "stackScripts", inPlace := ["slices.overlaps[beadle/stack.Item]"], unfollowed := true, recurses := true, plainKeys := false, apart := false }
def StackScriptsSaid : Prop := stackScriptsRow.holds Try.pinned (OpenSpec.ofChange stackScriptsSpec)

/-- ITS FALSE NEIGHBOUR: 'it returns false'. Refute it at one input. -/
def stackScriptsWrong : ChangeSpec := { name := "stackScripts", fn := fun _ => fun
  | [d] => { results := [.lit (.bool false)], args := [d] }
  | _ => none }
def StackScriptsWrongFalsely : Prop := stackScriptsRow.holds Try.pinned (OpenSpec.ofChange stackScriptsWrong)

/-- 'beadlelaw09.StackSpecial': WHATEVER THE INPUT: true; the input reads as it did. -/
def stackSpecialSpec : ChangeSpec := { name := "stackSpecial", fn := fun _ => fun
  | [d] => { results := [.lit (.bool true)], args := [d] }
  | _ => none }
def stackSpecialRow : OpenClaim := { program := "ytkkhajipleiniaa", sum := "45b0c052f36cca3ffa3cd069e26da4727e315c4b80be7491fd8d02828f679105", func := "beadle/beadlelaw09.StackSpecial", spec := "stackSpecial", plainKeys := false, apart := false }
def StackSpecialSaid : Prop := stackSpecialRow.holds Try.pinned (OpenSpec.ofChange stackSpecialSpec)

/-- ITS FALSE NEIGHBOUR: 'it returns false'. Refute it at one input. -/
def stackSpecialWrong : ChangeSpec := { name := "stackSpecial", fn := fun _ => fun
  | [d] => { results := [.lit (.bool false)], args := [d] }
  | _ => none }
def StackSpecialWrongFalsely : Prop := stackSpecialRow.holds Try.pinned (OpenSpec.ofChange stackSpecialWrong)

/-- 'beadlelaw09.StackScopes': WHATEVER THE INPUT: true; the input reads as it did. -/
def stackScopesSpec : ChangeSpec := { name := "stackScopes", fn := fun _ => fun
  | [d1, d2] => { results := [.lit (.bool true)], args := [d1, d2] }
  | _ => none }
def stackScopesRow : OpenClaim := { program := "ytkkhajipleiniaa", sum := "45b0c052f36cca3ffa3cd069e26da4727e315c4b80be7491fd8d02828f679105", func := "beadle/beadlelaw09.StackScopes", spec := "stackScopes", unfollowed := true, recurses := true, plainKeys := false, apart := false }
def StackScopesSaid : Prop := stackScopesRow.holds Try.pinned (OpenSpec.ofChange stackScopesSpec)

/-- ITS FALSE NEIGHBOUR: 'it returns false'. Refute it at one input. -/
def stackScopesWrong : ChangeSpec := { name := "stackScopes", fn := fun _ => fun
  | [d1, d2] => { results := [.lit (.bool false)], args := [d1, d2] }
  | _ => none }
def StackScopesWrongFalsely : Prop := stackScopesRow.holds Try.pinned (OpenSpec.ofChange stackScopesWrong)

/-- 'beadlelaw09.StackNil': WHATEVER THE INPUT: true; the input reads as it did. -/
def stackNilSpec : ChangeSpec := { name := "stackNil", fn := fun _ => fun
  | [d1, d2] => { results := [.lit (.bool true)], args := [d1, d2] }
  | _ => none }
def stackNilRow : OpenClaim := { program := "ytkkhajipleiniaa", sum := "45b0c052f36cca3ffa3cd069e26da4727e315c4b80be7491fd8d02828f679105", func := "beadle/beadlelaw09.StackNil", spec := "stackNil", inPlace := ["slices.overlaps[beadle/stack.Item]"], unfollowed := true, recurses := true, plainKeys := false, apart := false }
def StackNilSaid : Prop := stackNilRow.holds Try.pinned (OpenSpec.ofChange stackNilSpec)

/-- ITS FALSE NEIGHBOUR: 'it returns false'. Refute it at one input. -/
def stackNilWrong : ChangeSpec := { name := "stackNil", fn := fun _ => fun
  | [d1, d2] => { results := [.lit (.bool false)], args := [d1, d2] }
  | _ => none }
def StackNilWrongFalsely : Prop := stackNilRow.holds Try.pinned (OpenSpec.ofChange stackNilWrong)

/-- 'beadlelaw10.MarksScripts': WHATEVER THE INPUT: true; the input reads as it did. -/
def marksScriptsSpec : ChangeSpec := { name := "marksScripts", fn := fun _ => fun
  | [d1, d2] => { results := [.lit (.bool true)], args := [d1, d2] }
  | _ => none }
def marksScriptsRow : OpenClaim := { program := "ytkkhajipleiniaa", sum := "45b0c052f36cca3ffa3cd069e26da4727e315c4b80be7491fd8d02828f679105", func := "beadle/beadlelaw10.MarksScripts", spec := "marksScripts", inPlace := ["slices.overlaps[beadle/marks.Entry]"], unfollowed := true, recurses := true, plainKeys := false, apart := false }
def MarksScriptsSaid : Prop := marksScriptsRow.holds Try.pinned (OpenSpec.ofChange marksScriptsSpec)

/-- ITS FALSE NEIGHBOUR: 'it returns false'. Refute it at one input. -/
def marksScriptsWrong : ChangeSpec := { name := "marksScripts", fn := fun _ => fun
  | [d1, d2] => { results := [.lit (.bool false)], args := [d1, d2] }
  | _ => none }
def MarksScriptsWrongFalsely : Prop := marksScriptsRow.holds Try.pinned (OpenSpec.ofChange marksScriptsWrong)

/-- 'beadlelaw10.MarksAlike': WHATEVER THE INPUT: true; the input reads as it did. -/
def marksAlikeSpec : ChangeSpec := { name := "marksAlike", fn := fun _ => fun
  | [d1, d2] => { results := [.lit (.bool true)], args := [d1, d2] }
  | _ => none }
def marksAlikeRow : OpenClaim := { program := "ytkkhajipleiniaa", sum := "45b0c052f36cca3ffa3cd069e26da4727e315c4b80be7491fd8d02828f679105", func := "beadle/beadlelaw10.MarksAlike", spec := "marksAlike", unfollowed := true, recurses := true, plainKeys := false, apart := false }
def MarksAlikeSaid : Prop := marksAlikeRow.holds Try.pinned (OpenSpec.ofChange marksAlikeSpec)

/-- ITS FALSE NEIGHBOUR: 'it returns false'. Refute it at one input. -/
def marksAlikeWrong : ChangeSpec := { name := "marksAlike", fn := fun _ => fun
  | [d1, d2] => { results := [.lit (.bool false)], args := [d1, d2] }
  | _ => none }
def MarksAlikeWrongFalsely : Prop := marksAlikeRow.holds Try.pinned (OpenSpec.ofChange marksAlikeWrong)

/- THE SECOND FORM. 'bulk': how many values and letters a reading holds, each counted each time it is reached (what is shared counts as often as it is met; a slice's spare places count too). A statement '..UptoSaid' is the law's where the arguments, and the package variables that the reading takes, are together of bulk at most 1048576: NARROWER than '..Said'. Prove '..Said' where nothing that the law and all that it calls make is longer than what came in: it says more and counts as full. Else prove '..UptoSaid'. A law counts once. -/
mutual
def uptoBulk {H : Type} : DataW H → Nat
  | .lit (.string bytes) => bytes.length + 1
  | .lit _ => 1
  | .nil => 1
  | .ptr d => uptoBulk d + 1
  | .slice elems spare => uptoBulkAll elems + uptoBulkAll spare + 1
  | .agg parts => uptoBulkAll parts + 1
  | .iface _ d => uptoBulk d + 1
  | .map entries => uptoBulkEntries entries + 1
  | .held _ => 1
def uptoBulkAll {H : Type} : List (DataW H) → Nat
  | [] => 0
  | d :: r => uptoBulk d + uptoBulkAll r
def uptoBulkEntries {H : Type} : List (Lit × DataW H) → Nat
  | [] => 0
  | x :: r => uptoBulkEntry x + uptoBulkEntries r
def uptoBulkEntry {H : Type} : Lit × DataW H → Nat
  | (.string bytes, d) => bytes.length + uptoBulk d + 1
  | (_, d) => uptoBulk d + 1
 end
def uptoSmall : (H : Type) → List (DataW H) → Bool := fun _ ds => decide (uptoBulkAll ds ≤ 1048576)
def OpenSpec.upto (s : _root_.Go.ChangeSpec) : _root_.Go.OpenSpec := { _root_.Go.OpenSpec.ofChange s with cond := some uptoSmall }

/-- 'beadlelaw09.StackScripts', WHERE WHAT IT READS IS OF BULK AT MOST 1048576: true; the input reads as it did. -/
def stackScriptsUptoRow : OpenClaim := { program := "ytkkhajipleiniaa", sum := "45b0c052f36cca3ffa3cd069e26da4727e315c4b80be7491fd8d02828f679105", func := "beadle/beadlelaw09.StackScripts", spec := "stackScripts", inPlace := ["slices.overlaps[beadle/stack.Item]"], unfollowed := true, recurses := true, plainKeys := false, apart := false, narrowed := true }
def StackScriptsUptoSaid : Prop := stackScriptsUptoRow.holds Try.pinned (OpenSpec.upto stackScriptsSpec)

/-- 'beadlelaw09.StackSpecial', WHERE WHAT IT READS IS OF BULK AT MOST 1048576: true; the input reads as it did. -/
def stackSpecialUptoRow : OpenClaim := { program := "ytkkhajipleiniaa", sum := "45b0c052f36cca3ffa3cd069e26da4727e315c4b80be7491fd8d02828f679105", func := "beadle/beadlelaw09.StackSpecial", spec := "stackSpecial", plainKeys := false, apart := false, narrowed := true }
def StackSpecialUptoSaid : Prop := stackSpecialUptoRow.holds Try.pinned (OpenSpec.upto stackSpecialSpec)

/-- 'beadlelaw09.StackScopes', WHERE WHAT IT READS IS OF BULK AT MOST 1048576: true; the input reads as it did. -/
def stackScopesUptoRow : OpenClaim := { program := "ytkkhajipleiniaa", sum := "45b0c052f36cca3ffa3cd069e26da4727e315c4b80be7491fd8d02828f679105", func := "beadle/beadlelaw09.StackScopes", spec := "stackScopes", unfollowed := true, recurses := true, plainKeys := false, apart := false, narrowed := true }
def StackScopesUptoSaid : Prop := stackScopesUptoRow.holds Try.pinned (OpenSpec.upto stackScopesSpec)

/-- 'beadlelaw09.StackNil', WHERE WHAT IT READS IS OF BULK AT MOST 1048576: true; the input reads as it did. -/
def stackNilUptoRow : OpenClaim := { program := "ytkkhajipleiniaa", sum := "45b0c052f36cca3ffa3cd069e26da4727e315c4b80be7491fd8d02828f679105", func := "beadle/beadlelaw09.StackNil", spec := "stackNil", inPlace := ["slices.overlaps[beadle/stack.Item]"], unfollowed := true, recurses := true, plainKeys := false, apart := false, narrowed := true }
def StackNilUptoSaid : Prop := stackNilUptoRow.holds Try.pinned (OpenSpec.upto stackNilSpec)

/-- 'beadlelaw10.MarksScripts', WHERE WHAT IT READS IS OF BULK AT MOST 1048576: true; the input reads as it did. -/
def marksScriptsUptoRow : OpenClaim := { program := "ytkkhajipleiniaa", sum := "45b0c052f36cca3ffa3cd069e26da4727e315c4b80be7491fd8d02828f679105", func := "beadle/beadlelaw10.MarksScripts", spec := "marksScripts", inPlace := ["slices.overlaps[beadle/marks.Entry]"], unfollowed := true, recurses := true, plainKeys := false, apart := false, narrowed := true }
def MarksScriptsUptoSaid : Prop := marksScriptsUptoRow.holds Try.pinned (OpenSpec.upto marksScriptsSpec)

/-- 'beadlelaw10.MarksAlike', WHERE WHAT IT READS IS OF BULK AT MOST 1048576: true; the input reads as it did. -/
def marksAlikeUptoRow : OpenClaim := { program := "ytkkhajipleiniaa", sum := "45b0c052f36cca3ffa3cd069e26da4727e315c4b80be7491fd8d02828f679105", func := "beadle/beadlelaw10.MarksAlike", spec := "marksAlike", unfollowed := true, recurses := true, plainKeys := false, apart := false, narrowed := true }
def MarksAlikeUptoSaid : Prop := marksAlikeUptoRow.holds Try.pinned (OpenSpec.upto marksAlikeSpec)

end Rows
end Go.Proofs.Ytkkhajipleiniaa

/-
  No cell of these rows narrows 'for every input' (looked for: loops, veiled, ifaces, maps, wideKeys, modest, calm, conditions, laid).
  DERIVED. THE GIVEN ROWS OF THIS SEAT. 4 by the template 'for every input the law returns true; each argument reads behind the call as it read before'; 0 by the template 'total and deterministic' (their statements: YtfpnaciookbpaaaTotals.lean).
  GIVEN WITH THE SEED: the statements are not yours to turn. If you find one false, say at which input.
  Laid BY PROGRAM, IN A SANDBOX (cutbox-rows.mjs): the forced cells as the released guide's own fill.sh prints them over the translation f101122441dd45a3… (all of the seat's roots in one cut). By AI agents, Wed Nov 11 2026. No macro, syntax, notation, axiom, sorry.
-/
import Derived.Test.YtfpnaciookbpaaaChecked
import GoSem.Claim
import GoSem.ClaimJoined
import GoSem.ClaimMapViews
import Derived.JoinedTies
import Derived.KernelRfl
namespace Go.Proofs.Ytfpnaciookbpaaa
/- THE CELL 'sum', in the pinned program and in every row, IS THE sha256 OF THE DUMP (.gsa) THAT YtfpnaciookbpaaaProg.lean LOADS. Nothing in Lean hashes anything: it is a label: what it is worth is what the hold of that sum in a sandbox is worth. -/
noncomputable def Try.pinned : Pinned := { name := "ytfpnaciookbpaaa", sum := "f101122441dd45a378e86448e2a066383c86faf41d7618187b2261d0168d21f8", checked := Try.checked }
namespace Rows
def none {H : Type} : Left H := { results := [], args := [] }

/-- 'beadlelaw10.MarksScripts': WHATEVER THE INPUT: true; the input reads as it did. -/
def marksScriptsSpec : ChangeSpec := { name := "marksScripts", fn := fun _ => fun
  | [d1, d2] => { results := [.lit (.bool true)], args := [d1, d2] }
  | _ => none }
def marksScriptsRow : OpenClaim := { program := "ytfpnaciookbpaaa", sum := "f101122441dd45a378e86448e2a066383c86faf41d7618187b2261d0168d21f8", func := "beadle/beadlelaw10.MarksScripts", spec := "marksScripts", inPlace := ["slices.overlaps[beadle/marks.Entry]"], unfollowed := true, recurses := true, plainKeys := false, apart := false }
def MarksScriptsSaid : Prop := marksScriptsRow.holds Try.pinned (OpenSpec.ofChange marksScriptsSpec)

/-- ITS FALSE NEIGHBOUR: 'it returns false'. Refute it at one input. -/
def marksScriptsWrong : ChangeSpec := { name := "marksScripts", fn := fun _ => fun
  | [d1, d2] => { results := [.lit (.bool false)], args := [d1, d2] }
  | _ => none }
def MarksScriptsWrongFalsely : Prop := marksScriptsRow.holds Try.pinned (OpenSpec.ofChange marksScriptsWrong)

/-- 'beadlelaw13.QueryWords': WHATEVER THE INPUT: true; the input reads as it did. -/
def queryWordsSpec : ChangeSpec := { name := "queryWords", fn := fun _ => fun
  | [d] => { results := [.lit (.bool true)], args := [d] }
  | _ => none }
def queryWordsRow : OpenClaim := { program := "ytfpnaciookbpaaa", sum := "f101122441dd45a378e86448e2a066383c86faf41d7618187b2261d0168d21f8", func := "beadle/beadlelaw13.QueryWords", spec := "queryWords", inPlace := ["slices.overlaps[int]", "internal/abi.NoEscape", "internal/bytealg.MakeNoZero"], unfollowed := true, recurses := true, plainKeys := false, apart := false }
def QueryWordsSaid : Prop := queryWordsRow.holds Try.pinned (OpenSpec.ofChange queryWordsSpec)

/-- ITS FALSE NEIGHBOUR: 'it returns false'. Refute it at one input. -/
def queryWordsWrong : ChangeSpec := { name := "queryWords", fn := fun _ => fun
  | [d] => { results := [.lit (.bool false)], args := [d] }
  | _ => none }
def QueryWordsWrongFalsely : Prop := queryWordsRow.holds Try.pinned (OpenSpec.ofChange queryWordsWrong)

/-- 'beadlelaw13.QueryStripped': WHATEVER THE INPUT: true; the input reads as it did. -/
def queryStrippedSpec : ChangeSpec := { name := "queryStripped", fn := fun _ => fun
  | [d] => { results := [.lit (.bool true)], args := [d] }
  | _ => none }
def queryStrippedRow : OpenClaim := { program := "ytfpnaciookbpaaa", sum := "f101122441dd45a378e86448e2a066383c86faf41d7618187b2261d0168d21f8", func := "beadle/beadlelaw13.QueryStripped", spec := "queryStripped", inPlace := ["slices.overlaps[int]", "internal/abi.NoEscape", "internal/bytealg.MakeNoZero"], unfollowed := true, recurses := true, plainKeys := false, apart := false }
def QueryStrippedSaid : Prop := queryStrippedRow.holds Try.pinned (OpenSpec.ofChange queryStrippedSpec)

/-- ITS FALSE NEIGHBOUR: 'it returns false'. Refute it at one input. -/
def queryStrippedWrong : ChangeSpec := { name := "queryStripped", fn := fun _ => fun
  | [d] => { results := [.lit (.bool false)], args := [d] }
  | _ => none }
def QueryStrippedWrongFalsely : Prop := queryStrippedRow.holds Try.pinned (OpenSpec.ofChange queryStrippedWrong)

/-- 'beadlelaw13.QueryNil': WHATEVER THE INPUT: true; the input reads as it did. -/
def queryNilSpec : ChangeSpec := { name := "queryNil", fn := fun _ => fun
  | [d1, d2] => { results := [.lit (.bool true)], args := [d1, d2] }
  | _ => none }
def queryNilRow : OpenClaim := { program := "ytfpnaciookbpaaa", sum := "f101122441dd45a378e86448e2a066383c86faf41d7618187b2261d0168d21f8", func := "beadle/beadlelaw13.QueryNil", spec := "queryNil", inPlace := ["slices.overlaps[int]", "internal/abi.NoEscape"], unfollowed := true, recurses := true, plainKeys := false, apart := false }
def QueryNilSaid : Prop := queryNilRow.holds Try.pinned (OpenSpec.ofChange queryNilSpec)

/-- ITS FALSE NEIGHBOUR: 'it returns false'. Refute it at one input. -/
def queryNilWrong : ChangeSpec := { name := "queryNil", fn := fun _ => fun
  | [d1, d2] => { results := [.lit (.bool false)], args := [d1, d2] }
  | _ => none }
def QueryNilWrongFalsely : Prop := queryNilRow.holds Try.pinned (OpenSpec.ofChange queryNilWrong)

/- THE SECOND FORM. 'bulk': how many values and letters a reading holds, each counted each time it is reached (what is shared counts as often as it is met; a slice's spare places count too). A statement '..UptoSaid' is the law's where the arguments, and the package variables that the reading takes, are together of bulk at most 1048576: NARROWER than '..Said'. Prove '..Said' where nothing that the law and all that it calls make is longer than what came in: it says more and counts as full. Else prove '..UptoSaid'. A law counts once. -/
mutual
def uptoBulk {H : Type} : DataW H → Nat
  | .lit (.string bytes) => bytes.length + 1
  | .lit _ => 1
  | .nil => 1
  | .ptr d => uptoBulk d + 1
  | .slice elems spare => uptoBulkAll elems + uptoBulkAll spare + 1
  | .agg parts => uptoBulkAll parts + 1
  | .iface _ d => uptoBulk d + 1
  | .map entries => uptoBulkEntries entries + 1
  | .held _ => 1
def uptoBulkAll {H : Type} : List (DataW H) → Nat
  | [] => 0
  | d :: r => uptoBulk d + uptoBulkAll r
def uptoBulkEntries {H : Type} : List (Lit × DataW H) → Nat
  | [] => 0
  | x :: r => uptoBulkEntry x + uptoBulkEntries r
def uptoBulkEntry {H : Type} : Lit × DataW H → Nat
  | (.string bytes, d) => bytes.length + uptoBulk d + 1
  | (_, d) => uptoBulk d + 1
 end
def uptoSmall : (H : Type) → List (DataW H) → Bool := fun _ ds => decide (uptoBulkAll ds ≤ 1048576)
def OpenSpec.upto (s : _root_.Go.ChangeSpec) : _root_.Go.OpenSpec := { _root_.Go.OpenSpec.ofChange s with cond := some uptoSmall }

/-- 'beadlelaw10.MarksScripts', WHERE WHAT IT READS IS OF BULK AT MOST 1048576: true; the input reads as it did. -/
def marksScriptsUptoRow : OpenClaim := { program := "ytfpnaciookbpaaa", sum := "f101122441dd45a378e86448e2a066383c86faf41d7618187b2261d0168d21f8", func := "beadle/beadlelaw10.MarksScripts", spec := "marksScripts", inPlace := ["slices.overlaps[beadle/marks.Entry]"], unfollowed := true, recurses := true, plainKeys := false, apart := false, narrowed := true }
def MarksScriptsUptoSaid : Prop := marksScriptsUptoRow.holds Try.pinned (OpenSpec.upto marksScriptsSpec)

/-- 'beadlelaw13.QueryWords', WHERE WHAT IT READS IS OF BULK AT MOST 1048576: true; the input reads as it did. -/
def queryWordsUptoRow : OpenClaim := { program := "ytfpnaciookbpaaa", sum := "f101122441dd45a378e86448e2a066383c86faf41d7618187b2261d0168d21f8", func := "beadle/beadlelaw13.QueryWords", spec := "queryWords", inPlace := ["slices.overlaps[int]", "internal/abi.NoEscape", "internal/bytealg.MakeNoZero"], unfollowed := true, recurses := true, plainKeys := false, apart := false, narrowed := true }
def QueryWordsUptoSaid : Prop := queryWordsUptoRow.holds Try.pinned (OpenSpec.upto queryWordsSpec)

/-- 'beadlelaw13.QueryStripped', WHERE WHAT IT READS IS OF BULK AT MOST 1048576: true; the input reads as it did. -/
def queryStrippedUptoRow : OpenClaim := { program := "ytfpnaciookbpaaa", sum := "f101122441dd45a378e86448e2a066383c86faf41d7618187b2261d0168d21f8", func := "beadle/beadlelaw13.QueryStripped", spec := "queryStripped", inPlace := ["slices.overlaps[int]", "internal/abi.NoEscape", "internal/bytealg.MakeNoZero"], unfollowed := true, recurses := true, plainKeys := false, apart := false, narrowed := true }
def QueryStrippedUptoSaid : Prop := queryStrippedUptoRow.holds Try.pinned (OpenSpec.upto queryStrippedSpec)

/-- 'beadlelaw13.QueryNil', WHERE WHAT IT READS IS OF BULK AT MOST 1048576: true; the input reads as it did. -/
def queryNilUptoRow : OpenClaim := { program := "ytfpnaciookbpaaa", sum := "f101122441dd45a378e86448e2a066383c86faf41d7618187b2261d0168d21f8", func := "beadle/beadlelaw13.QueryNil", spec := "queryNil", inPlace := ["slices.overlaps[int]", "internal/abi.NoEscape"], unfollowed := true, recurses := true, plainKeys := false, apart := false, narrowed := true }
def QueryNilUptoSaid : Prop := queryNilUptoRow.holds Try.pinned (OpenSpec.upto queryNilSpec)

end Rows
end Go.Proofs.Ytfpnaciookbpaaa

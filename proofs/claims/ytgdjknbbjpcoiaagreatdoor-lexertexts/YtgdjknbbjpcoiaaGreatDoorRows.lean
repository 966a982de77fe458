/-
  NARROWER THAN 'FOR EVERY INPUT', by the rows' own cells (each row's printed sentence says how): LexerTokens: laid · LexerTexts: laid · LexerEnds: laid · TopPieces: laid.
  DERIVED. THE GIVEN ROWS OF THIS SEAT. 4 by the template 'for every input the law returns true; each argument reads behind the call as it read before'; 0 by the template 'total and deterministic' (their statements: YtgdjknbbjpcoiaaGreatDoorTotals.lean).
  GIVEN WITH THE SEED: the statements are not yours to turn. If you find one false, say at which input.
  Laid BY PROGRAM, IN A SANDBOX (cutbox-rows.mjs): the forced cells as the released guide's own fill.sh prints them over the translation fa23c8498d536dfd… (all of the seat's roots in one cut). By AI agents, Wed Nov 11 2026. No macro, syntax, notation, axiom, sorry.
-/
import Derived.Test.YtgdjknbbjpcoiaaGreatDoorChecked
import GoSem.PinnedTables
import GoSem.Claim
import GoSem.ClaimJoined
import GoSem.ClaimMapViews
import Derived.JoinedTies
import Derived.KernelRfl
namespace Go.Proofs.YtgdjknbbjpcoiaaGreatDoor
/- THE CELL 'sum', in the pinned program and in every row, IS THE sha256 OF THE DUMP (.gsa) THAT YtgdjknbbjpcoiaaGreatDoorProg.lean LOADS. Nothing in Lean hashes anything: it is a label: what it is worth is what the hold of that sum in a sandbox is worth. -/
noncomputable def Tryz.pinned : Pinned := { name := "ytgdjknbbjpcoiaagreatdoor", sum := "fa23c8498d536dfdd38f912e458f376c48b23b3b525da8d9de1de8926d95d0ce", checked := Tryz.checked }
namespace Rows
def none {H : Type} : Left H := { results := [], args := [] }

/- WHAT THE LISTED PACKAGE-LEVEL VARIABLES READ AS WHEN THE CALL BEGINS. Each datum BY PROGRAM (the guide's laid-datum.mjs) off the statement by which the dump's own 'gosem.cut.vars' lays the variable. In a bare row this is a premise. The card (YtgdjknbbjpcoiaaGreatDoorCards.lean) ties it to the program's text. -/
def laid_beadle_decode_windowsHigh {H : Type} : DataW H := .agg [.lit (.int .i64 8364), .lit (.int .i64 129), .lit (.int .i64 8218), .lit (.int .i64 402), .lit (.int .i64 8222), .lit (.int .i64 8230), .lit (.int .i64 8224), .lit (.int .i64 8225), .lit (.int .i64 710), .lit (.int .i64 8240), .lit (.int .i64 352), .lit (.int .i64 8249), .lit (.int .i64 338), .lit (.int .i64 141), .lit (.int .i64 381), .lit (.int .i64 143), .lit (.int .i64 144), .lit (.int .i64 8216), .lit (.int .i64 8217), .lit (.int .i64 8220), .lit (.int .i64 8221), .lit (.int .i64 8226), .lit (.int .i64 8211), .lit (.int .i64 8212), .lit (.int .i64 732), .lit (.int .i64 8482), .lit (.int .i64 353), .lit (.int .i64 8250), .lit (.int .i64 339), .lit (.int .i64 157), .lit (.int .i64 382), .lit (.int .i64 376)]
def laid_beadle_charref_windowsHigh {H : Type} : DataW H := .agg [.lit (.int .i64 8364), .lit (.int .i64 129), .lit (.int .i64 8218), .lit (.int .i64 402), .lit (.int .i64 8222), .lit (.int .i64 8230), .lit (.int .i64 8224), .lit (.int .i64 8225), .lit (.int .i64 710), .lit (.int .i64 8240), .lit (.int .i64 352), .lit (.int .i64 8249), .lit (.int .i64 338), .lit (.int .i64 141), .lit (.int .i64 381), .lit (.int .i64 143), .lit (.int .i64 144), .lit (.int .i64 8216), .lit (.int .i64 8217), .lit (.int .i64 8220), .lit (.int .i64 8221), .lit (.int .i64 8226), .lit (.int .i64 8211), .lit (.int .i64 8212), .lit (.int .i64 732), .lit (.int .i64 8482), .lit (.int .i64 353), .lit (.int .i64 8250), .lit (.int .i64 339), .lit (.int .i64 157), .lit (.int .i64 382), .lit (.int .i64 376)]
def laid_unicode_utf8_acceptRanges {H : Type} : DataW H := .agg [.agg [.lit (.int .u8 128), .lit (.int .u8 191)], .agg [.lit (.int .u8 160), .lit (.int .u8 191)], .agg [.lit (.int .u8 128), .lit (.int .u8 159)], .agg [.lit (.int .u8 144), .lit (.int .u8 191)], .agg [.lit (.int .u8 128), .lit (.int .u8 143)], .agg [.lit (.int .u8 0), .lit (.int .u8 0)], .agg [.lit (.int .u8 0), .lit (.int .u8 0)], .agg [.lit (.int .u8 0), .lit (.int .u8 0)], .agg [.lit (.int .u8 0), .lit (.int .u8 0)], .agg [.lit (.int .u8 0), .lit (.int .u8 0)], .agg [.lit (.int .u8 0), .lit (.int .u8 0)], .agg [.lit (.int .u8 0), .lit (.int .u8 0)], .agg [.lit (.int .u8 0), .lit (.int .u8 0)], .agg [.lit (.int .u8 0), .lit (.int .u8 0)], .agg [.lit (.int .u8 0), .lit (.int .u8 0)], .agg [.lit (.int .u8 0), .lit (.int .u8 0)]]
/-- One of Go's own tables, pinned by name: the form's constant. -/
def laid_unicode_utf8_first : DataW Unit := Go.Pinned.utf8First

/-- 'beadlelaw05.LexerTokens': WHATEVER THE INPUT: true; the input reads as it did. -/
def lexerTokensSpec : ChangeSpec := { name := "lexerTokens", fn := fun _ => fun
  | [d1, d2] => { results := [.lit (.bool true)], args := [d1, d2] }
  | _ => none }
def lexerTokensRow : OpenClaim := { program := "ytgdjknbbjpcoiaagreatdoor", sum := "fa23c8498d536dfdd38f912e458f376c48b23b3b525da8d9de1de8926d95d0ce", func := "beadle/beadlelaw05.LexerTokens", spec := "lexerTokens", unfollowed := true, recurses := true, named := ["beadle/decode.windowsHigh", "beadle/charref.windowsHigh"], apart := false, laid := [("beadle/decode.windowsHigh", laid_beadle_decode_windowsHigh), ("beadle/charref.windowsHigh", laid_beadle_charref_windowsHigh)] }
def LexerTokensSaid : Prop := lexerTokensRow.holds Tryz.pinned (OpenSpec.ofChange lexerTokensSpec)

/-- ITS FALSE NEIGHBOUR: 'it returns false'. Refute it at one input. -/
def lexerTokensWrong : ChangeSpec := { name := "lexerTokens", fn := fun _ => fun
  | [d1, d2] => { results := [.lit (.bool false)], args := [d1, d2] }
  | _ => none }
def LexerTokensWrongFalsely : Prop := lexerTokensRow.holds Tryz.pinned (OpenSpec.ofChange lexerTokensWrong)

/-- 'beadlelaw05.LexerTexts': WHATEVER THE INPUT: true; the input reads as it did. -/
def lexerTextsSpec : ChangeSpec := { name := "lexerTexts", fn := fun _ => fun
  | [d] => { results := [.lit (.bool true)], args := [d] }
  | _ => none }
def lexerTextsRow : OpenClaim := { program := "ytgdjknbbjpcoiaagreatdoor", sum := "fa23c8498d536dfdd38f912e458f376c48b23b3b525da8d9de1de8926d95d0ce", func := "beadle/beadlelaw05.LexerTexts", spec := "lexerTexts", unfollowed := true, recurses := true, named := ["beadle/decode.windowsHigh", "beadle/charref.windowsHigh"], apart := false, laid := [("beadle/decode.windowsHigh", laid_beadle_decode_windowsHigh), ("beadle/charref.windowsHigh", laid_beadle_charref_windowsHigh)] }
def LexerTextsSaid : Prop := lexerTextsRow.holds Tryz.pinned (OpenSpec.ofChange lexerTextsSpec)

/-- ITS FALSE NEIGHBOUR: 'it returns false'. Refute it at one input. -/
def lexerTextsWrong : ChangeSpec := { name := "lexerTexts", fn := fun _ => fun
  | [d] => { results := [.lit (.bool false)], args := [d] }
  | _ => none }
def LexerTextsWrongFalsely : Prop := lexerTextsRow.holds Tryz.pinned (OpenSpec.ofChange lexerTextsWrong)

/-- 'beadlelaw05.LexerEnds': WHATEVER THE INPUT: true; the input reads as it did. -/
def lexerEndsSpec : ChangeSpec := { name := "lexerEnds", fn := fun _ => fun
  | [d1, d2] => { results := [.lit (.bool true)], args := [d1, d2] }
  | _ => none }
def lexerEndsRow : OpenClaim := { program := "ytgdjknbbjpcoiaagreatdoor", sum := "fa23c8498d536dfdd38f912e458f376c48b23b3b525da8d9de1de8926d95d0ce", func := "beadle/beadlelaw05.LexerEnds", spec := "lexerEnds", unfollowed := true, recurses := true, named := ["beadle/decode.windowsHigh", "beadle/charref.windowsHigh"], apart := false, laid := [("beadle/decode.windowsHigh", laid_beadle_decode_windowsHigh), ("beadle/charref.windowsHigh", laid_beadle_charref_windowsHigh)] }
def LexerEndsSaid : Prop := lexerEndsRow.holds Tryz.pinned (OpenSpec.ofChange lexerEndsSpec)

/-- ITS FALSE NEIGHBOUR: 'it returns false'. Refute it at one input. -/
def lexerEndsWrong : ChangeSpec := { name := "lexerEnds", fn := fun _ => fun
  | [d1, d2] => { results := [.lit (.bool false)], args := [d1, d2] }
  | _ => none }
def LexerEndsWrongFalsely : Prop := lexerEndsRow.holds Tryz.pinned (OpenSpec.ofChange lexerEndsWrong)

/-- 'beadletop.TopPieces': WHATEVER THE INPUT: true; the input reads as it did. -/
def topPiecesSpec : ChangeSpec := { name := "topPieces", fn := fun _ => fun
  | [d] => { results := [.lit (.bool true)], args := [d] }
  | _ => none }
def topPiecesRow : OpenClaim := { program := "ytgdjknbbjpcoiaagreatdoor", sum := "fa23c8498d536dfdd38f912e458f376c48b23b3b525da8d9de1de8926d95d0ce", func := "beadle/beadletop.TopPieces", spec := "topPieces", inPlace := ["internal/bytealg.IndexByteString", "internal/bytealg.IndexString", "internal/reflectlite.ValueOf", "internal/reflectlite.Swapper", "(internal/reflectlite.Value).Len"], unfollowed := true, recurses := true, named := ["beadle/decode.windowsHigh", "beadle/charref.windowsHigh", "internal/bytealg.MaxLen", "unicode/utf8.first", "unicode/utf8.acceptRanges"], apart := false, laid := [("unicode/utf8.acceptRanges", laid_unicode_utf8_acceptRanges), ("beadle/decode.windowsHigh", laid_beadle_decode_windowsHigh), ("beadle/charref.windowsHigh", laid_beadle_charref_windowsHigh), ("unicode/utf8.first", laid_unicode_utf8_first)] }
def TopPiecesSaid : Prop := topPiecesRow.holds Tryz.pinned (OpenSpec.ofChange topPiecesSpec)

/-- ITS FALSE NEIGHBOUR: 'it returns false'. Refute it at one input. -/
def topPiecesWrong : ChangeSpec := { name := "topPieces", fn := fun _ => fun
  | [d] => { results := [.lit (.bool false)], args := [d] }
  | _ => none }
def TopPiecesWrongFalsely : Prop := topPiecesRow.holds Tryz.pinned (OpenSpec.ofChange topPiecesWrong)

/- THE SECOND FORM. 'bulk': how many values and letters a reading holds, each counted each time it is reached (what is shared counts as often as it is met; a slice's spare places count too). A statement '..UptoSaid' is the law's where the arguments, and the package variables that the reading takes, are together of bulk at most 1048576: NARROWER than '..Said'. Prove '..Said' where nothing that the law and all that it calls make is longer than what came in: it says more and counts as full. Else prove '..UptoSaid'. A law counts once. -/
mutual
def uptoBulk {H : Type} : DataW H → Nat
  | .lit (.string bytes) => bytes.length + 1
  | .lit _ => 1
  | .nil => 1
  | .ptr d => uptoBulk d + 1
  | .slice elems spare => uptoBulkAll elems + uptoBulkAll spare + 1
  | .agg parts => uptoBulkAll parts + 1
  | .iface _ d => uptoBulk d + 1
  | .map entries => uptoBulkEntries entries + 1
  | .held _ => 1
def uptoBulkAll {H : Type} : List (DataW H) → Nat
  | [] => 0
  | d :: r => uptoBulk d + uptoBulkAll r
def uptoBulkEntries {H : Type} : List (Lit × DataW H) → Nat
  | [] => 0
  | x :: r => uptoBulkEntry x + uptoBulkEntries r
def uptoBulkEntry {H : Type} : Lit × DataW H → Nat
  | (.string bytes, d) => bytes.length + uptoBulk d + 1
  | (_, d) => uptoBulk d + 1
 end
def uptoSmall : (H : Type) → List (DataW H) → Bool := fun _ ds => decide (uptoBulkAll ds ≤ 1048576)
def OpenSpec.upto (s : _root_.Go.ChangeSpec) : _root_.Go.OpenSpec := { _root_.Go.OpenSpec.ofChange s with cond := some uptoSmall }

/-- 'beadlelaw05.LexerTokens', WHERE WHAT IT READS IS OF BULK AT MOST 1048576: true; the input reads as it did. -/
def lexerTokensUptoRow : OpenClaim := { program := "ytgdjknbbjpcoiaagreatdoor", sum := "fa23c8498d536dfdd38f912e458f376c48b23b3b525da8d9de1de8926d95d0ce", func := "beadle/beadlelaw05.LexerTokens", spec := "lexerTokens", unfollowed := true, recurses := true, named := ["beadle/decode.windowsHigh", "beadle/charref.windowsHigh"], apart := false, laid := [("beadle/decode.windowsHigh", laid_beadle_decode_windowsHigh), ("beadle/charref.windowsHigh", laid_beadle_charref_windowsHigh)], narrowed := true }
def LexerTokensUptoSaid : Prop := lexerTokensUptoRow.holds Tryz.pinned (OpenSpec.upto lexerTokensSpec)

/-- 'beadlelaw05.LexerTexts', WHERE WHAT IT READS IS OF BULK AT MOST 1048576: true; the input reads as it did. -/
def lexerTextsUptoRow : OpenClaim := { program := "ytgdjknbbjpcoiaagreatdoor", sum := "fa23c8498d536dfdd38f912e458f376c48b23b3b525da8d9de1de8926d95d0ce", func := "beadle/beadlelaw05.LexerTexts", spec := "lexerTexts", unfollowed := true, recurses := true, named := ["beadle/decode.windowsHigh", "beadle/charref.windowsHigh"], apart := false, laid := [("beadle/decode.windowsHigh", laid_beadle_decode_windowsHigh), ("beadle/charref.windowsHigh", laid_beadle_charref_windowsHigh)], narrowed := true }
def LexerTextsUptoSaid : Prop := lexerTextsUptoRow.holds Tryz.pinned (OpenSpec.upto lexerTextsSpec)

/-- 'beadlelaw05.LexerEnds', WHERE WHAT IT READS IS OF BULK AT MOST 1048576: true; the input reads as it did. -/
def lexerEndsUptoRow : OpenClaim := { program := "ytgdjknbbjpcoiaagreatdoor", sum := "fa23c8498d536dfdd38f912e458f376c48b23b3b525da8d9de1de8926d95d0ce", func := "beadle/beadlelaw05.LexerEnds", spec := "lexerEnds", unfollowed := true, recurses := true, named := ["beadle/decode.windowsHigh", "beadle/charref.windowsHigh"], apart := false, laid := [("beadle/decode.windowsHigh", laid_beadle_decode_windowsHigh), ("beadle/charref.windowsHigh", laid_beadle_charref_windowsHigh)], narrowed := true }
def LexerEndsUptoSaid : Prop := lexerEndsUptoRow.holds Tryz.pinned (OpenSpec.upto lexerEndsSpec)

/-- 'beadletop.TopPieces', WHERE WHAT IT READS IS OF BULK AT MOST 1048576: true; the input reads as it did. -/
def topPiecesUptoRow : OpenClaim := { program := "ytgdjknbbjpcoiaagreatdoor", sum := "fa23c8498d536dfdd38f912e458f376c48b23b3b525da8d9de1de8926d95d0ce", func := "beadle/beadletop.TopPieces", spec := "topPieces", inPlace := ["internal/bytealg.IndexByteString", "internal/bytealg.IndexString", "internal/reflectlite.ValueOf", "internal/reflectlite.Swapper", "(internal/reflectlite.Value).Len"], unfollowed := true, recurses := true, named := ["beadle/decode.windowsHigh", "beadle/charref.windowsHigh", "internal/bytealg.MaxLen", "unicode/utf8.first", "unicode/utf8.acceptRanges"], apart := false, laid := [("unicode/utf8.acceptRanges", laid_unicode_utf8_acceptRanges), ("beadle/decode.windowsHigh", laid_beadle_decode_windowsHigh), ("beadle/charref.windowsHigh", laid_beadle_charref_windowsHigh), ("unicode/utf8.first", laid_unicode_utf8_first)], narrowed := true }
def TopPiecesUptoSaid : Prop := topPiecesUptoRow.holds Tryz.pinned (OpenSpec.upto topPiecesSpec)

end Rows
end Go.Proofs.YtgdjknbbjpcoiaaGreatDoor

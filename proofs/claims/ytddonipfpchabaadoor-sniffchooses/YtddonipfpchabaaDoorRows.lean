/-
  NARROWER THAN 'FOR EVERY INPUT', by the rows' own cells (each row's printed sentence says how): SniffLabels: laid · SniffCharsets: laid · SniffScans: laid · SniffChooses: laid · SniffAhead: laid.
  DERIVED. THE GIVEN ROWS OF THIS SEAT. 5 by the template 'for every input the law returns true; each argument reads behind the call as it read before'; 0 by the template 'total and deterministic' (their statements: YtddonipfpchabaaDoorTotals.lean).
  GIVEN WITH THE SEED: the statements are not yours to turn. If you find one false, say at which input.
  Laid BY PROGRAM, IN A SANDBOX (cutbox-rows.mjs): the forced cells as the released guide's own fill.sh prints them over the translation 46f022afbe2c7155… (all of the seat's roots in one cut). By AI agents, Wed Nov 11 2026. No macro, syntax, notation, axiom, sorry.
-/
import Derived.Test.YtddonipfpchabaaDoorChecked
import GoSem.PinnedTables
import GoSem.Claim
import GoSem.ClaimJoined
import GoSem.ClaimMapViews
import Derived.JoinedTies
import Derived.KernelRfl
namespace Go.Proofs.YtddonipfpchabaaDoor
/- THE CELL 'sum', in the pinned program and in every row, IS THE sha256 OF THE DUMP (.gsa) THAT YtddonipfpchabaaDoorProg.lean LOADS. Nothing in Lean hashes anything: it is a label: what it is worth is what the hold of that sum in a sandbox is worth. -/
noncomputable def Tryd.pinned : Pinned := { name := "ytddonipfpchabaadoor", sum := "46f022afbe2c7155f5a4fc500b35ba3503a6ff971a6988b70692d28f037b2c52", checked := Tryd.checked }
namespace Rows
def none {H : Type} : Left H := { results := [], args := [] }

/- WHAT THE LISTED PACKAGE-LEVEL VARIABLES READ AS WHEN THE CALL BEGINS. Each datum BY PROGRAM (the guide's laid-datum.mjs) off the statement by which the dump's own 'gosem.cut.vars' lays the variable. In a bare row this is a premise. The card (YtddonipfpchabaaDoorCards.lean) ties it to the program's text. -/
def laid_unicode_utf8_acceptRanges {H : Type} : DataW H := .agg [.agg [.lit (.int .u8 128), .lit (.int .u8 191)], .agg [.lit (.int .u8 160), .lit (.int .u8 191)], .agg [.lit (.int .u8 128), .lit (.int .u8 159)], .agg [.lit (.int .u8 144), .lit (.int .u8 191)], .agg [.lit (.int .u8 128), .lit (.int .u8 143)], .agg [.lit (.int .u8 0), .lit (.int .u8 0)], .agg [.lit (.int .u8 0), .lit (.int .u8 0)], .agg [.lit (.int .u8 0), .lit (.int .u8 0)], .agg [.lit (.int .u8 0), .lit (.int .u8 0)], .agg [.lit (.int .u8 0), .lit (.int .u8 0)], .agg [.lit (.int .u8 0), .lit (.int .u8 0)], .agg [.lit (.int .u8 0), .lit (.int .u8 0)], .agg [.lit (.int .u8 0), .lit (.int .u8 0)], .agg [.lit (.int .u8 0), .lit (.int .u8 0)], .agg [.lit (.int .u8 0), .lit (.int .u8 0)], .agg [.lit (.int .u8 0), .lit (.int .u8 0)]]
/-- One of Go's own tables, pinned by name: the form's constant. -/
def laid_unicode_utf8_first : DataW Unit := Go.Pinned.utf8First

/-- 'beadlelaw01.SniffLabels': WHATEVER THE INPUT: true; the input reads as it did. -/
def sniffLabelsSpec : ChangeSpec := { name := "sniffLabels", fn := fun _ => fun
  | [d] => { results := [.lit (.bool true)], args := [d] }
  | _ => none }
def sniffLabelsRow : OpenClaim := { program := "ytddonipfpchabaadoor", sum := "46f022afbe2c7155f5a4fc500b35ba3503a6ff971a6988b70692d28f037b2c52", func := "beadle/beadlelaw01.SniffLabels", spec := "sniffLabels", inPlace := ["internal/bytealg.IndexByteString", "internal/bytealg.IndexString"], named := ["unicode/utf8.first", "unicode/utf8.acceptRanges", "internal/bytealg.MaxLen"], apart := false, laid := [("unicode/utf8.acceptRanges", laid_unicode_utf8_acceptRanges), ("unicode/utf8.first", laid_unicode_utf8_first)] }
def SniffLabelsSaid : Prop := sniffLabelsRow.holds Tryd.pinned (OpenSpec.ofChange sniffLabelsSpec)

/-- ITS FALSE NEIGHBOUR: 'it returns false'. Refute it at one input. -/
def sniffLabelsWrong : ChangeSpec := { name := "sniffLabels", fn := fun _ => fun
  | [d] => { results := [.lit (.bool false)], args := [d] }
  | _ => none }
def SniffLabelsWrongFalsely : Prop := sniffLabelsRow.holds Tryd.pinned (OpenSpec.ofChange sniffLabelsWrong)

/-- 'beadlelaw01.SniffCharsets': WHATEVER THE INPUT: true; the input reads as it did. -/
def sniffCharsetsSpec : ChangeSpec := { name := "sniffCharsets", fn := fun _ => fun
  | [d] => { results := [.lit (.bool true)], args := [d] }
  | _ => none }
def sniffCharsetsRow : OpenClaim := { program := "ytddonipfpchabaadoor", sum := "46f022afbe2c7155f5a4fc500b35ba3503a6ff971a6988b70692d28f037b2c52", func := "beadle/beadlelaw01.SniffCharsets", spec := "sniffCharsets", inPlace := ["internal/bytealg.IndexByteString", "internal/bytealg.IndexString"], named := ["internal/bytealg.MaxLen", "unicode/utf8.first", "unicode/utf8.acceptRanges"], apart := false, laid := [("unicode/utf8.acceptRanges", laid_unicode_utf8_acceptRanges), ("unicode/utf8.first", laid_unicode_utf8_first)] }
def SniffCharsetsSaid : Prop := sniffCharsetsRow.holds Tryd.pinned (OpenSpec.ofChange sniffCharsetsSpec)

/-- ITS FALSE NEIGHBOUR: 'it returns false'. Refute it at one input. -/
def sniffCharsetsWrong : ChangeSpec := { name := "sniffCharsets", fn := fun _ => fun
  | [d] => { results := [.lit (.bool false)], args := [d] }
  | _ => none }
def SniffCharsetsWrongFalsely : Prop := sniffCharsetsRow.holds Tryd.pinned (OpenSpec.ofChange sniffCharsetsWrong)

/-- 'beadlelaw01.SniffScans': WHATEVER THE INPUT: true; the input reads as it did. -/
def sniffScansSpec : ChangeSpec := { name := "sniffScans", fn := fun _ => fun
  | [d] => { results := [.lit (.bool true)], args := [d] }
  | _ => none }
def sniffScansRow : OpenClaim := { program := "ytddonipfpchabaadoor", sum := "46f022afbe2c7155f5a4fc500b35ba3503a6ff971a6988b70692d28f037b2c52", func := "beadle/beadlelaw01.SniffScans", spec := "sniffScans", inPlace := ["internal/bytealg.IndexByteString", "internal/bytealg.IndexString"], named := ["internal/bytealg.MaxLen", "unicode/utf8.first", "unicode/utf8.acceptRanges"], apart := false, laid := [("unicode/utf8.acceptRanges", laid_unicode_utf8_acceptRanges), ("unicode/utf8.first", laid_unicode_utf8_first)] }
def SniffScansSaid : Prop := sniffScansRow.holds Tryd.pinned (OpenSpec.ofChange sniffScansSpec)

/-- ITS FALSE NEIGHBOUR: 'it returns false'. Refute it at one input. -/
def sniffScansWrong : ChangeSpec := { name := "sniffScans", fn := fun _ => fun
  | [d] => { results := [.lit (.bool false)], args := [d] }
  | _ => none }
def SniffScansWrongFalsely : Prop := sniffScansRow.holds Tryd.pinned (OpenSpec.ofChange sniffScansWrong)

/-- 'beadlelaw01.SniffChooses': WHATEVER THE INPUT: true; the input reads as it did. -/
def sniffChoosesSpec : ChangeSpec := { name := "sniffChooses", fn := fun _ => fun
  | [d1, d2] => { results := [.lit (.bool true)], args := [d1, d2] }
  | _ => none }
def sniffChoosesRow : OpenClaim := { program := "ytddonipfpchabaadoor", sum := "46f022afbe2c7155f5a4fc500b35ba3503a6ff971a6988b70692d28f037b2c52", func := "beadle/beadlelaw01.SniffChooses", spec := "sniffChooses", inPlace := ["internal/bytealg.IndexByteString", "internal/bytealg.IndexString"], named := ["internal/bytealg.MaxLen", "unicode/utf8.first", "unicode/utf8.acceptRanges"], apart := false, laid := [("unicode/utf8.acceptRanges", laid_unicode_utf8_acceptRanges), ("unicode/utf8.first", laid_unicode_utf8_first)] }
def SniffChoosesSaid : Prop := sniffChoosesRow.holds Tryd.pinned (OpenSpec.ofChange sniffChoosesSpec)

/-- ITS FALSE NEIGHBOUR: 'it returns false'. Refute it at one input. -/
def sniffChoosesWrong : ChangeSpec := { name := "sniffChooses", fn := fun _ => fun
  | [d1, d2] => { results := [.lit (.bool false)], args := [d1, d2] }
  | _ => none }
def SniffChoosesWrongFalsely : Prop := sniffChoosesRow.holds Tryd.pinned (OpenSpec.ofChange sniffChoosesWrong)

/-- 'beadlelaw01.SniffAhead': WHATEVER THE INPUT: true; the input reads as it did. -/
def sniffAheadSpec : ChangeSpec := { name := "sniffAhead", fn := fun _ => fun
  | [d1, d2] => { results := [.lit (.bool true)], args := [d1, d2] }
  | _ => none }
def sniffAheadRow : OpenClaim := { program := "ytddonipfpchabaadoor", sum := "46f022afbe2c7155f5a4fc500b35ba3503a6ff971a6988b70692d28f037b2c52", func := "beadle/beadlelaw01.SniffAhead", spec := "sniffAhead", inPlace := ["internal/bytealg.IndexByteString", "internal/bytealg.IndexString"], named := ["internal/bytealg.MaxLen", "unicode/utf8.first", "unicode/utf8.acceptRanges"], apart := false, laid := [("unicode/utf8.acceptRanges", laid_unicode_utf8_acceptRanges), ("unicode/utf8.first", laid_unicode_utf8_first)] }
def SniffAheadSaid : Prop := sniffAheadRow.holds Tryd.pinned (OpenSpec.ofChange sniffAheadSpec)

/-- ITS FALSE NEIGHBOUR: 'it returns false'. Refute it at one input. -/
def sniffAheadWrong : ChangeSpec := { name := "sniffAhead", fn := fun _ => fun
  | [d1, d2] => { results := [.lit (.bool false)], args := [d1, d2] }
  | _ => none }
def SniffAheadWrongFalsely : Prop := sniffAheadRow.holds Tryd.pinned (OpenSpec.ofChange sniffAheadWrong)

/- THE SECOND FORM. 'bulk': how many values and letters a reading holds, each counted each time it is reached (what is shared counts as often as it is met; a slice's spare places count too). A statement '..UptoSaid' is the law's where the arguments, and the package variables that the reading takes, are together of bulk at most 1048576: NARROWER than '..Said'. Prove '..Said' where nothing that the law and all that it calls make is longer than what came in: it says more and counts as full. Else prove '..UptoSaid'. A law counts once. -/
mutual
def uptoBulk {H : Type} : DataW H → Nat
  | .lit (.string bytes) => bytes.length + 1
  | .lit _ => 1
  | .nil => 1
  | .ptr d => uptoBulk d + 1
  | .slice elems spare => uptoBulkAll elems + uptoBulkAll spare + 1
  | .agg parts => uptoBulkAll parts + 1
  | .iface _ d => uptoBulk d + 1
  | .map entries => uptoBulkEntries entries + 1
  | .held _ => 1
def uptoBulkAll {H : Type} : List (DataW H) → Nat
  | [] => 0
  | d :: r => uptoBulk d + uptoBulkAll r
def uptoBulkEntries {H : Type} : List (Lit × DataW H) → Nat
  | [] => 0
  | x :: r => uptoBulkEntry x + uptoBulkEntries r
def uptoBulkEntry {H : Type} : Lit × DataW H → Nat
  | (.string bytes, d) => bytes.length + uptoBulk d + 1
  | (_, d) => uptoBulk d + 1
 end
def uptoSmall : (H : Type) → List (DataW H) → Bool := fun _ ds => decide (uptoBulkAll ds ≤ 1048576)
def OpenSpec.upto (s : _root_.Go.ChangeSpec) : _root_.Go.OpenSpec := { _root_.Go.OpenSpec.ofChange s with cond := some uptoSmall }

/-- 'beadlelaw01.SniffLabels', WHERE WHAT IT READS IS OF BULK AT MOST 1048576: true; the input reads as it did. -/
def sniffLabelsUptoRow : OpenClaim := { program := "ytddonipfpchabaadoor", sum := "46f022afbe2c7155f5a4fc500b35ba3503a6ff971a6988b70692d28f037b2c52", func := "beadle/beadlelaw01.SniffLabels", spec := "sniffLabels", inPlace := ["internal/bytealg.IndexByteString", "internal/bytealg.IndexString"], named := ["unicode/utf8.first", "unicode/utf8.acceptRanges", "internal/bytealg.MaxLen"], apart := false, laid := [("unicode/utf8.acceptRanges", laid_unicode_utf8_acceptRanges), ("unicode/utf8.first", laid_unicode_utf8_first)], narrowed := true }
def SniffLabelsUptoSaid : Prop := sniffLabelsUptoRow.holds Tryd.pinned (OpenSpec.upto sniffLabelsSpec)

/-- 'beadlelaw01.SniffCharsets', WHERE WHAT IT READS IS OF BULK AT MOST 1048576: true; the input reads as it did. -/
def sniffCharsetsUptoRow : OpenClaim := { program := "ytddonipfpchabaadoor", sum := "46f022afbe2c7155f5a4fc500b35ba3503a6ff971a6988b70692d28f037b2c52", func := "beadle/beadlelaw01.SniffCharsets", spec := "sniffCharsets", inPlace := ["internal/bytealg.IndexByteString", "internal/bytealg.IndexString"], named := ["internal/bytealg.MaxLen", "unicode/utf8.first", "unicode/utf8.acceptRanges"], apart := false, laid := [("unicode/utf8.acceptRanges", laid_unicode_utf8_acceptRanges), ("unicode/utf8.first", laid_unicode_utf8_first)], narrowed := true }
def SniffCharsetsUptoSaid : Prop := sniffCharsetsUptoRow.holds Tryd.pinned (OpenSpec.upto sniffCharsetsSpec)

/-- 'beadlelaw01.SniffScans', WHERE WHAT IT READS IS OF BULK AT MOST 1048576: true; the input reads as it did. -/
def sniffScansUptoRow : OpenClaim := { program := "ytddonipfpchabaadoor", sum := "46f022afbe2c7155f5a4fc500b35ba3503a6ff971a6988b70692d28f037b2c52", func := "beadle/beadlelaw01.SniffScans", spec := "sniffScans", inPlace := ["internal/bytealg.IndexByteString", "internal/bytealg.IndexString"], named := ["internal/bytealg.MaxLen", "unicode/utf8.first", "unicode/utf8.acceptRanges"], apart := false, laid := [("unicode/utf8.acceptRanges", laid_unicode_utf8_acceptRanges), ("unicode/utf8.first", laid_unicode_utf8_first)], narrowed := true }
def SniffScansUptoSaid : Prop := sniffScansUptoRow.holds Tryd.pinned (OpenSpec.upto sniffScansSpec)

/-- 'beadlelaw01.SniffChooses', WHERE WHAT IT READS IS OF BULK AT MOST 1048576: true; the input reads as it did. -/
def sniffChoosesUptoRow : OpenClaim := { program := "ytddonipfpchabaadoor", sum := "46f022afbe2c7155f5a4fc500b35ba3503a6ff971a6988b70692d28f037b2c52", func := "beadle/beadlelaw01.SniffChooses", spec := "sniffChooses", inPlace := ["internal/bytealg.IndexByteString", "internal/bytealg.IndexString"], named := ["internal/bytealg.MaxLen", "unicode/utf8.first", "unicode/utf8.acceptRanges"], apart := false, laid := [("unicode/utf8.acceptRanges", laid_unicode_utf8_acceptRanges), ("unicode/utf8.first", laid_unicode_utf8_first)], narrowed := true }
def SniffChoosesUptoSaid : Prop := sniffChoosesUptoRow.holds Tryd.pinned (OpenSpec.upto sniffChoosesSpec)

/-- 'beadlelaw01.SniffAhead', WHERE WHAT IT READS IS OF BULK AT MOST 1048576: true; the input reads as it did. -/
def sniffAheadUptoRow : OpenClaim := { program := "ytddonipfpchabaadoor", sum := "46f022afbe2c7155f5a4fc500b35ba3503a6ff971a6988b70692d28f037b2c52", func := "beadle/beadlelaw01.SniffAhead", spec := "sniffAhead", inPlace := ["internal/bytealg.IndexByteString", "internal/bytealg.IndexString"], named := ["internal/bytealg.MaxLen", "unicode/utf8.first", "unicode/utf8.acceptRanges"], apart := false, laid := [("unicode/utf8.acceptRanges", laid_unicode_utf8_acceptRanges), ("unicode/utf8.first", laid_unicode_utf8_first)], narrowed := true }
def SniffAheadUptoSaid : Prop := sniffAheadUptoRow.holds Tryd.pinned (OpenSpec.upto sniffAheadSpec)

end Rows
end Go.Proofs.YtddonipfpchabaaDoor

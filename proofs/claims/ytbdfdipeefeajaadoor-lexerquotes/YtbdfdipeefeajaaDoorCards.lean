/-
  DERIVED. GIVEN WITH THE SEED: THE CARDS: each row of YtbdfdipeefeajaaDoorRows.lean that lists a variable, with what it lists TIED to the program's text (the seventh form; the later family's looks); each row that meets fmt, with fmt's text TOLD by the authors' own Lean function (tested against real Go, not proved from fmt's source: count such statements apart). THE CARD IS WHAT COUNTS. Prove the row's statement (the work); the ties are given (YtbdfdipeefeajaaDoorTie.lean); close each card by the builder's one call (the guide's Derived/Test/ToyasCard.lean, 'card_holds'). Laid BY PROGRAM, IN A SANDBOX (cutbox-door.mjs). By AI agents, Wed Nov 11 2026. No macro, syntax, notation, axiom, sorry.
-/
import Derived.Test.YtbdfdipeefeajaaDoorRows
import GoSem.ClaimSeven
namespace Go.Proofs.YtbdfdipeefeajaaDoor
namespace Rows

/-- THE TIED CARD OF 'beadlelaw05.LexerPlain'. -/
def lexerPlainCard : Claim7 := { stood := { row := lexerPlainRow, standIns := [], harness := (true, "91cff2578320a826cf49b1118c675d05c590cc43fa2e4e3caf51823d4aa00e28"), looks := false }, kinds := [], alts := [], laidByText := true, laidKinds := [.data, .data], laidTests := true, laidLooks := .later }
def LexerPlainCardSaid : Prop := Claim7.holds Tryd.pinned (.plain (OpenSpec.ofChange lexerPlainSpec)) lexerPlainCard

/-- THE TIED CARD OF 'beadlelaw05.LexerQuotes'. -/
def lexerQuotesCard : Claim7 := { stood := { row := lexerQuotesRow, standIns := [], harness := (true, "91cff2578320a826cf49b1118c675d05c590cc43fa2e4e3caf51823d4aa00e28"), looks := false }, kinds := [], alts := [], laidByText := true, laidKinds := [.data, .data], laidTests := true, laidLooks := .later }
def LexerQuotesCardSaid : Prop := Claim7.holds Tryd.pinned (.plain (OpenSpec.ofChange lexerQuotesSpec)) lexerQuotesCard

/-- THE SECOND FORM's CARD OF 'beadlelaw05.LexerPlain'. -/
def lexerPlainUptoCard : Claim7 := { stood := { row := lexerPlainUptoRow, standIns := [], harness := (true, "91cff2578320a826cf49b1118c675d05c590cc43fa2e4e3caf51823d4aa00e28"), looks := false }, kinds := [], alts := [], laidByText := true, laidKinds := [.data, .data], laidTests := true, laidLooks := .later }
def LexerPlainUptoCardSaid : Prop := Claim7.holds Tryd.pinned (.plain (OpenSpec.upto lexerPlainSpec)) lexerPlainUptoCard

/-- THE SECOND FORM's CARD OF 'beadlelaw05.LexerQuotes'. -/
def lexerQuotesUptoCard : Claim7 := { stood := { row := lexerQuotesUptoRow, standIns := [], harness := (true, "91cff2578320a826cf49b1118c675d05c590cc43fa2e4e3caf51823d4aa00e28"), looks := false }, kinds := [], alts := [], laidByText := true, laidKinds := [.data, .data], laidTests := true, laidLooks := .later }
def LexerQuotesUptoCardSaid : Prop := Claim7.holds Tryd.pinned (.plain (OpenSpec.upto lexerQuotesSpec)) lexerQuotesUptoCard
end Rows
end Go.Proofs.YtbdfdipeefeajaaDoor

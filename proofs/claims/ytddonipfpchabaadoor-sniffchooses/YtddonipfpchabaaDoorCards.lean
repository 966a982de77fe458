/-
  DERIVED. GIVEN WITH THE SEED: THE CARDS: each row of YtddonipfpchabaaDoorRows.lean that lists a variable, with what it lists TIED to the program's text (the seventh form; the later family's looks); each row that meets fmt, with fmt's text TOLD by the authors' own Lean function (tested against real Go, not proved from fmt's source: count such statements apart). THE CARD IS WHAT COUNTS. Prove the row's statement (the work); the ties are given (YtddonipfpchabaaDoorTie.lean); close each card by the builder's one call (the guide's Derived/Test/ToyasCard.lean, 'card_holds'). Laid BY PROGRAM, IN A SANDBOX (cutbox-door.mjs). By AI agents, Wed Nov 11 2026. No macro, syntax, notation, axiom, sorry.
-/
import Derived.Test.YtddonipfpchabaaDoorRows
import GoSem.ClaimSeven
namespace Go.Proofs.YtddonipfpchabaaDoor
namespace Rows

/-- THE TIED CARD OF 'beadlelaw01.SniffLabels'. -/
def sniffLabelsCard : Claim7 := { stood := { row := sniffLabelsRow, standIns := [], harness := (true, "8fe9e2340b5e2f99a9fc188280e096eeb149b2c258a05cd22e6c3d701346f73b"), looks := false }, kinds := [], alts := [], laidByText := true, laidKinds := [.data, .pinned], laidTests := true, laidLooks := .later }
def SniffLabelsCardSaid : Prop := Claim7.holds Tryd.pinned (.plain (OpenSpec.ofChange sniffLabelsSpec)) sniffLabelsCard

/-- THE TIED CARD OF 'beadlelaw01.SniffCharsets'. -/
def sniffCharsetsCard : Claim7 := { stood := { row := sniffCharsetsRow, standIns := [], harness := (true, "8fe9e2340b5e2f99a9fc188280e096eeb149b2c258a05cd22e6c3d701346f73b"), looks := false }, kinds := [], alts := [], laidByText := true, laidKinds := [.data, .pinned], laidTests := true, laidLooks := .later }
def SniffCharsetsCardSaid : Prop := Claim7.holds Tryd.pinned (.plain (OpenSpec.ofChange sniffCharsetsSpec)) sniffCharsetsCard

/-- THE TIED CARD OF 'beadlelaw01.SniffScans'. -/
def sniffScansCard : Claim7 := { stood := { row := sniffScansRow, standIns := [], harness := (true, "8fe9e2340b5e2f99a9fc188280e096eeb149b2c258a05cd22e6c3d701346f73b"), looks := false }, kinds := [], alts := [], laidByText := true, laidKinds := [.data, .pinned], laidTests := true, laidLooks := .later }
def SniffScansCardSaid : Prop := Claim7.holds Tryd.pinned (.plain (OpenSpec.ofChange sniffScansSpec)) sniffScansCard

/-- THE TIED CARD OF 'beadlelaw01.SniffChooses'. -/
def sniffChoosesCard : Claim7 := { stood := { row := sniffChoosesRow, standIns := [], harness := (true, "8fe9e2340b5e2f99a9fc188280e096eeb149b2c258a05cd22e6c3d701346f73b"), looks := false }, kinds := [], alts := [], laidByText := true, laidKinds := [.data, .pinned], laidTests := true, laidLooks := .later }
def SniffChoosesCardSaid : Prop := Claim7.holds Tryd.pinned (.plain (OpenSpec.ofChange sniffChoosesSpec)) sniffChoosesCard

/-- THE TIED CARD OF 'beadlelaw01.SniffAhead'. -/
def sniffAheadCard : Claim7 := { stood := { row := sniffAheadRow, standIns := [], harness := (true, "8fe9e2340b5e2f99a9fc188280e096eeb149b2c258a05cd22e6c3d701346f73b"), looks := false }, kinds := [], alts := [], laidByText := true, laidKinds := [.data, .pinned], laidTests := true, laidLooks := .later }
def SniffAheadCardSaid : Prop := Claim7.holds Tryd.pinned (.plain (OpenSpec.ofChange sniffAheadSpec)) sniffAheadCard

/-- THE SECOND FORM's CARD OF 'beadlelaw01.SniffLabels'. -/
def sniffLabelsUptoCard : Claim7 := { stood := { row := sniffLabelsUptoRow, standIns := [], harness := (true, "8fe9e2340b5e2f99a9fc188280e096eeb149b2c258a05cd22e6c3d701346f73b"), looks := false }, kinds := [], alts := [], laidByText := true, laidKinds := [.data, .pinned], laidTests := true, laidLooks := .later }
def SniffLabelsUptoCardSaid : Prop := Claim7.holds Tryd.pinned (.plain (OpenSpec.upto sniffLabelsSpec)) sniffLabelsUptoCard

/-- THE SECOND FORM's CARD OF 'beadlelaw01.SniffCharsets'. -/
def sniffCharsetsUptoCard : Claim7 := { stood := { row := sniffCharsetsUptoRow, standIns := [], harness := (true, "8fe9e2340b5e2f99a9fc188280e096eeb149b2c258a05cd22e6c3d701346f73b"), looks := false }, kinds := [], alts := [], laidByText := true, laidKinds := [.data, .pinned], laidTests := true, laidLooks := .later }
def SniffCharsetsUptoCardSaid : Prop := Claim7.holds Tryd.pinned (.plain (OpenSpec.upto sniffCharsetsSpec)) sniffCharsetsUptoCard

/-- THE SECOND FORM's CARD OF 'beadlelaw01.SniffScans'. -/
def sniffScansUptoCard : Claim7 := { stood := { row := sniffScansUptoRow, standIns := [], harness := (true, "8fe9e2340b5e2f99a9fc188280e096eeb149b2c258a05cd22e6c3d701346f73b"), looks := false }, kinds := [], alts := [], laidByText := true, laidKinds := [.data, .pinned], laidTests := true, laidLooks := .later }
def SniffScansUptoCardSaid : Prop := Claim7.holds Tryd.pinned (.plain (OpenSpec.upto sniffScansSpec)) sniffScansUptoCard

/-- THE SECOND FORM's CARD OF 'beadlelaw01.SniffChooses'. -/
def sniffChoosesUptoCard : Claim7 := { stood := { row := sniffChoosesUptoRow, standIns := [], harness := (true, "8fe9e2340b5e2f99a9fc188280e096eeb149b2c258a05cd22e6c3d701346f73b"), looks := false }, kinds := [], alts := [], laidByText := true, laidKinds := [.data, .pinned], laidTests := true, laidLooks := .later }
def SniffChoosesUptoCardSaid : Prop := Claim7.holds Tryd.pinned (.plain (OpenSpec.upto sniffChoosesSpec)) sniffChoosesUptoCard

/-- THE SECOND FORM's CARD OF 'beadlelaw01.SniffAhead'. -/
def sniffAheadUptoCard : Claim7 := { stood := { row := sniffAheadUptoRow, standIns := [], harness := (true, "8fe9e2340b5e2f99a9fc188280e096eeb149b2c258a05cd22e6c3d701346f73b"), looks := false }, kinds := [], alts := [], laidByText := true, laidKinds := [.data, .pinned], laidTests := true, laidLooks := .later }
def SniffAheadUptoCardSaid : Prop := Claim7.holds Tryd.pinned (.plain (OpenSpec.upto sniffAheadSpec)) sniffAheadUptoCard
end Rows
end Go.Proofs.YtddonipfpchabaaDoor

/-
  DERIVED. GIVEN WITH THE SEED: THE CARDS: each row of YtcndjfpcddidhaaDoorRows.lean that lists a variable, with what it lists TIED to the program's text (the seventh form; the later family's looks); each row that meets fmt, with fmt's text TOLD by the authors' own Lean function (tested against real Go, not proved from fmt's source: count such statements apart). THE CARD IS WHAT COUNTS. Prove the row's statement (the work); the ties are given (YtcndjfpcddidhaaDoorTie.lean); close each card by the builder's one call (the guide's Derived/Test/ToyasCard.lean, 'card_holds'). Laid BY PROGRAM, IN A SANDBOX (cutbox-door.mjs). By AI agents, Wed Nov 11 2026. No macro, syntax, notation, axiom, sorry.
-/
import Derived.Test.YtcndjfpcddidhaaDoorRows
import GoSem.ClaimSeven
namespace Go.Proofs.YtcndjfpcddidhaaDoor
namespace Rows

/-- THE TIED CARD OF 'beadlelaw02.DecodeParts'. -/
def decodePartsCard : Claim7 := { stood := { row := decodePartsRow, standIns := [], harness := (true, "2e2ecc0cc202ad35ec5dc835d001834fb6f9f0da30dcd8c1099f6882e22fb00f"), looks := false }, kinds := [], alts := [], laidByText := true, laidKinds := [.data], laidTests := true, laidLooks := .later }
def DecodePartsCardSaid : Prop := Claim7.holds Tryd.pinned (.plain (OpenSpec.ofChange decodePartsSpec)) decodePartsCard

/-- THE TIED CARD OF 'beadlelaw02.DecodeSoon'. -/
def decodeSoonCard : Claim7 := { stood := { row := decodeSoonRow, standIns := [], harness := (true, "2e2ecc0cc202ad35ec5dc835d001834fb6f9f0da30dcd8c1099f6882e22fb00f"), looks := false }, kinds := [], alts := [], laidByText := true, laidKinds := [.data], laidTests := true, laidLooks := .later }
def DecodeSoonCardSaid : Prop := Claim7.holds Tryd.pinned (.plain (OpenSpec.ofChange decodeSoonSpec)) decodeSoonCard

/-- THE TIED CARD OF 'beadlelaw02.DecodeLines'. -/
def decodeLinesCard : Claim7 := { stood := { row := decodeLinesRow, standIns := [], harness := (true, "2e2ecc0cc202ad35ec5dc835d001834fb6f9f0da30dcd8c1099f6882e22fb00f"), looks := false }, kinds := [], alts := [], laidByText := true, laidKinds := [.data], laidTests := true, laidLooks := .later }
def DecodeLinesCardSaid : Prop := Claim7.holds Tryd.pinned (.plain (OpenSpec.ofChange decodeLinesSpec)) decodeLinesCard

/-- THE TIED CARD OF 'beadlelaw02.DecodeBack'. -/
def decodeBackCard : Claim7 := { stood := { row := decodeBackRow, standIns := [], harness := (true, "2e2ecc0cc202ad35ec5dc835d001834fb6f9f0da30dcd8c1099f6882e22fb00f"), looks := false }, kinds := [], alts := [], laidByText := true, laidKinds := [.data], laidTests := true, laidLooks := .later }
def DecodeBackCardSaid : Prop := Claim7.holds Tryd.pinned (.plain (OpenSpec.ofChange decodeBackSpec)) decodeBackCard

/-- THE TIED CARD OF 'beadlelaw03.PlacePaths'. -/
def placePathsCard : Claim7 := { stood := { row := placePathsRow, standIns := [], harness := (true, "2e2ecc0cc202ad35ec5dc835d001834fb6f9f0da30dcd8c1099f6882e22fb00f"), looks := false }, kinds := [], alts := [], laidByText := true, laidKinds := [.data, .data, .data, .data, .pinned], laidTests := true, laidLooks := .later }
def PlacePathsCardSaid : Prop := Claim7.holds Tryd.pinned (.plain (OpenSpec.ofChange placePathsSpec)) placePathsCard

/-- THE SECOND FORM's CARD OF 'beadlelaw02.DecodeParts'. -/
def decodePartsUptoCard : Claim7 := { stood := { row := decodePartsUptoRow, standIns := [], harness := (true, "2e2ecc0cc202ad35ec5dc835d001834fb6f9f0da30dcd8c1099f6882e22fb00f"), looks := false }, kinds := [], alts := [], laidByText := true, laidKinds := [.data], laidTests := true, laidLooks := .later }
def DecodePartsUptoCardSaid : Prop := Claim7.holds Tryd.pinned (.plain (OpenSpec.upto decodePartsSpec)) decodePartsUptoCard

/-- THE SECOND FORM's CARD OF 'beadlelaw02.DecodeSoon'. -/
def decodeSoonUptoCard : Claim7 := { stood := { row := decodeSoonUptoRow, standIns := [], harness := (true, "2e2ecc0cc202ad35ec5dc835d001834fb6f9f0da30dcd8c1099f6882e22fb00f"), looks := false }, kinds := [], alts := [], laidByText := true, laidKinds := [.data], laidTests := true, laidLooks := .later }
def DecodeSoonUptoCardSaid : Prop := Claim7.holds Tryd.pinned (.plain (OpenSpec.upto decodeSoonSpec)) decodeSoonUptoCard

/-- THE SECOND FORM's CARD OF 'beadlelaw02.DecodeLines'. -/
def decodeLinesUptoCard : Claim7 := { stood := { row := decodeLinesUptoRow, standIns := [], harness := (true, "2e2ecc0cc202ad35ec5dc835d001834fb6f9f0da30dcd8c1099f6882e22fb00f"), looks := false }, kinds := [], alts := [], laidByText := true, laidKinds := [.data], laidTests := true, laidLooks := .later }
def DecodeLinesUptoCardSaid : Prop := Claim7.holds Tryd.pinned (.plain (OpenSpec.upto decodeLinesSpec)) decodeLinesUptoCard

/-- THE SECOND FORM's CARD OF 'beadlelaw02.DecodeBack'. -/
def decodeBackUptoCard : Claim7 := { stood := { row := decodeBackUptoRow, standIns := [], harness := (true, "2e2ecc0cc202ad35ec5dc835d001834fb6f9f0da30dcd8c1099f6882e22fb00f"), looks := false }, kinds := [], alts := [], laidByText := true, laidKinds := [.data], laidTests := true, laidLooks := .later }
def DecodeBackUptoCardSaid : Prop := Claim7.holds Tryd.pinned (.plain (OpenSpec.upto decodeBackSpec)) decodeBackUptoCard

/-- THE SECOND FORM's CARD OF 'beadlelaw03.PlacePaths'. -/
def placePathsUptoCard : Claim7 := { stood := { row := placePathsUptoRow, standIns := [], harness := (true, "2e2ecc0cc202ad35ec5dc835d001834fb6f9f0da30dcd8c1099f6882e22fb00f"), looks := false }, kinds := [], alts := [], laidByText := true, laidKinds := [.data, .data, .data, .data, .pinned], laidTests := true, laidLooks := .later }
def PlacePathsUptoCardSaid : Prop := Claim7.holds Tryd.pinned (.plain (OpenSpec.upto placePathsSpec)) placePathsUptoCard
end Rows
end Go.Proofs.YtcndjfpcddidhaaDoor

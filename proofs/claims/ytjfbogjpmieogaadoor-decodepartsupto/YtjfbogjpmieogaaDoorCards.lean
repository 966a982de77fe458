/-
  DERIVED. GIVEN WITH THE SEED: THE CARDS: each row of YtjfbogjpmieogaaDoorRows.lean that lists a variable, with what it lists TIED to the program's text (the seventh form; the later family's looks); each row that meets fmt, with fmt's text TOLD by the authors' own Lean function (tested against real Go, not proved from fmt's source: count such statements apart). THE CARD IS WHAT COUNTS. Prove the row's statement (the work); the ties are given (YtjfbogjpmieogaaDoorTie.lean); close each card by the builder's one call (the guide's Derived/Test/ToyasCard.lean, 'card_holds'). Laid BY PROGRAM, IN A SANDBOX (cutbox-door.mjs). By AI agents, Wed Nov 11 2026. No macro, syntax, notation, axiom, sorry.
-/
import Derived.Test.YtjfbogjpmieogaaDoorRows
import GoSem.ClaimSeven
namespace Go.Proofs.YtjfbogjpmieogaaDoor
namespace Rows

/-- THE TIED CARD OF 'beadlelaw05.LexerNil'. -/
def lexerNilCard : Claim7 := { stood := { row := lexerNilRow, standIns := [], harness := (true, "aaaa198b769dfdc1f0f9dbb6a2d80e58c407529e22f891491943e548f832c3df"), looks := false }, kinds := [], alts := [], laidByText := true, laidKinds := [.data, .data], laidTests := true, laidLooks := .later }
def LexerNilCardSaid : Prop := Claim7.holds Tryd.pinned (.plain (OpenSpec.ofChange lexerNilSpec)) lexerNilCard

/-- THE TIED CARD OF 'beadlelaw02.DecodeParts'. -/
def decodePartsCard : Claim7 := { stood := { row := decodePartsRow, standIns := [], harness := (true, "aaaa198b769dfdc1f0f9dbb6a2d80e58c407529e22f891491943e548f832c3df"), looks := false }, kinds := [], alts := [], laidByText := true, laidKinds := [.data], laidTests := true, laidLooks := .later }
def DecodePartsCardSaid : Prop := Claim7.holds Tryd.pinned (.plain (OpenSpec.ofChange decodePartsSpec)) decodePartsCard

/-- THE TIED CARD OF 'beadlelaw03.PlacePaths'. -/
def placePathsCard : Claim7 := { stood := { row := placePathsRow, standIns := [], harness := (true, "aaaa198b769dfdc1f0f9dbb6a2d80e58c407529e22f891491943e548f832c3df"), looks := false }, kinds := [], alts := [], laidByText := true, laidKinds := [.data, .data, .data, .data, .pinned], laidTests := true, laidLooks := .later }
def PlacePathsCardSaid : Prop := Claim7.holds Tryd.pinned (.plain (OpenSpec.ofChange placePathsSpec)) placePathsCard

/-- THE SECOND FORM's CARD OF 'beadlelaw05.LexerNil'. -/
def lexerNilUptoCard : Claim7 := { stood := { row := lexerNilUptoRow, standIns := [], harness := (true, "aaaa198b769dfdc1f0f9dbb6a2d80e58c407529e22f891491943e548f832c3df"), looks := false }, kinds := [], alts := [], laidByText := true, laidKinds := [.data, .data], laidTests := true, laidLooks := .later }
def LexerNilUptoCardSaid : Prop := Claim7.holds Tryd.pinned (.plain (OpenSpec.upto lexerNilSpec)) lexerNilUptoCard

/-- THE SECOND FORM's CARD OF 'beadlelaw02.DecodeParts'. -/
def decodePartsUptoCard : Claim7 := { stood := { row := decodePartsUptoRow, standIns := [], harness := (true, "aaaa198b769dfdc1f0f9dbb6a2d80e58c407529e22f891491943e548f832c3df"), looks := false }, kinds := [], alts := [], laidByText := true, laidKinds := [.data], laidTests := true, laidLooks := .later }
def DecodePartsUptoCardSaid : Prop := Claim7.holds Tryd.pinned (.plain (OpenSpec.upto decodePartsSpec)) decodePartsUptoCard

/-- THE SECOND FORM's CARD OF 'beadlelaw03.PlacePaths'. -/
def placePathsUptoCard : Claim7 := { stood := { row := placePathsUptoRow, standIns := [], harness := (true, "aaaa198b769dfdc1f0f9dbb6a2d80e58c407529e22f891491943e548f832c3df"), looks := false }, kinds := [], alts := [], laidByText := true, laidKinds := [.data, .data, .data, .data, .pinned], laidTests := true, laidLooks := .later }
def PlacePathsUptoCardSaid : Prop := Claim7.holds Tryd.pinned (.plain (OpenSpec.upto placePathsSpec)) placePathsUptoCard
end Rows
end Go.Proofs.YtjfbogjpmieogaaDoor

/-
  DERIVED. GIVEN WITH THE SEED: THE CARDS: each row of YteimahbfjgcpiaaDoorRows.lean that lists a variable, with what it lists TIED to the program's text (the seventh form; the later family's looks); each row that meets fmt, with fmt's text TOLD by the authors' own Lean function (tested against real Go, not proved from fmt's source: count such statements apart). THE CARD IS WHAT COUNTS. Prove the row's statement (the work); the ties are given (YteimahbfjgcpiaaDoorTie.lean); close each card by the builder's one call (the guide's Derived/Test/ToyasCard.lean, 'card_holds'). Laid BY PROGRAM, IN A SANDBOX (cutbox-door.mjs). By AI agents, Wed Nov 11 2026. No macro, syntax, notation, axiom, sorry.
-/
import Derived.Test.YteimahbfjgcpiaaDoorRows
import GoSem.ClaimSeven
namespace Go.Proofs.YteimahbfjgcpiaaDoor
namespace Rows

/-- THE TIED CARD OF 'spoollaw03.PlaceOf'. -/
def placeOfCard : Claim7 := { stood := { row := placeOfRow, standIns := [], harness := (true, "9931e39383130be36f251e51222e9c54ea989c7ec8fd8191b2360637d4839fef"), looks := false }, kinds := [], alts := [], laidByText := true, laidKinds := [.data, .data, .data, .data], laidTests := true, laidLooks := .later }
def PlaceOfCardSaid : Prop := Claim7.holds Tryd.pinned (.plain (OpenSpec.ofChange placeOfSpec)) placeOfCard

/-- THE TIED CARD OF 'spoollaw03.PlaceLines'. -/
def placeLinesCard : Claim7 := { stood := { row := placeLinesRow, standIns := [], harness := (true, "9931e39383130be36f251e51222e9c54ea989c7ec8fd8191b2360637d4839fef"), looks := false }, kinds := [], alts := [], laidByText := true, laidKinds := [.data, .data, .data, .data], laidTests := true, laidLooks := .later }
def PlaceLinesCardSaid : Prop := Claim7.holds Tryd.pinned (.plain (OpenSpec.ofChange placeLinesSpec)) placeLinesCard

/-- THE TIED CARD OF 'spoollaw03.PlaceTells'. -/
def placeTellsCard : Claim7 := { stood := { row := placeTellsRow, standIns := [], harness := (true, "9931e39383130be36f251e51222e9c54ea989c7ec8fd8191b2360637d4839fef"), looks := false }, kinds := [], alts := [], laidByText := true, laidKinds := [.data, .data, .data, .data], laidTests := true, laidLooks := .later }
def PlaceTellsCardSaid : Prop := Claim7.holds Tryd.pinned (.plain (OpenSpec.ofChange placeTellsSpec)) placeTellsCard

/-- THE SECOND FORM's CARD OF 'spoollaw03.PlaceOf'. -/
def placeOfUptoCard : Claim7 := { stood := { row := placeOfUptoRow, standIns := [], harness := (true, "9931e39383130be36f251e51222e9c54ea989c7ec8fd8191b2360637d4839fef"), looks := false }, kinds := [], alts := [], laidByText := true, laidKinds := [.data, .data, .data, .data], laidTests := true, laidLooks := .later }
def PlaceOfUptoCardSaid : Prop := Claim7.holds Tryd.pinned (.plain (OpenSpec.upto placeOfSpec)) placeOfUptoCard

/-- THE SECOND FORM's CARD OF 'spoollaw03.PlaceLines'. -/
def placeLinesUptoCard : Claim7 := { stood := { row := placeLinesUptoRow, standIns := [], harness := (true, "9931e39383130be36f251e51222e9c54ea989c7ec8fd8191b2360637d4839fef"), looks := false }, kinds := [], alts := [], laidByText := true, laidKinds := [.data, .data, .data, .data], laidTests := true, laidLooks := .later }
def PlaceLinesUptoCardSaid : Prop := Claim7.holds Tryd.pinned (.plain (OpenSpec.upto placeLinesSpec)) placeLinesUptoCard

/-- THE SECOND FORM's CARD OF 'spoollaw03.PlaceTells'. -/
def placeTellsUptoCard : Claim7 := { stood := { row := placeTellsUptoRow, standIns := [], harness := (true, "9931e39383130be36f251e51222e9c54ea989c7ec8fd8191b2360637d4839fef"), looks := false }, kinds := [], alts := [], laidByText := true, laidKinds := [.data, .data, .data, .data], laidTests := true, laidLooks := .later }
def PlaceTellsUptoCardSaid : Prop := Claim7.holds Tryd.pinned (.plain (OpenSpec.upto placeTellsSpec)) placeTellsUptoCard
end Rows
end Go.Proofs.YteimahbfjgcpiaaDoor

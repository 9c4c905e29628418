/-
  DERIVED. GIVEN WITH THE SEED: THE CARDS: each row of YtemnhlljobjjgaaDoorRows.lean that lists a variable, with what it lists TIED to the program's text (the seventh form; the later family's looks); each row that meets fmt, with fmt's text TOLD by the authors' own Lean function (tested against real Go, not proved from fmt's source: count such statements apart). THE CARD IS WHAT COUNTS. Prove the row's statement (the work); the ties are given (YtemnhlljobjjgaaDoorTie.lean); close each card by the builder's one call (the guide's Derived/Test/ToyasCard.lean, 'card_holds'). Laid BY PROGRAM, IN A SANDBOX (cutbox-door.mjs). By AI agents, Wed Nov 11 2026. No macro, syntax, notation, axiom, sorry.
-/
import Derived.Test.YtemnhlljobjjgaaDoorRows
import GoSem.ClaimSeven
namespace Go.Proofs.YtemnhlljobjjgaaDoor
namespace Rows

/-- THE TIED CARD OF 'spoollaw01.DigitParses'. -/
def digitParsesCard : Claim7 := { stood := { row := digitParsesRow, standIns := [], harness := (true, "5cce7562132a779a73e60e80af8ce79064feb6ac120730b09257505cbccd354b"), looks := false }, kinds := [], alts := [], laidByText := true, laidKinds := [.data, .data, .data, .data], laidTests := true, laidLooks := .later }
def DigitParsesCardSaid : Prop := Claim7.holds Tryd.pinned (.plain (OpenSpec.ofChange digitParsesSpec)) digitParsesCard

/-- THE TIED CARD OF 'spoollaw01.DigitTexts'. -/
def digitTextsCard : Claim7 := { stood := { row := digitTextsRow, standIns := [], harness := (true, "5cce7562132a779a73e60e80af8ce79064feb6ac120730b09257505cbccd354b"), looks := false }, kinds := [], alts := [], laidByText := true, laidKinds := [.data, .data, .data, .data], laidTests := true, laidLooks := .later }
def DigitTextsCardSaid : Prop := Claim7.holds Tryd.pinned (.plain (OpenSpec.ofChange digitTextsSpec)) digitTextsCard

/-- THE TIED CARD OF 'spoollaw01.DigitBack'. -/
def digitBackCard : Claim7 := { stood := { row := digitBackRow, standIns := [], harness := (true, "5cce7562132a779a73e60e80af8ce79064feb6ac120730b09257505cbccd354b"), looks := false }, kinds := [], alts := [], laidByText := true, laidKinds := [.data, .data, .data, .data], laidTests := true, laidLooks := .later }
def DigitBackCardSaid : Prop := Claim7.holds Tryd.pinned (.plain (OpenSpec.ofChange digitBackSpec)) digitBackCard

/-- THE SECOND FORM's CARD OF 'spoollaw01.DigitParses'. -/
def digitParsesUptoCard : Claim7 := { stood := { row := digitParsesUptoRow, standIns := [], harness := (true, "5cce7562132a779a73e60e80af8ce79064feb6ac120730b09257505cbccd354b"), looks := false }, kinds := [], alts := [], laidByText := true, laidKinds := [.data, .data, .data, .data], laidTests := true, laidLooks := .later }
def DigitParsesUptoCardSaid : Prop := Claim7.holds Tryd.pinned (.plain (OpenSpec.upto digitParsesSpec)) digitParsesUptoCard

/-- THE SECOND FORM's CARD OF 'spoollaw01.DigitTexts'. -/
def digitTextsUptoCard : Claim7 := { stood := { row := digitTextsUptoRow, standIns := [], harness := (true, "5cce7562132a779a73e60e80af8ce79064feb6ac120730b09257505cbccd354b"), looks := false }, kinds := [], alts := [], laidByText := true, laidKinds := [.data, .data, .data, .data], laidTests := true, laidLooks := .later }
def DigitTextsUptoCardSaid : Prop := Claim7.holds Tryd.pinned (.plain (OpenSpec.upto digitTextsSpec)) digitTextsUptoCard

/-- THE SECOND FORM's CARD OF 'spoollaw01.DigitBack'. -/
def digitBackUptoCard : Claim7 := { stood := { row := digitBackUptoRow, standIns := [], harness := (true, "5cce7562132a779a73e60e80af8ce79064feb6ac120730b09257505cbccd354b"), looks := false }, kinds := [], alts := [], laidByText := true, laidKinds := [.data, .data, .data, .data], laidTests := true, laidLooks := .later }
def DigitBackUptoCardSaid : Prop := Claim7.holds Tryd.pinned (.plain (OpenSpec.upto digitBackSpec)) digitBackUptoCard
end Rows
end Go.Proofs.YtemnhlljobjjgaaDoor

/-
  DERIVED. GIVEN WITH THE SEED: THE CARDS: each row of YtbkafoaoddajoaaGreatDoorRows.lean that lists a variable, with what it lists TIED to the program's text (the seventh form; the later family's looks); each row that meets fmt, with fmt's text TOLD by the authors' own Lean function (tested against real Go, not proved from fmt's source: count such statements apart). THE CARD IS WHAT COUNTS. Prove the row's statement (the work); the ties are given (YtbkafoaoddajoaaGreatDoorTie.lean); close each card by the builder's one call (the guide's Derived/Test/ToyasCard.lean, 'card_holds'). Laid BY PROGRAM, IN A SANDBOX (cutbox-door.mjs). By AI agents, Wed Nov 11 2026. No macro, syntax, notation, axiom, sorry.
-/
import Derived.Test.YtbkafoaoddajoaaGreatDoorRows
import GoSem.ClaimSeven
namespace Go.Proofs.YtbkafoaoddajoaaGreatDoor
namespace Rows

/-- THE TIED CARD OF 'spoollaw15.DerivMatches'. -/
def derivMatchesCard : Claim7 := { stood := { row := derivMatchesRow, standIns := [], harness := (true, "51f4273bf522b173ce96d084d747f71ec8164737f75593544943639fa34a8ba8"), looks := false }, kinds := [], alts := [], laidByText := true, laidKinds := [.data, .pinned], laidTests := true, laidLooks := .later }
def DerivMatchesCardSaid : Prop := Claim7.holds Tryz.pinned (.plain (OpenSpec.ofChange derivMatchesSpec)) derivMatchesCard

/-- THE TIED CARD OF 'spoollaw15.DerivParts'. -/
def derivPartsCard : Claim7 := { stood := { row := derivPartsRow, standIns := [], harness := (true, "51f4273bf522b173ce96d084d747f71ec8164737f75593544943639fa34a8ba8"), looks := false }, kinds := [], alts := [], laidByText := true, laidKinds := [.data, .pinned], laidTests := true, laidLooks := .later }
def DerivPartsCardSaid : Prop := Claim7.holds Tryz.pinned (.plain (OpenSpec.ofChange derivPartsSpec)) derivPartsCard

/-- THE SECOND FORM's CARD OF 'spoollaw15.DerivMatches'. -/
def derivMatchesUptoCard : Claim7 := { stood := { row := derivMatchesUptoRow, standIns := [], harness := (true, "51f4273bf522b173ce96d084d747f71ec8164737f75593544943639fa34a8ba8"), looks := false }, kinds := [], alts := [], laidByText := true, laidKinds := [.data, .pinned], laidTests := true, laidLooks := .later }
def DerivMatchesUptoCardSaid : Prop := Claim7.holds Tryz.pinned (.plain (OpenSpec.upto derivMatchesSpec)) derivMatchesUptoCard

/-- THE SECOND FORM's CARD OF 'spoollaw15.DerivParts'. -/
def derivPartsUptoCard : Claim7 := { stood := { row := derivPartsUptoRow, standIns := [], harness := (true, "51f4273bf522b173ce96d084d747f71ec8164737f75593544943639fa34a8ba8"), looks := false }, kinds := [], alts := [], laidByText := true, laidKinds := [.data, .pinned], laidTests := true, laidLooks := .later }
def DerivPartsUptoCardSaid : Prop := Claim7.holds Tryz.pinned (.plain (OpenSpec.upto derivPartsSpec)) derivPartsUptoCard
end Rows
end Go.Proofs.YtbkafoaoddajoaaGreatDoor

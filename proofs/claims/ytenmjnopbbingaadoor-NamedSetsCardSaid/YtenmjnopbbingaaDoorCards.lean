/-
  DERIVED. GIVEN WITH THE SEED: THE CARDS: each row of YtenmjnopbbingaaDoorRows.lean that lists a variable, with what it lists TIED to the program's text (the seventh form; the later family's looks); each row that meets fmt, with fmt's text TOLD by the authors' own Lean function (tested against real Go, not proved from fmt's source: count such statements apart). THE CARD IS WHAT COUNTS. Prove the row's statement (the work); the ties are given (YtenmjnopbbingaaDoorTie.lean); close each card by the builder's one call (the guide's Derived/Test/ToyasCard.lean, 'card_holds'). Laid BY PROGRAM, IN A SANDBOX (cutbox-door.mjs). By AI agents, Wed Nov 11 2026. No macro, syntax, notation, axiom, sorry.
-/
import Derived.Test.YtenmjnopbbingaaDoorRows
import GoSem.ClaimSeven
namespace Go.Proofs.YtenmjnopbbingaaDoor
namespace Rows

/-- THE TIED CARD OF 'spoollaw07.NamedSets'. -/
def namedSetsCard : Claim7 := { stood := { row := namedSetsRow, standIns := [], harness := (true, "9fb933730d9239017d2064eec484989f4d5370e85251254ec6f40f8bd23fb75d"), looks := true }, kinds := [], alts := [], laidByText := true, laidKinds := [.widerDeep, .data], laidTests := true, laidLooks := .later }
def NamedSetsCardSaid : Prop := Claim7.holds Tryd.pinned (.plain (OpenSpec.ofChange namedSetsSpec)) namedSetsCard

/-- THE TIED CARD OF 'spoollaw07.NamedNumbers'. -/
def namedNumbersCard : Claim7 := { stood := { row := namedNumbersRow, standIns := [], harness := (true, "9fb933730d9239017d2064eec484989f4d5370e85251254ec6f40f8bd23fb75d"), looks := true }, kinds := [], alts := [], laidByText := true, laidKinds := [.widerDeep, .data], laidTests := true, laidLooks := .later }
def NamedNumbersCardSaid : Prop := Claim7.holds Tryd.pinned (.plain (OpenSpec.ofChange namedNumbersSpec)) namedNumbersCard

/-- THE TIED CARD OF 'spoollaw07.NamedParts'. -/
def namedPartsCard : Claim7 := { stood := { row := namedPartsRow, standIns := [], harness := (true, "9fb933730d9239017d2064eec484989f4d5370e85251254ec6f40f8bd23fb75d"), looks := true }, kinds := [], alts := [], laidByText := true, laidKinds := [.widerDeep, .data], laidTests := true, laidLooks := .later }
def NamedPartsCardSaid : Prop := Claim7.holds Tryd.pinned (.plain (OpenSpec.ofChange namedPartsSpec)) namedPartsCard

/-- THE SECOND FORM's CARD OF 'spoollaw07.NamedSets'. -/
def namedSetsUptoCard : Claim7 := { stood := { row := namedSetsUptoRow, standIns := [], harness := (true, "9fb933730d9239017d2064eec484989f4d5370e85251254ec6f40f8bd23fb75d"), looks := true }, kinds := [], alts := [], laidByText := true, laidKinds := [.widerDeep, .data], laidTests := true, laidLooks := .later }
def NamedSetsUptoCardSaid : Prop := Claim7.holds Tryd.pinned (.plain (OpenSpec.upto namedSetsSpec)) namedSetsUptoCard

/-- THE SECOND FORM's CARD OF 'spoollaw07.NamedNumbers'. -/
def namedNumbersUptoCard : Claim7 := { stood := { row := namedNumbersUptoRow, standIns := [], harness := (true, "9fb933730d9239017d2064eec484989f4d5370e85251254ec6f40f8bd23fb75d"), looks := true }, kinds := [], alts := [], laidByText := true, laidKinds := [.widerDeep, .data], laidTests := true, laidLooks := .later }
def NamedNumbersUptoCardSaid : Prop := Claim7.holds Tryd.pinned (.plain (OpenSpec.upto namedNumbersSpec)) namedNumbersUptoCard

/-- THE SECOND FORM's CARD OF 'spoollaw07.NamedParts'. -/
def namedPartsUptoCard : Claim7 := { stood := { row := namedPartsUptoRow, standIns := [], harness := (true, "9fb933730d9239017d2064eec484989f4d5370e85251254ec6f40f8bd23fb75d"), looks := true }, kinds := [], alts := [], laidByText := true, laidKinds := [.widerDeep, .data], laidTests := true, laidLooks := .later }
def NamedPartsUptoCardSaid : Prop := Claim7.holds Tryd.pinned (.plain (OpenSpec.upto namedPartsSpec)) namedPartsUptoCard
end Rows
end Go.Proofs.YtenmjnopbbingaaDoor

/-
  DERIVED. GIVEN WITH THE SEED: THE CARDS: each row of YtgjiofkjogjhhaaGreatDoorRows.lean that lists a variable, with what it lists TIED to the program's text (the seventh form; the later family's looks); each row that meets fmt, with fmt's text TOLD by the authors' own Lean function (tested against real Go, not proved from fmt's source: count such statements apart). THE CARD IS WHAT COUNTS. Prove the row's statement (the work); the ties are given (YtgjiofkjogjhhaaGreatDoorTie.lean); close each card by the builder's one call (the guide's Derived/Test/ToyasCard.lean, 'card_holds'). Laid BY PROGRAM, IN A SANDBOX (cutbox-door.mjs). By AI agents, Wed Nov 11 2026. No macro, syntax, notation, axiom, sorry.
-/
import Derived.Test.YtgjiofkjogjhhaaGreatDoorRows
import GoSem.ClaimSeven
namespace Go.Proofs.YtgjiofkjogjhhaaGreatDoor
namespace Rows

/-- THE TIED CARD OF 'spoollaw19.SpecprintChecks'. -/
def specprintChecksCard : Claim7 := { stood := { row := specprintChecksRow, standIns := [], harness := (true, "145054681aa21a1b62d869a72546f5be386505cbe7aaa4337e705dec5ef92f1a"), looks := true }, kinds := [], alts := [], laidByText := true, laidKinds := [.data, .data, .data, .data], laidTests := true, laidLooks := .later }
def SpecprintChecksCardSaid : Prop := Claim7.holds Tryz.pinned (.plain (OpenSpec.ofChange specprintChecksSpec)) specprintChecksCard

/-- THE TIED CARD OF 'spoollaw19.SpecprintGroups'. -/
def specprintGroupsCard : Claim7 := { stood := { row := specprintGroupsRow, standIns := [], harness := (true, "145054681aa21a1b62d869a72546f5be386505cbe7aaa4337e705dec5ef92f1a"), looks := true }, kinds := [], alts := [], laidByText := true, laidKinds := [.data, .data, .data, .data], laidTests := true, laidLooks := .later }
def SpecprintGroupsCardSaid : Prop := Claim7.holds Tryz.pinned (.plain (OpenSpec.ofChange specprintGroupsSpec)) specprintGroupsCard

/-- THE SECOND FORM's CARD OF 'spoollaw19.SpecprintChecks'. -/
def specprintChecksUptoCard : Claim7 := { stood := { row := specprintChecksUptoRow, standIns := [], harness := (true, "145054681aa21a1b62d869a72546f5be386505cbe7aaa4337e705dec5ef92f1a"), looks := true }, kinds := [], alts := [], laidByText := true, laidKinds := [.data, .data, .data, .data], laidTests := true, laidLooks := .later }
def SpecprintChecksUptoCardSaid : Prop := Claim7.holds Tryz.pinned (.plain (OpenSpec.upto specprintChecksSpec)) specprintChecksUptoCard

/-- THE SECOND FORM's CARD OF 'spoollaw19.SpecprintGroups'. -/
def specprintGroupsUptoCard : Claim7 := { stood := { row := specprintGroupsUptoRow, standIns := [], harness := (true, "145054681aa21a1b62d869a72546f5be386505cbe7aaa4337e705dec5ef92f1a"), looks := true }, kinds := [], alts := [], laidByText := true, laidKinds := [.data, .data, .data, .data], laidTests := true, laidLooks := .later }
def SpecprintGroupsUptoCardSaid : Prop := Claim7.holds Tryz.pinned (.plain (OpenSpec.upto specprintGroupsSpec)) specprintGroupsUptoCard
end Rows
end Go.Proofs.YtgjiofkjogjhhaaGreatDoor

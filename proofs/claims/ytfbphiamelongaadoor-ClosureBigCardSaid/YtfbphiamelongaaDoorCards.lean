/-
  DERIVED. GIVEN WITH THE SEED: THE CARDS: each row of YtfbphiamelongaaDoorRows.lean that lists a variable, with what it lists TIED to the program's text (the seventh form; the later family's looks); each row that meets fmt, with fmt's text TOLD by the authors' own Lean function (tested against real Go, not proved from fmt's source: count such statements apart). THE CARD IS WHAT COUNTS. Prove the row's statement (the work); the ties are given (YtfbphiamelongaaDoorTie.lean); close each card by the builder's one call (the guide's Derived/Test/ToyasCard.lean, 'card_holds'). Laid BY PROGRAM, IN A SANDBOX (cutbox-door.mjs). By AI agents, Wed Nov 11 2026. No macro, syntax, notation, axiom, sorry.
-/
import Derived.Test.YtfbphiamelongaaDoorRows
import GoSem.ClaimSeven
namespace Go.Proofs.YtfbphiamelongaaDoor
namespace Rows

/-- THE TIED CARD OF 'spoollaw22.ClosureSteps'. -/
def closureStepsCard : Claim7 := { stood := { row := closureStepsRow, standIns := [], harness := (true, "daacc09f69efe1cdff52910b37090e625b79cc6db6bcaffc8de7478cf3049c11"), looks := false }, kinds := [], alts := [], laidByText := true, laidKinds := [.data], laidTests := true, laidLooks := .later }
def ClosureStepsCardSaid : Prop := Claim7.holds Tryd.pinned (.plain (OpenSpec.ofChange closureStepsSpec)) closureStepsCard

/-- THE TIED CARD OF 'spoollaw22.ClosureRuns'. -/
def closureRunsCard : Claim7 := { stood := { row := closureRunsRow, standIns := [], harness := (true, "daacc09f69efe1cdff52910b37090e625b79cc6db6bcaffc8de7478cf3049c11"), looks := false }, kinds := [], alts := [], laidByText := true, laidKinds := [.data], laidTests := true, laidLooks := .later }
def ClosureRunsCardSaid : Prop := Claim7.holds Tryd.pinned (.plain (OpenSpec.ofChange closureRunsSpec)) closureRunsCard

/-- THE TIED CARD OF 'spoollaw22.ClosureBig'. -/
def closureBigCard : Claim7 := { stood := { row := closureBigRow, standIns := [], harness := (true, "daacc09f69efe1cdff52910b37090e625b79cc6db6bcaffc8de7478cf3049c11"), looks := false }, kinds := [], alts := [], laidByText := true, laidKinds := [.data], laidTests := true, laidLooks := .later }
def ClosureBigCardSaid : Prop := Claim7.holds Tryd.pinned (.plain (OpenSpec.ofChange closureBigSpec)) closureBigCard

/-- THE SECOND FORM's CARD OF 'spoollaw22.ClosureSteps'. -/
def closureStepsUptoCard : Claim7 := { stood := { row := closureStepsUptoRow, standIns := [], harness := (true, "daacc09f69efe1cdff52910b37090e625b79cc6db6bcaffc8de7478cf3049c11"), looks := false }, kinds := [], alts := [], laidByText := true, laidKinds := [.data], laidTests := true, laidLooks := .later }
def ClosureStepsUptoCardSaid : Prop := Claim7.holds Tryd.pinned (.plain (OpenSpec.upto closureStepsSpec)) closureStepsUptoCard

/-- THE SECOND FORM's CARD OF 'spoollaw22.ClosureRuns'. -/
def closureRunsUptoCard : Claim7 := { stood := { row := closureRunsUptoRow, standIns := [], harness := (true, "daacc09f69efe1cdff52910b37090e625b79cc6db6bcaffc8de7478cf3049c11"), looks := false }, kinds := [], alts := [], laidByText := true, laidKinds := [.data], laidTests := true, laidLooks := .later }
def ClosureRunsUptoCardSaid : Prop := Claim7.holds Tryd.pinned (.plain (OpenSpec.upto closureRunsSpec)) closureRunsUptoCard

/-- THE SECOND FORM's CARD OF 'spoollaw22.ClosureBig'. -/
def closureBigUptoCard : Claim7 := { stood := { row := closureBigUptoRow, standIns := [], harness := (true, "daacc09f69efe1cdff52910b37090e625b79cc6db6bcaffc8de7478cf3049c11"), looks := false }, kinds := [], alts := [], laidByText := true, laidKinds := [.data], laidTests := true, laidLooks := .later }
def ClosureBigUptoCardSaid : Prop := Claim7.holds Tryd.pinned (.plain (OpenSpec.upto closureBigSpec)) closureBigUptoCard
end Rows
end Go.Proofs.YtfbphiamelongaaDoor

/-
  DERIVED. GIVEN WITH THE SEED: THE CARDS: each row of YtemmaoapicaloaaDoorRows.lean that lists a variable, with what it lists TIED to the program's text (the seventh form; the later family's looks); each row that meets fmt, with fmt's text TOLD by the authors' own Lean function (tested against real Go, not proved from fmt's source: count such statements apart). THE CARD IS WHAT COUNTS. Prove the row's statement (the work); the ties are given (YtemmaoapicaloaaDoorTie.lean); close each card by the builder's one call (the guide's Derived/Test/ToyasCard.lean, 'card_holds'). Laid BY PROGRAM, IN A SANDBOX (cutbox-door.mjs). By AI agents, Wed Nov 11 2026. No macro, syntax, notation, axiom, sorry.
-/
import Derived.Test.YtemmaoapicaloaaDoorRows
import GoSem.ClaimSeven
namespace Go.Proofs.YtemmaoapicaloaaDoor
namespace Rows

/-- THE TIED CARD OF 'spoollaw23.SettablePlays'. -/
def settablePlaysCard : Claim7 := { stood := { row := settablePlaysRow, standIns := [], harness := (true, "12fd93f8b1798a070f90f3412231f103f209cbc91d0f64e3f84548341dfbbe82"), looks := false }, kinds := [], alts := [], laidByText := true, laidKinds := [.data], laidTests := true, laidLooks := .later }
def SettablePlaysCardSaid : Prop := Claim7.holds Tryd.pinned (.plain (OpenSpec.ofChange settablePlaysSpec)) settablePlaysCard

/-- THE TIED CARD OF 'spoollaw23.SettableOwn'. -/
def settableOwnCard : Claim7 := { stood := { row := settableOwnRow, standIns := [], harness := (true, "12fd93f8b1798a070f90f3412231f103f209cbc91d0f64e3f84548341dfbbe82"), looks := false }, kinds := [], alts := [], laidByText := true, laidKinds := [.data], laidTests := true, laidLooks := .later }
def SettableOwnCardSaid : Prop := Claim7.holds Tryd.pinned (.plain (OpenSpec.ofChange settableOwnSpec)) settableOwnCard

/-- THE SECOND FORM's CARD OF 'spoollaw23.SettablePlays'. -/
def settablePlaysUptoCard : Claim7 := { stood := { row := settablePlaysUptoRow, standIns := [], harness := (true, "12fd93f8b1798a070f90f3412231f103f209cbc91d0f64e3f84548341dfbbe82"), looks := false }, kinds := [], alts := [], laidByText := true, laidKinds := [.data], laidTests := true, laidLooks := .later }
def SettablePlaysUptoCardSaid : Prop := Claim7.holds Tryd.pinned (.plain (OpenSpec.upto settablePlaysSpec)) settablePlaysUptoCard

/-- THE SECOND FORM's CARD OF 'spoollaw23.SettableOwn'. -/
def settableOwnUptoCard : Claim7 := { stood := { row := settableOwnUptoRow, standIns := [], harness := (true, "12fd93f8b1798a070f90f3412231f103f209cbc91d0f64e3f84548341dfbbe82"), looks := false }, kinds := [], alts := [], laidByText := true, laidKinds := [.data], laidTests := true, laidLooks := .later }
def SettableOwnUptoCardSaid : Prop := Claim7.holds Tryd.pinned (.plain (OpenSpec.upto settableOwnSpec)) settableOwnUptoCard
end Rows
end Go.Proofs.YtemmaoapicaloaaDoor

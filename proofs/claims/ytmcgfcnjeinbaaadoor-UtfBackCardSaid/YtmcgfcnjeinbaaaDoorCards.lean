/-
  DERIVED. GIVEN WITH THE SEED: THE CARDS: each row of YtmcgfcnjeinbaaaDoorRows.lean that lists a variable, with what it lists TIED to the program's text (the seventh form; the later family's looks); each row that meets fmt, with fmt's text TOLD by the authors' own Lean function (tested against real Go, not proved from fmt's source: count such statements apart). THE CARD IS WHAT COUNTS. Prove the row's statement (the work); the ties are given (YtmcgfcnjeinbaaaDoorTie.lean); close each card by the builder's one call (the guide's Derived/Test/ToyasCard.lean, 'card_holds'). Laid BY PROGRAM, IN A SANDBOX (cutbox-door.mjs). By AI agents, Wed Nov 11 2026. No macro, syntax, notation, axiom, sorry.
-/
import Derived.Test.YtmcgfcnjeinbaaaDoorRows
import GoSem.ClaimSeven
namespace Go.Proofs.YtmcgfcnjeinbaaaDoor
namespace Rows

/-- THE TIED CARD OF 'spoollaw02.UtfPuts'. -/
def utfPutsCard : Claim7 := { stood := { row := utfPutsRow, standIns := [], harness := (true, "30a845a906ee78459728dfab02192e01ff795270f35566a769e56fbc7f6b34f5"), looks := false }, kinds := [], alts := [], laidByText := true, laidKinds := [.data, .pinned], laidTests := true, laidLooks := .later }
def UtfPutsCardSaid : Prop := Claim7.holds Tryd.pinned (.plain (OpenSpec.ofChange utfPutsSpec)) utfPutsCard

/-- THE TIED CARD OF 'spoollaw02.UtfGets'. -/
def utfGetsCard : Claim7 := { stood := { row := utfGetsRow, standIns := [], harness := (true, "30a845a906ee78459728dfab02192e01ff795270f35566a769e56fbc7f6b34f5"), looks := false }, kinds := [], alts := [], laidByText := true, laidKinds := [.data, .pinned], laidTests := true, laidLooks := .later }
def UtfGetsCardSaid : Prop := Claim7.holds Tryd.pinned (.plain (OpenSpec.ofChange utfGetsSpec)) utfGetsCard

/-- THE TIED CARD OF 'spoollaw02.UtfBack'. -/
def utfBackCard : Claim7 := { stood := { row := utfBackRow, standIns := [], harness := (true, "30a845a906ee78459728dfab02192e01ff795270f35566a769e56fbc7f6b34f5"), looks := false }, kinds := [], alts := [], laidByText := true, laidKinds := [.data, .pinned], laidTests := true, laidLooks := .later }
def UtfBackCardSaid : Prop := Claim7.holds Tryd.pinned (.plain (OpenSpec.ofChange utfBackSpec)) utfBackCard

/-- THE SECOND FORM's CARD OF 'spoollaw02.UtfPuts'. -/
def utfPutsUptoCard : Claim7 := { stood := { row := utfPutsUptoRow, standIns := [], harness := (true, "30a845a906ee78459728dfab02192e01ff795270f35566a769e56fbc7f6b34f5"), looks := false }, kinds := [], alts := [], laidByText := true, laidKinds := [.data, .pinned], laidTests := true, laidLooks := .later }
def UtfPutsUptoCardSaid : Prop := Claim7.holds Tryd.pinned (.plain (OpenSpec.upto utfPutsSpec)) utfPutsUptoCard

/-- THE SECOND FORM's CARD OF 'spoollaw02.UtfGets'. -/
def utfGetsUptoCard : Claim7 := { stood := { row := utfGetsUptoRow, standIns := [], harness := (true, "30a845a906ee78459728dfab02192e01ff795270f35566a769e56fbc7f6b34f5"), looks := false }, kinds := [], alts := [], laidByText := true, laidKinds := [.data, .pinned], laidTests := true, laidLooks := .later }
def UtfGetsUptoCardSaid : Prop := Claim7.holds Tryd.pinned (.plain (OpenSpec.upto utfGetsSpec)) utfGetsUptoCard

/-- THE SECOND FORM's CARD OF 'spoollaw02.UtfBack'. -/
def utfBackUptoCard : Claim7 := { stood := { row := utfBackUptoRow, standIns := [], harness := (true, "30a845a906ee78459728dfab02192e01ff795270f35566a769e56fbc7f6b34f5"), looks := false }, kinds := [], alts := [], laidByText := true, laidKinds := [.data, .pinned], laidTests := true, laidLooks := .later }
def UtfBackUptoCardSaid : Prop := Claim7.holds Tryd.pinned (.plain (OpenSpec.upto utfBackSpec)) utfBackUptoCard
end Rows
end Go.Proofs.YtmcgfcnjeinbaaaDoor

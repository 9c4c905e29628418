/-
  NARROWER THAN 'FOR EVERY INPUT', by the rows' own cells (each row's printed sentence says how): ActionParses: laid · ActionBack: laid.
  DERIVED. THE GIVEN ROWS OF THIS SEAT. 2 by the template 'for every input the law returns true; each argument reads behind the call as it read before'; 0 by the template 'total and deterministic' (their statements: YtleejfkononjgaaDoorTotals.lean).
  GIVEN WITH THE SEED: the statements are not yours to turn. If you find one false, say at which input.
  Laid BY PROGRAM, IN A SANDBOX (cutbox-rows.mjs): the forced cells as the released guide's own fill.sh prints them over the translation b7f119864338d638… (all of the seat's roots in one cut). By AI agents, Wed Nov 11 2026. No macro, syntax, notation, axiom, sorry.
-/
import Derived.Test.YtleejfkononjgaaDoorChecked
import GoSem.Claim
import GoSem.ClaimJoined
import GoSem.ClaimMapViews
import Derived.JoinedTies
import Derived.KernelRfl
namespace Go.Proofs.YtleejfkononjgaaDoor
/- THE CELL 'sum', in the pinned program and in every row, IS THE sha256 OF THE DUMP (.gsa) THAT YtleejfkononjgaaDoorProg.lean LOADS. Nothing in Lean hashes anything: it is a label: what it is worth is what the hold of that sum in a sandbox is worth. -/
noncomputable def Tryd.pinned : Pinned := { name := "ytleejfkononjgaadoor", sum := "b7f119864338d638cc35c9f04b98dae367c1a4981b5b6f44775402d170c6b3cc", checked := Tryd.checked }
namespace Rows
def none {H : Type} : Left H := { results := [], args := [] }

/- WHAT THE LISTED PACKAGE-LEVEL VARIABLES READ AS WHEN THE CALL BEGINS. Each datum BY PROGRAM (the guide's laid-datum.mjs) off the statement by which the dump's own 'gosem.cut.vars' lays the variable. In a bare row this is a premise. The card (YtleejfkononjgaaDoorCards.lean) ties it to the program's text. -/
def laid_spool_action_steps {H : Type} : DataW H := .agg [.agg [.lit (.int .i64 1), .lit (.string [115, 107, 105, 112]), .lit (.int .i64 3)], .agg [.lit (.int .i64 1), .lit (.string [101, 109, 105, 116]), .lit (.int .i64 2)], .agg [.lit (.int .i64 2), .lit (.string []), .lit (.int .i64 3)], .agg [.lit (.int .i64 3), .lit (.string [103, 111, 116, 111]), .lit (.int .i64 4)], .agg [.lit (.int .i64 4), .lit (.string []), .lit (.int .i64 5)]]

/-- 'spoollaw17.ActionParses': WHATEVER THE INPUT: true; the input reads as it did. -/
def actionParsesSpec : ChangeSpec := { name := "actionParses", fn := fun _ => fun
  | [d1, d2] => { results := [.lit (.bool true)], args := [d1, d2] }
  | _ => none }
def actionParsesRow : OpenClaim := { program := "ytleejfkononjgaadoor", sum := "b7f119864338d638cc35c9f04b98dae367c1a4981b5b6f44775402d170c6b3cc", func := "spool/spoollaw17.ActionParses", spec := "actionParses", inPlace := ["internal/abi.NoEscape", "internal/bytealg.MakeNoZero"], unfollowed := true, recurses := true, named := ["spool/action.steps"], apart := false, laid := [("spool/action.steps", laid_spool_action_steps)] }
def ActionParsesSaid : Prop := actionParsesRow.holds Tryd.pinned (OpenSpec.ofChange actionParsesSpec)

/-- ITS FALSE NEIGHBOUR: 'it returns false'. Refute it at one input. -/
def actionParsesWrong : ChangeSpec := { name := "actionParses", fn := fun _ => fun
  | [d1, d2] => { results := [.lit (.bool false)], args := [d1, d2] }
  | _ => none }
def ActionParsesWrongFalsely : Prop := actionParsesRow.holds Tryd.pinned (OpenSpec.ofChange actionParsesWrong)

/-- 'spoollaw17.ActionBack': WHATEVER THE INPUT: true; the input reads as it did. -/
def actionBackSpec : ChangeSpec := { name := "actionBack", fn := fun _ => fun
  | [d1, d2, d3] => { results := [.lit (.bool true)], args := [d1, d2, d3] }
  | _ => none }
def actionBackRow : OpenClaim := { program := "ytleejfkononjgaadoor", sum := "b7f119864338d638cc35c9f04b98dae367c1a4981b5b6f44775402d170c6b3cc", func := "spool/spoollaw17.ActionBack", spec := "actionBack", inPlace := ["internal/abi.NoEscape", "internal/bytealg.MakeNoZero"], unfollowed := true, recurses := true, named := ["spool/action.steps"], apart := false, laid := [("spool/action.steps", laid_spool_action_steps)] }
def ActionBackSaid : Prop := actionBackRow.holds Tryd.pinned (OpenSpec.ofChange actionBackSpec)

/-- ITS FALSE NEIGHBOUR: 'it returns false'. Refute it at one input. -/
def actionBackWrong : ChangeSpec := { name := "actionBack", fn := fun _ => fun
  | [d1, d2, d3] => { results := [.lit (.bool false)], args := [d1, d2, d3] }
  | _ => none }
def ActionBackWrongFalsely : Prop := actionBackRow.holds Tryd.pinned (OpenSpec.ofChange actionBackWrong)

/- THE SECOND FORM. 'bulk': how many values and letters a reading holds, each counted each time it is reached (what is shared counts as often as it is met; a slice's spare places count too). A statement '..UptoSaid' is the law's where the arguments, and the package variables that the reading takes, are together of bulk at most 1048576: NARROWER than '..Said'. Prove '..Said' where nothing that the law and all that it calls make is longer than what came in: it says more and counts as full. Else prove '..UptoSaid'. A law counts once. -/
mutual
def uptoBulk {H : Type} : DataW H → Nat
  | .lit (.string bytes) => bytes.length + 1
  | .lit _ => 1
  | .nil => 1
  | .ptr d => uptoBulk d + 1
  | .slice elems spare => uptoBulkAll elems + uptoBulkAll spare + 1
  | .agg parts => uptoBulkAll parts + 1
  | .iface _ d => uptoBulk d + 1
  | .map entries => uptoBulkEntries entries + 1
  | .held _ => 1
def uptoBulkAll {H : Type} : List (DataW H) → Nat
  | [] => 0
  | d :: r => uptoBulk d + uptoBulkAll r
def uptoBulkEntries {H : Type} : List (Lit × DataW H) → Nat
  | [] => 0
  | x :: r => uptoBulkEntry x + uptoBulkEntries r
def uptoBulkEntry {H : Type} : Lit × DataW H → Nat
  | (.string bytes, d) => bytes.length + uptoBulk d + 1
  | (_, d) => uptoBulk d + 1
 end
def uptoSmall : (H : Type) → List (DataW H) → Bool := fun _ ds => decide (uptoBulkAll ds ≤ 1048576)
def OpenSpec.upto (s : _root_.Go.ChangeSpec) : _root_.Go.OpenSpec := { _root_.Go.OpenSpec.ofChange s with cond := some uptoSmall }

/-- 'spoollaw17.ActionParses', WHERE WHAT IT READS IS OF BULK AT MOST 1048576: true; the input reads as it did. -/
def actionParsesUptoRow : OpenClaim := { program := "ytleejfkononjgaadoor", sum := "b7f119864338d638cc35c9f04b98dae367c1a4981b5b6f44775402d170c6b3cc", func := "spool/spoollaw17.ActionParses", spec := "actionParses", inPlace := ["internal/abi.NoEscape", "internal/bytealg.MakeNoZero"], unfollowed := true, recurses := true, named := ["spool/action.steps"], apart := false, laid := [("spool/action.steps", laid_spool_action_steps)], narrowed := true }
def ActionParsesUptoSaid : Prop := actionParsesUptoRow.holds Tryd.pinned (OpenSpec.upto actionParsesSpec)

/-- 'spoollaw17.ActionBack', WHERE WHAT IT READS IS OF BULK AT MOST 1048576: true; the input reads as it did. -/
def actionBackUptoRow : OpenClaim := { program := "ytleejfkononjgaadoor", sum := "b7f119864338d638cc35c9f04b98dae367c1a4981b5b6f44775402d170c6b3cc", func := "spool/spoollaw17.ActionBack", spec := "actionBack", inPlace := ["internal/abi.NoEscape", "internal/bytealg.MakeNoZero"], unfollowed := true, recurses := true, named := ["spool/action.steps"], apart := false, laid := [("spool/action.steps", laid_spool_action_steps)], narrowed := true }
def ActionBackUptoSaid : Prop := actionBackUptoRow.holds Tryd.pinned (OpenSpec.upto actionBackSpec)

end Rows
end Go.Proofs.YtleejfkononjgaaDoor

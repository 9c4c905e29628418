/-
  NARROWER THAN 'FOR EVERY INPUT', by the rows' own cells (each row's printed sentence says how): NamedSets: laid · NamedNumbers: laid · NamedParts: laid.
  DERIVED. THE GIVEN ROWS OF THIS SEAT. 3 by the template 'for every input the law returns true; each argument reads behind the call as it read before'; 0 by the template 'total and deterministic' (their statements: YtenmjnopbbingaaDoorTotals.lean).
  GIVEN WITH THE SEED: the statements are not yours to turn. If you find one false, say at which input.
  Laid BY PROGRAM, IN A SANDBOX (cutbox-rows.mjs): the forced cells as the released guide's own fill.sh prints them over the translation efe37220a8e75536… (all of the seat's roots in one cut). By AI agents, Wed Nov 11 2026. No macro, syntax, notation, axiom, sorry.
-/
import Derived.Test.YtenmjnopbbingaaDoorChecked
import GoSem.Claim
import GoSem.ClaimJoined
import GoSem.ClaimMapViews
import Derived.JoinedTies
import Derived.KernelRfl
namespace Go.Proofs.YtenmjnopbbingaaDoor
/- THE CELL 'sum', in the pinned program and in every row, IS THE sha256 OF THE DUMP (.gsa) THAT YtenmjnopbbingaaDoorProg.lean LOADS. Nothing in Lean hashes anything: it is a label: what it is worth is what the hold of that sum in a sandbox is worth. -/
noncomputable def Tryd.pinned : Pinned := { name := "ytenmjnopbbingaadoor", sum := "efe37220a8e755365262aaa3813cc7dc580f26da7ac3e94f1a28a4147ed7263c", checked := Tryd.checked }
namespace Rows
def none {H : Type} : Left H := { results := [], args := [] }

/- WHAT THE LISTED PACKAGE-LEVEL VARIABLES READ AS WHEN THE CALL BEGINS. Each datum BY PROGRAM (the guide's laid-datum.mjs) off the statement by which the dump's own 'gosem.cut.vars' lays the variable. In a bare row this is a premise. The card (YtenmjnopbbingaaDoorCards.lean) ties it to the program's text. -/
def laid_spool_named_table {H : Type} : DataW H := .agg [.agg [.lit (.string [65, 110, 121]), .nil, .slice [.lit (.int .i64 0), .lit (.int .i64 1114111)] []], .agg [.lit (.string [65, 115, 99, 105, 105]), .nil, .slice [.lit (.int .i64 0), .lit (.int .i64 127)] []], .agg [.lit (.string [67, 111, 110, 116, 114, 111, 108]), .nil, .slice [.lit (.int .i64 0), .lit (.int .i64 31), .lit (.int .i64 127), .lit (.int .i64 159)] []], .agg [.lit (.string [68, 105, 103, 105, 116]), .nil, .slice [.lit (.int .i64 48), .lit (.int .i64 57)] []], .agg [.lit (.string [72, 101, 120]), .nil, .slice [.lit (.int .i64 48), .lit (.int .i64 57), .lit (.int .i64 65), .lit (.int .i64 70), .lit (.int .i64 97), .lit (.int .i64 102)] []], .agg [.lit (.string [85, 112, 112, 101, 114]), .nil, .slice [.lit (.int .i64 65), .lit (.int .i64 90), .lit (.int .i64 192), .lit (.int .i64 214), .lit (.int .i64 216), .lit (.int .i64 222), .lit (.int .i64 913), .lit (.int .i64 929), .lit (.int .i64 931), .lit (.int .i64 939), .lit (.int .i64 1024), .lit (.int .i64 1071)] []], .agg [.lit (.string [76, 111, 119, 101, 114]), .nil, .slice [.lit (.int .i64 97), .lit (.int .i64 122), .lit (.int .i64 223), .lit (.int .i64 246), .lit (.int .i64 248), .lit (.int .i64 255), .lit (.int .i64 945), .lit (.int .i64 971), .lit (.int .i64 1072), .lit (.int .i64 1119)] []], .agg [.lit (.string [65, 108, 112, 104, 97]), .slice [.lit (.string [85, 112, 112, 101, 114]), .lit (.string [76, 111, 119, 101, 114])] [], .nil], .agg [.lit (.string [65, 108, 110, 117, 109]), .slice [.lit (.string [65, 108, 112, 104, 97]), .lit (.string [68, 105, 103, 105, 116])] [], .nil], .agg [.lit (.string [87, 111, 114, 100]), .slice [.lit (.string [65, 108, 110, 117, 109])] [], .slice [.lit (.int .i64 95), .lit (.int .i64 95)] []], .agg [.lit (.string [83, 112, 97, 99, 101]), .nil, .slice [.lit (.int .i64 9), .lit (.int .i64 13), .lit (.int .i64 32), .lit (.int .i64 32), .lit (.int .i64 133), .lit (.int .i64 133), .lit (.int .i64 160), .lit (.int .i64 160), .lit (.int .i64 8192), .lit (.int .i64 8202), .lit (.int .i64 8232), .lit (.int .i64 8233), .lit (.int .i64 8239), .lit (.int .i64 8239), .lit (.int .i64 8287), .lit (.int .i64 8287), .lit (.int .i64 12288), .lit (.int .i64 12288)] []], .agg [.lit (.string [80, 117, 110, 99, 116]), .nil, .slice [.lit (.int .i64 33), .lit (.int .i64 47), .lit (.int .i64 58), .lit (.int .i64 64), .lit (.int .i64 91), .lit (.int .i64 96), .lit (.int .i64 123), .lit (.int .i64 126)] []], .agg [.lit (.string [76, 97, 116, 105, 110]), .nil, .slice [.lit (.int .i64 65), .lit (.int .i64 90), .lit (.int .i64 97), .lit (.int .i64 122), .lit (.int .i64 170), .lit (.int .i64 170), .lit (.int .i64 186), .lit (.int .i64 186), .lit (.int .i64 192), .lit (.int .i64 214), .lit (.int .i64 216), .lit (.int .i64 246), .lit (.int .i64 248), .lit (.int .i64 591)] []], .agg [.lit (.string [71, 114, 101, 101, 107]), .nil, .slice [.lit (.int .i64 880), .lit (.int .i64 1023)] []], .agg [.lit (.string [67, 121, 114, 105, 108, 108, 105, 99]), .nil, .slice [.lit (.int .i64 1024), .lit (.int .i64 1279)] []], .agg [.lit (.string [72, 97, 110]), .nil, .slice [.lit (.int .i64 13312), .lit (.int .i64 19903), .lit (.int .i64 19968), .lit (.int .i64 40959)] []]]
def laid_spool_named_letters {H : Type} : DataW H := .agg [.agg [.lit (.int .u8 100), .lit (.int .u8 68), .lit (.string [68, 105, 103, 105, 116])], .agg [.lit (.int .u8 119), .lit (.int .u8 87), .lit (.string [87, 111, 114, 100])], .agg [.lit (.int .u8 115), .lit (.int .u8 83), .lit (.string [83, 112, 97, 99, 101])], .agg [.lit (.int .u8 104), .lit (.int .u8 72), .lit (.string [72, 101, 120])]]

/-- 'spoollaw07.NamedSets': WHATEVER THE INPUT: true; the input reads as it did. -/
def namedSetsSpec : ChangeSpec := { name := "namedSets", fn := fun _ => fun
  | [d1, d2] => { results := [.lit (.bool true)], args := [d1, d2] }
  | _ => none }
def namedSetsRow : OpenClaim := { program := "ytenmjnopbbingaadoor", sum := "efe37220a8e755365262aaa3813cc7dc580f26da7ac3e94f1a28a4147ed7263c", func := "spool/spoollaw07.NamedSets", spec := "namedSets", unfollowed := true, recurses := true, named := ["spool/named.table", "spool/named.letters"], apart := false, laid := [("spool/named.table", laid_spool_named_table), ("spool/named.letters", laid_spool_named_letters)] }
def NamedSetsSaid : Prop := namedSetsRow.holds Tryd.pinned (OpenSpec.ofChange namedSetsSpec)

/-- ITS FALSE NEIGHBOUR: 'it returns false'. Refute it at one input. -/
def namedSetsWrong : ChangeSpec := { name := "namedSets", fn := fun _ => fun
  | [d1, d2] => { results := [.lit (.bool false)], args := [d1, d2] }
  | _ => none }
def NamedSetsWrongFalsely : Prop := namedSetsRow.holds Tryd.pinned (OpenSpec.ofChange namedSetsWrong)

/-- 'spoollaw07.NamedNumbers': WHATEVER THE INPUT: true; the input reads as it did. -/
def namedNumbersSpec : ChangeSpec := { name := "namedNumbers", fn := fun _ => fun
  | [d] => { results := [.lit (.bool true)], args := [d] }
  | _ => none }
def namedNumbersRow : OpenClaim := { program := "ytenmjnopbbingaadoor", sum := "efe37220a8e755365262aaa3813cc7dc580f26da7ac3e94f1a28a4147ed7263c", func := "spool/spoollaw07.NamedNumbers", spec := "namedNumbers", unfollowed := true, recurses := true, named := ["spool/named.table", "spool/named.letters"], apart := false, laid := [("spool/named.table", laid_spool_named_table), ("spool/named.letters", laid_spool_named_letters)] }
def NamedNumbersSaid : Prop := namedNumbersRow.holds Tryd.pinned (OpenSpec.ofChange namedNumbersSpec)

/-- ITS FALSE NEIGHBOUR: 'it returns false'. Refute it at one input. -/
def namedNumbersWrong : ChangeSpec := { name := "namedNumbers", fn := fun _ => fun
  | [d] => { results := [.lit (.bool false)], args := [d] }
  | _ => none }
def NamedNumbersWrongFalsely : Prop := namedNumbersRow.holds Tryd.pinned (OpenSpec.ofChange namedNumbersWrong)

/-- 'spoollaw07.NamedParts': WHATEVER THE INPUT: true; the input reads as it did. -/
def namedPartsSpec : ChangeSpec := { name := "namedParts", fn := fun _ => fun
  | [d] => { results := [.lit (.bool true)], args := [d] }
  | _ => none }
def namedPartsRow : OpenClaim := { program := "ytenmjnopbbingaadoor", sum := "efe37220a8e755365262aaa3813cc7dc580f26da7ac3e94f1a28a4147ed7263c", func := "spool/spoollaw07.NamedParts", spec := "namedParts", unfollowed := true, recurses := true, named := ["spool/named.table", "spool/named.letters"], apart := false, laid := [("spool/named.table", laid_spool_named_table), ("spool/named.letters", laid_spool_named_letters)] }
def NamedPartsSaid : Prop := namedPartsRow.holds Tryd.pinned (OpenSpec.ofChange namedPartsSpec)

/-- ITS FALSE NEIGHBOUR: 'it returns false'. Refute it at one input. -/
def namedPartsWrong : ChangeSpec := { name := "namedParts", fn := fun _ => fun
  | [d] => { results := [.lit (.bool false)], args := [d] }
  | _ => none }
def NamedPartsWrongFalsely : Prop := namedPartsRow.holds Tryd.pinned (OpenSpec.ofChange namedPartsWrong)

/- THE SECOND FORM. 'bulk': how many values and letters a reading holds, each counted each time it is reached (what is shared counts as often as it is met; a slice's spare places count too). A statement '..UptoSaid' is the law's where the arguments, and the package variables that the reading takes, are together of bulk at most 1048576: NARROWER than '..Said'. Prove '..Said' where nothing that the law and all that it calls make is longer than what came in: it says more and counts as full. Else prove '..UptoSaid'. A law counts once. -/
mutual
def uptoBulk {H : Type} : DataW H → Nat
  | .lit (.string bytes) => bytes.length + 1
  | .lit _ => 1
  | .nil => 1
  | .ptr d => uptoBulk d + 1
  | .slice elems spare => uptoBulkAll elems + uptoBulkAll spare + 1
  | .agg parts => uptoBulkAll parts + 1
  | .iface _ d => uptoBulk d + 1
  | .map entries => uptoBulkEntries entries + 1
  | .held _ => 1
def uptoBulkAll {H : Type} : List (DataW H) → Nat
  | [] => 0
  | d :: r => uptoBulk d + uptoBulkAll r
def uptoBulkEntries {H : Type} : List (Lit × DataW H) → Nat
  | [] => 0
  | x :: r => uptoBulkEntry x + uptoBulkEntries r
def uptoBulkEntry {H : Type} : Lit × DataW H → Nat
  | (.string bytes, d) => bytes.length + uptoBulk d + 1
  | (_, d) => uptoBulk d + 1
 end
def uptoSmall : (H : Type) → List (DataW H) → Bool := fun _ ds => decide (uptoBulkAll ds ≤ 1048576)
def OpenSpec.upto (s : _root_.Go.ChangeSpec) : _root_.Go.OpenSpec := { _root_.Go.OpenSpec.ofChange s with cond := some uptoSmall }

/-- 'spoollaw07.NamedSets', WHERE WHAT IT READS IS OF BULK AT MOST 1048576: true; the input reads as it did. -/
def namedSetsUptoRow : OpenClaim := { program := "ytenmjnopbbingaadoor", sum := "efe37220a8e755365262aaa3813cc7dc580f26da7ac3e94f1a28a4147ed7263c", func := "spool/spoollaw07.NamedSets", spec := "namedSets", unfollowed := true, recurses := true, named := ["spool/named.table", "spool/named.letters"], apart := false, laid := [("spool/named.table", laid_spool_named_table), ("spool/named.letters", laid_spool_named_letters)], narrowed := true }
def NamedSetsUptoSaid : Prop := namedSetsUptoRow.holds Tryd.pinned (OpenSpec.upto namedSetsSpec)

/-- 'spoollaw07.NamedNumbers', WHERE WHAT IT READS IS OF BULK AT MOST 1048576: true; the input reads as it did. -/
def namedNumbersUptoRow : OpenClaim := { program := "ytenmjnopbbingaadoor", sum := "efe37220a8e755365262aaa3813cc7dc580f26da7ac3e94f1a28a4147ed7263c", func := "spool/spoollaw07.NamedNumbers", spec := "namedNumbers", unfollowed := true, recurses := true, named := ["spool/named.table", "spool/named.letters"], apart := false, laid := [("spool/named.table", laid_spool_named_table), ("spool/named.letters", laid_spool_named_letters)], narrowed := true }
def NamedNumbersUptoSaid : Prop := namedNumbersUptoRow.holds Tryd.pinned (OpenSpec.upto namedNumbersSpec)

/-- 'spoollaw07.NamedParts', WHERE WHAT IT READS IS OF BULK AT MOST 1048576: true; the input reads as it did. -/
def namedPartsUptoRow : OpenClaim := { program := "ytenmjnopbbingaadoor", sum := "efe37220a8e755365262aaa3813cc7dc580f26da7ac3e94f1a28a4147ed7263c", func := "spool/spoollaw07.NamedParts", spec := "namedParts", unfollowed := true, recurses := true, named := ["spool/named.table", "spool/named.letters"], apart := false, laid := [("spool/named.table", laid_spool_named_table), ("spool/named.letters", laid_spool_named_letters)], narrowed := true }
def NamedPartsUptoSaid : Prop := namedPartsUptoRow.holds Tryd.pinned (OpenSpec.upto namedPartsSpec)

end Rows
end Go.Proofs.YtenmjnopbbingaaDoor

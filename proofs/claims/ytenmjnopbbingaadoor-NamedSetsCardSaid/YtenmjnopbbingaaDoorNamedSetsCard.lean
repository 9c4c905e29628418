/-
  The card of the law 'NamedSets': for every input that the row lets come in, the law's function answers true and leaves its arguments as they were.
  Conditions: those of the given row (the listed package-level variables hold what the program's text lays; the card ties them to it).
-/
import Derived.Test.YtenmjnopbbingaaDoorNmLaid
import Derived.Test.YtenmjnopbbingaaDoorCards
import Derived.Test.YtenmjnopbbingaaDoorTie
import Derived.Deep.DeepWitnessRowRef
import Derived.WalkKit
import Derived.ProofKit
import Derived.OpenShut
import Derived.Deep.DeepHandedRow
import Derived.Lib.LaidTab
import Derived.SevenTiedAt
namespace Go.Proofs.YtenmjnopbbingaaDoor.namedSets
open Go.ChangeShapes Go.WideShapes Go.ChangeAt Go.RowKit
open Go.ChangeMaps (open_string shut_string)

theorem own : ownKnob Tryd.prog.godebug = none := by kernel_rfl

theorem contract (H : Type) (enc : TypeId × Value → H) (W : World) (base : Nat) (args : Array Value) (ds gs : List (DataW H)) (before : List MemPlace)
    (hval : ∀ (j : Nat) t v, Tryd.f3.params[j]? = some t → args[j]? = some v → Value.okWide Tryd.prog W .any base t v)
    (hW : DataW.Whole enc Tryd.prog Tryd.f3.params.toList Rows.namedSetsSpec.vars false W args.toList ds gs before) (hL : laidMetH Tryd.prog Rows.namedSetsRow.laid W) :
    Calls Tryd.prog 3 args W fun e W' => ∃ v, e = .returned v ∧ Rows.namedSetsSpec.post enc Tryd.prog Tryd.f3 false true false false W args v W' := by
  have hW' := hW
  obtain ⟨p, q, hA0, hV, rfl, hfz, hnd⟩ := hW
  have hA : DataW.TrodAll enc Tryd.prog W 0 (fun _ => true) true Tryd.f3.params.toList args.toList ds p := hA0
  rw [Tryd.params3] at hA hval
  obtain ⟨v0, vs0, d0, ds0, p0, q0, hargs, rfl, rfl, h0, r0⟩ := trodAll_cons hA
  obtain ⟨v1, vs1, d1, ds1, p1, q1, rfl, rfl, rfl, h1, r1⟩ := trodAll_cons r0
  obtain ⟨rfl, rfl, rfl⟩ := trodAll_nil r1
  obtain rfl : args = #[v0, v1] := by cases args; simp_all
  obtain ⟨rfl, rfl⟩ := trodVars_none hV
  obtain ⟨x0, rfl, rfl, rfl, ws0⟩ := open_string Tryd.underlying9 (hval 0 9 v0 rfl rfl) h0
  obtain ⟨x1, rfl, rfl, rfl, wx1⟩ := open_int Tryd.underlying5 (hval 1 5 v1 rfl rfl) h1
  have b1 : 0 ≤ x1 ∧ x1 ≤ 255 := bounds_u8 wx1
  clear hA0
  simp only [List.append_nil] at hW'
  refine (Nm.walkSets x0 x1 W ws0 b1.1 b1.2 (Nm.st_of_laid hL)).mono fun e W' ⟨he, hg⟩ => ?_
  subst he
  refine ⟨_, rfl, _, _, _, [], [], [], hW', ?_, ?_, rfl, hg.frame _, fun h => by cases h⟩
  · exact trodAll_cons_mk (shut_bool Tryd.underlying4 _) trodAll_mk0
  · exact (trodAll_cons_mk (shut_string Tryd.underlying9 ws0) (trodAll_cons_mk (shut_int Tryd.underlying5 wx1) trodAll_mk0))

def putRow (h : Array Obj) (g : Nat) (cs : Array Value) : Array Obj := h.modify g fun
  | .cells _ t frozen => .cells cs t frozen
  | o => o
noncomputable def laidWorld (os : Os) : World :=
  { World.holding Tryd.prog os ⟨#[.cells #[.int .i64 0, .int .i64 1114111] 3, .cells #[.int .i64 0, .int .i64 127] 3, .cells #[.int .i64 0, .int .i64 31, .int .i64 127, .int .i64 159] 3, .cells #[.int .i64 48, .int .i64 57] 3, .cells #[.int .i64 48, .int .i64 57, .int .i64 65, .int .i64 70, .int .i64 97, .int .i64 102] 3, .cells #[.int .i64 65, .int .i64 90, .int .i64 192, .int .i64 214, .int .i64 216, .int .i64 222, .int .i64 913, .int .i64 929, .int .i64 931, .int .i64 939, .int .i64 1024, .int .i64 1071] 3, .cells #[.int .i64 97, .int .i64 122, .int .i64 223, .int .i64 246, .int .i64 248, .int .i64 255, .int .i64 945, .int .i64 971, .int .i64 1072, .int .i64 1119] 3, .cells #[.string ⟨#[85, 112, 112, 101, 114]⟩, .string ⟨#[76, 111, 119, 101, 114]⟩] 9, .cells #[.string ⟨#[65, 108, 112, 104, 97]⟩, .string ⟨#[68, 105, 103, 105, 116]⟩] 9, .cells #[.string ⟨#[65, 108, 110, 117, 109]⟩] 9, .cells #[.int .i64 95, .int .i64 95] 3, .cells #[.int .i64 9, .int .i64 13, .int .i64 32, .int .i64 32, .int .i64 133, .int .i64 133, .int .i64 160, .int .i64 160, .int .i64 8192, .int .i64 8202, .int .i64 8232, .int .i64 8233, .int .i64 8239, .int .i64 8239, .int .i64 8287, .int .i64 8287, .int .i64 12288, .int .i64 12288] 3, .cells #[.int .i64 33, .int .i64 47, .int .i64 58, .int .i64 64, .int .i64 91, .int .i64 96, .int .i64 123, .int .i64 126] 3, .cells #[.int .i64 65, .int .i64 90, .int .i64 97, .int .i64 122, .int .i64 170, .int .i64 170, .int .i64 186, .int .i64 186, .int .i64 192, .int .i64 214, .int .i64 216, .int .i64 246, .int .i64 248, .int .i64 591] 3, .cells #[.int .i64 880, .int .i64 1023] 3, .cells #[.int .i64 1024, .int .i64 1279] 3, .cells #[.int .i64 13312, .int .i64 19903, .int .i64 19968, .int .i64 40959] 3], #[], []⟩ with heap := putRow (putRow ((World.holding Tryd.prog os ⟨#[.cells #[.int .i64 0, .int .i64 1114111] 3, .cells #[.int .i64 0, .int .i64 127] 3, .cells #[.int .i64 0, .int .i64 31, .int .i64 127, .int .i64 159] 3, .cells #[.int .i64 48, .int .i64 57] 3, .cells #[.int .i64 48, .int .i64 57, .int .i64 65, .int .i64 70, .int .i64 97, .int .i64 102] 3, .cells #[.int .i64 65, .int .i64 90, .int .i64 192, .int .i64 214, .int .i64 216, .int .i64 222, .int .i64 913, .int .i64 929, .int .i64 931, .int .i64 939, .int .i64 1024, .int .i64 1071] 3, .cells #[.int .i64 97, .int .i64 122, .int .i64 223, .int .i64 246, .int .i64 248, .int .i64 255, .int .i64 945, .int .i64 971, .int .i64 1072, .int .i64 1119] 3, .cells #[.string ⟨#[85, 112, 112, 101, 114]⟩, .string ⟨#[76, 111, 119, 101, 114]⟩] 9, .cells #[.string ⟨#[65, 108, 112, 104, 97]⟩, .string ⟨#[68, 105, 103, 105, 116]⟩] 9, .cells #[.string ⟨#[65, 108, 110, 117, 109]⟩] 9, .cells #[.int .i64 95, .int .i64 95] 3, .cells #[.int .i64 9, .int .i64 13, .int .i64 32, .int .i64 32, .int .i64 133, .int .i64 133, .int .i64 160, .int .i64 160, .int .i64 8192, .int .i64 8202, .int .i64 8232, .int .i64 8233, .int .i64 8239, .int .i64 8239, .int .i64 8287, .int .i64 8287, .int .i64 12288, .int .i64 12288] 3, .cells #[.int .i64 33, .int .i64 47, .int .i64 58, .int .i64 64, .int .i64 91, .int .i64 96, .int .i64 123, .int .i64 126] 3, .cells #[.int .i64 65, .int .i64 90, .int .i64 97, .int .i64 122, .int .i64 170, .int .i64 170, .int .i64 186, .int .i64 186, .int .i64 192, .int .i64 214, .int .i64 216, .int .i64 246, .int .i64 248, .int .i64 591] 3, .cells #[.int .i64 880, .int .i64 1023] 3, .cells #[.int .i64 1024, .int .i64 1279] 3, .cells #[.int .i64 13312, .int .i64 19903, .int .i64 19968, .int .i64 40959] 3], #[], []⟩).heap) 1 #[.string ⟨#[65, 110, 121]⟩, .slice none 0 0, .slice (some ⟨(World.settled Tryd.prog os).heap.size + 0, 0, none⟩) 2 2, .string ⟨#[65, 115, 99, 105, 105]⟩, .slice none 0 0, .slice (some ⟨(World.settled Tryd.prog os).heap.size + 1, 0, none⟩) 2 2, .string ⟨#[67, 111, 110, 116, 114, 111, 108]⟩, .slice none 0 0, .slice (some ⟨(World.settled Tryd.prog os).heap.size + 2, 0, none⟩) 4 4, .string ⟨#[68, 105, 103, 105, 116]⟩, .slice none 0 0, .slice (some ⟨(World.settled Tryd.prog os).heap.size + 3, 0, none⟩) 2 2, .string ⟨#[72, 101, 120]⟩, .slice none 0 0, .slice (some ⟨(World.settled Tryd.prog os).heap.size + 4, 0, none⟩) 6 6, .string ⟨#[85, 112, 112, 101, 114]⟩, .slice none 0 0, .slice (some ⟨(World.settled Tryd.prog os).heap.size + 5, 0, none⟩) 12 12, .string ⟨#[76, 111, 119, 101, 114]⟩, .slice none 0 0, .slice (some ⟨(World.settled Tryd.prog os).heap.size + 6, 0, none⟩) 10 10, .string ⟨#[65, 108, 112, 104, 97]⟩, .slice (some ⟨(World.settled Tryd.prog os).heap.size + 7, 0, none⟩) 2 2, .slice none 0 0, .string ⟨#[65, 108, 110, 117, 109]⟩, .slice (some ⟨(World.settled Tryd.prog os).heap.size + 8, 0, none⟩) 2 2, .slice none 0 0, .string ⟨#[87, 111, 114, 100]⟩, .slice (some ⟨(World.settled Tryd.prog os).heap.size + 9, 0, none⟩) 1 1, .slice (some ⟨(World.settled Tryd.prog os).heap.size + 10, 0, none⟩) 2 2, .string ⟨#[83, 112, 97, 99, 101]⟩, .slice none 0 0, .slice (some ⟨(World.settled Tryd.prog os).heap.size + 11, 0, none⟩) 18 18, .string ⟨#[80, 117, 110, 99, 116]⟩, .slice none 0 0, .slice (some ⟨(World.settled Tryd.prog os).heap.size + 12, 0, none⟩) 8 8, .string ⟨#[76, 97, 116, 105, 110]⟩, .slice none 0 0, .slice (some ⟨(World.settled Tryd.prog os).heap.size + 13, 0, none⟩) 14 14, .string ⟨#[71, 114, 101, 101, 107]⟩, .slice none 0 0, .slice (some ⟨(World.settled Tryd.prog os).heap.size + 14, 0, none⟩) 2 2, .string ⟨#[67, 121, 114, 105, 108, 108, 105, 99]⟩, .slice none 0 0, .slice (some ⟨(World.settled Tryd.prog os).heap.size + 15, 0, none⟩) 2 2, .string ⟨#[72, 97, 110]⟩, .slice none 0 0, .slice (some ⟨(World.settled Tryd.prog os).heap.size + 16, 0, none⟩) 4 4]) 0 #[.int .u8 100, .int .u8 68, .string ⟨#[68, 105, 103, 105, 116]⟩, .int .u8 119, .int .u8 87, .string ⟨#[87, 111, 114, 100]⟩, .int .u8 115, .int .u8 83, .string ⟨#[83, 112, 97, 99, 101]⟩, .int .u8 104, .int .u8 72, .string ⟨#[72, 101, 120]⟩] }
theorem laid_met (os : Os) : laidMet Tryd.prog Rows.namedSetsRow.laid ((laidWorld os).forCall (fun _ _ => 0) ⟨#[], #[Value.string ⟨#[]⟩, Value.int .u8 0], []⟩).memory :=
  laidMet_of_run' 8 (by kernel_rfl) (by kernel_rfl)
theorem reads (os : Os) {H : Type} (enc : TypeId × Value → H) : ∃ places, DataW.whole enc Tryd.prog ((laidWorld os).forCall (fun _ _ => 0) ⟨#[], #[Value.string ⟨#[]⟩, Value.int .u8 0], []⟩).memory Tryd.f3.params.toList Rows.namedSetsSpec.vars false (#[Value.string ⟨#[]⟩, Value.int .u8 0] : Array Value).toList 8 = some ([.lit (.string []), .lit (.int .u8 0)], [], places) :=
  ⟨[], by kernel_rfl⟩

set_option maxRecDepth 100000 in
theorem lifted (os : Os) (started : os.Started) (H : Type) (enc : TypeId × Value → H) (F : Stop.Interp) :
    ReturnsInHanded {} Tryd.checked os 3 .any ((OpenSpec.ofChange Rows.namedSetsSpec).preRow enc Tryd.prog Tryd.f3 Rows.namedSetsRow.domain false Rows.namedSetsRow.laid) (((OpenSpec.ofChange Rows.namedSetsSpec).at F).post enc Tryd.prog Tryd.f3 false true false false) := by
  obtain ⟨places, hx⟩ := reads os enc
  refine returnsInHanded_of_row (C := Tryd.checked) (s := OpenSpec.ofChange Rows.namedSetsSpec) own started (by kernel_rfl) Tryd.func3
    (witness_row_atRef (enc := enc) (C := Tryd.checked) false (laidWorld os) #[Value.string ⟨#[]⟩, Value.int .u8 0] rfl (by kernel_rfl) (by kernel_rfl) (by kernel_rfl)
      (OpenSpec.preRow_of_cond 8 hx (by kernel_rfl) (fun k hk => by cases hk) (by kernel_rfl) (laid_met os))) ?_
  intro W base args ds gs before hval hW _ _ _ hL _ _
  exact contract H enc W base args ds gs before hval hW hL

theorem said : Rows.NamedSetsSaid :=
  OpenClaim.holds_of_cond 3 Tryd.f3 rfl rfl rfl rfl rfl rfl rfl ⟨rfl, rfl, rfl, rfl, rfl⟩ rfl rfl rfl rfl rfl (by kernel_rfl) Tryd.func3 (by kernel_rfl)
    (of_decide_eq_true (by kernel_rfl)) (by unfold Func.isWrapper; first | (rw [if_pos (by decide +kernel)]; kernel_rfl) | (rw [if_neg (by decide +kernel)]; exact ⟨rfl, rfl⟩))
    (fun os started H enc _ F => by rw [OpenClaim.pre_eq_preRow]; exact lifted os started H enc F)

theorem plain (f : FuncId) (fn : Func) (hf : Tryd.pinned.checked.prog.funcNamed "spool/spoollaw07.NamedSets" = some f) (hfn : Tryd.pinned.checked.prog.funcs[f]? = some fn) :
    true = Tryd.pinned.checked.prog.looks [] ∧ ∀ (j : Nat) t, fn.params[j]? = some t → Tryd.pinned.checked.prog.wantsStandIn t = false := by
  obtain rfl : f = 3 := Option.some.inj ((show Tryd.prog.funcNamed "spool/spoollaw07.NamedSets" = some 3 by kernel_rfl).symm.trans hf) |>.symm
  obtain rfl : fn = Tryd.f3 := (Option.some.inj (Tryd.func3.symm.trans hfn)).symm
  refine ⟨by kernel_rfl, fun j t ht => ?_⟩
  rw [Tryd.params3] at ht
  have hm : t = 9 ∨ t = 5 := by simpa using Array.mem_of_getElem? ht
  rcases hm with rfl | rfl
  · exact (show Tryd.prog.wantsStandIn 9 = false by kernel_rfl)
  · exact (show Tryd.prog.wantsStandIn 5 = false by kernel_rfl)

theorem card : Rows.NamedSetsCardSaid :=
  Claim7.holds_tied_plain_at .later [] _ _ _ _ said (fun _ h => by cases h) (by kernel_rfl) (fun _ h => by cases h) namedSets_row_tie rfl ⟨rfl, rfl⟩ (by kernel_rfl) rfl plain (by kernel_rfl)
end Go.Proofs.YtenmjnopbbingaaDoor.namedSets

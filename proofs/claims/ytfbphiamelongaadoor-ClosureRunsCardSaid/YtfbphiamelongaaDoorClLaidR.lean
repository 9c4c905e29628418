/- The second law's walk, as its card asks it. -/
import Derived.Test.YtfbphiamelongaaDoorClRunL
import Derived.Test.YtfbphiamelongaaDoorClTrod
import Derived.Test.YtfbphiamelongaaDoorBtTabL
import Derived.Test.YtfbphiamelongaaDoorCardKit
namespace Go.Proofs.YtfbphiamelongaaDoor.Cr
open Go Go.RowKit Go.ChangeShapes Go.WideShapes Go.Deep
open Go.Proofs.YtfbphiamelongaaDoor.Bt (Tab)
open Go.Proofs.YtfbphiamelongaaDoor.Cl (NfaAt TagsHi TagsOk rightB right_iff runs_far runs_no runs_yes)

theorem st_of_laid {W : World} (h : laidMet Tryd.prog [("math/bits.deBruijn64tab", Rows.laid_math_bits_deBruijn64tab)] W) : Tab W := Bt.st_of_laid h
theorem nfa_of_trod {H : Type} {enc : TypeId × Value → H} {W : World} {v : Value} {d : DataW H} {ps : List MemPlace} {base b2 : Nat} {sp : Nat → Bool} {held : Bool} (ho : Value.okWide Tryd.prog W .any b2 24 v) (h : DataW.Trod enc Tryd.prog W base sp held 24 v d ps) : ∃ a l, NfaAt W v a l ∧ TagsHi l := Cl.nfa_of_trod ho h
theorem walkRuns (a : Int) (l : List Cl.St) (v : Value) (s m : ByteArray) (W : World) (h : NfaAt W v a l) (ht : TagsHi l) (hs : s.size ≤ maxLen) (hm : m.size ≤ maxLen) (hT : Tab W) :
    Calls Tryd.prog 4 #[v, .string s, .string m] W fun e w' => e = .returned (.bool true) ∧ Below W.heap.size W w' := by
  obtain ⟨sv, rfl, h⟩ := h
  by_cases hx : 20 < s.size ∨ 10 < m.size
  · exact runs_far a l sv s m hs hm W hT h hx
  · cases hr : rightB a l with
    | false => exact runs_no a l sv s m W hT h hx hr
    | true => exact runs_yes a l sv s m W hT h hx hr (fun i hi => ⟨((right_iff.1 hr).2 i hi).tag, ht i hi⟩)

end Go.Proofs.YtfbphiamelongaaDoor.Cr

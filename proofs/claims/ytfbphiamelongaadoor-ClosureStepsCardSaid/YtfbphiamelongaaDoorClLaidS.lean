/- The first law's walk, as its card asks it. -/
import Derived.Test.YtfbphiamelongaaDoorClLaw2
import Derived.Test.YtfbphiamelongaaDoorClTrod
import Derived.Test.YtfbphiamelongaaDoorBtTabL
import Derived.Test.YtfbphiamelongaaDoorCardKit
import Derived.Test.YtfbphiamelongaaDoorIntsCard
namespace Go.Proofs.YtfbphiamelongaaDoor.Cl
open Go Go.RowKit
open Go.Proofs.YtfbphiamelongaaDoor.Bt (Tab)

theorem st_of_laid {W : World} (h : laidMet Tryd.prog [("math/bits.deBruijn64tab", Rows.laid_math_bits_deBruijn64tab)] W) : Tab W := Bt.st_of_laid h
theorem tags_ok {a : Int} {l : List St} (hr : rightB a l = true) (ht : TagsHi l) : TagsOk l := fun i hi => ⟨((right_iff.1 hr).2 i hi).tag, ht i hi⟩
theorem walkSteps (a : Int) (l : List St) (v lv : Value) (xs : List Int) (c : Int) (W : World) (h : NfaAt W v a l) (ht : TagsHi l) (hl : IntsAt W lv xs) (hc0 : 0 ≤ c) (hc1 : c ≤ 255) (hT : Tab W) :
    Calls Tryd.prog 3 #[v, lv, .int .u8 c] W fun e w' => e = .returned (.bool true) ∧ Below W.heap.size W w' := by
  obtain ⟨sv, rfl, hs⟩ := h
  by_cases hx : 30 < xs.length
  · exact steps_far a l sv lv xs c W hT hs hl hx
  · cases hr : rightB a l with
    | false => exact steps_no a l sv lv xs c W hT hs hl hx hr
    | true => exact steps_yes a l sv lv xs c hc0 hc1 W hT hs hl hx hr (tags_ok hr ht)

end Go.Proofs.YtfbphiamelongaaDoor.Cl

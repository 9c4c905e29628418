/- The third law's walk, as its card asks it. -/
import Derived.Test.YtfbphiamelongaaDoorClBig2
import Derived.Test.YtfbphiamelongaaDoorBtTabL
import Derived.Test.YtfbphiamelongaaDoorCardKit
import Derived.Test.YtfbphiamelongaaDoorIntsCard
namespace Go.Proofs.YtfbphiamelongaaDoor.Cb
open Go Go.RowKit
open Go.Proofs.YtfbphiamelongaaDoor.Bt (Tab)

theorem st_of_laid {W : World} (h : laidMet Tryd.prog [("math/bits.deBruijn64tab", Rows.laid_math_bits_deBruijn64tab)] W) : Tab W := Bt.st_of_laid h
theorem walkBig (lv : Value) (xs : List Int) (W : World) (hl : IntsAt W lv xs) (hT : Tab W) :
    Calls Tryd.prog 5 #[lv] W fun e w' => e = .returned (.bool true) ∧ Below W.heap.size W w' := by
  by_cases hx : 30 < xs.length
  · exact Cl.big_far lv xs W hT hl hx
  · exact Cl.big_yes lv xs W hT hl hx

end Go.Proofs.YtfbphiamelongaaDoor.Cb

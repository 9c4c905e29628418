/- The third law's walk, as its card asks it. -/
import Derived.Test.YtemmaoapicaloaaDoorSbOwnL
import Derived.Test.YtemmaoapicaloaaDoorBtTabL
import Derived.Test.YtemmaoapicaloaaDoorCardKit
import Derived.Test.YtemmaoapicaloaaDoorIntsCard
namespace Go.Proofs.YtemmaoapicaloaaDoor.So
open Go Go.RowKit
open Go.Proofs.YtemmaoapicaloaaDoor.Bt (Tab)

theorem st_of_laid {W : World} (h : laidMet Tryd.prog [("math/bits.deBruijn64tab", Rows.laid_math_bits_deBruijn64tab)] W) : Tab W := Bt.st_of_laid h
theorem walkOwn (lv : Value) (l : List Int) (n : Int) (W : World) (hl : IntsAt W lv l) (_ : -9223372036854775808 ≤ n) (_ : n ≤ 9223372036854775807) (hT : Tab W) :
    Calls Tryd.prog 4 #[lv, .int .i64 n] W fun e w' => e = .returned (.bool true) ∧ Below W.heap.size W w' := Sb.own_any n lv l W hT hl

end Go.Proofs.YtemmaoapicaloaaDoor.So

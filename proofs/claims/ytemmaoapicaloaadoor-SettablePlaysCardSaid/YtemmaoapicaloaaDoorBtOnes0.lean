/- Endings that are the same. -/
import Derived.Test.YtemmaoapicaloaaDoorBtMem
import Derived.Laws.Bits64b
import Derived.Laws.Bits128
import Derived.Laws.BitsAll
import Derived.Laws.ShiftsVar
import Derived.Laws.Shifts
namespace Go.Proofs.YtemmaoapicaloaaDoor.Bt
open Go Go.RowKit

theorem retB {a b : Bool} (h : a = b) : Ending.returned (.bool a) = .returned (.bool b) := by rw [h]
theorem retU {a b : Int} (h : a = b) : Ending.returned (.int .u64 a) = .returned (.int .u64 b) := by rw [h]
theorem retI {a b : Int} (h : a = b) : Ending.returned (.int .i64 a) = .returned (.int .i64 b) := by rw [h]

end Go.Proofs.YtemmaoapicaloaaDoor.Bt

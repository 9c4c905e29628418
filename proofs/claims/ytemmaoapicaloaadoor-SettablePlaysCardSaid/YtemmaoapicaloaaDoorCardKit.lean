/- What every card with an argument in memory wants. -/
import Derived.Test.YtemmaoapicaloaaDoorChecked
import Derived.Carry
namespace Go.Proofs.YtemmaoapicaloaaDoor
open Go.RowKit
theorem laidOut : laidOutB Tryd.prog = true := by kernel_rfl
end Go.Proofs.YtemmaoapicaloaaDoor

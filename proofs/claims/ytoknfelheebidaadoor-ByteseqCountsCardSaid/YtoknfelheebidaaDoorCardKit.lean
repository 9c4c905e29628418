/- What every card with an argument in memory wants. -/
import Derived.Test.YtoknfelheebidaaDoorChecked
import Derived.Carry
namespace Go.Proofs.YtoknfelheebidaaDoor
open Go.RowKit
theorem laidOut : laidOutB Tryd.prog = true := by kernel_rfl
end Go.Proofs.YtoknfelheebidaaDoor

/- What every card with an argument in memory wants. -/
import Derived.Test.YtgjiofkjogjhhaaGreatDoorChecked
import Derived.Carry
namespace Go.Proofs.YtgjiofkjogjhhaaGreatDoor
open Go.RowKit
theorem laidOut : laidOutB Tryz.prog = true := by kernel_rfl
end Go.Proofs.YtgjiofkjogjhhaaGreatDoor

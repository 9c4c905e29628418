/- What every card with an argument in memory wants. -/
import Derived.Test.YtenmjnopbbingaaDoorChecked
import Derived.Carry
namespace Go.Proofs.YtenmjnopbbingaaDoor
open Go.RowKit
theorem laidOut : laidOutB Tryd.prog = true := by kernel_rfl
end Go.Proofs.YtenmjnopbbingaaDoor

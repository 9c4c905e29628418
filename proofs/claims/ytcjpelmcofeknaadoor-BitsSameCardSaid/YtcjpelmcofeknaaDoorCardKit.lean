/- What every card with an argument in memory wants. -/
import Derived.Test.YtcjpelmcofeknaaDoorChecked
import Derived.Carry
namespace Go.Proofs.YtcjpelmcofeknaaDoor
open Go.RowKit
theorem laidOut : laidOutB Tryd.prog = true := by kernel_rfl
end Go.Proofs.YtcjpelmcofeknaaDoor

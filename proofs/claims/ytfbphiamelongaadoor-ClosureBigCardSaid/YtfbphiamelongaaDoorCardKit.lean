/- What every card with an argument in memory wants. -/
import Derived.Test.YtfbphiamelongaaDoorChecked
import Derived.Carry
namespace Go.Proofs.YtfbphiamelongaaDoor
open Go.RowKit
theorem laidOut : laidOutB Tryd.prog = true := by kernel_rfl
end Go.Proofs.YtfbphiamelongaaDoor

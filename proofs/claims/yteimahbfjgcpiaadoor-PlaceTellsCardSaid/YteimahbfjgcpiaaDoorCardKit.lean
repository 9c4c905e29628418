/- What every card with an argument in memory wants. -/
import Derived.Test.YteimahbfjgcpiaaDoorChecked
import Derived.Carry
namespace Go.Proofs.YteimahbfjgcpiaaDoor
open Go.RowKit
theorem laidOut : laidOutB Tryd.prog = true := by kernel_rfl
end Go.Proofs.YteimahbfjgcpiaaDoor

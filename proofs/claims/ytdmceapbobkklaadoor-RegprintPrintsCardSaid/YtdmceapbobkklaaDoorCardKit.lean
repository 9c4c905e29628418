/- What every card with an argument in memory wants. -/
import Derived.Test.YtdmceapbobkklaaDoorChecked
import Derived.Carry
namespace Go.Proofs.YtdmceapbobkklaaDoor
open Go.RowKit
theorem laidOut : laidOutB Tryd.prog = true := by kernel_rfl
end Go.Proofs.YtdmceapbobkklaaDoor

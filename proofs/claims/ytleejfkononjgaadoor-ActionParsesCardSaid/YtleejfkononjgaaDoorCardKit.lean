/- What every card with an argument in memory wants. -/
import Derived.Test.YtleejfkononjgaaDoorChecked
import Derived.Carry
namespace Go.Proofs.YtleejfkononjgaaDoor
open Go.RowKit
theorem laidOut : laidOutB Tryd.prog = true := by kernel_rfl
end Go.Proofs.YtleejfkononjgaaDoor

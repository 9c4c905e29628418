/- What every card with an argument in memory wants. -/
import Derived.Test.YtchfpokhngbpmaaChecked
import Derived.Carry
namespace Go.Proofs.Ytchfpokhngbpmaa
open Go.RowKit
theorem laidOut : laidOutB Try.prog = true := by kernel_rfl
end Go.Proofs.Ytchfpokhngbpmaa

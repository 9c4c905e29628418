/- What every card with an argument in memory wants. -/
import Derived.Test.YtnocjnmlmjappaaChecked
import Derived.Carry
namespace Go.Proofs.Ytnocjnmlmjappaa
open Go.RowKit
theorem laidOut : laidOutB Try.prog = true := by kernel_rfl
end Go.Proofs.Ytnocjnmlmjappaa

/- What every card with an argument in memory wants. -/
import Derived.Test.YtdgpanofehfjdaaChecked
import Derived.Carry
namespace Go.Proofs.Ytdgpanofehfjdaa
open Go.RowKit
theorem laidOut : laidOutB Try.prog = true := by kernel_rfl
end Go.Proofs.Ytdgpanofehfjdaa

/- What every card with an argument in memory wants. -/
import Derived.Test.YtpfbipkimpiakaaChecked
import Derived.Carry
namespace Go.Proofs.Ytpfbipkimpiakaa
open Go.RowKit
theorem laidOut : laidOutB Try.prog = true := by kernel_rfl
end Go.Proofs.Ytpfbipkimpiakaa

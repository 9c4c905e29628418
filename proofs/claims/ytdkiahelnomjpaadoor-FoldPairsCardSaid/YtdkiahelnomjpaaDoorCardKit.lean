/- What every card with an argument in memory wants. -/
import Derived.Test.YtdkiahelnomjpaaDoorChecked
import Derived.Carry
namespace Go.Proofs.YtdkiahelnomjpaaDoor
open Go.RowKit
theorem laidOut : laidOutB Tryd.prog = true := by kernel_rfl
end Go.Proofs.YtdkiahelnomjpaaDoor

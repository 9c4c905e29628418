/- The table of the digits of 16, in memory. -/
import Derived.Test.YtdmceapbobkklaaDoorDgPlain
import Derived.Test.YtdmceapbobkklaaDoorChecked
import Derived.Lib.Hide
import Derived.Lib.LaidTab
namespace Go.Proofs.YtdmceapbobkklaaDoor.Dg
open Go.RowKit

/-- the table of the program, as its cells -/
def Tab (w : World) : Prop := ∀ k, k < 22 → w.cell? ⟨0, k, none⟩ = some (.int .u8 ((tab.getD k 0).toNat : Int))

end Go.Proofs.YtdmceapbobkklaaDoor.Dg

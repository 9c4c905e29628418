/- The third law's walk, as its card asks it. -/
import Derived.Test.YtcjpelmcofeknaaDoorBtNobody
import Derived.Test.YtcjpelmcofeknaaDoorBtTabL
import Derived.Test.YtcjpelmcofeknaaDoorCardKit
namespace Go.Proofs.YtcjpelmcofeknaaDoor.Bt
open Go Go.RowKit

theorem walkNobody (n : Int) (W : World) (_ : -9223372036854775808 ≤ n) (_ : n ≤ 9223372036854775807) (h : Tab W) : Calls Tryd.prog 5 #[.int .i64 n] W fun e W' => e = .returned (.bool true) ∧ Below W.heap.size W W' := law_nobody n W h

end Go.Proofs.YtcjpelmcofeknaaDoor.Bt

/- The second law, as its card asks it. -/
import Derived.Test.YtemmaoapicaloaaSbLoads
namespace Go.Proofs.Ytemmaoapicaloaa.Sl
open Go Go.RowKit

theorem walkLoads (x : Int) (w : World) (h0 : 0 ≤ x) (h1 : x ≤ 65535) : Calls Try.prog 3 #[.int .u16 x] w fun e w' => e = .returned (.bool true) ∧ Below w.heap.size w w' := by
  obtain ⟨n, rfl⟩ : ∃ n : Nat, x = n := ⟨x.toNat, by omega⟩
  exact Sb.loads_any n (by omega) w

end Go.Proofs.Ytemmaoapicaloaa.Sl

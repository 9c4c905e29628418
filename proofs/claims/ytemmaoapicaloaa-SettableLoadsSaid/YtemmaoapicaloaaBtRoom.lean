/- Room. -/
import Derived.Test.YtemmaoapicaloaaBtSmall
namespace Go.Proofs.Ytemmaoapicaloaa.Bt
open Go Go.RowKit

theorem room_any (room : Nat) (v : Value) (w : World) : Calls Try.prog 19 #[setV room v] w fun e w' => e = .returned (.int .i64 (room : Nat)) ∧ Below w.heap.size w w' := by
  have hB := (Below.refl w.heap.size w).alloc (Nat.le_refl _) (.cells #[.int .i64 (room : Nat), v] 29)
  unfold setV
  go_enter Try.func19, Try.ntmps19
  go_wp2
  go_ret
  exact ⟨rfl, hB⟩

end Go.Proofs.Ytemmaoapicaloaa.Bt

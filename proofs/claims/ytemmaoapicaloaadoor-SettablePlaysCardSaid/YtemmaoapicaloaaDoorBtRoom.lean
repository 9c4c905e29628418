/- Room. -/
import Derived.Test.YtemmaoapicaloaaDoorBtSmall
namespace Go.Proofs.YtemmaoapicaloaaDoor.Bt
open Go Go.RowKit

theorem room_any (room : Nat) (v : Value) (w : World) : Calls Tryd.prog 36 #[setV room v] w fun e w' => e = .returned (.int .i64 (room : Nat)) ∧ Below w.heap.size w w' := by
  have hB := (Below.refl w.heap.size w).alloc (Nat.le_refl _) (.cells #[.int .i64 (room : Nat), v] 34)
  unfold setV
  go_enter Tryd.func36, Tryd.ntmps36
  go_wp2
  go_ret
  exact ⟨rfl, hB⟩

end Go.Proofs.YtemmaoapicaloaaDoor.Bt

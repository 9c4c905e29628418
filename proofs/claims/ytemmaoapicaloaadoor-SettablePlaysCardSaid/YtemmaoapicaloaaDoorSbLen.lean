/- Len, Load. -/
import Derived.Test.YtemmaoapicaloaaDoorSbTop
namespace Go.Proofs.YtemmaoapicaloaaDoor.Sb
open Go Go.RowKit Go.Proofs.YtemmaoapicaloaaDoor.At
open Go.Proofs.YtemmaoapicaloaaDoor.Bt (SetAt setV memL nums roomF)

theorem len_any {B tb : Nat} {T : Tb} (w : World) (ht : TbIn w B tb T) : Calls Tryd.prog 17 #[ptr tb] w fun e w' => e = .returned (.int .i64 (T.E.length : Nat)) ∧ w' = w := by
  have MD := Lib.hid (made_any w ht)
  obtain ⟨so, sc, hsv, hsm, hsc⟩ := own_shape ht.sets
  have c2 := ht.cells.2.2.1
  rw [hsv] at c2
  have hl := ht.lt
  unfold maxLen at hsm
  clear ht hsv hsc
  unfold ptr at *
  go_enter Tryd.func17, Tryd.ntmps17
  go_wp2_with (go_at_call 23; (with_reducible refine MD.out.mono ?_); rintro e w1 ⟨rfl, hw1⟩; subst hw1)
  go_ret
  exact ⟨rfl, rfl⟩

theorem load_any {B tb : Nat} {T : Tb} (w : World) (ht : TbIn w B tb T) : Calls Tryd.prog 20 #[ptr tb] w fun e w' => e = .returned (.tuple #[.int .i64 (T.P.length : Nat), .int .i64 (T.E.length : Nat)]) ∧ Below w.heap.size w w' := by
  have MD := Lib.hid (made_any w ht)
  obtain ⟨so, sc, hsv, hsm, hsc⟩ := own_shape ht.sets
  obtain ⟨po, pc, hpv, hpm, hpc⟩ := own_shape ht.plcs
  obtain ⟨c0, c1, c2, c3, c4⟩ := ht.cells
  rw [hsv] at c2
  rw [hpv] at c3
  have hl := ht.lt
  unfold maxLen at hsm hpm
  clear ht hsv hsc hpv hpc c0 c1 c4
  have hB := (Below.refl w.heap.size w).drew
  unfold ptr at *
  go_enter Tryd.func20, Tryd.ntmps20
  go_wp2_with (go_at_call 23; (with_reducible refine MD.out.mono ?_); rintro e w1 ⟨rfl, hw1⟩; subst hw1)
  go_region
  go_wp2
  go_ret2
  exact ⟨rfl, hB⟩

end Go.Proofs.YtemmaoapicaloaaDoor.Sb

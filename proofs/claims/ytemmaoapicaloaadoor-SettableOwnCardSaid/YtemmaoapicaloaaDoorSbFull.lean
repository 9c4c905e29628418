/- Full. -/
import Derived.Test.YtemmaoapicaloaaDoorSbTop
namespace Go.Proofs.YtemmaoapicaloaaDoor.Sb
open Go Go.RowKit Go.Proofs.YtemmaoapicaloaaDoor.At
open Go.Proofs.YtemmaoapicaloaaDoor.Bt (SetAt setV memL nums roomF)

theorem full_any {B tb : Nat} {T : Tb} (w : World) (ht : TbIn w B tb T) : Calls Tryd.prog 13 #[ptr tb] w fun e w' => e = .returned (.bool (decide (T.most ≤ T.E.length))) ∧ Below w.heap.size w w' := by
  have MD := Lib.hid (made_any w ht)
  have FL := Lib.hid (filled_any w ht)
  have c4 := ht.cells.2.2.2.2
  unfold fullV at c4
  have hl := ht.lt
  clear ht
  unfold ptr at *
  go_enter Tryd.func13, Tryd.ntmps13
  go_wp2_with (first
    | (go_at_call 23; (with_reducible refine MD.out.mono ?_); rintro e w1 ⟨rfl, hw1⟩; subst hw1)
    | (go_at_call 21; (with_reducible refine FL.out.mono ?_); rintro e w2 ⟨rfl, hb⟩)
    | fail)
  go_ret
  exact ⟨rfl, hb⟩

end Go.Proofs.YtemmaoapicaloaaDoor.Sb

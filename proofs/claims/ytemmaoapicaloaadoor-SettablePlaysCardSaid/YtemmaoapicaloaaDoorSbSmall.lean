/- made, filled, crowded. -/
import Derived.Test.YtemmaoapicaloaaDoorSbMem
import Derived.Deep.RegionHeld3
import Derived.BigQuiet
namespace Go.Proofs.YtemmaoapicaloaaDoor.Sb
open Go Go.RowKit Go.Proofs.YtemmaoapicaloaaDoor.At
open Go.Proofs.YtemmaoapicaloaaDoor.Bt (SetAt setV memL nums)

def ptr (tb : Nat) : Value := .pointer (some ⟨tb, 0, none⟩)

theorem eq_full (d : Nat) (w : World) : (Op.equalIn (d + 1) 45 (.func (.func 21) #[] #[]) .nilFunc).run Tryd.prog w = .ok false w := by
  simp [Op.equalIn, run_underlying Tryd.underlying45]
theorem eq_none (d : Nat) (w : World) : (Op.equalIn (d + 1) 45 .nilFunc .nilFunc).run Tryd.prog w = .ok true w := by
  simp [Op.equalIn, run_underlying Tryd.underlying45]
theorem neq_full (w : World) : (binOp .neq 45 (.func (.func 21) #[] #[]) .nilFunc).run Tryd.prog w = .ok (.bool true) w := by
  have h : (Op.equal 45 (.func (.func 21) #[] #[]) .nilFunc).run Tryd.prog w = .ok false w := eq_full 9999 w
  rw [show binOp .neq 45 (.func (.func 21) #[] #[]) .nilFunc = (Op.equal 45 (.func (.func 21) #[] #[]) .nilFunc >>= fun b => pure (.bool (!b))) from rfl, Sem.run_bind, h]
  rfl
theorem neq_none (w : World) : (binOp .neq 45 .nilFunc .nilFunc).run Tryd.prog w = .ok (.bool false) w := by
  have h : (Op.equal 45 .nilFunc .nilFunc).run Tryd.prog w = .ok true w := eq_none 9999 w
  rw [show binOp .neq 45 .nilFunc .nilFunc = (Op.equal 45 .nilFunc .nilFunc >>= fun b => pure (.bool (!b))) from rfl, Sem.run_bind, h]
  rfl

theorem made_any {B tb : Nat} {T : Tb} (w : World) (h : TbIn w B tb T) : Calls Tryd.prog 23 #[ptr tb] w fun e w' => e = .returned (.bool true) ∧ w' = w := by
  obtain ⟨c0, c1, c2, c3, c4⟩ := h.cells
  have hl := h.lt
  clear h
  unfold ptr
  unfold fullV at c4
  have q := neq_full
  go_enter Tryd.func23, Tryd.ntmps23
  go_wp2
  go_ret
  exact ⟨rfl, rfl⟩
theorem made_nil (w : World) : Calls Tryd.prog 23 #[.pointer none] w fun e w' => e = .returned (.bool false) ∧ w' = w := by
  go_enter Tryd.func23, Tryd.ntmps23
  go_wp2
  go_ret
  exact ⟨rfl, rfl⟩
theorem made_zero (tb : Nat) (w : World) (c4 : w.cell? ⟨tb, 4, none⟩ = some .nilFunc) : Calls Tryd.prog 23 #[ptr tb] w fun e w' => e = .returned (.bool false) ∧ w' = w := by
  have hl : tb < w.heap.size := cell_lt c4
  unfold ptr
  have q := neq_none
  go_enter Tryd.func23, Tryd.ntmps23
  go_wp2
  go_ret
  exact ⟨rfl, rfl⟩

theorem filled_any {B tb : Nat} {T : Tb} (w : World) (h : TbIn w B tb T) : Calls Tryd.prog 21 #[ptr tb] w fun e w' => e = .returned (.bool (decide (T.most ≤ T.E.length))) ∧ Below w.heap.size w w' := by
  obtain ⟨c0, c1, c2, c3, c4⟩ := h.cells
  have hl := h.lt
  obtain ⟨so, sc, hsv, hm, _⟩ := own_shape h.sets
  have hB := (Below.refl w.heap.size w).drew
  rw [hsv] at c2
  clear h hsv c1 c3 c4
  unfold ptr
  generalize T.E.length = n at *
  generalize T.most = m at *
  unfold maxLen at hm
  go_enter Tryd.func21, Tryd.ntmps21
  go_wp2
  go_region
  go_wp2
  go_ret
  refine ⟨retB ?_, hB⟩
  simp

theorem crowded_any {B tb : Nat} {T : Tb} (w : World) (h : TbIn w B tb T) (k : Nat) (hk : k ≤ 1000000) (hP : T.P.length ≤ 1000000) : Calls Tryd.prog 38 #[ptr tb, .int .i64 (k : Nat)] w fun e w' => e = .returned (.bool (decide (3 * ((T.P.length : Int) - k - 1) < T.P.length))) ∧ w' = w := by
  obtain ⟨c0, c1, c2, c3, c4⟩ := h.cells
  have hl := h.lt
  obtain ⟨po, pc, hpv, hm, _⟩ := own_shape h.plcs
  rw [hpv] at c3
  clear h hpv c0 c1 c2 c4
  unfold ptr
  generalize T.P.length = n at *
  unfold maxLen at hm
  go_enter Tryd.func38, Tryd.ntmps38
  go_wp2
  go_ret
  refine ⟨retB ?_, rfl⟩
  simp

end Go.Proofs.YtemmaoapicaloaaDoor.Sb

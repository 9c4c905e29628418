/- Tables that nobody made. -/
import Derived.Test.YtemmaoapicaloaaDoorSbTop
namespace Go.Proofs.YtemmaoapicaloaaDoor.Sb
open Go Go.RowKit Go.Proofs.YtemmaoapicaloaaDoor.At
open Go.Proofs.YtemmaoapicaloaaDoor.Bt (SetAt setV memL nums roomF)

theorem put_nil (room : Nat) (ao : Option Addr) (an ac : Nat) (w : World) :
    Calls Tryd.prog 11 #[.pointer none, setV room (.slice ao an ac)] w fun e w' => e = .returned (.tuple #[.int .i64 (-1), .bool false]) ∧ Below w.heap.size w w' := by
  have MD := Lib.hid (fun W => made_nil W)
  unfold setV at *
  have A1 := Lib.hid ((Below.refl w.heap.size w).alloc (Nat.le_refl _) (.cells #[.int .i64 (room : Nat), .slice ao an ac] 34))
  go_enter Tryd.func11, Tryd.ntmps11
  go_wp2_with (go_at_call 23; (with_reducible refine (MD.out _).mono ?_); rintro e w1 ⟨rfl, hw1⟩; subst hw1)
  go_ret2
  exact ⟨rfl, A1.out⟩
theorem put_zero (tb room : Nat) (ao : Option Addr) (an ac : Nat) (w : World) (c4 : w.cell? ⟨tb, 4, none⟩ = some .nilFunc) :
    Calls Tryd.prog 11 #[ptr tb, setV room (.slice ao an ac)] w fun e w' => e = .returned (.tuple #[.int .i64 (-1), .bool false]) ∧ Below w.heap.size w w' := by
  have MD := Lib.hid (fun W (hW : Below w.heap.size w W) => made_zero tb W (cell_next c4 hW))
  unfold ptr setV at *
  have A1 := Lib.hid ((Below.refl w.heap.size w).alloc (Nat.le_refl _) (.cells #[.int .i64 (room : Nat), .slice ao an ac] 34))
  go_enter Tryd.func11, Tryd.ntmps11
  go_wp2_with (go_at_call 23; (with_reducible refine (MD.out _ A1.out).mono ?_); rintro e w1 ⟨rfl, hw1⟩; subst hw1)
  go_ret2
  exact ⟨rfl, A1.out⟩

theorem len_nil (w : World) : Calls Tryd.prog 17 #[.pointer none] w fun e w' => e = .returned (.int .i64 0) ∧ w' = w := by
  have MD := Lib.hid (made_nil w)
  go_enter Tryd.func17, Tryd.ntmps17
  go_wp2_with (go_at_call 23; (with_reducible refine MD.out.mono ?_); rintro e w1 ⟨rfl, hw1⟩; subst hw1)
  go_ret
  exact ⟨rfl, rfl⟩
theorem len_zero (tb : Nat) (w : World) (c4 : w.cell? ⟨tb, 4, none⟩ = some .nilFunc) : Calls Tryd.prog 17 #[ptr tb] w fun e w' => e = .returned (.int .i64 0) ∧ w' = w := by
  have MD := Lib.hid (made_zero tb w c4)
  unfold ptr at *
  go_enter Tryd.func17, Tryd.ntmps17
  go_wp2_with (go_at_call 23; (with_reducible refine MD.out.mono ?_); rintro e w1 ⟨rfl, hw1⟩; subst hw1)
  go_ret
  exact ⟨rfl, rfl⟩

theorem full_nil (w : World) : Calls Tryd.prog 13 #[.pointer none] w fun e w' => e = .returned (.bool true) ∧ w' = w := by
  have MD := Lib.hid (made_nil w)
  go_enter Tryd.func13, Tryd.ntmps13
  go_wp2_with (go_at_call 23; (with_reducible refine MD.out.mono ?_); rintro e w1 ⟨rfl, hw1⟩; subst hw1)
  go_ret
  exact ⟨rfl, rfl⟩
theorem full_zero (tb : Nat) (w : World) (c4 : w.cell? ⟨tb, 4, none⟩ = some .nilFunc) : Calls Tryd.prog 13 #[ptr tb] w fun e w' => e = .returned (.bool true) ∧ w' = w := by
  have MD := Lib.hid (made_zero tb w c4)
  unfold ptr at *
  go_enter Tryd.func13, Tryd.ntmps13
  go_wp2_with (go_at_call 23; (with_reducible refine MD.out.mono ?_); rintro e w1 ⟨rfl, hw1⟩; subst hw1)
  go_ret
  exact ⟨rfl, rfl⟩

theorem load_zero (tb : Nat) (w : World) (c4 : w.cell? ⟨tb, 4, none⟩ = some .nilFunc) : Calls Tryd.prog 20 #[ptr tb] w fun e w' => e = .returned (.tuple #[.int .i64 0, .int .i64 0]) ∧ w' = w := by
  have MD := Lib.hid (made_zero tb w c4)
  unfold ptr at *
  go_enter Tryd.func20, Tryd.ntmps20
  go_wp2_with (go_at_call 23; (with_reducible refine MD.out.mono ?_); rintro e w1 ⟨rfl, hw1⟩; subst hw1)
  go_ret2
  exact ⟨rfl, rfl⟩

end Go.Proofs.YtemmaoapicaloaaDoor.Sb

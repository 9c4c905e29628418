/- Find, Full. -/
import Derived.Test.YtemmaoapicaloaaDoorSbTop
namespace Go.Proofs.YtemmaoapicaloaaDoor.Sb
open Go Go.RowKit Go.Proofs.YtemmaoapicaloaaDoor.At
open Go.Proofs.YtemmaoapicaloaaDoor.Bt (SetAt setV memL nums roomF)

set_option maxRecDepth 100000 in
theorem find_any {B tb room Bs : Nat} {T : Tb} {v : Value} {L : List Nat} (r : Int) (w : World) (ht : TbIn w B tb T) (hg : Good T) (hs : SetAt w Bs room v L) (hr : IdxOut (keys T.E) (nums L) r) :
    Calls Tryd.prog 9 #[ptr tb, setV room v] w fun e w' => e = .returned (.tuple #[.int .i64 r, .bool (decide (0 ≤ r))]) ∧ Below w.heap.size w w' := by
  have MD := Lib.hid (fun W (hW : Below w.heap.size w W) => made_any W (ht.next hW))
  have NM := Lib.hid (fun W (hW : Below w.heap.size w W) => number_idx r W (ht.next hW) hg (hs.next hW) hr)
  obtain ⟨ao, an, ac, rfl⟩ := hs.val
  have hl := ht.lt
  clear ht hg hs hr
  unfold ptr setV at *
  have A1 := Lib.hid ((Below.refl w.heap.size w).alloc (Nat.le_refl _) (.cells #[.int .i64 (room : Nat), .slice ao an ac] 34))
  go_enter Tryd.func9, Tryd.ntmps9
  go_wp2_with (first
    | (go_at_call 23; (with_reducible refine (MD.out _ A1.out).mono ?_); rintro e w1 ⟨rfl, hw1⟩; subst hw1)
    | (go_at_call 24; (with_reducible refine (NM.out _ A1.out).mono ?_); rintro e w2 ⟨rfl, hb⟩; have B2 := Lib.hid (A1.out.trans (hb.mono A1.out.size)); clear hb)
    | fail)
  go_ret2
  exact ⟨retIB rfl (by simp), B2.out⟩
theorem find_zero (tb room : Nat) (ao : Option Addr) (an ac : Nat) (w : World) (c4 : w.cell? ⟨tb, 4, none⟩ = some .nilFunc) :
    Calls Tryd.prog 9 #[ptr tb, setV room (.slice ao an ac)] w fun e w' => e = .returned (.tuple #[.int .i64 (-1), .bool false]) ∧ Below w.heap.size w w' := by
  have MD := Lib.hid (fun W (hW : Below w.heap.size w W) => made_zero tb W (cell_next c4 hW))
  unfold ptr setV at *
  have A1 := Lib.hid ((Below.refl w.heap.size w).alloc (Nat.le_refl _) (.cells #[.int .i64 (room : Nat), .slice ao an ac] 34))
  go_enter Tryd.func9, Tryd.ntmps9
  go_wp2_with (go_at_call 23; (with_reducible refine (MD.out _ A1.out).mono ?_); rintro e w1 ⟨rfl, hw1⟩; subst hw1)
  go_ret2
  exact ⟨rfl, A1.out⟩

theorem full_any {B tb : Nat} {T : Tb} (w : World) (ht : TbIn w B tb T) : Calls Tryd.prog 13 #[ptr tb] w fun e w' => e = .returned (.bool (decide (T.most ≤ T.E.length))) ∧ Below w.heap.size w w' := by
  have MD := Lib.hid (made_any w ht)
  have FL := Lib.hid (filled_any w ht)
  have c4 := ht.cells.2.2.2.2
  unfold fullV at c4
  have hl := ht.lt
  clear ht
  unfold ptr at *
  go_enter Tryd.func13, Tryd.ntmps13
  go_wp2_with (first
    | (go_at_call 23; (with_reducible refine MD.out.mono ?_); rintro e w1 ⟨rfl, hw1⟩; subst hw1)
    | (go_at_call 21; (with_reducible refine FL.out.mono ?_); rintro e w2 ⟨rfl, hb⟩)
    | fail)
  go_ret
  exact ⟨rfl, hb⟩

end Go.Proofs.YtemmaoapicaloaaDoor.Sb

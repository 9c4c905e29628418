/- Get. -/
import Derived.Test.YtemmaoapicaloaaDoorSbLen
namespace Go.Proofs.YtemmaoapicaloaaDoor.Sb
open Go Go.RowKit Go.Proofs.YtemmaoapicaloaaDoor.At
open Go.Proofs.YtemmaoapicaloaaDoor.Bt (SetAt setV memL nums roomF copy_any CopyOut)

/-- nothing is told of a number without a set -/
def NoGet (w : World) (e : Ending) (w' : World) : Prop := e = .returned (.tuple #[setV 0 (.slice none 0 0), .bool false]) ∧ Below w.heap.size w w'

/-- a number's set -/
def GetOut (w : World) (room : Nat) (L : List Nat) (e : Ending) (w' : World) : Prop :=
  ∃ u, e = .returned (.tuple #[setV room u, .bool true]) ∧ SetAt w' w.heap.size room u L ∧ Below w.heap.size w w'

set_option maxRecDepth 100000 in
set_option maxHeartbeats 1000000 in
theorem get_none (tv : Value) (i : Int) (n : Nat) (w : World) (LN : ∀ W, Below w.heap.size w W → Calls Tryd.prog 17 #[tv] W fun e w' => e = .returned (.int .i64 (n : Nat)) ∧ w' = W) (hi : 0 ≤ i) (hn : (n : Int) ≤ i) :
    Calls Tryd.prog 14 #[tv, .int .i64 i] w fun e w' => NoGet w e w' := by
  have A1 := Lib.hid ((Below.refl w.heap.size w).alloc (Nat.le_refl _) (.cells #[.int .i64 0, .slice none 0 0] 34))
  have X1 := Lib.hid (at_new w (.cells #[.int .i64 0, .slice none 0 0] 34))
  have HL := Lib.hid LN
  clear LN
  go_enter Tryd.func14, Tryd.ntmps14
  go_wp2_with (go_at_call 17; (with_reducible refine (HL.out _ A1.out).mono ?_); rintro e w1 ⟨rfl, hw1⟩; subst hw1)
  refine bodyPost_ret (results_row_tmp rfl _ _ w.heap.size 34 #[.int .i64 0, .slice none 0 0] (0, 0) _ rfl X1.out Tryd.underlying34 rfl (by kernel_rfl)) rfl ?_
  exact ⟨rfl, A1.out⟩

set_option maxRecDepth 100000 in
set_option maxHeartbeats 1000000 in
theorem get_some {B tb k : Nat} {T : Tb} (w : World) (ht : TbIn w B tb T) (hk : k < T.E.length) :
    Calls Tryd.prog 14 #[ptr tb, .int .i64 (k : Nat)] w fun e w' => GetOut w (ent T.E k).room (ent T.E k).L e w' := by
  have LN := Lib.hid (fun W (hW : Below w.heap.size w W) => len_any W (ht.next hW))
  obtain ⟨g, c, hsv, hne, s0, s1, s2, fz, hse⟩ := ht.ent hk
  have c2 := ht.cells.2.2.1
  rw [hsv] at c2
  have hl := ht.lt
  obtain ⟨so, sc, hsv2, hsm, _⟩ := own_shape ht.sets
  unfold maxLen at hsm
  clear ht hsv fz hne hsv2 s2
  have CP := Lib.hid (fun W (hW : Below w.heap.size w W) => copy_any T.bw _ _ _ W (hse.next hW))
  obtain ⟨ao, an, ac, hv⟩ := hse.val
  rw [hv] at s1 CP
  clear hse hv
  generalize (ent T.E k).room = room at *
  generalize (ent T.E k).L = L at *
  generalize T.E.length = n at *
  unfold ptr setV at *
  have hgl : g < w.heap.size := cell_lt s0
  have k0 : (0 : Int) ≤ (k : Int) := by omega
  have k1 : (k : Int) < (n : Int) := by omega
  have A1 := Lib.hid ((Below.refl w.heap.size w).alloc (Nat.le_refl _) (.cells #[.int .i64 0, .slice none 0 0] 34))
  have X1 := Lib.hid (at_new w (.cells #[.int .i64 0, .slice none 0 0] 34))
  go_enter Tryd.func14, Tryd.ntmps14
  go_wp2_with (first
    | (go_at_call 17; (with_reducible refine (LN.out _ A1.out).mono ?_); rintro e w1 ⟨rfl, hw1⟩; subst hw1)
    | (go_at_call 27; (with_reducible refine (CP.out _ A1.out).mono ?_); rintro e w2 ⟨u, rfl, hu, hb⟩; obtain ⟨bo, bn, bc, rfl⟩ := hu.val; unfold setV; go_must (have y := at_next X1.out hb; obtain ⟨y0, y1, y2⟩ := at2 y; have f0 := at_froz y; have Z := Lib.hid (show _ ∧ _ ∧ _ from ⟨y, hu.base (show w.heap.size ≤ _ by simp), A1.out.trans (hb.mono A1.out.size)⟩); clear hu hb y))
    | fail)
  refine bodyPost_ret (results_row_tmp rfl _ _ w.heap.size 34 #[.int .i64 (room : Nat), .slice bo bn bc] (0, 0) _ rfl (set2 Z.out.1) Tryd.underlying34 rfl (by kernel_rfl)) rfl ?_
  refine ⟨_, rfl, ?_, below_set (below_set Z.out.2.2 (Nat.le_refl _)) (Nat.le_refl _)⟩
  have h1 := set_block w2 w.heap.size 0 (.int .i64 (room : Nat))
  have h2 := set_block (w2.setCell ⟨w.heap.size, 0, none⟩ (.int .i64 (room : Nat))) w.heap.size 1 (.slice bo bn bc)
  have hs := Z.out.2.1
  exact ⟨row_same hs.row fun j e => by
    have hj : j ≠ w.heap.size := fun e2 => at_not_row Z.out.1 hs.row (by decide) (by rw [← e2]; exact e.symm)
    rw [h2 j hj, h1 j hj], hs.len, hs.lim, hs.word, hs.inn⟩

end Go.Proofs.YtemmaoapicaloaaDoor.Sb

/- Whether two entries have the same set; an entry of a set. -/
import Derived.Test.YtemmaoapicaloaaDoorSbSmall
import Derived.Test.YtemmaoapicaloaaDoorBtJoin
import Derived.Deep.DeepMust
namespace Go.Proofs.YtemmaoapicaloaaDoor.Sb
open Go Go.RowKit Go.Proofs.YtemmaoapicaloaaDoor.At
open Go.Proofs.YtemmaoapicaloaaDoor.Bt (SetAt setV memL nums same_sets same_nums new_any NewOut roomF join_any JoinOut Joined hash_any hashX fromL zeros_mem memP memP_all BoxS)

theorem bsame_any (B room B2 room2 : Nat) (v v2 : Value) (L L2 : List Nat) (w : World) (h : SetAt w B room v L) (k : SetAt w B2 room2 v2 L2) :
    Calls Tryd.prog 44 #[setV room v, setV room2 v2] w fun e w' => e = .returned (.bool (decide (nums L = nums L2))) ∧ Below w.heap.size w w' := by
  refine (same_sets B room B2 room2 v v2 L L2 w h k).mono ?_
  rintro e w' ⟨rfl, hb⟩
  exact ⟨retB (same_nums L L2 h.word k.word), hb⟩

set_option maxRecDepth 100000 in
set_option maxHeartbeats 2000000 in
theorem same_any (x y : En) (Bx By : Nat) (w : World) (hx : SetAt w Bx x.room x.v x.L) (hy : SetAt w By y.room y.v y.L) :
    Calls Tryd.prog 41 #[enV x, enV y] w fun e w' => e = .returned (.bool (sameE x y)) ∧ Below w.heap.size w w' := by
  obtain ⟨r1, v1, L1, h1⟩ := x
  obtain ⟨r2, v2, L2, h2⟩ := y
  simp only at hx hy
  obtain ⟨ao, an, ac, rfl⟩ := hx.val
  obtain ⟨bo, bn, bc, rfl⟩ := hy.val
  have S := Lib.hid (fun W (hW : Below w.heap.size w W) => bsame_any Bx r1 By r2 _ _ L1 L2 W (hx.next hW) (hy.next hW))
  have HS := Lib.hid (show sameE ⟨r1, .slice ao an ac, L1, h1⟩ ⟨r2, .slice bo bn bc, L2, h2⟩ = (decide (h1 = h2) && decide (nums L1 = nums L2)) from rfl)
  clear hx hy
  unfold enV
  simp only
  generalize sameE ⟨r1, .slice ao an ac, L1, h1⟩ ⟨r2, .slice bo bn bc, L2, h2⟩ = R at *
  generalize decide (nums L1 = nums L2) = q at *
  have hB1 := (Below.refl w.heap.size w).alloc (Nat.le_refl _) (.cells #[.int .i64 (r1 : Nat), .slice ao an ac, .int .u64 (h1 : Nat)] 57)
  have hB2 := Lib.hid (hB1.alloc hB1.size (.cells #[.int .i64 (r2 : Nat), .slice bo bn bc, .int .u64 (h2 : Nat)] 57))
  clear hB1
  unfold setV at *
  by_cases hh : h1 = h2
  · have HE := Lib.hid hh
    have d0 : ((h1 : Int) == (h2 : Int)) = true := by rw [hh]; simp
    clear hh
    go_enter Tryd.func41, Tryd.ntmps41
    go_wp2_with (go_at_call 44; (with_reducible refine (S.out _ hB2.out).mono ?_); rintro e w1 ⟨rfl, hb⟩)
    go_ret
    exact ⟨retB (by rw [HS.out, decide_eq_true HE.out, Bool.true_and]), hB2.out.trans (hb.mono hB2.out.size)⟩
  · have HE := Lib.hid hh
    have d0 : ((h1 : Int) == (h2 : Int)) = false := by simp; omega
    clear hh
    go_enter Tryd.func41, Tryd.ntmps41
    go_wp2
    go_ret
    exact ⟨retB (by rw [HS.out, decide_eq_false HE.out, Bool.false_and]), hB2.out⟩

theorem infoEn : (Tryd.prog.info? 57).map (fun i => (i.zero, i.size, i.bytes)) = some (some (.agg #[.int .i64 0, .slice none 0 0, .int .u64 0]), 3, 40) := by kernel_rfl

/-- what entryOf tells -/
def EntOut (w : World) (wide room : Nat) (v : Value) (L : List Nat) (e : Ending) (w' : World) : Prop :=
  ∃ h : Nat, e = .returned (enV ⟨room, v, L, h⟩) ∧ HashIs (roomF (wide : Nat)) L h ∧ Below w.heap.size w w'

/-- words that were made later lie apart -/
theorem words_apart {w W : World} {B Bs room r2 : Nat} {v v2 : Value} {L L2 : List Nat} (hs : SetAt w Bs room v L) (k : SetAt W B r2 v2 L2) (hB : w.heap.size ≤ B) : v.ownBlock = none ∨ v.ownBlock ≠ v2.ownBlock := by
  rcases hob : v.ownBlock with _ | g
  · exact .inl rfl
  · refine .inr fun e => ?_
    have h1 := (hs.row.lt g hob).2
    have h2 := (k.row.lt g e.symm).1
    omega
theorem hash_of {W : World} {B rm : Nat} {v : Value} {L Lc : List Nat} {more : Bool} (hj : Joined rm (List.replicate ((rm + 63) / 64) 0) Lc (fromL 0 L) more) (h : SetAt W B rm v Lc) : HashIs rm L (hashX (fromL 0 Lc)) :=
  ⟨Lc, h.len, h.word, fun n => by rw [hj.1 n, zeros_mem, memP_all, Bool.false_or], rfl⟩

/-- a new set is joined to another one -/
theorem ent_join {w W : World} {A B3 B5 B Bs room rm : Nat} {v v2 x0 y0 z0 x3 y3 x5 y5 : Value} {L : List Nat} (h : Below w.heap.size w W) (b3 : W.heap[B3]? = some (.cells #[x3, y3] 34 (0, 0))) (b4 : W.heap[A]? = some (.cells #[x0, y0, z0] 57 (0, 0))) (b5 : W.heap[B5]? = some (.cells #[x5, y5] 34 (0, 0)))
    (hs2 : SetAt W B rm v2 (List.replicate ((rm + 63) / 64) 0)) (hs : SetAt W Bs room v L) (hw : SetAt w Bs room v L) (hB : w.heap.size ≤ B) :
    Calls Tryd.prog 42 #[setV rm v2, setV room v] W fun e w3 => ∃ b Lc, e = .returned (.bool b) ∧ HashIs rm L (hashX (fromL 0 Lc)) ∧ SetAt w3 B rm v2 Lc ∧ Below w.heap.size w w3 ∧ w3.heap[B3]? = some (.cells #[x3, y3] 34 (0, 0)) ∧ w3.heap[A]? = some (.cells #[x0, y0, z0] 57 (0, 0)) ∧ w3.heap[B5]? = some (.cells #[x5, y5] 34 (0, 0)) := by
  refine (join_any B rm Bs room v2 v _ L W hs2 hs (words_apart hw hs2 hB)).mono ?_
  rintro e w3 ⟨Lc, more, rfl, hs3, hj, hg⟩
  exact ⟨more, Lc, rfl, hash_of hj hs3, hs3, h.grown hg h.size (fun k e => Nat.le_trans hB (hs2.row.lt k e).1), at_kept b3 hg (.inr (at_not_row b3 hs2.row (by decide)).symm), at_kept b4 hg (.inr (at_not_row b4 hs2.row (by decide)).symm), at_kept b5 hg (.inr (at_not_row b5 hs2.row (by decide)).symm)⟩

set_option maxRecDepth 100000 in
set_option maxHeartbeats 2000000 in
theorem entryOf_any (tb wide Bs room : Nat) (v : Value) (L : List Nat) (w : World) (c1 : w.cell? ⟨tb, 1, none⟩ = some (.int .i64 (wide : Nat))) (hs : SetAt w Bs room v L) :
    Calls Tryd.prog 35 #[ptr tb, setV room v] w fun e w' => EntOut w wide room v L e w' := by
  have hl : tb < w.heap.size := cell_lt c1
  have N := Lib.hid (fun W => new_any (wide : Int) W)
  obtain ⟨ao, an, ac, rfl⟩ := hs.val
  have HS := Lib.hid hs
  clear hs
  unfold ptr setV at *
  have hal := (Below.refl w.heap.size w).alloc (Nat.le_refl _) (.cells #[.int .i64 (room : Nat), .slice ao an ac] 34)
  have hal2 := hal.alloc hal.size (.cells #[.int .i64 0, .slice none 0 0, .int .u64 0] 57)
  have b3 : ((w.alloc (.cells #[.int .i64 (room : Nat), .slice ao an ac] 34)).alloc (.cells #[.int .i64 0, .slice none 0 0, .int .u64 0] 57)).heap[w.heap.size]? = some (.cells #[.int .i64 (room : Nat), .slice ao an ac] 34 (0, 0)) := at_next (at_new w _) ((Below.refl _ _).alloc (Nat.le_refl _) _)
  have b4 : ((w.alloc (.cells #[.int .i64 (room : Nat), .slice ao an ac] 34)).alloc (.cells #[.int .i64 0, .slice none 0 0, .int .u64 0] 57)).heap[w.heap.size + 1]? = some (.cells #[.int .i64 0, .slice none 0 0, .int .u64 0] 57 (0, 0)) := by
    have := at_new (w.alloc (.cells #[.int .i64 (room : Nat), .slice ao an ac] 34)) (.cells #[.int .i64 0, .slice none 0 0, .int .u64 0] 57)
    rwa [World.size_alloc] at this
  have HA := Lib.hid (And.intro hal2 (And.intro b3 b4))
  clear hal hal2 b3 b4
  generalize hrm : roomF (wide : Int) = rm at *
  have HRM := Lib.hid hrm
  clear hrm
  go_enter Tryd.func35, Tryd.ntmps35
  go_wp2_with (first
    | (go_at_call 25; (with_reducible refine (N.out _).mono ?_); rintro e w1 ⟨v2, rfl, hs2, hb⟩; obtain ⟨bo, bn, bc, rfl⟩ := hs2.val; unfold setV;
       have b1 := HA.out.1.trans (hb.mono HA.out.1.size);
       have A1 := (Below.refl w1.heap.size w1).alloc (Nat.le_refl _) (.cells #[.int .i64 (rm : Nat), .slice bo bn bc] 34);
       have b2 := b1.alloc b1.size (.cells #[.int .i64 (rm : Nat), .slice bo bn bc] 34);
       have BB := Lib.hid (show _ ∧ _ ∧ _ ∧ _ ∧ _ ∧ _ from ⟨b2, at_next (at_next HA.out.2.1 hb) A1, at_next (at_next HA.out.2.2 hb) A1, at_new w1 (.cells #[.int .i64 (rm : Nat), .slice bo bn bc] 34), hs2.next A1, HS.out.next b2⟩);
       obtain ⟨x0, x1, xl⟩ := at2 (at_next HA.out.2.1 hb); clear hs2 hb HA b1 b2 A1)
    | (go_at_call 42; obtain ⟨y0, y1, y2, y3, y4, y5⟩ := BB.out;
       have J := ent_join y0 y1 y2 y3 y4 y5 HS.out (by simp; omega); unfold setV at J; (with_reducible refine J.mono ?_); rintro e w3 ⟨b, Lc, rfl, hh, hs3, z1, z2, z3, z4⟩;
       have ZZ := Lib.hid (show _ ∧ _ ∧ _ ∧ _ from ⟨z1, z2, z3, hh⟩);
       obtain ⟨q0, q1, q2⟩ := at2 z2; obtain ⟨p0, p1, p2⟩ := at2 z4; obtain ⟨r0, r1, r2, r3⟩ := at3 z3;
       have f0 := at_froz z3;
       have HH := Lib.hid (fun W (hW : Below w3.heap.size w3 W) => hash_any _ rm _ Lc W (hs3.next hW));
       unfold setV at HH; clear y0 y1 y2 y3 y4 y5 BB J hs3 hh z1 z2 z3 z4))
  have DR := (Below.refl w3.heap.size w3).drew
  go_region_with (go_at_call 43; (with_reducible refine (HH.out _ DR).mono ?_); rintro e w4 ⟨rfl, hb⟩; have hb3 := DR.trans (hb.mono DR.size); have z3 := at_next ZZ.out.2.2.1 hb3; obtain ⟨s0, s1, s2, s3⟩ := at3 z3; obtain ⟨q0, q1, q2⟩ := at2 (at_next ZZ.out.2.1 hb3); have f1 := at_froz z3; have Z4 := Lib.hid (show _ ∧ _ from ⟨z3, hb3⟩); clear hb hb3 z3)
  all_goals
    go_wp2
    refine bodyPost_ret (results_cell_row rfl _ _ (w.heap.size + 1) 57 #[.int .i64 (room : Nat), .slice ao an ac, .int .u64 (hashX (fromL 0 Lc) : Nat)] (0, 0) _ rfl (set3 Z4.out.1) Tryd.underlying57 rfl (by kernel_rfl)) rfl ?_
    refine ⟨hashX (fromL 0 Lc), rfl, by rw [HRM.out]; exact ZZ.out.2.2.2, ?_⟩
    exact below_set (below_set (below_set (ZZ.out.1.trans (Z4.out.2.mono ZZ.out.1.size)) (by omega)) (by omega)) (by omega)

end Go.Proofs.YtemmaoapicaloaaDoor.Sb

/- The program's Other, Small and Set. -/
import Derived.Test.YtdkiahelnomjpaaDoorFdOth
import Derived.Test.YtdkiahelnomjpaaDoorFdRef
namespace Go.Proofs.YtdkiahelnomjpaaDoor.Fd
open Go.RowKit Go.Shelf Go.Proofs.YtdkiahelnomjpaaDoor.Rg

theorem one_at (w : World) (x y : Int) : RngsAt (w.alloc (.cells #[.int .i64 x, .int .i64 y] 33)) (.slice (some ⟨w.heap.size, 0, none⟩) 1 1) [(x, y)] :=
  rngs_of_row (B := w.heap.size) (World.ownsRow_lit (e := 33) (size := 2) w #[.int .i64 x, .int .i64 y] 1 (Nat.le_refl _) (by decide) (by simp))
theorem add_nought (g : Addr) : g.add (0 * 2) = g := by simp [Addr.add]

set_option maxHeartbeats 1600000 in
theorem other_any (c : Int) (w : World) (hT : Tab w) : Calls Tryd.prog 6 #[.int .i64 c] w fun e w' => e = .returned (.tuple #[.int .i64 (othN c), .bool (othF c).isSome]) ∧ Below w.heap.size w w' := by
  have hal : Below w.heap.size w (w.alloc (.cells #[.int .i64 c, .int .i64 c] 33)) := (Below.refl _ _).alloc (Nat.le_refl _) _
  have c1 := others_any [(c, c)] _ _ (one_at w c c) (hT.next hal) (by simp)
  rw [othersL_one] at c1
  have HAL := Lib.hid hal
  clear hal hT
  unfold oneL at c1
  obtain ⟨x, h⟩ : ∃ x, othF c = x := ⟨_, rfl⟩
  cases x with
  | none =>
    rw [h] at c1
    simp only [List.length_nil] at c1
    have C1 := Lib.hid c1
    have hr := Lib.hid h
    clear c1 h
    go_enter Tryd.func6, Tryd.ntmps6
    go_wp2_with (go_at_call 17; refine C1.out.mono ?_; rintro e w1 ⟨v1, rfl, hrow, hb⟩; go_must (obtain ⟨ao, cap, rfl, _, _⟩ := (rngs_of_row (l := []) hrow).shape; simp only [List.length_nil]; have B1 := Lib.hid (HAL.out.trans (hb.mono HAL.out.size)); clear hrow hb))
    go_ret2
    exact ⟨retN hr.out, B1.out⟩
  | some o =>
    rw [h] at c1
    simp only [List.length_cons, List.length_nil, Nat.zero_add] at c1
    have C1 := Lib.hid c1
    have hr := Lib.hid h
    clear c1 h
    go_enter Tryd.func6, Tryd.ntmps6
    go_wp2_with (go_at_call 17; refine C1.out.mono ?_; rintro e w1 ⟨v1, rfl, hrow, hb⟩; go_must (obtain ⟨g, cap, rfl⟩ := ownsRow_succ (k := 0) hrow; obtain ⟨d1, d2⟩ := rowR_last (c := []) (r := (o, o)) hrow; simp only [List.length_nil, Nat.zero_mul, Nat.zero_add] at d1 d2; have B1 := Lib.hid (HAL.out.trans (hb.mono HAL.out.size)); clear hrow hb))
    go_ret2
    exact ⟨retO hr.out, B1.out⟩

set_option maxHeartbeats 1600000 in
theorem small_any (c : Int) (w : World) (hT : Tab w) : Calls Tryd.prog 8 #[.int .i64 c] w fun e w' => e = .returned (.int .i64 (smallF c)) ∧ Below w.heap.size w w' := by
  have a1 := Lib.hid (other_any c w hT)
  clear hT
  cases h : othF c with
  | none =>
    have hr := Lib.hid (show smallF c = c by unfold smallF; rw [h]; exact Int.max_self _)
    rw [othN, h] at a1
    simp only [Option.isSome_none] at a1
    clear h
    go_enter Tryd.func8, Tryd.ntmps8
    go_wp2_with (go_at_call 6; (with_reducible refine a1.out.mono ?_); rintro e w1 ⟨rfl, hb⟩; go_must (have B1 := Lib.hid hb; clear hb))
    go_ret
    exact ⟨retI hr.out.symm, B1.out⟩
  | some o =>
    rw [othN, h] at a1
    simp only [Option.isSome_some, Option.getD_some] at a1
    rcases Int.lt_or_le c o with k | k
    · have hr := Lib.hid (show smallF c = o by unfold smallF; rw [h, Option.getD_some]; exact Int.max_eq_right (by omega))
      clear h
      go_enter Tryd.func8, Tryd.ntmps8
      go_wp2_with (go_at_call 6; (with_reducible refine a1.out.mono ?_); rintro e w1 ⟨rfl, hb⟩; go_must (have B1 := Lib.hid hb; clear hb))
      go_ret
      exact ⟨retI hr.out.symm, B1.out⟩
    · have hr := Lib.hid (show smallF c = c by unfold smallF; rw [h, Option.getD_some]; exact Int.max_eq_left (by omega))
      clear h
      go_enter Tryd.func8, Tryd.ntmps8
      go_wp2_with (go_at_call 6; (with_reducible refine a1.out.mono ?_); rintro e w1 ⟨rfl, hb⟩; go_must (have B1 := Lib.hid hb; clear hb))
      go_ret
      exact ⟨retI hr.out.symm, B1.out⟩

theorem fold_has {l L0 : List R} (h1 : setFrom 0 L0) (h2 : ∀ c, hasB L0 c = inB l c) (c : Int) : (inB L0 c || inB (othersL L0) c) = foldB (inB l) c := by
  have e : ∀ x, inB L0 x = inB l x := fun x => by rw [inB_set h1, h2]
  rw [inB_othersL, e]
  unfold foldB
  rw [show inB L0 = inB l from funext e]

set_option maxHeartbeats 1600000 in
theorem set_f (l : List R) (v : Value) (w : World) (hv : RngsAt w v l) (hT : Tab w) (hM : l.length ≤ 10000) :
    Calls Tryd.prog 11 #[v] w fun e w' => SetOut w (foldB (inB l)) (30 * l.length) e w' := by
  have c1 := Lib.hid (of_any l v w hv (by omega))
  have HT := Lib.hid hT
  have cu := Lib.hid (fun (a b : List R) (va vb : Value) (W : World) (ha : RngsAt W va a) (hb : RngsAt W vb b) (h1 : a.length ≤ 10000) (h2 : b.length ≤ 14 * a.length) => union_any a b va vb W.heap.size (W.alloc (.cells #[va, vb] 27)) (ha.next ((Below.refl _ _).alloc (Nat.le_refl _) _)) (hb.next ((Below.refl _ _).alloc (Nat.le_refl _) _)) (by simp) (by simp) (by omega))
  clear hv hT
  go_enter Tryd.func11, Tryd.ntmps11
  go_wp2_with (first
    | (go_at_call 19; (with_reducible refine c1.out.mono ?_); intro e w1 ho; go_must (obtain ⟨v1, L0, rfl, m1, b1⟩ := ho.made (Below.refl w.heap.size w); obtain ⟨o1, p1, rfl, _, _⟩ := m1.at'.shape; have M1 := Lib.hid m1; have co := Lib.hid (others_any L0 _ w1 m1.at' (HT.out.next b1) (by have := m1.len; omega)); clear ho m1 b1))
    | (go_at_call 17; (with_reducible refine co.out.mono ?_); rintro e w2 ⟨v2, rfl, hrow, hb⟩; go_must (have hrr := rngs_of_row hrow; obtain ⟨o2, p2, rfl, _, _⟩ := hrr.shape; have M2 := Lib.hid (M1.out.next hb); have R2 := Lib.hid hrr; have hlen := othersL_len L0; have CU := Lib.hid (cu.out L0 (othersL L0) _ _ w2 (M2.out.at') hrr (by have := M2.out.len; omega) hlen); have HL := Lib.hid hlen; clear hrow hb hrr hlen))
    | (go_at_call 20; (with_reducible refine CU.out.mono ?_); rintro e w3 ⟨v3, U, rfl, k1, k2, k3, k4, k5⟩; go_must (have K1 := Lib.hid k1; have K2 := Lib.hid k2; have K3 := Lib.hid k3; have K4 := Lib.hid k4; have K5 := Lib.hid k5; clear k1 k2 k3 k4 k5)))
  go_ret
  have hal : Below w2.heap.size w2 (w2.alloc (.cells #[.slice o1 L0.length p1, .slice o2 (othersL L0).length p2] 27)) := (Below.refl _ _).alloc (Nat.le_refl _) _
  have hb2 := M2.out.below.trans (hal.mono M2.out.below.size)
  exact ⟨_, U, rfl, row_base K1.out hb2.size, K2.out, fun c => by rw [K3.out, fold_has M2.out.set M2.out.has], by have := K4.out; have := HL.out; have := M2.out.len; omega, hb2.trans (K5.out.mono hb2.size)⟩

end Go.Proofs.YtdkiahelnomjpaaDoor.Fd

/- The program's mayBe. -/
import Derived.Test.YtjmdlioakkibcaaGreatDoorPk20

namespace Go.Proofs.YtjmdlioakkibcaaGreatDoor.Ar
open Go Go.RowKit Go.Shelf
open Go.Proofs.YtjmdlioakkibcaaGreatDoor.Rg (R RngsAt RowsAt nthL add_zero own_next)

theorem slice_one (w : World) (a : Int) : IntsAt (w.alloc (.cells #[.int .i64 a] 3)) (.slice (some ⟨w.heap.size, 0, none⟩) 1 1) [a] := by
  refine .inr ⟨_, 1, rfl, by unfold maxLen; simp, fun i hi => ?_⟩
  have : i = 0 := by simp at hi; omega
  subst this
  rw [show (⟨w.heap.size, 0, none⟩ : Addr).add 0 = ⟨w.heap.size, 0, none⟩ from rfl, World.cell?_alloc_new]; rfl
theorem slice_oneAt (w : World) (N : Nat) (hN : w.heap.size = N) (a : Int) : IntsAt (w.alloc (.cells #[.int .i64 a] 3)) (.slice (some ⟨N, 0, none⟩) 1 1) [a] := by
  subst hN; exact slice_one w a
theorem belowB_one (n a : Int) : belowB n [a] = (decide (0 ≤ a) && decide (a < n)) := by simp [belowB]
theorem belowB_two (n a b : Int) : belowB n [a, b] = (decide (0 ≤ a) && decide (a < n) && (decide (0 ≤ b) && decide (b < n))) := by simp [belowB]

set_option maxRecDepth 100000 in
set_option maxHeartbeats 8000000 in
theorem may_any (n : Nd) (i s : Int) (w : World) :
    Calls Tryz.prog 36 #[aggN n, .int .i64 i, .int .i64 s] w fun e w' => e = .returned (.bool (nodeB n i s)) ∧ Below w.heap.size w w' := by
  have cp := Lib.hid (fun n w => parts_any n w)
  have cb := Lib.hid (fun m v l w (h : IntsAt w v l) => below_any m v l w h)
  have ct := Lib.hid (fun w => times_any n.lo n.hi w)
  have b1 := Lib.hid (fun o => (Below.refl w.heap.size w).alloc (Nat.le_refl _) o)
  have b2 := Lib.hid (fun o u => ((Below.refl w.heap.size w).alloc (Nat.le_refl _) o).alloc (by simp) u)
  have P3 := Lib.hid (fun (n : Nd) (h : n.op = 3 ∨ n.op = 4) => show partsL n = [n.a, n.b] by unfold partsL; rw [if_pos h])
  have P5 := Lib.hid (fun (n : Nd) (h : n.op = 5) => show partsL n = [n.a] by unfold partsL; rw [if_neg (by omega), if_pos h])
  unfold aggN at *
  have hop := op_ways n
  have E1 := Lib.hid (nodeB_1 (n := n) (i := i) (s := s))
  have E2 := Lib.hid (nodeB_2 (n := n) (i := i) (s := s))
  have E3 := Lib.hid (nodeB_3 (n := n) (i := i) (s := s))
  have E5 := Lib.hid (nodeB_5 (n := n) (i := i) (s := s))
  have E0 := Lib.hid (nodeB_0 (n := n) (i := i) (s := s))
  obtain ⟨op, a, b, lo, hi, set⟩ := n
  dsimp only at *
  generalize nodeB ⟨op, a, b, lo, hi, set⟩ i s = r at *
  rcases hop with z1 | ⟨z1, z2⟩ | ⟨z1, z2, z3⟩ | ⟨z1, z2, z3, z4⟩ | ⟨z1, z2, z3, z4, z5⟩ | ⟨z1, z2, z3, z4, z5⟩
  · have E := Lib.hid (E1.out (by simpa using z1))
    go_enter Tryz.func36, Tryz.ntmps36
    go_wp2
    all_goals (
      go_ret
      refine ⟨ret_b ?_, b1.out _⟩
      rw [E.out, Bool.eq_iff_iff]
      simp
      omega)
  · have E := Lib.hid (E2.out (by simpa using z2))
    by_cases hz : a = 0 ∧ b = 0 ∧ lo = 0 ∧ hi = 0
    · obtain ⟨rfl, rfl, rfl, rfl⟩ := hz
      have HB := Lib.hid (belowB_one s set)
      have CB := Lib.hid (fun v w (h : IntsAt w v [set]) => cb.out s v [set] w h)
      generalize belowB s [set] = x at *
      go_enter Tryz.func36, Tryz.ntmps36
      go_wp2_with (go_at_call 34; (with_reducible refine (CB.out _ _ (slice_oneAt _ _ (by simp) _)).mono ?_); rintro e w1 ⟨rfl, rfl⟩)
      go_ret
      refine ⟨ret_b ?_, b2.out _ _⟩
      rw [E.out, HB.out, Bool.eq_iff_iff]; simp
    · go_enter Tryz.func36, Tryz.ntmps36
      go_wp2_with (go_at_call 34; exfalso; omega)
      all_goals (
        go_ret
        refine ⟨ret_b ?_, b1.out _⟩
        rw [E.out, Bool.eq_iff_iff]; simp; omega)
  · have E := Lib.hid (E3.out (.inl (by simpa using z3)))
    by_cases hz : lo = 0 ∧ hi = 0 ∧ set = 0
    · obtain ⟨rfl, rfl, rfl⟩ := hz
      have HP := Lib.hid (P3.out ⟨op, a, b, 0, 0, 0⟩ (.inl (by simpa using z3)))
      have HB := Lib.hid (belowB_two i a b)
      have CP := Lib.hid (fun w => cp.out ⟨op, a, b, 0, 0, 0⟩ w)
      have CB := Lib.hid (fun v w (h : IntsAt w v [a, b]) => cb.out i v [a, b] w h)
      dsimp only at HP CP
      generalize belowB i [a, b] = x at *
      clear cp
      go_enter Tryz.func36, Tryz.ntmps36
      go_wp2_with (first
        | (go_at_call 51; (with_reducible refine (CP.out _).mono ?_); rintro e w1 ⟨v, rfl, hr, hb⟩; go_must (rw [HP.out] at hr; have R1 := Lib.hid (ints_of_row hr); have H1 := Lib.hid ((b1.out (.cells #[.int .i64 op, .int .i64 a, .int .i64 b, .int .i64 0, .int .i64 0, .int .i64 0] 35)).trans (hb.mono (by simp))); clear hr hb))
        | (go_at_call 34; (with_reducible refine (CB.out _ _ R1.out).mono ?_); rintro e w2 ⟨rfl, rfl⟩)
        | fail)
      go_ret
      refine ⟨ret_b ?_, H1.out⟩
      rw [E.out, HB.out, Bool.eq_iff_iff]; simp; omega
    · go_enter Tryz.func36, Tryz.ntmps36
      go_wp2_with (go_at_call 51; exfalso; omega)
      all_goals (
        go_ret
        refine ⟨ret_b ?_, b1.out _⟩
        rw [E.out, Bool.eq_iff_iff]; simp; omega)
  · have E := Lib.hid (E3.out (.inr (by simpa using z4)))
    by_cases hz : lo = 0 ∧ hi = 0 ∧ set = 0
    · obtain ⟨rfl, rfl, rfl⟩ := hz
      have HP := Lib.hid (P3.out ⟨op, a, b, 0, 0, 0⟩ (.inr (by simpa using z4)))
      have HB := Lib.hid (belowB_two i a b)
      have CP := Lib.hid (fun w => cp.out ⟨op, a, b, 0, 0, 0⟩ w)
      have CB := Lib.hid (fun v w (h : IntsAt w v [a, b]) => cb.out i v [a, b] w h)
      dsimp only at HP CP
      generalize belowB i [a, b] = x at *
      clear cp
      go_enter Tryz.func36, Tryz.ntmps36
      go_wp2_with (first
        | (go_at_call 51; (with_reducible refine (CP.out _).mono ?_); rintro e w1 ⟨v, rfl, hr, hb⟩; go_must (rw [HP.out] at hr; have R1 := Lib.hid (ints_of_row hr); have H1 := Lib.hid ((b1.out (.cells #[.int .i64 op, .int .i64 a, .int .i64 b, .int .i64 0, .int .i64 0, .int .i64 0] 35)).trans (hb.mono (by simp))); clear hr hb))
        | (go_at_call 34; (with_reducible refine (CB.out _ _ R1.out).mono ?_); rintro e w2 ⟨rfl, rfl⟩)
        | fail)
      go_ret
      refine ⟨ret_b ?_, H1.out⟩
      rw [E.out, HB.out, Bool.eq_iff_iff]; simp; omega
    · go_enter Tryz.func36, Tryz.ntmps36
      go_wp2_with (go_at_call 51; exfalso; omega)
      all_goals (
        go_ret
        refine ⟨ret_b ?_, b1.out _⟩
        rw [E.out, Bool.eq_iff_iff]; simp; omega)
  · have E := Lib.hid (E5.out (by simpa using z5))
    by_cases hz : b = 0 ∧ set = 0
    · obtain ⟨rfl, rfl⟩ := hz
      have HP := Lib.hid (P5.out ⟨op, a, 0, lo, hi, 0⟩ (by simpa using z5))
      have HB := Lib.hid (belowB_one i a)
      have CP := Lib.hid (fun w => cp.out ⟨op, a, 0, lo, hi, 0⟩ w)
      have CB := Lib.hid (fun v w (h : IntsAt w v [a]) => cb.out i v [a] w h)
      dsimp only at HP CP
      generalize belowB i [a] = x at *
      generalize timesB lo hi = T at *
      clear cp
      cases x
      all_goals (
        go_enter Tryz.func36, Tryz.ntmps36
        go_wp2_with (first
          | (go_at_call 51; (with_reducible refine (CP.out _).mono ?_); rintro e w1 ⟨v, rfl, hr, hb⟩; go_must (rw [HP.out] at hr; have R1 := Lib.hid (ints_of_row hr); have H1 := Lib.hid ((b1.out (.cells #[.int .i64 op, .int .i64 a, .int .i64 0, .int .i64 lo, .int .i64 hi, .int .i64 0] 35)).trans (hb.mono (by simp))); have q0 := cell_next (a := ⟨w.heap.size, 0, none⟩) (v := .int .i64 op) (by simp) hb; have q1 := cell_next (a := ⟨w.heap.size, 1, none⟩) (v := .int .i64 a) (by simp) hb; have q2 := cell_next (a := ⟨w.heap.size, 2, none⟩) (v := .int .i64 0) (by simp) hb; have q3 := cell_next (a := ⟨w.heap.size, 3, none⟩) (v := .int .i64 lo) (by simp) hb; have q4 := cell_next (a := ⟨w.heap.size, 4, none⟩) (v := .int .i64 hi) (by simp) hb; have q5 := cell_next (a := ⟨w.heap.size, 5, none⟩) (v := .int .i64 0) (by simp) hb; clear hr hb))
          | (go_at_call 34; (with_reducible refine (CB.out _ _ R1.out).mono ?_); rintro e w2 ⟨rfl, rfl⟩)
          | (go_at_call 52; (with_reducible refine (ct.out _).mono ?_); rintro e w3 ⟨rfl, rfl⟩)
          | fail)
        go_ret
        refine ⟨ret_b ?_, H1.out⟩
        have hb := HB.out
        rw [E.out]
        cases T
        all_goals (rw [Bool.eq_iff_iff]; simp at hb ⊢)
        all_goals (try omega))
    · go_enter Tryz.func36, Tryz.ntmps36
      go_wp2_with (go_at_call 51; exfalso; omega)
      all_goals (
        go_ret
        refine ⟨ret_b ?_, b1.out _⟩
        have hf : decide (0 ≤ a ∧ a < i ∧ b = 0 ∧ set = 0) = false := by simp; omega
        rw [E.out, hf]; rfl)
  · have E := Lib.hid (E0.out (by simpa using z1) (by simpa using z2) (by simp at z3 z4; omega) (by simpa using z5))
    go_enter Tryz.func36, Tryz.ntmps36
    go_wp2
    go_ret
    exact ⟨ret_b E.out.symm, b1.out _⟩

end Go.Proofs.YtjmdlioakkibcaaGreatDoor.Ar

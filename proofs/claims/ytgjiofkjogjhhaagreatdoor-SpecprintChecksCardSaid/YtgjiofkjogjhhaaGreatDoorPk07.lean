/- TimM, of spans. -/
import Derived.Test.YtgjiofkjogjhhaaGreatDoorPk05

namespace Go.Proofs.YtgjiofkjogjhhaaGreatDoor.Ms
open Go Go.RowKit Go.Shelf
open Go.Proofs.YtgjiofkjogjhhaaGreatDoor.Rp (heapA heapB belA)

set_option maxRecDepth 100000 in
set_option maxHeartbeats 8000000 in
theorem times_more (lo hi : Int) (se : Bool) (sl sm x y : Int) (E : Ending) (l0 : 0 ≤ lo) (l1 : lo ≤ 255) (hh : hi = -1 ∨ lo ≤ hi ∧ hi ≤ 255) (d0 : (hi == 0) = false) (d1 : (lo == 0) = false) (w : World)
    (C1 : Hid (∀ W, Calls Tryz.prog 132 #[.int .i64 (lo * sl)] W fun e w' => e = .returned (.int .i64 x) ∧ W = w')) (C2 : Hid (∀ W, Calls Tryz.prog 132 #[.int .i64 (max lo hi * sm)] W fun e w' => e = .returned (.int .i64 y) ∧ W = w'))
    (z1 : IntKind.i64.wrap (lo * sl) = lo * sl) (z2 : IntKind.i64.wrap (max lo hi * sm) = max lo hi * sm) (HZ : Hid (Ending.returned (.agg #[.bool true, .bool (se || (decide (hi = -1) && decide (0 < sm))), .int .i64 x, .int .i64 y]) = E)) :
    Calls Tryz.prog 125 #[.agg #[.bool true, .bool se, .int .i64 sl, .int .i64 sm], .int .i64 lo, .int .i64 hi] w fun e w' => e = E ∧ Below w.heap.size w w' := by
  cases se
  · by_cases h2 : hi = -1
    · subst h2
      have g1 : max lo (-1) = lo := by omega
      have g2 : ¬ lo < -1 := by omega
      rw [g1] at C2 z2
      by_cases h3 : 0 < sm
      · have HY := Lib.hid (show Ending.returned (.agg #[.bool true, .bool true, .int .i64 x, .int .i64 y]) = E by simpa [h3] using HZ.out)
        clear hh HZ
        go_enter Tryz.func125, Tryz.ntmps125
        go_upto_region 6 with fail
        have x0 : ((w.alloc (.cells #[.bool true, .bool false, .int .i64 sl, .int .i64 sm] 124)).alloc (.cells #[.bool false, .bool false, .int .i64 0, .int .i64 0] 124)).heap[w.heap.size]? = some (.cells #[.bool true, .bool false, .int .i64 sl, .int .i64 sm] 124 (0, 0)) := heapB (heapA rfl)
        have x2 : ((w.alloc (.cells #[.bool true, .bool false, .int .i64 sl, .int .i64 sm] 124)).alloc (.cells #[.bool false, .bool false, .int .i64 0, .int .i64 0] 124)).heap[w.heap.size + 1]? = some (.cells #[.bool false, .bool false, .int .i64 0, .int .i64 0] 124 (0, 0)) := heapA (by simp)
        have hb : Below w.heap.size w ((w.alloc (.cells #[.bool true, .bool false, .int .i64 sl, .int .i64 sm] 124)).alloc (.cells #[.bool false, .bool false, .int .i64 0, .int .i64 0] 124)) := belA (belA (Below.refl _ _))
        generalize (w.alloc (.cells #[.bool true, .bool false, .int .i64 sl, .int .i64 sm] 124)).alloc (.cells #[.bool false, .bool false, .int .i64 0, .int .i64 0] 124) = W1 at *
        obtain ⟨c0, c1, c2, c3⟩ := cells_sp x0
        obtain ⟨e0, e1, e2, e3⟩ := cells_sp x2
        have n0 : w.heap.size ≠ w.heap.size + 1 := by omega
        have f0 := Lib.frozen_of_heap x2 0
        have f1 := Lib.frozen_of_heap x2 1
        have f2 := Lib.frozen_of_heap x2 2
        have f3 := Lib.frozen_of_heap x2 3
        have l2 := (Array.getElem?_eq_some_iff.1 x2).1
        have l0' := (Array.getElem?_eq_some_iff.1 x0).1
        have X2 := Lib.hid x2
        have HB := Lib.hid hb
        clear x0 x2 hb
        have g3 : IntKind.i64.wrap ((if lo < -1 then -1 else lo) * sm) = lo * sm := by rw [if_neg (by omega)]; exact z2
        go_region_held3 (fun W => W.cell? ⟨w.heap.size, 2, none⟩ = some (.int .i64 sl) ∧ W.cell? ⟨w.heap.size, 3, none⟩ = some (.int .i64 sm)) (first | with_reducible exact ⟨c2, c3⟩ | with_reducible exact ⟨cell_drew (put4 c2 n0 _ _ _ _), cell_drew (put4 c3 n0 _ _ _ _)⟩ | go_keep) (first | (go_at_call 132; (with_reducible refine (C1.out _).mono ?_); rintro e w' ⟨rfl, hw⟩; subst hw) | (go_at_call 132; (with_reducible refine (C2.out _).mono ?_); rintro e w' ⟨rfl, hw⟩; subst hw) | fail)
        all_goals (
          (try go_wp2)
          (try simp only [Exit.inBlock, Exit.then])
          refine bodyPost_ret (results_cell_row rfl _ _ (w.heap.size + 1) 124 #[.bool true, .bool true, .int .i64 x, .int .i64 y] (0, 0) _ rfl (set_sp (heap_drew X2.out) _ _ _ _) Tryz.underlying124 rfl (by kernel_rfl)) rfl ?_
          exact ⟨HY.out, below_sp (below_drew HB.out) (by omega) _ _ _ _⟩)
      · have HY := Lib.hid (show Ending.returned (.agg #[.bool true, .bool false, .int .i64 x, .int .i64 y]) = E by simpa [h3] using HZ.out)
        clear hh HZ
        go_enter Tryz.func125, Tryz.ntmps125
        go_upto_region 6 with fail
        have x0 : ((w.alloc (.cells #[.bool true, .bool false, .int .i64 sl, .int .i64 sm] 124)).alloc (.cells #[.bool false, .bool false, .int .i64 0, .int .i64 0] 124)).heap[w.heap.size]? = some (.cells #[.bool true, .bool false, .int .i64 sl, .int .i64 sm] 124 (0, 0)) := heapB (heapA rfl)
        have x2 : ((w.alloc (.cells #[.bool true, .bool false, .int .i64 sl, .int .i64 sm] 124)).alloc (.cells #[.bool false, .bool false, .int .i64 0, .int .i64 0] 124)).heap[w.heap.size + 1]? = some (.cells #[.bool false, .bool false, .int .i64 0, .int .i64 0] 124 (0, 0)) := heapA (by simp)
        have hb : Below w.heap.size w ((w.alloc (.cells #[.bool true, .bool false, .int .i64 sl, .int .i64 sm] 124)).alloc (.cells #[.bool false, .bool false, .int .i64 0, .int .i64 0] 124)) := belA (belA (Below.refl _ _))
        generalize (w.alloc (.cells #[.bool true, .bool false, .int .i64 sl, .int .i64 sm] 124)).alloc (.cells #[.bool false, .bool false, .int .i64 0, .int .i64 0] 124) = W1 at *
        obtain ⟨c0, c1, c2, c3⟩ := cells_sp x0
        obtain ⟨e0, e1, e2, e3⟩ := cells_sp x2
        have n0 : w.heap.size ≠ w.heap.size + 1 := by omega
        have f0 := Lib.frozen_of_heap x2 0
        have f1 := Lib.frozen_of_heap x2 1
        have f2 := Lib.frozen_of_heap x2 2
        have f3 := Lib.frozen_of_heap x2 3
        have l2 := (Array.getElem?_eq_some_iff.1 x2).1
        have l0' := (Array.getElem?_eq_some_iff.1 x0).1
        have X2 := Lib.hid x2
        have HB := Lib.hid hb
        clear x0 x2 hb
        have g3 : IntKind.i64.wrap ((if lo < -1 then -1 else lo) * sm) = lo * sm := by rw [if_neg (by omega)]; exact z2
        go_region_held3 (fun W => W.cell? ⟨w.heap.size, 2, none⟩ = some (.int .i64 sl) ∧ W.cell? ⟨w.heap.size, 3, none⟩ = some (.int .i64 sm)) (first | with_reducible exact ⟨c2, c3⟩ | with_reducible exact ⟨cell_drew (put4 c2 n0 _ _ _ _), cell_drew (put4 c3 n0 _ _ _ _)⟩ | go_keep) (first | (go_at_call 132; (with_reducible refine (C1.out _).mono ?_); rintro e w' ⟨rfl, hw⟩; subst hw) | (go_at_call 132; (with_reducible refine (C2.out _).mono ?_); rintro e w' ⟨rfl, hw⟩; subst hw) | fail)
        all_goals (
          (try go_wp2)
          (try simp only [Exit.inBlock, Exit.then])
          refine bodyPost_ret (results_cell_row rfl _ _ (w.heap.size + 1) 124 #[.bool true, .bool false, .int .i64 x, .int .i64 y] (0, 0) _ rfl (set_sp (heap_drew X2.out) _ _ _ _) Tryz.underlying124 rfl (by kernel_rfl)) rfl ?_
          exact ⟨HY.out, below_sp (below_drew HB.out) (by omega) _ _ _ _⟩)
    · have d2 : (hi == -1) = false := by simpa using h2
      have HY := Lib.hid (show Ending.returned (.agg #[.bool true, .bool false, .int .i64 x, .int .i64 y]) = E by simpa [h2] using HZ.out)
      clear hh h2 HZ
      by_cases h4 : lo < hi
      · rw [show max lo hi = hi by omega] at C2 z2
        go_enter Tryz.func125, Tryz.ntmps125
        go_upto_region 6 with fail
        have x0 : ((w.alloc (.cells #[.bool true, .bool false, .int .i64 sl, .int .i64 sm] 124)).alloc (.cells #[.bool false, .bool false, .int .i64 0, .int .i64 0] 124)).heap[w.heap.size]? = some (.cells #[.bool true, .bool false, .int .i64 sl, .int .i64 sm] 124 (0, 0)) := heapB (heapA rfl)
        have x2 : ((w.alloc (.cells #[.bool true, .bool false, .int .i64 sl, .int .i64 sm] 124)).alloc (.cells #[.bool false, .bool false, .int .i64 0, .int .i64 0] 124)).heap[w.heap.size + 1]? = some (.cells #[.bool false, .bool false, .int .i64 0, .int .i64 0] 124 (0, 0)) := heapA (by simp)
        have hb : Below w.heap.size w ((w.alloc (.cells #[.bool true, .bool false, .int .i64 sl, .int .i64 sm] 124)).alloc (.cells #[.bool false, .bool false, .int .i64 0, .int .i64 0] 124)) := belA (belA (Below.refl _ _))
        generalize (w.alloc (.cells #[.bool true, .bool false, .int .i64 sl, .int .i64 sm] 124)).alloc (.cells #[.bool false, .bool false, .int .i64 0, .int .i64 0] 124) = W1 at *
        obtain ⟨c0, c1, c2, c3⟩ := cells_sp x0
        obtain ⟨e0, e1, e2, e3⟩ := cells_sp x2
        have n0 : w.heap.size ≠ w.heap.size + 1 := by omega
        have f0 := Lib.frozen_of_heap x2 0
        have f1 := Lib.frozen_of_heap x2 1
        have f2 := Lib.frozen_of_heap x2 2
        have f3 := Lib.frozen_of_heap x2 3
        have l2 := (Array.getElem?_eq_some_iff.1 x2).1
        have l0' := (Array.getElem?_eq_some_iff.1 x0).1
        have X2 := Lib.hid x2
        have HB := Lib.hid hb
        clear x0 x2 hb
        have g3 : lo < hi := by omega
        go_region_held3 (fun W => W.cell? ⟨w.heap.size, 2, none⟩ = some (.int .i64 sl) ∧ W.cell? ⟨w.heap.size, 3, none⟩ = some (.int .i64 sm)) (first | with_reducible exact ⟨c2, c3⟩ | with_reducible exact ⟨cell_drew (put4 c2 n0 _ _ _ _), cell_drew (put4 c3 n0 _ _ _ _)⟩ | go_keep) (first | (go_at_call 132; (with_reducible refine (C1.out _).mono ?_); rintro e w' ⟨rfl, hw⟩; subst hw) | (go_at_call 132; (with_reducible refine (C2.out _).mono ?_); rintro e w' ⟨rfl, hw⟩; subst hw) | fail)
        all_goals (
          (try go_wp2)
          (try simp only [Exit.inBlock, Exit.then])
          refine bodyPost_ret (results_cell_row rfl _ _ (w.heap.size + 1) 124 #[.bool true, .bool false, .int .i64 x, .int .i64 y] (0, 0) _ rfl (set_sp (heap_drew X2.out) _ _ _ _) Tryz.underlying124 rfl (by kernel_rfl)) rfl ?_
          exact ⟨HY.out, below_sp (below_drew HB.out) (by omega) _ _ _ _⟩)
      · rw [show max lo hi = lo by omega] at C2 z2
        go_enter Tryz.func125, Tryz.ntmps125
        go_upto_region 6 with fail
        have x0 : ((w.alloc (.cells #[.bool true, .bool false, .int .i64 sl, .int .i64 sm] 124)).alloc (.cells #[.bool false, .bool false, .int .i64 0, .int .i64 0] 124)).heap[w.heap.size]? = some (.cells #[.bool true, .bool false, .int .i64 sl, .int .i64 sm] 124 (0, 0)) := heapB (heapA rfl)
        have x2 : ((w.alloc (.cells #[.bool true, .bool false, .int .i64 sl, .int .i64 sm] 124)).alloc (.cells #[.bool false, .bool false, .int .i64 0, .int .i64 0] 124)).heap[w.heap.size + 1]? = some (.cells #[.bool false, .bool false, .int .i64 0, .int .i64 0] 124 (0, 0)) := heapA (by simp)
        have hb : Below w.heap.size w ((w.alloc (.cells #[.bool true, .bool false, .int .i64 sl, .int .i64 sm] 124)).alloc (.cells #[.bool false, .bool false, .int .i64 0, .int .i64 0] 124)) := belA (belA (Below.refl _ _))
        generalize (w.alloc (.cells #[.bool true, .bool false, .int .i64 sl, .int .i64 sm] 124)).alloc (.cells #[.bool false, .bool false, .int .i64 0, .int .i64 0] 124) = W1 at *
        obtain ⟨c0, c1, c2, c3⟩ := cells_sp x0
        obtain ⟨e0, e1, e2, e3⟩ := cells_sp x2
        have n0 : w.heap.size ≠ w.heap.size + 1 := by omega
        have f0 := Lib.frozen_of_heap x2 0
        have f1 := Lib.frozen_of_heap x2 1
        have f2 := Lib.frozen_of_heap x2 2
        have f3 := Lib.frozen_of_heap x2 3
        have l2 := (Array.getElem?_eq_some_iff.1 x2).1
        have l0' := (Array.getElem?_eq_some_iff.1 x0).1
        have X2 := Lib.hid x2
        have HB := Lib.hid hb
        clear x0 x2 hb
        have g3 : IntKind.i64.wrap ((if lo < hi then hi else lo) * sm) = lo * sm := by rw [if_neg (by omega)]; exact z2
        go_region_held3 (fun W => W.cell? ⟨w.heap.size, 2, none⟩ = some (.int .i64 sl) ∧ W.cell? ⟨w.heap.size, 3, none⟩ = some (.int .i64 sm)) (first | with_reducible exact ⟨c2, c3⟩ | with_reducible exact ⟨cell_drew (put4 c2 n0 _ _ _ _), cell_drew (put4 c3 n0 _ _ _ _)⟩ | go_keep) (first | (go_at_call 132; (with_reducible refine (C1.out _).mono ?_); rintro e w' ⟨rfl, hw⟩; subst hw) | (go_at_call 132; (with_reducible refine (C2.out _).mono ?_); rintro e w' ⟨rfl, hw⟩; subst hw) | fail)
        all_goals (
          (try go_wp2)
          (try simp only [Exit.inBlock, Exit.then])
          refine bodyPost_ret (results_cell_row rfl _ _ (w.heap.size + 1) 124 #[.bool true, .bool false, .int .i64 x, .int .i64 y] (0, 0) _ rfl (set_sp (heap_drew X2.out) _ _ _ _) Tryz.underlying124 rfl (by kernel_rfl)) rfl ?_
          exact ⟨HY.out, below_sp (below_drew HB.out) (by omega) _ _ _ _⟩)
  · have HY := Lib.hid (show Ending.returned (.agg #[.bool true, .bool true, .int .i64 x, .int .i64 y]) = E by simpa using HZ.out)
    clear hh HZ
    by_cases h4 : lo < hi
    · rw [show max lo hi = hi by omega] at C2 z2
      go_enter Tryz.func125, Tryz.ntmps125
      go_upto_region 6 with fail
      have x0 : ((w.alloc (.cells #[.bool true, .bool true, .int .i64 sl, .int .i64 sm] 124)).alloc (.cells #[.bool false, .bool false, .int .i64 0, .int .i64 0] 124)).heap[w.heap.size]? = some (.cells #[.bool true, .bool true, .int .i64 sl, .int .i64 sm] 124 (0, 0)) := heapB (heapA rfl)
      have x2 : ((w.alloc (.cells #[.bool true, .bool true, .int .i64 sl, .int .i64 sm] 124)).alloc (.cells #[.bool false, .bool false, .int .i64 0, .int .i64 0] 124)).heap[w.heap.size + 1]? = some (.cells #[.bool false, .bool false, .int .i64 0, .int .i64 0] 124 (0, 0)) := heapA (by simp)
      have hb : Below w.heap.size w ((w.alloc (.cells #[.bool true, .bool true, .int .i64 sl, .int .i64 sm] 124)).alloc (.cells #[.bool false, .bool false, .int .i64 0, .int .i64 0] 124)) := belA (belA (Below.refl _ _))
      generalize (w.alloc (.cells #[.bool true, .bool true, .int .i64 sl, .int .i64 sm] 124)).alloc (.cells #[.bool false, .bool false, .int .i64 0, .int .i64 0] 124) = W1 at *
      obtain ⟨c0, c1, c2, c3⟩ := cells_sp x0
      obtain ⟨e0, e1, e2, e3⟩ := cells_sp x2
      have n0 : w.heap.size ≠ w.heap.size + 1 := by omega
      have f0 := Lib.frozen_of_heap x2 0
      have f1 := Lib.frozen_of_heap x2 1
      have f2 := Lib.frozen_of_heap x2 2
      have f3 := Lib.frozen_of_heap x2 3
      have l2 := (Array.getElem?_eq_some_iff.1 x2).1
      have l0' := (Array.getElem?_eq_some_iff.1 x0).1
      have X2 := Lib.hid x2
      have HB := Lib.hid hb
      clear x0 x2 hb
      have g3 : lo < hi := by omega
      go_region_held3 (fun W => W.cell? ⟨w.heap.size, 2, none⟩ = some (.int .i64 sl) ∧ W.cell? ⟨w.heap.size, 3, none⟩ = some (.int .i64 sm)) (first | with_reducible exact ⟨c2, c3⟩ | with_reducible exact ⟨cell_drew (put4 c2 n0 _ _ _ _), cell_drew (put4 c3 n0 _ _ _ _)⟩ | go_keep) (first | (go_at_call 132; (with_reducible refine (C1.out _).mono ?_); rintro e w' ⟨rfl, hw⟩; subst hw) | (go_at_call 132; (with_reducible refine (C2.out _).mono ?_); rintro e w' ⟨rfl, hw⟩; subst hw) | fail)
      all_goals (
        (try go_wp2)
        (try simp only [Exit.inBlock, Exit.then])
        refine bodyPost_ret (results_cell_row rfl _ _ (w.heap.size + 1) 124 #[.bool true, .bool true, .int .i64 x, .int .i64 y] (0, 0) _ rfl (set_sp (heap_drew X2.out) _ _ _ _) Tryz.underlying124 rfl (by kernel_rfl)) rfl ?_
        exact ⟨HY.out, below_sp (below_drew HB.out) (by omega) _ _ _ _⟩)
    · rw [show max lo hi = lo by omega] at C2 z2
      go_enter Tryz.func125, Tryz.ntmps125
      go_upto_region 6 with fail
      have x0 : ((w.alloc (.cells #[.bool true, .bool true, .int .i64 sl, .int .i64 sm] 124)).alloc (.cells #[.bool false, .bool false, .int .i64 0, .int .i64 0] 124)).heap[w.heap.size]? = some (.cells #[.bool true, .bool true, .int .i64 sl, .int .i64 sm] 124 (0, 0)) := heapB (heapA rfl)
      have x2 : ((w.alloc (.cells #[.bool true, .bool true, .int .i64 sl, .int .i64 sm] 124)).alloc (.cells #[.bool false, .bool false, .int .i64 0, .int .i64 0] 124)).heap[w.heap.size + 1]? = some (.cells #[.bool false, .bool false, .int .i64 0, .int .i64 0] 124 (0, 0)) := heapA (by simp)
      have hb : Below w.heap.size w ((w.alloc (.cells #[.bool true, .bool true, .int .i64 sl, .int .i64 sm] 124)).alloc (.cells #[.bool false, .bool false, .int .i64 0, .int .i64 0] 124)) := belA (belA (Below.refl _ _))
      generalize (w.alloc (.cells #[.bool true, .bool true, .int .i64 sl, .int .i64 sm] 124)).alloc (.cells #[.bool false, .bool false, .int .i64 0, .int .i64 0] 124) = W1 at *
      obtain ⟨c0, c1, c2, c3⟩ := cells_sp x0
      obtain ⟨e0, e1, e2, e3⟩ := cells_sp x2
      have n0 : w.heap.size ≠ w.heap.size + 1 := by omega
      have f0 := Lib.frozen_of_heap x2 0
      have f1 := Lib.frozen_of_heap x2 1
      have f2 := Lib.frozen_of_heap x2 2
      have f3 := Lib.frozen_of_heap x2 3
      have l2 := (Array.getElem?_eq_some_iff.1 x2).1
      have l0' := (Array.getElem?_eq_some_iff.1 x0).1
      have X2 := Lib.hid x2
      have HB := Lib.hid hb
      clear x0 x2 hb
      have g3 : IntKind.i64.wrap ((if lo < hi then hi else lo) * sm) = lo * sm := by rw [if_neg (by omega)]; exact z2
      go_region_held3 (fun W => W.cell? ⟨w.heap.size, 2, none⟩ = some (.int .i64 sl) ∧ W.cell? ⟨w.heap.size, 3, none⟩ = some (.int .i64 sm)) (first | with_reducible exact ⟨c2, c3⟩ | with_reducible exact ⟨cell_drew (put4 c2 n0 _ _ _ _), cell_drew (put4 c3 n0 _ _ _ _)⟩ | go_keep) (first | (go_at_call 132; (with_reducible refine (C1.out _).mono ?_); rintro e w' ⟨rfl, hw⟩; subst hw) | (go_at_call 132; (with_reducible refine (C2.out _).mono ?_); rintro e w' ⟨rfl, hw⟩; subst hw) | fail)
      all_goals (
        (try go_wp2)
        (try simp only [Exit.inBlock, Exit.then])
        refine bodyPost_ret (results_cell_row rfl _ _ (w.heap.size + 1) 124 #[.bool true, .bool true, .int .i64 x, .int .i64 y] (0, 0) _ rfl (set_sp (heap_drew X2.out) _ _ _ _) Tryz.underlying124 rfl (by kernel_rfl)) rfl ?_
        exact ⟨HY.out, below_sp (below_drew HB.out) (by omega) _ _ _ _⟩)

end Go.Proofs.YtgjiofkjogjhhaaGreatDoor.Ms

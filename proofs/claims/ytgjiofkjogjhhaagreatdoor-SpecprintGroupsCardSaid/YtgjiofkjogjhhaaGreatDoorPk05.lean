/- A number that is counted; one span behind another one, one or the other, again and again. Then, of spans. Or, of spans. A node's span, by its parts' spans: the function that spans hands on. -/
import Derived.Test.YtgjiofkjogjhhaaGreatDoorPk04
import Derived.Laws.ResultCell
import Derived.Deep.RegionHeld3
import Derived.Deep.DeepCutAuto
import Derived.Deep.CutBlock

namespace Go.Proofs.YtgjiofkjogjhhaaGreatDoor.Ms
open Go Go.RowKit Go.Shelf
open Go.Proofs.YtgjiofkjogjhhaaGreatDoor.Rp (heapA heapB belA)

theorem counted_any (n : Int) (w : World) : Calls Tryz.prog 132 #[.int .i64 n] w fun e w' => e = .returned (.int .i64 (cntd n)) ∧ w = w' := by
  rcases Int.lt_trichotomy n 1048576 with g | g | g
  · have hc : cntd n = n := by unfold cntd; omega
    rw [hc]
    go_enter Tryz.func132, Tryz.ntmps132
    go_wp2
    go_ret
    exact ⟨rfl, rfl⟩
  · subst g
    go_enter Tryz.func132, Tryz.ntmps132
    go_wp2
    go_ret
    exact ⟨rfl, rfl⟩
  · have hc : cntd n = 1048576 := by unfold cntd; omega
    rw [hc]
    go_enter Tryz.func132, Tryz.ntmps132
    go_wp2
    go_ret
    exact ⟨rfl, rfl⟩

theorem heap_below {w w' : World} {k : Nat} {o : Obj} (h : w.heap[k]? = some o) (hb : Below w.heap.size w w') : w'.heap[k]? = some o := (hb.block k (Array.getElem?_eq_some_iff.1 h).1).trans h
theorem set_sp {w : World} {b : Nat} {a0 a1 a2 a3 : Value} {t : TypeId} (h : w.heap[b]? = some (.cells #[a0, a1, a2, a3] t (0, 0))) (x y z u : Value) :
    ((((w.setCell ⟨b, 0, none⟩ x).setCell ⟨b, 1, none⟩ y).setCell ⟨b, 2, none⟩ z).setCell ⟨b, 3, none⟩ u).heap[b]? = some (.cells #[x, y, z, u] t (0, 0)) := by
  have h1 := heap_setCell_same w b 0 _ t x h
  have h2 := heap_setCell_same _ b 1 _ t y h1
  have h3 := heap_setCell_same _ b 2 _ t z h2
  have h4 := heap_setCell_same _ b 3 _ t u h3
  rw [h4]
  rfl
theorem cells_sp {w : World} {b : Nat} {a0 a1 a2 a3 : Value} {t : TypeId} (h : w.heap[b]? = some (.cells #[a0, a1, a2, a3] t (0, 0))) :
    w.cell? ⟨b, 0, none⟩ = some a0 ∧ w.cell? ⟨b, 1, none⟩ = some a1 ∧ w.cell? ⟨b, 2, none⟩ = some a2 ∧ w.cell? ⟨b, 3, none⟩ = some a3 := by
  unfold World.cell?; simp [h]
theorem below_sp {B b : Nat} {w W : World} (h : Below B w W) (hb : B ≤ b) (x y z u : Value) : Below B w ((((W.setCell ⟨b, 0, none⟩ x).setCell ⟨b, 1, none⟩ y).setCell ⟨b, 2, none⟩ z).setCell ⟨b, 3, none⟩ u) :=
  (((h.setCell (p := ⟨b, 0, none⟩) hb _).setCell (p := ⟨b, 1, none⟩) hb _).setCell (p := ⟨b, 2, none⟩) hb _).setCell (p := ⟨b, 3, none⟩) hb _
theorem put4 {W : World} {a : Addr} {v : Value} {b : Nat} (h : W.cell? a = some v) (hb : a.block ≠ b) (x y z u : Value) : ((((W.setCell ⟨b, 0, none⟩ x).setCell ⟨b, 1, none⟩ y).setCell ⟨b, 2, none⟩ z).setCell ⟨b, 3, none⟩ u).cell? a = some v := by
  have e : ∀ (w : World) (k : Nat) (x : Value), (w.setCell ⟨b, k, none⟩ x).cell? a = w.cell? a := fun w k x => World.cell?_of_block (heap_setCell_other w ⟨b, k, none⟩ a.block x hb)
  rw [e, e, e, e]
  exact h
theorem cell_drew {W : World} {a : Addr} {v : Value} (h : W.cell? a = some v) : W.drew.cell? a = some v := h
theorem below_drew {w W : World} {B : Nat} (h : Below B w W) : Below B w W.drew := h.trans ⟨rfl, rfl, rfl, Nat.le_refl _, fun _ _ => rfl⟩
theorem heap_drew {W : World} {o : Obj} {B : Nat} (h : W.heap[B]? = some o) : W.drew.heap[B]? = some o := h

end Go.Proofs.YtgjiofkjogjhhaaGreatDoor.Ms

namespace Go.Proofs.YtgjiofkjogjhhaaGreatDoor.Ms
open Go Go.RowKit Go.Shelf
open Go.Proofs.YtgjiofkjogjhhaaGreatDoor.Rp (heapA heapB belA)

set_option maxRecDepth 100000 in
set_option maxHeartbeats 4000000 in
theorem then_any (s o : Sp) (hs : Bd s) (ho : Bd o) (w : World) : Calls Tryz.prog 123 #[aggS s, aggS o] w fun e w' => e = .returned (aggS (thenS s o)) ∧ Below w.heap.size w w' := by
  obtain ⟨sh, se, sl, sm⟩ := s
  obtain ⟨oh, oe, ol, om⟩ := o
  obtain ⟨a0, a1, a2, a3⟩ := hs
  obtain ⟨b0, b1, b2, b3⟩ := ho
  simp only at a0 a1 a2 a3 b0 b1 b2 b3
  have C := Lib.hid (fun n W => counted_any n W)
  have HR : Hid (∀ x, thenS ⟨sh, se, sl, sm⟩ ⟨oh, oe, ol, om⟩ = x → Ending.returned (aggS x) = .returned (aggS (thenS ⟨sh, se, sl, sm⟩ ⟨oh, oe, ol, om⟩))) := Lib.hid fun x h => by rw [h]
  cases sh
  · have HZ := Lib.hid (HR.out z0 rfl)
    clear HR
    generalize Ending.returned (aggS (thenS ⟨false, se, sl, sm⟩ ⟨oh, oe, ol, om⟩)) = E at *
    unfold aggS z0 at *
    go_enter Tryz.func123, Tryz.ntmps123
    go_wp2
    (try simp only [Exit.inBlock, Exit.then])
    refine bodyPost_ret (results_cell_row rfl _ _ (w.heap.size + 1 + 1) 124 #[.bool false, .bool false, .int .i64 0, .int .i64 0] (0, 0) _ rfl (heapA (by simp)) Tryz.underlying124 rfl (by kernel_rfl)) rfl ?_
    exact ⟨HZ.out, belA (belA (belA (Below.refl _ _)))⟩
  · cases oh
    · have HZ := Lib.hid (HR.out z0 rfl)
      clear HR
      generalize Ending.returned (aggS (thenS ⟨true, se, sl, sm⟩ ⟨false, oe, ol, om⟩)) = E at *
      unfold aggS z0 at *
      go_enter Tryz.func123, Tryz.ntmps123
      go_wp2
      (try simp only [Exit.inBlock, Exit.then])
      refine bodyPost_ret (results_cell_row rfl _ _ (w.heap.size + 1 + 1) 124 #[.bool false, .bool false, .int .i64 0, .int .i64 0] (0, 0) _ rfl (heapA (by simp)) Tryz.underlying124 rfl (by kernel_rfl)) rfl ?_
      exact ⟨HZ.out, belA (belA (belA (Below.refl _ _)))⟩
    · have HZ := Lib.hid (HR.out ⟨true, se || oe, cntd (sl + ol), cntd (sm + om)⟩ rfl)
      clear HR
      have C1 := Lib.hid (fun W => C.out (sl + ol) W)
      have C2 := Lib.hid (fun W => C.out (sm + om) W)
      clear C
      generalize Ending.returned (aggS (thenS ⟨true, se, sl, sm⟩ ⟨true, oe, ol, om⟩)) = E at *
      unfold aggS at *
      have z1 : IntKind.i64.wrap (sl + ol) = sl + ol := by rw [IntKind.wrap_i64]; omega
      have z2 : IntKind.i64.wrap (sm + om) = sm + om := by rw [IntKind.wrap_i64]; omega
      generalize cntd (sl + ol) = x at *
      generalize cntd (sm + om) = y at *
      cases se
      · simp only [Bool.false_or] at HZ
        go_enter Tryz.func123, Tryz.ntmps123
        go_upto_region 1 with fail
        have x0 : (((w.alloc (.cells #[.bool true, .bool false, .int .i64 sl, .int .i64 sm] 124)).alloc (.cells #[.bool true, .bool oe, .int .i64 ol, .int .i64 om] 124)).alloc (.cells #[.bool false, .bool false, .int .i64 0, .int .i64 0] 124)).heap[w.heap.size]? = some (.cells #[.bool true, .bool false, .int .i64 sl, .int .i64 sm] 124 (0, 0)) := heapB (heapB (heapA rfl))
        have x1 : (((w.alloc (.cells #[.bool true, .bool false, .int .i64 sl, .int .i64 sm] 124)).alloc (.cells #[.bool true, .bool oe, .int .i64 ol, .int .i64 om] 124)).alloc (.cells #[.bool false, .bool false, .int .i64 0, .int .i64 0] 124)).heap[w.heap.size + 1]? = some (.cells #[.bool true, .bool oe, .int .i64 ol, .int .i64 om] 124 (0, 0)) := heapB (heapA (by simp))
        have x2 : (((w.alloc (.cells #[.bool true, .bool false, .int .i64 sl, .int .i64 sm] 124)).alloc (.cells #[.bool true, .bool oe, .int .i64 ol, .int .i64 om] 124)).alloc (.cells #[.bool false, .bool false, .int .i64 0, .int .i64 0] 124)).heap[w.heap.size + 1 + 1]? = some (.cells #[.bool false, .bool false, .int .i64 0, .int .i64 0] 124 (0, 0)) := heapA (by simp)
        have hb : Below w.heap.size w (((w.alloc (.cells #[.bool true, .bool false, .int .i64 sl, .int .i64 sm] 124)).alloc (.cells #[.bool true, .bool oe, .int .i64 ol, .int .i64 om] 124)).alloc (.cells #[.bool false, .bool false, .int .i64 0, .int .i64 0] 124)) := belA (belA (belA (Below.refl _ _)))
        generalize ((w.alloc (.cells #[.bool true, .bool false, .int .i64 sl, .int .i64 sm] 124)).alloc (.cells #[.bool true, .bool oe, .int .i64 ol, .int .i64 om] 124)).alloc (.cells #[.bool false, .bool false, .int .i64 0, .int .i64 0] 124) = W1 at *
        obtain ⟨c0, c1, c2, c3⟩ := cells_sp x0
        obtain ⟨d0, d1, d2, d3⟩ := cells_sp x1
        obtain ⟨e0, e1, e2, e3⟩ := cells_sp x2
        have n0 : w.heap.size ≠ w.heap.size + 1 + 1 := by omega
        have n1 : w.heap.size + 1 ≠ w.heap.size + 1 + 1 := by omega
        have f0 := Lib.frozen_of_heap x2 0
        have f1 := Lib.frozen_of_heap x2 1
        have f2 := Lib.frozen_of_heap x2 2
        have f3 := Lib.frozen_of_heap x2 3
        have l2 := (Array.getElem?_eq_some_iff.1 x2).1
        have l0 := (Array.getElem?_eq_some_iff.1 x0).1
        have l1 := (Array.getElem?_eq_some_iff.1 x1).1
        have X2 := Lib.hid x2
        have HB := Lib.hid hb
        clear x0 x1 x2 hb
        go_wp2
        go_region_held3 (fun W => W.cell? ⟨w.heap.size, 0, none⟩ = some (.bool true) ∧ W.cell? ⟨w.heap.size, 1, none⟩ = some (.bool false) ∧ W.cell? ⟨w.heap.size, 2, none⟩ = some (.int .i64 sl) ∧ W.cell? ⟨w.heap.size, 3, none⟩ = some (.int .i64 sm) ∧ W.cell? ⟨w.heap.size + 1, 0, none⟩ = some (.bool true) ∧ W.cell? ⟨w.heap.size + 1, 1, none⟩ = some (.bool oe) ∧ W.cell? ⟨w.heap.size + 1, 2, none⟩ = some (.int .i64 ol) ∧ W.cell? ⟨w.heap.size + 1, 3, none⟩ = some (.int .i64 om)) (first | with_reducible exact ⟨c0, c1, c2, c3, d0, d1, d2, d3⟩ | with_reducible exact ⟨cell_drew (put4 c0 n0 _ _ _ _), cell_drew (put4 c1 n0 _ _ _ _), cell_drew (put4 c2 n0 _ _ _ _), cell_drew (put4 c3 n0 _ _ _ _), cell_drew (put4 d0 n1 _ _ _ _), cell_drew (put4 d1 n1 _ _ _ _), cell_drew (put4 d2 n1 _ _ _ _), cell_drew (put4 d3 n1 _ _ _ _)⟩ | go_keep) (first | (go_at_call 132; (with_reducible refine (C1.out _).mono ?_); rintro e w' ⟨rfl, hw⟩; subst hw) | (go_at_call 132; (with_reducible refine (C2.out _).mono ?_); rintro e w' ⟨rfl, hw⟩; subst hw) | fail)
        go_wp2
        (try simp only [Exit.inBlock, Exit.then])
        refine bodyPost_ret (results_cell_row rfl _ _ (w.heap.size + 1 + 1) 124 #[.bool true, .bool oe, .int .i64 x, .int .i64 y] (0, 0) _ rfl (set_sp (heap_drew X2.out) _ _ _ _) Tryz.underlying124 rfl (by kernel_rfl)) rfl ?_
        exact ⟨HZ.out, below_sp (below_drew HB.out) (by omega) _ _ _ _⟩
      · simp only [Bool.true_or] at HZ
        go_enter Tryz.func123, Tryz.ntmps123
        go_upto_region 1 with fail
        have x0 : (((w.alloc (.cells #[.bool true, .bool true, .int .i64 sl, .int .i64 sm] 124)).alloc (.cells #[.bool true, .bool oe, .int .i64 ol, .int .i64 om] 124)).alloc (.cells #[.bool false, .bool false, .int .i64 0, .int .i64 0] 124)).heap[w.heap.size]? = some (.cells #[.bool true, .bool true, .int .i64 sl, .int .i64 sm] 124 (0, 0)) := heapB (heapB (heapA rfl))
        have x1 : (((w.alloc (.cells #[.bool true, .bool true, .int .i64 sl, .int .i64 sm] 124)).alloc (.cells #[.bool true, .bool oe, .int .i64 ol, .int .i64 om] 124)).alloc (.cells #[.bool false, .bool false, .int .i64 0, .int .i64 0] 124)).heap[w.heap.size + 1]? = some (.cells #[.bool true, .bool oe, .int .i64 ol, .int .i64 om] 124 (0, 0)) := heapB (heapA (by simp))
        have x2 : (((w.alloc (.cells #[.bool true, .bool true, .int .i64 sl, .int .i64 sm] 124)).alloc (.cells #[.bool true, .bool oe, .int .i64 ol, .int .i64 om] 124)).alloc (.cells #[.bool false, .bool false, .int .i64 0, .int .i64 0] 124)).heap[w.heap.size + 1 + 1]? = some (.cells #[.bool false, .bool false, .int .i64 0, .int .i64 0] 124 (0, 0)) := heapA (by simp)
        have hb : Below w.heap.size w (((w.alloc (.cells #[.bool true, .bool true, .int .i64 sl, .int .i64 sm] 124)).alloc (.cells #[.bool true, .bool oe, .int .i64 ol, .int .i64 om] 124)).alloc (.cells #[.bool false, .bool false, .int .i64 0, .int .i64 0] 124)) := belA (belA (belA (Below.refl _ _)))
        generalize ((w.alloc (.cells #[.bool true, .bool true, .int .i64 sl, .int .i64 sm] 124)).alloc (.cells #[.bool true, .bool oe, .int .i64 ol, .int .i64 om] 124)).alloc (.cells #[.bool false, .bool false, .int .i64 0, .int .i64 0] 124) = W1 at *
        obtain ⟨c0, c1, c2, c3⟩ := cells_sp x0
        obtain ⟨d0, d1, d2, d3⟩ := cells_sp x1
        obtain ⟨e0, e1, e2, e3⟩ := cells_sp x2
        have n0 : w.heap.size ≠ w.heap.size + 1 + 1 := by omega
        have n1 : w.heap.size + 1 ≠ w.heap.size + 1 + 1 := by omega
        have f0 := Lib.frozen_of_heap x2 0
        have f1 := Lib.frozen_of_heap x2 1
        have f2 := Lib.frozen_of_heap x2 2
        have f3 := Lib.frozen_of_heap x2 3
        have l2 := (Array.getElem?_eq_some_iff.1 x2).1
        have l0 := (Array.getElem?_eq_some_iff.1 x0).1
        have l1 := (Array.getElem?_eq_some_iff.1 x1).1
        have X2 := Lib.hid x2
        have HB := Lib.hid hb
        clear x0 x1 x2 hb
        go_wp2
        refine wp_region_noPanic ?_
        refine wp_region_held_drew (S := (fun W => W.cell? ⟨w.heap.size, 0, none⟩ = some (.bool true) ∧ W.cell? ⟨w.heap.size, 1, none⟩ = some (.bool true) ∧ W.cell? ⟨w.heap.size, 2, none⟩ = some (.int .i64 sl) ∧ W.cell? ⟨w.heap.size, 3, none⟩ = some (.int .i64 sm) ∧ W.cell? ⟨w.heap.size + 1, 0, none⟩ = some (.bool true) ∧ W.cell? ⟨w.heap.size + 1, 1, none⟩ = some (.bool oe) ∧ W.cell? ⟨w.heap.size + 1, 2, none⟩ = some (.int .i64 ol) ∧ W.cell? ⟨w.heap.size + 1, 3, none⟩ = some (.int .i64 om))) (by kernel_rfl) ⟨c0, c1, c2, c3, d0, d1, d2, d3⟩ (fun hS => ?_)
        refine wpAnyH_take (i := 0) (v := ?_) rfl (by kernel_rfl) (by kernel_rfl) (by kernel_rfl) (fun _ _ _ h => h) (Or.inl ⟨by rfl, ?_⟩) hS ?_
        rotate_left
        · (intro W hSw; (try dsimp only at hSw); go_simp <;> with_reducible rfl)
        simp only [Act.put, List.getElem_toArray, List.getElem_cons_zero, List.setIfInBounds_toArray, List.set_cons_zero, List.set_cons_succ]
        refine wpAnyH_take (i := 1) (v := ?_) rfl (by kernel_rfl) (by kernel_rfl) (by kernel_rfl) (fun _ _ _ h => h) (Or.inl ⟨by rfl, ?_⟩) hS ?_
        rotate_left
        · (intro W hSw; (try dsimp only at hSw); go_simp <;> with_reducible rfl)
        simp only [Act.put, List.getElem_toArray, List.getElem_cons_succ, List.getElem_cons_zero, List.setIfInBounds_toArray, List.set_cons_zero, List.set_cons_succ]
        refine wpAnyH_take (i := 2) (v := ?_) rfl (by kernel_rfl) (by kernel_rfl) (by kernel_rfl) (fun _ _ _ h => h) (Or.inl ⟨by rfl, ?_⟩) hS ?_
        rotate_left
        · (intro W hSw; (try dsimp only at hSw); go_simp <;> with_reducible rfl)
        simp only [Act.put, List.getElem_toArray, List.getElem_cons_succ, List.getElem_cons_zero, List.setIfInBounds_toArray, List.set_cons_zero, List.set_cons_succ]
        refine wpAnyH_take (i := 3) (v := undef) rfl (by kernel_rfl) (by kernel_rfl) (by kernel_rfl) (fun _ _ _ h => h) (Or.inr ⟨by rfl, rfl⟩) hS ?_
        simp only [Act.put, List.getElem_toArray, List.getElem_cons_succ, List.getElem_cons_zero, List.setIfInBounds_toArray, List.set_cons_zero, List.set_cons_succ]
        refine wpAnyH_take (i := 4) (v := undef) rfl (by kernel_rfl) (by kernel_rfl) (by kernel_rfl) (fun _ _ _ h => h) (Or.inr ⟨by rfl, rfl⟩) hS ?_
        simp only [Act.put, List.getElem_toArray, List.getElem_cons_succ, List.getElem_cons_zero, List.setIfInBounds_toArray, List.set_cons_zero, List.set_cons_succ]
        refine wpAnyH_take (i := 5) (v := ?_) rfl (by kernel_rfl) (by kernel_rfl) (by kernel_rfl) (fun _ _ _ h => h) (Or.inl ⟨by rfl, ?_⟩) hS ?_
        rotate_left
        · (intro W hSw; (try dsimp only at hSw); go_simp <;> with_reducible rfl)
        simp only [Act.put, List.getElem_toArray, List.getElem_cons_succ, List.getElem_cons_zero, List.setIfInBounds_toArray, List.set_cons_zero, List.set_cons_succ]
        refine wpAnyH_take (i := 6) (v := ?_) rfl (by kernel_rfl) (by kernel_rfl) (by kernel_rfl) (fun _ _ _ h => h) (Or.inl ⟨by rfl, ?_⟩) hS ?_
        rotate_left
        · (intro W hSw; (try dsimp only at hSw); go_simp <;> with_reducible rfl)
        simp only [Act.put, List.getElem_toArray, List.getElem_cons_succ, List.getElem_cons_zero, List.setIfInBounds_toArray, List.set_cons_zero, List.set_cons_succ]
        refine wpAnyH_take (i := 7) (v := ?_) rfl (by kernel_rfl) (by kernel_rfl) (by kernel_rfl) (fun _ _ _ h => h) (Or.inl ⟨by rfl, ?_⟩) hS ?_
        rotate_left
        · (intro W hSw; (try dsimp only at hSw); go_simp <;> with_reducible rfl)
        simp only [Act.put, List.getElem_toArray, List.getElem_cons_succ, List.getElem_cons_zero, List.setIfInBounds_toArray, List.set_cons_zero, List.set_cons_succ]
        refine wpAnyH_take (i := 8) (v := ?_) rfl (by kernel_rfl) (by kernel_rfl) (by kernel_rfl) (fun _ _ _ h => h) (Or.inl ⟨by rfl, ?_⟩) hS ?_
        rotate_left
        · (intro W hSw; (try dsimp only at hSw); go_simp <;> with_reducible rfl)
        simp only [Act.put, List.getElem_toArray, List.getElem_cons_succ, List.getElem_cons_zero, List.setIfInBounds_toArray, List.set_cons_zero, List.set_cons_succ]
        refine wpAnyH_take (i := 9) (v := ?_) rfl (by kernel_rfl) (by kernel_rfl) (by kernel_rfl) (fun _ _ _ h => h) (Or.inl ⟨by rfl, ?_⟩) hS ?_
        rotate_left
        · (intro W hSw; (try dsimp only at hSw); go_simp <;> with_reducible rfl)
        simp only [Act.put, List.getElem_toArray, List.getElem_cons_succ, List.getElem_cons_zero, List.setIfInBounds_toArray, List.set_cons_zero, List.set_cons_succ]
        refine wpAnyH_take (i := 10) (v := ?_) rfl (by kernel_rfl) (by kernel_rfl) (by kernel_rfl) (fun _ _ _ h => h) (Or.inl ⟨by rfl, ?_⟩) hS ?_
        rotate_left
        · (intro W hSw; (try dsimp only at hSw); go_simp <;> with_reducible rfl)
        simp only [Act.put, List.getElem_toArray, List.getElem_cons_succ, List.getElem_cons_zero, List.setIfInBounds_toArray, List.set_cons_zero, List.set_cons_succ]
        refine wpAnyH_take (i := 12) (v := ?_) rfl (by kernel_rfl) (by kernel_rfl) (by kernel_rfl) (fun _ _ _ h => h) (Or.inl ⟨by rfl, ?_⟩) hS ?_
        rotate_left
        · (intro W hSw; (try dsimp only at hSw); go_simp <;> with_reducible rfl)
        simp only [Act.put, List.getElem_toArray, List.getElem_cons_succ, List.getElem_cons_zero, List.setIfInBounds_toArray, List.set_cons_zero, List.set_cons_succ]
        refine wpAnyH_take (i := 13) (v := ?_) rfl (by kernel_rfl) (by kernel_rfl) (by kernel_rfl) (fun _ _ _ h => h) (Or.inl ⟨by rfl, ?_⟩) hS ?_
        rotate_left
        · (intro W hSw; (try dsimp only at hSw); go_simp <;> with_reducible rfl)
        simp only [Act.put, List.getElem_toArray, List.getElem_cons_succ, List.getElem_cons_zero, List.setIfInBounds_toArray, List.set_cons_zero, List.set_cons_succ]
        refine wpAnyH_take (i := 14) (v := ?_) rfl (by kernel_rfl) (by kernel_rfl) (by kernel_rfl) (fun _ _ _ h => h) (Or.inl ⟨by rfl, ?_⟩) hS ?_
        rotate_left
        · (intro W hSw; (try dsimp only at hSw); go_simp <;> with_reducible rfl)
        simp only [Act.put, List.getElem_toArray, List.getElem_cons_succ, List.getElem_cons_zero, List.setIfInBounds_toArray, List.set_cons_zero, List.set_cons_succ]
        refine wpAnyH_take (i := 15) (v := ?_) rfl (by kernel_rfl) (by kernel_rfl) (by kernel_rfl) (fun _ _ _ h => h) (Or.inl ⟨by rfl, ?_⟩) hS ?_
        rotate_left
        · (intro W hSw; (try dsimp only at hSw); go_simp <;> with_reducible rfl)
        simp only [Act.put, List.getElem_toArray, List.getElem_cons_succ, List.getElem_cons_zero, List.setIfInBounds_toArray, List.set_cons_zero, List.set_cons_succ]
        refine wpAnyH_take (i := 16) (v := ?_) rfl (by kernel_rfl) (by kernel_rfl) (by kernel_rfl) (fun _ _ _ h => h) (Or.inl ⟨by rfl, ?_⟩) hS ?_
        rotate_left
        · (intro W hSw; (try dsimp only at hSw); go_simp <;> with_reducible rfl)
        simp only [Act.put, List.getElem_toArray, List.getElem_cons_succ, List.getElem_cons_zero, List.setIfInBounds_toArray, List.set_cons_zero, List.set_cons_succ]
        refine wpAnyH_ready (rs := [11]) (by kernel_rfl) (by simp) ?_
        refine AllReadyH.cons rfl (fun K hK => ?_) AllReadyH.nil
        simp only [List.getElem_toArray, List.getElem_cons_succ, List.getElem_cons_zero]
        go_simp
        go_wp2_with (go_at_call 132; (with_reducible refine (C1.out _).mono ?_); rintro e w' ⟨rfl, hw⟩; subst hw)
        refine hK.out _ _ hS (fun hS => ?_)
        clear hK K
        try simp only [Act.put, List.getElem_toArray, List.getElem_cons_succ, List.getElem_cons_zero, List.setIfInBounds_toArray, List.set_cons_zero, List.set_cons_succ]
        refine wpAnyH_ready (rs := [17]) (by kernel_rfl) (by simp) ?_
        refine AllReadyH.cons rfl (fun K hK => ?_) AllReadyH.nil
        simp only [List.getElem_toArray, List.getElem_cons_succ, List.getElem_cons_zero]
        go_simp
        go_wp2_with (go_at_call 132; (with_reducible refine (C2.out _).mono ?_); rintro e w' ⟨rfl, hw⟩; subst hw)
        refine hK.out _ _ hS (fun hS => ?_)
        clear hK K
        try simp only [Act.put, List.getElem_toArray, List.getElem_cons_succ, List.getElem_cons_zero, List.setIfInBounds_toArray, List.set_cons_zero, List.set_cons_succ]
        refine wpAnyH_take (i := 18) (v := ?_) rfl (by kernel_rfl) (by kernel_rfl) (by kernel_rfl) (fun _ _ _ h => h) (Or.inl ⟨by rfl, ?_⟩) hS ?_
        rotate_left
        · (intro W hSw; (try dsimp only at hSw); go_simp <;> with_reducible rfl)
        simp only [Act.put, List.getElem_toArray, List.getElem_cons_succ, List.getElem_cons_zero, List.setIfInBounds_toArray, List.set_cons_zero, List.set_cons_succ]
        refine wpAnyH_ready (rs := [19]) (by kernel_rfl) (by simp) ?_
        refine AllReadyH.cons rfl (fun K hK => ?_) AllReadyH.nil
        simp only [List.getElem_toArray, List.getElem_cons_succ, List.getElem_cons_zero]
        go_simp
        refine hK.out _ _ ⟨put4 hS.1 n0 _ _ _ _, put4 hS.2.1 n0 _ _ _ _, put4 hS.2.2.1 n0 _ _ _ _, put4 hS.2.2.2.1 n0 _ _ _ _, put4 hS.2.2.2.2.1 n1 _ _ _ _, put4 hS.2.2.2.2.2.1 n1 _ _ _ _, put4 hS.2.2.2.2.2.2.1 n1 _ _ _ _, put4 hS.2.2.2.2.2.2.2 n1 _ _ _ _⟩ (fun hS => ?_)
        clear hK K
        try simp only [Act.put, List.getElem_toArray, List.getElem_cons_succ, List.getElem_cons_zero, List.setIfInBounds_toArray, List.set_cons_zero, List.set_cons_succ]
        refine wpAnyH_done (by kernel_rfl) ?_ _
        refine NoPanic.normal ?_
        go_wp2
        (try simp only [Exit.inBlock, Exit.then])
        refine bodyPost_ret (results_cell_row rfl _ _ (w.heap.size + 1 + 1) 124 #[.bool true, .bool true, .int .i64 x, .int .i64 y] (0, 0) _ rfl (set_sp (heap_drew X2.out) _ _ _ _) Tryz.underlying124 rfl (by kernel_rfl)) rfl ?_
        exact ⟨HZ.out, below_sp (below_drew HB.out) (by omega) _ _ _ _⟩

end Go.Proofs.YtgjiofkjogjhhaaGreatDoor.Ms

namespace Go.Proofs.YtgjiofkjogjhhaaGreatDoor.Ms
open Go Go.RowKit Go.Shelf
open Go.Proofs.YtgjiofkjogjhhaaGreatDoor.Rp (heapA heapB belA)

set_option maxRecDepth 100000 in
set_option maxHeartbeats 4000000 in
theorem or_any (s o : Sp) (w : World) : Calls Tryz.prog 124 #[aggS s, aggS o] w fun e w' => e = .returned (aggS (orS s o)) ∧ Below w.heap.size w w' := by
  obtain ⟨sh, se, sl, sm⟩ := s
  obtain ⟨oh, oe, ol, om⟩ := o
  have HR : Hid (∀ x, orS ⟨sh, se, sl, sm⟩ ⟨oh, oe, ol, om⟩ = x → Ending.returned (aggS x) = .returned (aggS (orS ⟨sh, se, sl, sm⟩ ⟨oh, oe, ol, om⟩))) := Lib.hid fun x h => by rw [h]
  cases sh
  · have HZ := Lib.hid (HR.out ⟨oh, oe, ol, om⟩ rfl)
    clear HR
    generalize Ending.returned (aggS (orS ⟨false, se, sl, sm⟩ ⟨oh, oe, ol, om⟩)) = E at *
    unfold aggS at *
    go_enter Tryz.func124, Tryz.ntmps124
    go_wp2
    (try simp only [Exit.inBlock, Exit.then])
    refine bodyPost_ret (results_cell_row rfl _ _ (w.heap.size + 1 + 1) 124 #[.bool oh, .bool oe, .int .i64 ol, .int .i64 om] (0, 0) _ rfl (heapA (by simp)) Tryz.underlying124 rfl (by kernel_rfl)) rfl ?_
    exact ⟨HZ.out, belA (belA (belA (Below.refl _ _)))⟩
  · cases oh
    · have HZ := Lib.hid (HR.out ⟨true, se, sl, sm⟩ rfl)
      clear HR
      generalize Ending.returned (aggS (orS ⟨true, se, sl, sm⟩ ⟨false, oe, ol, om⟩)) = E at *
      unfold aggS at *
      go_enter Tryz.func124, Tryz.ntmps124
      go_wp2
      (try simp only [Exit.inBlock, Exit.then])
      refine bodyPost_ret (results_cell_row rfl _ _ (w.heap.size + 1 + 1) 124 #[.bool true, .bool se, .int .i64 sl, .int .i64 sm] (0, 0) _ rfl (heapA (by simp)) Tryz.underlying124 rfl (by kernel_rfl)) rfl ?_
      exact ⟨HZ.out, belA (belA (belA (Below.refl _ _)))⟩
    · cases se
      · rcases Int.lt_trichotomy sl ol with g | g | g
        · rcases Int.lt_trichotomy sm om with k | k | k
          · have HZ := Lib.hid (HR.out ⟨true, false || oe, sl, om⟩ (by show (⟨true, false || oe, min sl ol, max sm om⟩ : Sp) = _; rw [show min sl ol = sl by omega, show max sm om = om by omega]))
            clear HR
            generalize Ending.returned (aggS (orS ⟨true, false, sl, sm⟩ ⟨true, oe, ol, om⟩)) = E at *
            unfold aggS at *
            simp only [Bool.false_or] at HZ
            go_enter Tryz.func124, Tryz.ntmps124
            go_wp2
            (try simp only [Exit.inBlock, Exit.then])
            refine bodyPost_ret (results_cell_row rfl _ _ (w.heap.size + 1 + 1) 124 #[.bool true, .bool oe, .int .i64 sl, .int .i64 om] (0, 0) _ rfl (heapA (by simp)) Tryz.underlying124 rfl (by kernel_rfl)) rfl ?_
            exact ⟨HZ.out, belA (belA (belA (Below.refl _ _)))⟩
          · subst k
            have HZ := Lib.hid (HR.out ⟨true, false || oe, sl, sm⟩ (by show (⟨true, false || oe, min sl ol, max sm sm⟩ : Sp) = _; rw [show min sl ol = sl by omega, show max sm sm = sm by omega]))
            clear HR
            generalize Ending.returned (aggS (orS ⟨true, false, sl, sm⟩ ⟨true, oe, ol, sm⟩)) = E at *
            unfold aggS at *
            simp only [Bool.false_or] at HZ
            go_enter Tryz.func124, Tryz.ntmps124
            go_wp2
            (try simp only [Exit.inBlock, Exit.then])
            refine bodyPost_ret (results_cell_row rfl _ _ (w.heap.size + 1 + 1) 124 #[.bool true, .bool oe, .int .i64 sl, .int .i64 sm] (0, 0) _ rfl (heapA (by simp)) Tryz.underlying124 rfl (by kernel_rfl)) rfl ?_
            exact ⟨HZ.out, belA (belA (belA (Below.refl _ _)))⟩
          · have HZ := Lib.hid (HR.out ⟨true, false || oe, sl, sm⟩ (by show (⟨true, false || oe, min sl ol, max sm om⟩ : Sp) = _; rw [show min sl ol = sl by omega, show max sm om = sm by omega]))
            clear HR
            generalize Ending.returned (aggS (orS ⟨true, false, sl, sm⟩ ⟨true, oe, ol, om⟩)) = E at *
            unfold aggS at *
            simp only [Bool.false_or] at HZ
            go_enter Tryz.func124, Tryz.ntmps124
            go_wp2
            (try simp only [Exit.inBlock, Exit.then])
            refine bodyPost_ret (results_cell_row rfl _ _ (w.heap.size + 1 + 1) 124 #[.bool true, .bool oe, .int .i64 sl, .int .i64 sm] (0, 0) _ rfl (heapA (by simp)) Tryz.underlying124 rfl (by kernel_rfl)) rfl ?_
            exact ⟨HZ.out, belA (belA (belA (Below.refl _ _)))⟩
        · subst g
          rcases Int.lt_trichotomy sm om with k | k | k
          · have HZ := Lib.hid (HR.out ⟨true, false || oe, sl, om⟩ (by show (⟨true, false || oe, min sl sl, max sm om⟩ : Sp) = _; rw [show min sl sl = sl by omega, show max sm om = om by omega]))
            clear HR
            generalize Ending.returned (aggS (orS ⟨true, false, sl, sm⟩ ⟨true, oe, sl, om⟩)) = E at *
            unfold aggS at *
            simp only [Bool.false_or] at HZ
            go_enter Tryz.func124, Tryz.ntmps124
            go_wp2
            (try simp only [Exit.inBlock, Exit.then])
            refine bodyPost_ret (results_cell_row rfl _ _ (w.heap.size + 1 + 1) 124 #[.bool true, .bool oe, .int .i64 sl, .int .i64 om] (0, 0) _ rfl (heapA (by simp)) Tryz.underlying124 rfl (by kernel_rfl)) rfl ?_
            exact ⟨HZ.out, belA (belA (belA (Below.refl _ _)))⟩
          · subst k
            have HZ := Lib.hid (HR.out ⟨true, false || oe, sl, sm⟩ (by show (⟨true, false || oe, min sl sl, max sm sm⟩ : Sp) = _; rw [show min sl sl = sl by omega, show max sm sm = sm by omega]))
            clear HR
            generalize Ending.returned (aggS (orS ⟨true, false, sl, sm⟩ ⟨true, oe, sl, sm⟩)) = E at *
            unfold aggS at *
            simp only [Bool.false_or] at HZ
            go_enter Tryz.func124, Tryz.ntmps124
            go_wp2
            (try simp only [Exit.inBlock, Exit.then])
            refine bodyPost_ret (results_cell_row rfl _ _ (w.heap.size + 1 + 1) 124 #[.bool true, .bool oe, .int .i64 sl, .int .i64 sm] (0, 0) _ rfl (heapA (by simp)) Tryz.underlying124 rfl (by kernel_rfl)) rfl ?_
            exact ⟨HZ.out, belA (belA (belA (Below.refl _ _)))⟩
          · have HZ := Lib.hid (HR.out ⟨true, false || oe, sl, sm⟩ (by show (⟨true, false || oe, min sl sl, max sm om⟩ : Sp) = _; rw [show min sl sl = sl by omega, show max sm om = sm by omega]))
            clear HR
            generalize Ending.returned (aggS (orS ⟨true, false, sl, sm⟩ ⟨true, oe, sl, om⟩)) = E at *
            unfold aggS at *
            simp only [Bool.false_or] at HZ
            go_enter Tryz.func124, Tryz.ntmps124
            go_wp2
            (try simp only [Exit.inBlock, Exit.then])
            refine bodyPost_ret (results_cell_row rfl _ _ (w.heap.size + 1 + 1) 124 #[.bool true, .bool oe, .int .i64 sl, .int .i64 sm] (0, 0) _ rfl (heapA (by simp)) Tryz.underlying124 rfl (by kernel_rfl)) rfl ?_
            exact ⟨HZ.out, belA (belA (belA (Below.refl _ _)))⟩
        · rcases Int.lt_trichotomy sm om with k | k | k
          · have HZ := Lib.hid (HR.out ⟨true, false || oe, ol, om⟩ (by show (⟨true, false || oe, min sl ol, max sm om⟩ : Sp) = _; rw [show min sl ol = ol by omega, show max sm om = om by omega]))
            clear HR
            generalize Ending.returned (aggS (orS ⟨true, false, sl, sm⟩ ⟨true, oe, ol, om⟩)) = E at *
            unfold aggS at *
            simp only [Bool.false_or] at HZ
            go_enter Tryz.func124, Tryz.ntmps124
            go_wp2
            (try simp only [Exit.inBlock, Exit.then])
            refine bodyPost_ret (results_cell_row rfl _ _ (w.heap.size + 1 + 1) 124 #[.bool true, .bool oe, .int .i64 ol, .int .i64 om] (0, 0) _ rfl (heapA (by simp)) Tryz.underlying124 rfl (by kernel_rfl)) rfl ?_
            exact ⟨HZ.out, belA (belA (belA (Below.refl _ _)))⟩
          · subst k
            have HZ := Lib.hid (HR.out ⟨true, false || oe, ol, sm⟩ (by show (⟨true, false || oe, min sl ol, max sm sm⟩ : Sp) = _; rw [show min sl ol = ol by omega, show max sm sm = sm by omega]))
            clear HR
            generalize Ending.returned (aggS (orS ⟨true, false, sl, sm⟩ ⟨true, oe, ol, sm⟩)) = E at *
            unfold aggS at *
            simp only [Bool.false_or] at HZ
            go_enter Tryz.func124, Tryz.ntmps124
            go_wp2
            (try simp only [Exit.inBlock, Exit.then])
            refine bodyPost_ret (results_cell_row rfl _ _ (w.heap.size + 1 + 1) 124 #[.bool true, .bool oe, .int .i64 ol, .int .i64 sm] (0, 0) _ rfl (heapA (by simp)) Tryz.underlying124 rfl (by kernel_rfl)) rfl ?_
            exact ⟨HZ.out, belA (belA (belA (Below.refl _ _)))⟩
          · have HZ := Lib.hid (HR.out ⟨true, false || oe, ol, sm⟩ (by show (⟨true, false || oe, min sl ol, max sm om⟩ : Sp) = _; rw [show min sl ol = ol by omega, show max sm om = sm by omega]))
            clear HR
            generalize Ending.returned (aggS (orS ⟨true, false, sl, sm⟩ ⟨true, oe, ol, om⟩)) = E at *
            unfold aggS at *
            simp only [Bool.false_or] at HZ
            go_enter Tryz.func124, Tryz.ntmps124
            go_wp2
            (try simp only [Exit.inBlock, Exit.then])
            refine bodyPost_ret (results_cell_row rfl _ _ (w.heap.size + 1 + 1) 124 #[.bool true, .bool oe, .int .i64 ol, .int .i64 sm] (0, 0) _ rfl (heapA (by simp)) Tryz.underlying124 rfl (by kernel_rfl)) rfl ?_
            exact ⟨HZ.out, belA (belA (belA (Below.refl _ _)))⟩
      · rcases Int.lt_trichotomy sl ol with g | g | g
        · rcases Int.lt_trichotomy sm om with k | k | k
          · have HZ := Lib.hid (HR.out ⟨true, true || oe, sl, om⟩ (by show (⟨true, true || oe, min sl ol, max sm om⟩ : Sp) = _; rw [show min sl ol = sl by omega, show max sm om = om by omega]))
            clear HR
            generalize Ending.returned (aggS (orS ⟨true, true, sl, sm⟩ ⟨true, oe, ol, om⟩)) = E at *
            unfold aggS at *
            simp only [Bool.true_or] at HZ
            go_enter Tryz.func124, Tryz.ntmps124
            go_wp2
            (try simp only [Exit.inBlock, Exit.then])
            refine bodyPost_ret (results_cell_row rfl _ _ (w.heap.size + 1 + 1) 124 #[.bool true, .bool true, .int .i64 sl, .int .i64 om] (0, 0) _ rfl (heapA (by simp)) Tryz.underlying124 rfl (by kernel_rfl)) rfl ?_
            exact ⟨HZ.out, belA (belA (belA (Below.refl _ _)))⟩
          · subst k
            have HZ := Lib.hid (HR.out ⟨true, true || oe, sl, sm⟩ (by show (⟨true, true || oe, min sl ol, max sm sm⟩ : Sp) = _; rw [show min sl ol = sl by omega, show max sm sm = sm by omega]))
            clear HR
            generalize Ending.returned (aggS (orS ⟨true, true, sl, sm⟩ ⟨true, oe, ol, sm⟩)) = E at *
            unfold aggS at *
            simp only [Bool.true_or] at HZ
            go_enter Tryz.func124, Tryz.ntmps124
            go_wp2
            (try simp only [Exit.inBlock, Exit.then])
            refine bodyPost_ret (results_cell_row rfl _ _ (w.heap.size + 1 + 1) 124 #[.bool true, .bool true, .int .i64 sl, .int .i64 sm] (0, 0) _ rfl (heapA (by simp)) Tryz.underlying124 rfl (by kernel_rfl)) rfl ?_
            exact ⟨HZ.out, belA (belA (belA (Below.refl _ _)))⟩
          · have HZ := Lib.hid (HR.out ⟨true, true || oe, sl, sm⟩ (by show (⟨true, true || oe, min sl ol, max sm om⟩ : Sp) = _; rw [show min sl ol = sl by omega, show max sm om = sm by omega]))
            clear HR
            generalize Ending.returned (aggS (orS ⟨true, true, sl, sm⟩ ⟨true, oe, ol, om⟩)) = E at *
            unfold aggS at *
            simp only [Bool.true_or] at HZ
            go_enter Tryz.func124, Tryz.ntmps124
            go_wp2
            (try simp only [Exit.inBlock, Exit.then])
            refine bodyPost_ret (results_cell_row rfl _ _ (w.heap.size + 1 + 1) 124 #[.bool true, .bool true, .int .i64 sl, .int .i64 sm] (0, 0) _ rfl (heapA (by simp)) Tryz.underlying124 rfl (by kernel_rfl)) rfl ?_
            exact ⟨HZ.out, belA (belA (belA (Below.refl _ _)))⟩
        · subst g
          rcases Int.lt_trichotomy sm om with k | k | k
          · have HZ := Lib.hid (HR.out ⟨true, true || oe, sl, om⟩ (by show (⟨true, true || oe, min sl sl, max sm om⟩ : Sp) = _; rw [show min sl sl = sl by omega, show max sm om = om by omega]))
            clear HR
            generalize Ending.returned (aggS (orS ⟨true, true, sl, sm⟩ ⟨true, oe, sl, om⟩)) = E at *
            unfold aggS at *
            simp only [Bool.true_or] at HZ
            go_enter Tryz.func124, Tryz.ntmps124
            go_wp2
            (try simp only [Exit.inBlock, Exit.then])
            refine bodyPost_ret (results_cell_row rfl _ _ (w.heap.size + 1 + 1) 124 #[.bool true, .bool true, .int .i64 sl, .int .i64 om] (0, 0) _ rfl (heapA (by simp)) Tryz.underlying124 rfl (by kernel_rfl)) rfl ?_
            exact ⟨HZ.out, belA (belA (belA (Below.refl _ _)))⟩
          · subst k
            have HZ := Lib.hid (HR.out ⟨true, true || oe, sl, sm⟩ (by show (⟨true, true || oe, min sl sl, max sm sm⟩ : Sp) = _; rw [show min sl sl = sl by omega, show max sm sm = sm by omega]))
            clear HR
            generalize Ending.returned (aggS (orS ⟨true, true, sl, sm⟩ ⟨true, oe, sl, sm⟩)) = E at *
            unfold aggS at *
            simp only [Bool.true_or] at HZ
            go_enter Tryz.func124, Tryz.ntmps124
            go_wp2
            (try simp only [Exit.inBlock, Exit.then])
            refine bodyPost_ret (results_cell_row rfl _ _ (w.heap.size + 1 + 1) 124 #[.bool true, .bool true, .int .i64 sl, .int .i64 sm] (0, 0) _ rfl (heapA (by simp)) Tryz.underlying124 rfl (by kernel_rfl)) rfl ?_
            exact ⟨HZ.out, belA (belA (belA (Below.refl _ _)))⟩
          · have HZ := Lib.hid (HR.out ⟨true, true || oe, sl, sm⟩ (by show (⟨true, true || oe, min sl sl, max sm om⟩ : Sp) = _; rw [show min sl sl = sl by omega, show max sm om = sm by omega]))
            clear HR
            generalize Ending.returned (aggS (orS ⟨true, true, sl, sm⟩ ⟨true, oe, sl, om⟩)) = E at *
            unfold aggS at *
            simp only [Bool.true_or] at HZ
            go_enter Tryz.func124, Tryz.ntmps124
            go_wp2
            (try simp only [Exit.inBlock, Exit.then])
            refine bodyPost_ret (results_cell_row rfl _ _ (w.heap.size + 1 + 1) 124 #[.bool true, .bool true, .int .i64 sl, .int .i64 sm] (0, 0) _ rfl (heapA (by simp)) Tryz.underlying124 rfl (by kernel_rfl)) rfl ?_
            exact ⟨HZ.out, belA (belA (belA (Below.refl _ _)))⟩
        · rcases Int.lt_trichotomy sm om with k | k | k
          · have HZ := Lib.hid (HR.out ⟨true, true || oe, ol, om⟩ (by show (⟨true, true || oe, min sl ol, max sm om⟩ : Sp) = _; rw [show min sl ol = ol by omega, show max sm om = om by omega]))
            clear HR
            generalize Ending.returned (aggS (orS ⟨true, true, sl, sm⟩ ⟨true, oe, ol, om⟩)) = E at *
            unfold aggS at *
            simp only [Bool.true_or] at HZ
            go_enter Tryz.func124, Tryz.ntmps124
            go_wp2
            (try simp only [Exit.inBlock, Exit.then])
            refine bodyPost_ret (results_cell_row rfl _ _ (w.heap.size + 1 + 1) 124 #[.bool true, .bool true, .int .i64 ol, .int .i64 om] (0, 0) _ rfl (heapA (by simp)) Tryz.underlying124 rfl (by kernel_rfl)) rfl ?_
            exact ⟨HZ.out, belA (belA (belA (Below.refl _ _)))⟩
          · subst k
            have HZ := Lib.hid (HR.out ⟨true, true || oe, ol, sm⟩ (by show (⟨true, true || oe, min sl ol, max sm sm⟩ : Sp) = _; rw [show min sl ol = ol by omega, show max sm sm = sm by omega]))
            clear HR
            generalize Ending.returned (aggS (orS ⟨true, true, sl, sm⟩ ⟨true, oe, ol, sm⟩)) = E at *
            unfold aggS at *
            simp only [Bool.true_or] at HZ
            go_enter Tryz.func124, Tryz.ntmps124
            go_wp2
            (try simp only [Exit.inBlock, Exit.then])
            refine bodyPost_ret (results_cell_row rfl _ _ (w.heap.size + 1 + 1) 124 #[.bool true, .bool true, .int .i64 ol, .int .i64 sm] (0, 0) _ rfl (heapA (by simp)) Tryz.underlying124 rfl (by kernel_rfl)) rfl ?_
            exact ⟨HZ.out, belA (belA (belA (Below.refl _ _)))⟩
          · have HZ := Lib.hid (HR.out ⟨true, true || oe, ol, sm⟩ (by show (⟨true, true || oe, min sl ol, max sm om⟩ : Sp) = _; rw [show min sl ol = ol by omega, show max sm om = sm by omega]))
            clear HR
            generalize Ending.returned (aggS (orS ⟨true, true, sl, sm⟩ ⟨true, oe, ol, om⟩)) = E at *
            unfold aggS at *
            simp only [Bool.true_or] at HZ
            go_enter Tryz.func124, Tryz.ntmps124
            go_wp2
            (try simp only [Exit.inBlock, Exit.then])
            refine bodyPost_ret (results_cell_row rfl _ _ (w.heap.size + 1 + 1) 124 #[.bool true, .bool true, .int .i64 ol, .int .i64 sm] (0, 0) _ rfl (heapA (by simp)) Tryz.underlying124 rfl (by kernel_rfl)) rfl ?_
            exact ⟨HZ.out, belA (belA (belA (Below.refl _ _)))⟩

end Go.Proofs.YtgjiofkjogjhhaaGreatDoor.Ms

namespace Go.Proofs.YtgjiofkjogjhhaaGreatDoor.Ms
open Go Go.RowKit Go.Shelf
open Go.Proofs.YtgjiofkjogjhhaaGreatDoor.Rp (heapA heapB belA)
open Go.Proofs.YtgjiofkjogjhhaaGreatDoor.Ar (Nd nd aggN)

def spQ (P Q : List Sp) (n : Nd) : Sp := if n.op = 2 then P.getD n.set.toNat z0 else if n.op = 3 then thenS (Q.getD 0 z0) (Q.getD 1 z0) else if n.op = 4 then orS (Q.getD 0 z0) (Q.getD 1 z0)
  else if n.op = 5 then timesS (Q.getD 0 z0) n.lo n.hi else e0
theorem drew_back {W w' : World} (h : Below W.drew.heap.size W.drew w') : Below W.heap.size W w' :=
  (show Below W.heap.size W W.drew from ⟨rfl, rfl, rfl, Nat.le_refl _, fun _ _ => rfl⟩).trans h
/-- the two boxes of the call -/
theorem clo_boxes (w : World) (n : Nd) : ∃ W1, W1 = (w.alloc (.cells #[.int .i64 n.op, .int .i64 n.a, .int .i64 n.b, .int .i64 n.lo, .int .i64 n.hi, .int .i64 n.set] 70)).alloc (.cells #[.bool false, .bool false, .int .i64 0, .int .i64 0] 124) ∧
    Below w.heap.size w W1 ∧ W1.heap[w.heap.size + 1]? = some (.cells #[.bool false, .bool false, .int .i64 0, .int .i64 0] 124 (0, 0)) ∧ Ar.NodeAt W1 ⟨w.heap.size, 0, none⟩ n :=
  ⟨_, rfl, belA (belA (Below.refl _ _)), heapA (by simp), (Ar.node_new w n _).next ((Below.refl _ _).alloc (Nat.le_refl _) _)⟩

set_option maxRecDepth 100000 in
set_option maxHeartbeats 4000000 in
theorem clo_set (n : Nd) (P Q : List Sp) (bx : Nat) (vs vq : Value) (w : World) (hbx : w.cell? ⟨bx, 0, none⟩ = some vs) (hP : SpsAt w vs P) (ho : n.op = 2) (h0 : 0 ≤ n.set) (h1 : n.set < P.length) :
    Calls Tryz.prog 122 #[aggN n, vq, .pointer (some ⟨bx, 0, none⟩)] w fun e w' => e = .returned (aggS (spQ P Q n)) ∧ Below w.heap.size w w' := by
  obtain ⟨op, na, nb, lo, hi, st⟩ := n
  simp only at ho h0 h1
  subst ho
  obtain ⟨q, rfl⟩ := Int.eq_ofNat_of_zero_le h0
  have hq : q < P.length := by omega
  have hr : spQ P Q ⟨2, na, nb, lo, hi, (q : Int)⟩ = P.getD q z0 := by unfold spQ; rw [if_pos rfl]; simp
  rw [hr]
  clear hr h0 h1
  obtain ⟨so, scap, rfl, hsm, hsc⟩ := hP.shape
  obtain ⟨ad, rfl, hin⟩ := hsc q hq
  obtain ⟨W1, hW1, hb1, x2, hN⟩ := clo_boxes w ⟨2, na, nb, lo, hi, (q : Int)⟩
  obtain ⟨g0, g1, g2, g3, g4, g5⟩ := hN
  have b0 := cell_next hbx hb1
  have hl2 := (Array.getElem?_eq_some_iff.1 x2).1
  have hl0 := cell_lt g0
  have hin1 := hin.next hb1
  generalize P.getD q z0 = s at *
  obtain ⟨c0, c1, c2, c3⟩ := hin1
  have X2 := Lib.hid x2
  have HB := Lib.hid hb1
  have n0 : (ad.add (q * 4)).block < W1.heap.size := cell_lt c0
  obtain ⟨e0', e1', e2', e3'⟩ := cells_sp X2.out
  have f0 := Lib.frozen_of_heap X2.out 0
  have f1 := Lib.frozen_of_heap X2.out 1
  have f2 := Lib.frozen_of_heap X2.out 2
  have f3 := Lib.frozen_of_heap X2.out 3
  unfold aggN aggS
  clear hsc hP hin hb1 x2 hbx
  go_enter Tryz.func122, Tryz.ntmps122
  go_upto_region 1 with fail
  rw [← hW1]
  clear hW1
  go_wp2
  (try simp only [Exit.inBlock, Exit.then])
  refine bodyPost_ret (results_cell_row rfl _ _ (w.heap.size + 1) 124 #[.bool (s).has, .bool (s).en, .int .i64 (s).le, .int .i64 (s).mo] (0, 0) _ rfl (set_sp X2.out _ _ _ _) Tryz.underlying124 rfl (by kernel_rfl)) rfl ?_
  exact ⟨rfl, below_sp HB.out (by omega) _ _ _ _⟩

set_option maxRecDepth 100000 in
set_option maxHeartbeats 4000000 in
theorem clo_other (n : Nd) (P Q : List Sp) (bx : Nat) (vs vq : Value) (w : World) (hbx : w.cell? ⟨bx, 0, none⟩ = some vs) (h2 : n.op ≠ 2) (h3 : n.op ≠ 3) (h4 : n.op ≠ 4) (h5 : n.op ≠ 5) :
    Calls Tryz.prog 122 #[aggN n, vq, .pointer (some ⟨bx, 0, none⟩)] w fun e w' => e = .returned (aggS (spQ P Q n)) ∧ Below w.heap.size w w' := by
  obtain ⟨op, na, nb, lo, hi, st⟩ := n
  simp only at h2 h3 h4 h5
  have hr : spQ P Q ⟨op, na, nb, lo, hi, st⟩ = e0 := by unfold spQ; rw [if_neg h2, if_neg h3, if_neg h4, if_neg h5]
  rw [hr]
  clear hr
  obtain ⟨W1, hW1, hb1, x2, hN⟩ := clo_boxes w ⟨op, na, nb, lo, hi, st⟩
  obtain ⟨g0, g1, g2, g3, g4, g5⟩ := hN
  have b0 := cell_next hbx hb1
  have hl2 := (Array.getElem?_eq_some_iff.1 x2).1
  have hl0 := cell_lt g0
  have d2 : (op == 2) = false := by simpa using h2
  have d3 : (op == 3) = false := by simpa using h3
  have d4 : (op == 4) = false := by simpa using h4
  have d5 : (op == 5) = false := by simpa using h5
  have X2 := Lib.hid x2
  have HB := Lib.hid hb1
  obtain ⟨e0', e1', e2', e3'⟩ := cells_sp X2.out
  have f0 := Lib.frozen_of_heap X2.out 0
  have f1 := Lib.frozen_of_heap X2.out 1
  have f2 := Lib.frozen_of_heap X2.out 2
  have f3 := Lib.frozen_of_heap X2.out 3
  unfold aggN aggS e0
  clear hb1 x2 hbx h2 h3 h4 h5
  go_enter Tryz.func122, Tryz.ntmps122
  go_upto_region 1 with fail
  rw [← hW1]
  clear hW1
  go_wp2
  (try simp only [Exit.inBlock, Exit.then])
  refine bodyPost_ret (results_cell_row rfl _ _ (w.heap.size + 1) 124 #[.bool true, .bool false, .int .i64 0, .int .i64 0] (0, 0) _ rfl (set_sp X2.out _ _ _ _) Tryz.underlying124 rfl (by kernel_rfl)) rfl ?_
  exact ⟨rfl, below_sp HB.out (by omega) _ _ _ _⟩

set_option maxRecDepth 100000 in
set_option maxHeartbeats 4000000 in
theorem clo_then (n : Nd) (P Q : List Sp) (bx : Nat) (vs vq : Value) (w : World) (hbx : w.cell? ⟨bx, 0, none⟩ = some vs) (hQ : SpsAt w vq Q) (ho : n.op = 3) (hl : Q.length = 2) (hB : ∀ k, Bd (Q.getD k z0)) :
    Calls Tryz.prog 122 #[aggN n, vq, .pointer (some ⟨bx, 0, none⟩)] w fun e w' => e = .returned (aggS (spQ P Q n)) ∧ Below w.heap.size w w' := by
  obtain ⟨op, na, nb, lo, hi, st⟩ := n
  simp only at ho
  subst ho
  have hr : spQ P Q ⟨3, na, nb, lo, hi, st⟩ = thenS (Q.getD 0 z0) (Q.getD 1 z0) := by unfold spQ; simp
  rw [hr]
  clear hr
  obtain ⟨ao, cap, rfl, hqm, hqc⟩ := hQ.shape
  obtain ⟨ad, rfl, hin0⟩ := hqc 0 (by omega)
  obtain ⟨ad', he, hin1⟩ := hqc 1 (by omega)
  obtain rfl := Option.some.inj he
  obtain ⟨W1, hW1, hb1, x2, hN⟩ := clo_boxes w ⟨3, na, nb, lo, hi, st⟩
  obtain ⟨g0, g1, g2, g3, g4, g5⟩ := hN
  have b0 := cell_next hbx hb1
  have hl2 := (Array.getElem?_eq_some_iff.1 x2).1
  have hl0 := cell_lt g0
  have hin0' := hin0.next hb1
  have hin1' := hin1.next hb1
  have B0 := hB 0
  have B1 := hB 1
  generalize Q.getD 0 z0 = s at *
  generalize Q.getD 1 z0 = o at *
  have C := Lib.hid (fun W => then_any s o B0 B1 W)
  obtain ⟨c0, c1, c2, c3⟩ := hin0'
  obtain ⟨d0, d1, d2, d3⟩ := hin1'
  generalize thenS s o = r at *
  obtain ⟨sh, se, sl, sm⟩ := s
  obtain ⟨oh, oe, ol, om⟩ := o
  rw [show ad.add (0 * 4) = ad from rfl] at c0 c1 c2 c3
  rw [show ad.add (1 * 4) = ⟨ad.block, ad.off + 4, none⟩ from rfl] at d0 d1 d2 d3
  simp only at c0 c1 c2 c3 d0 d1 d2 d3
  have n0 : ad.block ≠ w.heap.size + 1 := by have := cell_lt hin0.c0; rw [add_block] at this; omega
  have nl : ad.block < W1.heap.size := cell_lt c0
  have X1 := Lib.hid x2
  have HB := Lib.hid hb1
  unfold aggN
  unfold aggS at *
  rw [hl]
  have i0 : (0 : Int) < 2 := by decide
  have i1 : (1 : Int) < 2 := by decide
  clear hqc hQ hin0 hin1 hb1 x2 hbx he hqm hl hB B0 B1
  go_enter Tryz.func122, Tryz.ntmps122
  go_upto_region 1 with fail
  rw [← hW1]
  clear hW1
  go_wp2
  go_region_held3 (fun W => W.cell? ad = some (.bool sh) ∧ W.cell? ⟨ad.block, ad.off + 1, none⟩ = some (.bool se) ∧ W.cell? ⟨ad.block, ad.off + 2, none⟩ = some (.int .i64 sl) ∧ W.cell? ⟨ad.block, ad.off + 3, none⟩ = some (.int .i64 sm) ∧ W.cell? ⟨ad.block, ad.off + 4, none⟩ = some (.bool oh) ∧ W.cell? ⟨ad.block, ad.off + 4 + 1, none⟩ = some (.bool oe) ∧ W.cell? ⟨ad.block, ad.off + 4 + 2, none⟩ = some (.int .i64 ol) ∧ W.cell? ⟨ad.block, ad.off + 4 + 3, none⟩ = some (.int .i64 om)) (first | with_reducible exact ⟨c0, c1, c2, c3, d0, d1, d2, d3⟩ | with_reducible exact ⟨kc0, kc1, kc2, kc3, kd0, kd1, kd2, kd3⟩ | with_reducible exact ⟨cell_drew (put4 kc0 n0 _ _ _ _), cell_drew (put4 kc1 n0 _ _ _ _), cell_drew (put4 kc2 n0 _ _ _ _), cell_drew (put4 kc3 n0 _ _ _ _), cell_drew (put4 kd0 n0 _ _ _ _), cell_drew (put4 kd1 n0 _ _ _ _), cell_drew (put4 kd2 n0 _ _ _ _), cell_drew (put4 kd3 n0 _ _ _ _)⟩ | with_reducible exact ⟨put4 kc0 n0 _ _ _ _, put4 kc1 n0 _ _ _ _, put4 kc2 n0 _ _ _ _, put4 kc3 n0 _ _ _ _, put4 kd0 n0 _ _ _ _, put4 kd1 n0 _ _ _ _, put4 kd2 n0 _ _ _ _, put4 kd3 n0 _ _ _ _⟩ | go_keep) (first | (go_at_call 123; (with_reducible refine (C.out _).mono ?_); rintro e w3 ⟨rfl, hb3⟩; go_must (have hb4 := drew_back hb3; have kc0 := cell_next c0 hb4; have kc1 := cell_next c1 hb4; have kc2 := cell_next c2 hb4; have kc3 := cell_next c3 hb4; have kd0 := cell_next d0 hb4; have kd1 := cell_next d1 hb4; have kd2 := cell_next d2 hb4; have kd3 := cell_next d3 hb4; have X2 := Lib.hid (heap_below X1.out hb4); obtain ⟨e0', e1', e2', e3'⟩ := cells_sp X2.out; have f0 := Lib.frozen_of_heap X2.out 0; have f1 := Lib.frozen_of_heap X2.out 1; have f2 := Lib.frozen_of_heap X2.out 2; have f3 := Lib.frozen_of_heap X2.out 3; have l3 := (Array.getElem?_eq_some_iff.1 X2.out).1; have B3 := Lib.hid (HB.out.trans (hb4.mono HB.out.size)); clear hb3 hb4)) | fail)
  go_wp2
  (try simp only [Exit.inBlock, Exit.then])
  refine bodyPost_ret (results_cell_row rfl _ _ (w.heap.size + 1) 124 #[.bool (r).has, .bool (r).en, .int .i64 (r).le, .int .i64 (r).mo] (0, 0) _ rfl (set_sp X2.out _ _ _ _) Tryz.underlying124 rfl (by kernel_rfl)) rfl ?_
  exact ⟨rfl, below_sp B3.out (by omega) _ _ _ _⟩

set_option maxRecDepth 100000 in
set_option maxHeartbeats 4000000 in
theorem clo_or (n : Nd) (P Q : List Sp) (bx : Nat) (vs vq : Value) (w : World) (hbx : w.cell? ⟨bx, 0, none⟩ = some vs) (hQ : SpsAt w vq Q) (ho : n.op = 4) (hl : Q.length = 2) :
    Calls Tryz.prog 122 #[aggN n, vq, .pointer (some ⟨bx, 0, none⟩)] w fun e w' => e = .returned (aggS (spQ P Q n)) ∧ Below w.heap.size w w' := by
  obtain ⟨op, na, nb, lo, hi, st⟩ := n
  simp only at ho
  subst ho
  have hr : spQ P Q ⟨4, na, nb, lo, hi, st⟩ = orS (Q.getD 0 z0) (Q.getD 1 z0) := by unfold spQ; simp
  rw [hr]
  clear hr
  obtain ⟨ao, cap, rfl, hqm, hqc⟩ := hQ.shape
  obtain ⟨ad, rfl, hin0⟩ := hqc 0 (by omega)
  obtain ⟨ad', he, hin1⟩ := hqc 1 (by omega)
  obtain rfl := Option.some.inj he
  obtain ⟨W1, hW1, hb1, x2, hN⟩ := clo_boxes w ⟨4, na, nb, lo, hi, st⟩
  obtain ⟨g0, g1, g2, g3, g4, g5⟩ := hN
  have b0 := cell_next hbx hb1
  have hl2 := (Array.getElem?_eq_some_iff.1 x2).1
  have hl0 := cell_lt g0
  have hin0' := hin0.next hb1
  have hin1' := hin1.next hb1
  generalize Q.getD 0 z0 = s at *
  generalize Q.getD 1 z0 = o at *
  have C := Lib.hid (fun W => or_any s o W)
  obtain ⟨c0, c1, c2, c3⟩ := hin0'
  obtain ⟨d0, d1, d2, d3⟩ := hin1'
  generalize orS s o = r at *
  obtain ⟨sh, se, sl, sm⟩ := s
  obtain ⟨oh, oe, ol, om⟩ := o
  rw [show ad.add (0 * 4) = ad from rfl] at c0 c1 c2 c3
  rw [show ad.add (1 * 4) = ⟨ad.block, ad.off + 4, none⟩ from rfl] at d0 d1 d2 d3
  simp only at c0 c1 c2 c3 d0 d1 d2 d3
  have n0 : ad.block ≠ w.heap.size + 1 := by have := cell_lt hin0.c0; rw [add_block] at this; omega
  have nl : ad.block < W1.heap.size := cell_lt c0
  have X1 := Lib.hid x2
  have HB := Lib.hid hb1
  unfold aggN
  unfold aggS at *
  rw [hl]
  have i0 : (0 : Int) < 2 := by decide
  have i1 : (1 : Int) < 2 := by decide
  clear hqc hQ hin0 hin1 hb1 x2 hbx he hqm hl
  go_enter Tryz.func122, Tryz.ntmps122
  go_upto_region 1 with fail
  rw [← hW1]
  clear hW1
  go_wp2
  go_region_held3 (fun W => W.cell? ad = some (.bool sh) ∧ W.cell? ⟨ad.block, ad.off + 1, none⟩ = some (.bool se) ∧ W.cell? ⟨ad.block, ad.off + 2, none⟩ = some (.int .i64 sl) ∧ W.cell? ⟨ad.block, ad.off + 3, none⟩ = some (.int .i64 sm) ∧ W.cell? ⟨ad.block, ad.off + 4, none⟩ = some (.bool oh) ∧ W.cell? ⟨ad.block, ad.off + 4 + 1, none⟩ = some (.bool oe) ∧ W.cell? ⟨ad.block, ad.off + 4 + 2, none⟩ = some (.int .i64 ol) ∧ W.cell? ⟨ad.block, ad.off + 4 + 3, none⟩ = some (.int .i64 om)) (first | with_reducible exact ⟨c0, c1, c2, c3, d0, d1, d2, d3⟩ | with_reducible exact ⟨kc0, kc1, kc2, kc3, kd0, kd1, kd2, kd3⟩ | with_reducible exact ⟨cell_drew (put4 kc0 n0 _ _ _ _), cell_drew (put4 kc1 n0 _ _ _ _), cell_drew (put4 kc2 n0 _ _ _ _), cell_drew (put4 kc3 n0 _ _ _ _), cell_drew (put4 kd0 n0 _ _ _ _), cell_drew (put4 kd1 n0 _ _ _ _), cell_drew (put4 kd2 n0 _ _ _ _), cell_drew (put4 kd3 n0 _ _ _ _)⟩ | with_reducible exact ⟨put4 kc0 n0 _ _ _ _, put4 kc1 n0 _ _ _ _, put4 kc2 n0 _ _ _ _, put4 kc3 n0 _ _ _ _, put4 kd0 n0 _ _ _ _, put4 kd1 n0 _ _ _ _, put4 kd2 n0 _ _ _ _, put4 kd3 n0 _ _ _ _⟩ | go_keep) (first | (go_at_call 124; (with_reducible refine (C.out _).mono ?_); rintro e w3 ⟨rfl, hb3⟩; go_must (have hb4 := drew_back hb3; have kc0 := cell_next c0 hb4; have kc1 := cell_next c1 hb4; have kc2 := cell_next c2 hb4; have kc3 := cell_next c3 hb4; have kd0 := cell_next d0 hb4; have kd1 := cell_next d1 hb4; have kd2 := cell_next d2 hb4; have kd3 := cell_next d3 hb4; have X2 := Lib.hid (heap_below X1.out hb4); obtain ⟨e0', e1', e2', e3'⟩ := cells_sp X2.out; have f0 := Lib.frozen_of_heap X2.out 0; have f1 := Lib.frozen_of_heap X2.out 1; have f2 := Lib.frozen_of_heap X2.out 2; have f3 := Lib.frozen_of_heap X2.out 3; have l3 := (Array.getElem?_eq_some_iff.1 X2.out).1; have B3 := Lib.hid (HB.out.trans (hb4.mono HB.out.size)); clear hb3 hb4)) | fail)
  go_wp2
  (try simp only [Exit.inBlock, Exit.then])
  refine bodyPost_ret (results_cell_row rfl _ _ (w.heap.size + 1) 124 #[.bool (r).has, .bool (r).en, .int .i64 (r).le, .int .i64 (r).mo] (0, 0) _ rfl (set_sp X2.out _ _ _ _) Tryz.underlying124 rfl (by kernel_rfl)) rfl ?_
  exact ⟨rfl, below_sp B3.out (by omega) _ _ _ _⟩

end Go.Proofs.YtgjiofkjogjhhaaGreatDoor.Ms

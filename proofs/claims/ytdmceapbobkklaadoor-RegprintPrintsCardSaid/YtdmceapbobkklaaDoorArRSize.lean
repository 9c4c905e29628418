/- The document's Size. -/
import Derived.Test.YtdmceapbobkklaaDoorArNear
import Derived.Deep.RegionHeld3
namespace Go.Proofs.YtdmceapbobkklaaDoor.Ar
open Go Go.RowKit Go.Shelf
open Go.Proofs.YtdmceapbobkklaaDoor.Rg (R RngsAt RowsAt nthL add_zero own_next)

set_option maxRecDepth 100000 in
set_option maxHeartbeats 4000000 in
theorem rsize_any (t : Tr) (ht : Ok t) (hb : Bnd gZ t.ns) : ∀ (i : Nat), i < t.ns.length → ∀ (v : Value) (w : World), TreeAt w v t →
    Calls Tryd.prog 12 #[v, .int .i64 i] w fun e w' => e = .returned (.int .i64 (reck gZ t.ns i)) ∧ Below w.heap.size w w' := by
  intro i
  induction i using Nat.strongRecOn with
  | ind i ih =>
    intro hi v w hv
    have HV := Lib.hid hv
    have IH := Lib.hid ih
    have HBD := Lib.hid hb
    obtain ⟨ao, cap, so, scap, rfl, hm, hm2, hn, _⟩ := hv.shape
    obtain ⟨g, rfl, hN⟩ := hn i hi
    obtain ⟨c0, c1, c2, c3, c4, c5⟩ := hN
    have hlt := cell_lt c0
    have hw := nodeB_ways (ht.node i hi)
    have h2 := Lib.hid (fun h ha hb => reck_two (g := gZ) (l := t.ns) (i := i) h ha hb)
    have h1 := Lib.hid (fun h ha => reck_one (g := gZ) (l := t.ns) (i := i) h ha)
    have h0 := Lib.hid (fun h ha => reck_none (g := gZ) (l := t.ns) (i := i) h ha)
    clear hn hv ih hb ht
    generalize nd t.ns i = n at *
    by_cases ho : n.op = 3 ∨ n.op = 4
    · have hx : 0 ≤ n.a ∧ n.a < i ∧ 0 ≤ n.b ∧ n.b < i := by omega
      obtain ⟨ha0, ha1, hb0, hb1⟩ := hx
      obtain ⟨a, ha⟩ := Int.eq_ofNat_of_zero_le ha0
      obtain ⟨b, hb⟩ := Int.eq_ofNat_of_zero_le hb0
      have hai : a < i := by omega
      have hbi : b < i := by omega
      have e2 := h2.out ho (by omega) (by omega)
      rw [ha, hb] at e2
      have B1 := HBD.out a (by omega)
      have B2 := HBD.out b (by omega)
      simp only [Int.toNat_natCast] at e2
      rw [gZ_two] at e2
      rw [ha] at c1
      rw [hb] at c2
      have E2 := Lib.hid e2
      have ca := Lib.hid (fun v W (h : TreeAt W v t) => IH.out a hai (by omega) v W h)
      have cb := Lib.hid (fun v W (h : TreeAt W v t) => IH.out b hbi (by omega) v W h)
      have hop : (n.op == 3) = true ∨ ((n.op == 3) = false ∧ (n.op == 4) = true) := by
        rcases ho with h | h
        · exact .inl (by simpa using h)
        · exact .inr ⟨by simp; omega, by simpa using h⟩
      clear hw ha hb ha0 ha1 hb0 hb1 e2 h2 h1 h0 IH HBD ho
      generalize reck gZ t.ns i = r at *
      generalize reck gZ t.ns a = ra at *
      generalize reck gZ t.ns b = rb at *
      rcases hop with hop | ⟨hop, hop2⟩
      all_goals (
        go_enter Tryd.func12, Tryd.ntmps12
        go_wp2
        have r0 : Below w.heap.size w ((w.alloc (.cells #[.slice (some g) t.ns.length cap, .slice so t.sets.length scap, .int .i64 t.root] 25)).alloc (.cells #[.int .i64 n.op, .int .i64 a, .int .i64 b, .int .i64 n.lo, .int .i64 n.hi, .int .i64 n.set] 56)) := ((Below.refl w.heap.size w).alloc (Nat.le_refl _) _).alloc (by simp) _
        have f0 : ((w.alloc (.cells #[.slice (some g) t.ns.length cap, .slice so t.sets.length scap, .int .i64 t.root] 25)).alloc (.cells #[.int .i64 n.op, .int .i64 a, .int .i64 b, .int .i64 n.lo, .int .i64 n.hi, .int .i64 n.set] 56)).cell? ⟨w.heap.size, 0, none⟩ = some (.slice (some g) t.ns.length cap) := by simp
        have f1 : ((w.alloc (.cells #[.slice (some g) t.ns.length cap, .slice so t.sets.length scap, .int .i64 t.root] 25)).alloc (.cells #[.int .i64 n.op, .int .i64 a, .int .i64 b, .int .i64 n.lo, .int .i64 n.hi, .int .i64 n.set] 56)).cell? ⟨w.heap.size, 1, none⟩ = some (.slice so t.sets.length scap) := by simp
        have f2 : ((w.alloc (.cells #[.slice (some g) t.ns.length cap, .slice so t.sets.length scap, .int .i64 t.root] 25)).alloc (.cells #[.int .i64 n.op, .int .i64 a, .int .i64 b, .int .i64 n.lo, .int .i64 n.hi, .int .i64 n.set] 56)).cell? ⟨w.heap.size, 2, none⟩ = some (.int .i64 t.root) := by simp
        have f3 : ((w.alloc (.cells #[.slice (some g) t.ns.length cap, .slice so t.sets.length scap, .int .i64 t.root] 25)).alloc (.cells #[.int .i64 n.op, .int .i64 a, .int .i64 b, .int .i64 n.lo, .int .i64 n.hi, .int .i64 n.set] 56)).cell? ⟨w.heap.size + 1, 1, none⟩ = some (.int .i64 (a : Int)) := by simp
        have f4 : ((w.alloc (.cells #[.slice (some g) t.ns.length cap, .slice so t.sets.length scap, .int .i64 t.root] 25)).alloc (.cells #[.int .i64 n.op, .int .i64 a, .int .i64 b, .int .i64 n.lo, .int .i64 n.hi, .int .i64 n.set] 56)).cell? ⟨w.heap.size + 1, 2, none⟩ = some (.int .i64 (b : Int)) := by simp
        generalize ((w.alloc (.cells #[.slice (some g) t.ns.length cap, .slice so t.sets.length scap, .int .i64 t.root] 25)).alloc (.cells #[.int .i64 n.op, .int .i64 a, .int .i64 b, .int .i64 n.lo, .int .i64 n.hi, .int .i64 n.set] 56)) = W at *
        replace f0 : W.drew.cell? _ = _ := f0
        replace f1 : W.drew.cell? _ = _ := f1
        replace f2 : W.drew.cell? _ = _ := f2
        replace f3 : W.drew.cell? _ = _ := f3
        replace f4 : W.drew.cell? _ = _ := f4
        replace r0 := r0.drew
        go_region_held3 (fun W => W.cell? ⟨w.heap.size, 0, none⟩ = some (.slice (some g) t.ns.length cap) ∧ W.cell? ⟨w.heap.size, 1, none⟩ = some (.slice so t.sets.length scap) ∧ W.cell? ⟨w.heap.size, 2, none⟩ = some (.int .i64 t.root) ∧ W.cell? ⟨w.heap.size + 1, 1, none⟩ = some (.int .i64 (a : Int)) ∧ W.cell? ⟨w.heap.size + 1, 2, none⟩ = some (.int .i64 (b : Int)) ∧ Below w.heap.size w W) (first | exact ⟨by assumption, by assumption, by assumption, by assumption, by assumption, by assumption⟩ | go_keep)
          (first
            | (go_at_call 12; (first | (with_reducible refine (ca.out _ _ (HV.out.next (by assumption))).mono ?_) | (with_reducible refine (cb.out _ _ (HV.out.next (by assumption))).mono ?_)); rintro e w1 ⟨rfl, hb1⟩; go_must (have q1 := cell_next (a := ⟨w.heap.size, 0, none⟩) (v := .slice (some g) t.ns.length cap) (by assumption) hb1; have q2 := cell_next (a := ⟨w.heap.size, 1, none⟩) (v := .slice so t.sets.length scap) (by assumption) hb1; have q3 := cell_next (a := ⟨w.heap.size, 2, none⟩) (v := .int .i64 t.root) (by assumption) hb1; have q4 := cell_next (a := ⟨w.heap.size + 1, 1, none⟩) (v := .int .i64 (a : Int)) (by assumption) hb1; have q5 := cell_next (a := ⟨w.heap.size + 1, 2, none⟩) (v := .int .i64 (b : Int)) (by assumption) hb1; have B6 := Below.trans (show Below w.heap.size w _ by assumption) (hb1.mono (Below.size (show Below w.heap.size w _ by assumption)))))
            | fail)
        all_goals (
          go_wp2
          go_ret
          exact ⟨ret_int (by rw [E2.out]; simp only [IntKind.wrap_i64]; omega), by assumption⟩))
    · by_cases h5 : n.op = 5
      · have hx : 0 ≤ n.a ∧ n.a < i := by omega
        obtain ⟨ha0, ha1⟩ := hx
        obtain ⟨a, ha⟩ := Int.eq_ofNat_of_zero_le ha0
        have hai : a < i := by omega
        have e2 := h1.out h5 (by omega)
        rw [ha] at e2
        have B1 := HBD.out a (by omega)
        simp only [Int.toNat_natCast] at e2
        rw [gZ_one] at e2
        rw [ha] at c1
        have E2 := Lib.hid e2
        have ca := Lib.hid (fun v W (h : TreeAt W v t) => IH.out a hai (by omega) v W h)
        have o3 : (n.op == 3) = false := by simp; omega
        have o4 : (n.op == 4) = false := by simp; omega
        have o5 : (n.op == 5) = true := by simpa using h5
        clear hw ha ha0 ha1 e2 h2 h1 h0 IH HBD ho h5
        generalize reck gZ t.ns i = r at *
        generalize reck gZ t.ns a = ra at *
        go_enter Tryd.func12, Tryd.ntmps12
        go_wp2_with (first
          | (go_at_call 12; (with_reducible refine (ca.out _ _ (HV.out.next (((Below.refl w.heap.size w).alloc (Nat.le_refl _) _).alloc (by simp) _))).mono ?_); rintro e w1 ⟨rfl, hb1⟩; go_must (have H1 := Lib.hid ((((Below.refl w.heap.size w).alloc (Nat.le_refl _) _).alloc (by simp) _).trans (hb1.mono (by simp; omega))); clear hb1))
          | fail)
        go_ret
        exact ⟨ret_int (by rw [E2.out]), H1.out⟩
      · have e2 := h0.out ho h5
        rw [gZ_none] at e2
        have E2 := Lib.hid e2
        have o3 : (n.op == 3) = false := by simp; omega
        have o4 : (n.op == 4) = false := by simp; omega
        have o5 : (n.op == 5) = false := by simpa using h5
        clear hw e2 h2 h1 h0 IH HBD ho h5
        generalize reck gZ t.ns i = r at *
        go_enter Tryd.func12, Tryd.ntmps12
        go_wp2
        go_ret
        exact ⟨ret_int E2.out.symm, ((Below.refl w.heap.size w).alloc (Nat.le_refl _) _).alloc (by simp) _⟩

end Go.Proofs.YtdmceapbobkklaaDoor.Ar

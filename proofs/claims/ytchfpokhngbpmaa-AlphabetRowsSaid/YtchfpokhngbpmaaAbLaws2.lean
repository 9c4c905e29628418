/- The laws: AlphabetOf. -/
import Derived.Test.YtchfpokhngbpmaaAbLaws
import Derived.Shelf.RegionOpen
import Derived.Deep.RegionHeld3
import Derived.Deep.DeepMust
namespace Go.Proofs.Ytchfpokhngbpmaa.Ab
open Go.RowKit Go.Shelf
open Go.Proofs.Ytchfpokhngbpmaa.Rg (RngsAt nth)

theorem wrap_in {x : Int} (h : -9223372036854775808 ≤ x ∧ x ≤ 9223372036854775807) : IntKind.i64.wrap x = x := by
  rw [IntKind.wrap_i64]; omega

set_option maxRecDepth 100000 in
set_option maxHeartbeats 8000000 in
theorem lawOf_any (l : List R) (v : Value) (i j : Nat) (w : World) (h : RngsAt w v l) (hi : i ≤ 255) (hj : j ≤ 255) :
    Calls Try.prog 3 #[v, .int .u8 i, .int .u8 j] w fun e w' => e = .returned (.bool true) ∧ Below w.heap.size w w' := by
  have HV := Lib.hid h
  have ca := Lib.hid alive_any
  by_cases hl : 12 < l.length
  · have hl2 : (12 : Int) < (l.length : Int) := by omega
    obtain ⟨ao, cap, rfl, hm, _⟩ := h.shape
    clear h
    go_enter Try.func3, Try.ntmps3
    go_wp2_with (go_at_call 6; refine (ca.out _).mono ?_; rintro e w1 ⟨rfl, hb1⟩)
    go_ret
    exact ⟨rfl, hb1⟩
  · have hl2 : ¬ (12 : Int) < (l.length : Int) := by omega
    have c1 := Lib.hid (fun W (h : Below w.heap.size w W) => of_any v l W (HV.out.next h))
    have c2 := Lib.hid (fun W (h : Below w.heap.size w W) => rof_any v l W (HV.out.next h))
    have c3 := Lib.hid (fun W (h : Below w.heap.size w W) => apart_any v l i j W (HV.out.next h))
    have hR := right_clsL (eqR l)
    have hW := wf_clsL (eR l)
    have hl1 : 256 ≤ (clsL (eR l) 256).length := by rw [clsL_len]; exact Nat.le_refl _
    have hl3 : (clsL (eR l) 256).length ≤ 256 := by rw [clsL_len]; exact Nat.le_refl _
    have qi : (clsL (eR l) 256).getD i 0 = cls (eR l) i := clsL_at (by omega)
    have qj : (clsL (eR l) 256).getD j 0 = cls (eR l) j := clsL_at (by omega)
    have hA : (((cls (eR l) i : Nat) : Int) == ((cls (eR l) j : Nat) : Int)) = !apB l i j := by
      rw [Bool.eq_iff_iff, beq_iff_eq]
      show _ ↔ eR l i j = true
      rw [← cls_iff (eqR l)]; omega
    obtain ⟨ao, cap, rfl, hm, _⟩ := h.shape
    clear h
    generalize cnt (eR l) 256 = n at *
    generalize clsL (eR l) 256 = L at *
    generalize ((cls (eR l) i : Nat) : Int) = x at *
    generalize ((cls (eR l) j : Nat) : Int) = y at *
    generalize apB l i j = A at *
    have c4 := Lib.hid (fun W v (h : IntsAt W v L) => right_any v L W h hW)
    rw [hR] at c4
    have Q := Lib.hid (And.intro qi qj)
    clear hR hW qi qj
    go_enter Try.func3, Try.ntmps3
    go_wp2_with (first
      | (go_at_call 7; (with_reducible refine (c1.out _ (Below.refl _ _)).mono ?_); rintro e w1 ⟨v1, rfl, hv1, hb1⟩; have H1 := Lib.hid hb1; have V1 := Lib.hid hv1; clear hb1 hv1)
      | (go_at_call 8; (with_reducible refine (c2.out _ H1.out).mono ?_); rintro e w2 ⟨v2, rfl, hv2, hb2⟩; have H2 := Lib.hid (H1.out.trans (hb2.mono H1.out.size)); have V2 := Lib.hid (V1.out.next hb2); have S1 := Lib.hid (same_one v1 v2 L w2 (V1.out.next hb2) hv2); clear hb2 hv2)
      | (go_at_call 9; (with_reducible refine S1.out.mono ?_); rintro e w3 ⟨rfl, hb3⟩; have H3 := Lib.hid (H2.out.trans (hb3.mono H2.out.size)); have V3 := Lib.hid (V2.out.next hb3); clear hb3)
      | (go_at_call 10; (with_reducible refine (c4.out _ _ V3.out).mono ?_); rintro e w4 ⟨rfl, hb4⟩; have H4 := Lib.hid (H3.out.trans (hb4.mono H3.out.size)); have V4 := Lib.hid (V3.out.next hb4); obtain ⟨bo, bcap, hv5, hm5, hc5⟩ := V4.out.shape; subst hv5; obtain ⟨ad, rfl, k0⟩ := hc5 i (by omega); obtain ⟨ad2, ha2, k1⟩ := hc5 j (by omega); cases ha2; rw [Q.out.1] at k0; rw [Q.out.2] at k1; clear hb4 hc5)
      | fail)
    have hil : (i : Int) < (L.length : Int) := by omega
    have hjl : (j : Int) < (L.length : Int) := by omega
    have B4 : Below w.heap.size w w4.drew := H4.out.drew
    have k2 : w4.drew.cell? (ad.add i) = some (.int .i64 x) := k0
    have k3 : w4.drew.cell? (ad.add j) = some (.int .i64 y) := k1
    have wi : IntKind.i64.wrap (i : Int) = (i : Int) := wrap_in (by omega)
    have wj : IntKind.i64.wrap (j : Int) = (j : Int) := wrap_in (by omega)
    go_region_held3 (fun W => W.cell? (ad.add i) = some (.int .i64 x) ∧ W.cell? (ad.add j) = some (.int .i64 y) ∧ Below w.heap.size w W) (first | go_keep | exact ⟨by assumption, by assumption, by assumption⟩)
      (first
        | (go_at_call 11; (with_reducible refine (c3.out _ (by assumption)).mono ?_); rintro e w5 ⟨rfl, rfl⟩)
        | (go_at_call 6; (with_reducible refine (ca.out _).mono ?_); rintro e w6 ⟨rfl, hb6⟩; go_must (have p0 := cell_next (a := ad.add i) (v := .int .i64 x) (by assumption) hb6; have p1 := cell_next (a := ad.add j) (v := .int .i64 y) (by assumption) hb6; have B6 := Below.trans (show Below w.heap.size w _ by assumption) (hb6.mono (Below.size (show Below w.heap.size w _ by assumption)))))
        | fail)
    all_goals (
      go_wp2
      go_ret
      exact ⟨rfl, B6⟩)

end Go.Proofs.Ytchfpokhngbpmaa.Ab

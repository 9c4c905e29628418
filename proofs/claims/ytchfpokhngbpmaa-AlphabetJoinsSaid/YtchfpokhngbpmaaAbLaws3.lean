/- The laws: AlphabetJoins. -/
import Derived.Test.YtchfpokhngbpmaaAbLaws2
import Derived.Test.YtchfpokhngbpmaaRgStep
namespace Go.Proofs.Ytchfpokhngbpmaa.Ab
open Go.RowKit Go.Shelf
open Go.Proofs.Ytchfpokhngbpmaa.Rg (RngsAt nth flatR flatR_append rngs_of_row step_app)

theorem empty_row (w : World) {B : Nat} (hB : B ≤ w.heap.size) : (w.alloc (.cells #[] 39)).drew.ownsRow B 39 2 (.slice (some ⟨w.heap.size, 0, none⟩) 0 0) 0 [] :=
  World.ownsRow_lit (e := 39) (size := 2) w #[] 0 hB (by decide) (by simp)
theorem far_cell {W w4 : World} {N i : Nat} {v u : Value} (hg : W.grownBy w4 v.ownBlock) (hN : N < W.heap.size) (hne : v.ownBlock ≠ some N) (hc : W.cell? ⟨N, i, none⟩ = some u) : w4.cell? ⟨N, i, none⟩ = some u :=
  (hg.cell_far ⟨N, i, none⟩ hN (Ne.symm hne)).trans hc
/-- behind the first append -/
theorem app_one {w W w7 : World} {C : Nat} {l : List R} {v7 x y : Value} (hown : w7.ownsRow w.heap.size 39 2 v7 (0 + l.length) ([] ++ flatR l)) (hg : W.grownBy w7 (Value.slice (some ⟨w.heap.size, 0, none⟩) 0 0).ownBlock) (hat : v7.ownBlock = (Value.slice (some ⟨w.heap.size, 0, none⟩) 0 0).ownBlock ∨ v7.ownBlock = some W.heap.size)
    (hrow : W.ownsRow w.heap.size 39 2 (.slice (some ⟨w.heap.size, 0, none⟩) 0 0) 0 []) (hb : Below w.heap.size w W) (hC : C < w.heap.size) (h0 : W.cell? ⟨C, 0, none⟩ = some x) (h1 : W.cell? ⟨C, 1, none⟩ = some y) :
    w7.ownsRow w.heap.size 39 2 v7 l.length (flatR l) ∧ Below w.heap.size w w7 ∧ v7.ownBlock ≠ some C ∧ w7.cell? ⟨C, 0, none⟩ = some x ∧ w7.cell? ⟨C, 1, none⟩ = some y := by
  have hne : (Value.slice (some ⟨w.heap.size, 0, none⟩) 0 0).ownBlock ≠ some C := by simp [Value.ownBlock]; omega
  have hM : C < W.heap.size := cell_lt h0
  refine ⟨by simpa using hown, hb.grown hg hb.size fun j hj => (World.ownsRow.lt hrow j hj).1, ?_, far_cell hg hM hne h0, far_cell hg hM hne h1⟩
  rcases hat with h | h <;> rw [h]
  · exact hne
  · simp; omega
/-- behind the second one -/
theorem app_two {w W w8 : World} {C : Nat} {l k : List R} {v7 v8 x y : Value} (hown : w8.ownsRow w.heap.size 39 2 v8 (l.length + k.length) (flatR l ++ flatR k)) (hg : W.grownBy w8 v7.ownBlock) (hrow : W.ownsRow w.heap.size 39 2 v7 l.length (flatR l)) (hb : Below w.heap.size w W) (hne : v7.ownBlock ≠ some C)
    (h0 : W.cell? ⟨C, 0, none⟩ = some x) (h1 : W.cell? ⟨C, 1, none⟩ = some y) :
    RngsAt w8 v8 (l ++ k) ∧ Below w.heap.size w w8 ∧ w8.cell? ⟨C, 0, none⟩ = some x ∧ w8.cell? ⟨C, 1, none⟩ = some y := by
  have hM : C < W.heap.size := cell_lt h0
  exact ⟨rngs_of_row (B := w.heap.size) (by rw [flatR_append, List.length_append]; exact hown), hb.grown hg hb.size fun j hj => (World.ownsRow.lt hrow j hj).1, far_cell hg hM hne h0, far_cell hg hM hne h1⟩

set_option maxRecDepth 100000 in
set_option maxHeartbeats 8000000 in
theorem lawJoins_any (a b : List Int) (l k : List R) (va vb vl vk : Value) (w : World) (ha : IntsAt w va a) (hb : IntsAt w vb b) (hl : RngsAt w vl l) (hk : RngsAt w vk k) (wa : WfL a) (wb : WfL b) :
    Calls Try.prog 5 #[va, vb, .agg #[vl, vk]] w fun e w' => e = .returned (.bool true) ∧ Below w.heap.size w w' := by
  have ca := Lib.hid alive_any
  have VA := Lib.hid ha
  have VB := Lib.hid hb
  have VL := Lib.hid hl
  have VK := Lib.hid hk
  have HB := Lib.hid ((Below.refl w.heap.size w).alloc (Nat.le_refl _) (.cells #[vl, vk] 35))
  obtain ⟨ao, acap, rfl, hm, _⟩ := ha.shape
  obtain ⟨bo, bcap, rfl, hm2, _⟩ := hb.shape
  obtain ⟨lo, lcap, rfl, hm3, _⟩ := hl.shape
  obtain ⟨ko, kcap, rfl, hm4, _⟩ := hk.shape
  clear ha hb hl hk
  by_cases h1 : (300 : Int) < (a.length : Int)
  · go_enter Try.func5, Try.ntmps5
    go_wp2_with (go_at_call 6; refine (ca.out _).mono ?_; rintro e w1 ⟨rfl, hb1⟩)
    go_ret
    exact ⟨rfl, HB.out.trans (hb1.mono HB.out.size)⟩
  by_cases h2 : (300 : Int) < (b.length : Int)
  · go_enter Try.func5, Try.ntmps5
    go_wp2_with (go_at_call 6; refine (ca.out _).mono ?_; rintro e w1 ⟨rfl, hb1⟩)
    go_ret
    exact ⟨rfl, HB.out.trans (hb1.mono HB.out.size)⟩
  by_cases h3 : (6 : Int) < (l.length : Int)
  · go_enter Try.func5, Try.ntmps5
    go_wp2_with (go_at_call 6; refine (ca.out _).mono ?_; rintro e w1 ⟨rfl, hb1⟩)
    go_ret
    exact ⟨rfl, HB.out.trans (hb1.mono HB.out.size)⟩
  by_cases h4 : (6 : Int) < (k.length : Int)
  · go_enter Try.func5, Try.ntmps5
    go_wp2_with (go_at_call 6; refine (ca.out _).mono ?_; rintro e w1 ⟨rfl, hb1⟩)
    go_ret
    exact ⟨rfl, HB.out.trans (hb1.mono HB.out.size)⟩
  have W0 := HB.out.size
  have c1 := Lib.hid (fun W (h : Below w.heap.size w W) => join_any _ _ a b W (VA.out.next h) (VB.out.next h) wa wb)
  have c2 := Lib.hid (fun W (h : Below w.heap.size w W) => rjoin_any _ _ a b W (VA.out.next h) (VB.out.next h))
  have c3 := Lib.hid (fun W (h : Below w.heap.size w W) => of_any _ l W (VL.out.next h))
  have c4 := Lib.hid (fun W (h : Below w.heap.size w W) => of_any _ k W (VK.out.next h))
  have c5 := Lib.hid (fun W p q (hp : IntsAt W p (clsL (eR l) 256)) (hq : IntsAt W q (clsL (eR k) 256)) => (of_joined l k).1 ▸ (of_joined l k).2 ▸ join_any p q _ _ W hp hq (wf_clsL (eR l)) (wf_clsL (eR k)))
  have c6 := Lib.hid (fun W v (h : RngsAt W v (l ++ k)) => rof_any v (l ++ k) W h)
  have b0 : (w.alloc (.cells #[.slice lo l.length lcap, .slice ko k.length kcap] 35)).cell? ⟨w.heap.size, 0, none⟩ = some (.slice lo l.length lcap) := by rw [World.cell?_alloc_new]; rfl
  have b1 : (w.alloc (.cells #[.slice lo l.length lcap, .slice ko k.length kcap] 35)).cell? ⟨w.heap.size, 1, none⟩ = some (.slice ko k.length kcap) := by rw [World.cell?_alloc_new]; rfl
  have BB := Lib.hid (And.intro b0 b1)
  clear b0 b1
  generalize clsL (eJ a b) 256 = LJ at *
  generalize cnt (eJ a b) 256 = NJ at *
  generalize clsL (eR l) 256 = L0 at *
  generalize cnt (eR l) 256 = N0 at *
  generalize clsL (eR k) 256 = L1 at *
  generalize cnt (eR k) 256 = N1 at *
  generalize clsL (eR (l ++ k)) 256 = L2 at *
  generalize cnt (eR (l ++ k)) 256 = N2 at *
  go_enter Try.func5, Try.ntmps5
  go_wp2_with (first
    | (go_at_call 17; (with_reducible refine (c1.out _ HB.out).mono ?_); rintro e w1 ⟨v1, rfl, hv1, hb1⟩; have H1 := Lib.hid (HB.out.trans (hb1.mono W0)); have D1 := Lib.hid hb1; have V1 := Lib.hid hv1; clear hb1 hv1)
    | (go_at_call 18; (with_reducible refine (c2.out _ H1.out).mono ?_); rintro e w2 ⟨v2, rfl, hv2, hb2⟩; have H2 := Lib.hid (H1.out.trans (hb2.mono H1.out.size)); have D2 := Lib.hid (D1.out.trans (hb2.mono D1.out.size)); have S1 := Lib.hid (same_one v1 v2 LJ w2 (V1.out.next hb2) hv2); clear hb2 hv2)
    | (go_at_call 9; (with_reducible refine S1.out.mono ?_); rintro e w3 ⟨rfl, hb3⟩; have H3 := Lib.hid (H2.out.trans (hb3.mono H2.out.size)); have D3 := Lib.hid (D2.out.trans (hb3.mono D2.out.size)); have q0 := cell_next BB.out.1 D3.out; clear hb3)
    | (go_at_call 7; (with_reducible refine (c3.out _ H3.out).mono ?_); rintro e w4 ⟨v4, rfl, hv4, hb4⟩; have H4 := Lib.hid (H3.out.trans (hb4.mono H3.out.size)); have D4 := Lib.hid (D3.out.trans (hb4.mono D3.out.size)); have V4 := Lib.hid hv4; have q1 := cell_next BB.out.2 D4.out; clear hb4 hv4)
    | (go_at_call 7; (with_reducible refine (c4.out _ H4.out).mono ?_); rintro e w5 ⟨v5, rfl, hv5, hb5⟩; have H5 := Lib.hid (H4.out.trans (hb5.mono H4.out.size)); have D5 := Lib.hid (D4.out.trans (hb5.mono D4.out.size)); have V5 := Lib.hid hv5; have V4b := Lib.hid (V4.out.next hb5); clear hb5 hv5)
    | (go_at_call 17; (with_reducible refine (c5.out _ _ _ V4b.out V5.out).mono ?_); rintro e w6 ⟨v6, rfl, hv6, hb6⟩; have H6 := Lib.hid (H5.out.trans (hb6.mono H5.out.size)); have D6 := Lib.hid (D5.out.trans (hb6.mono D5.out.size)); have V6 := Lib.hid hv6; have q2 := cell_next BB.out.1 D6.out; have q3 := cell_next BB.out.2 D6.out; clear hb6 hv6)
    | fail)
  have q4 : w6.drew.cell? ⟨w.heap.size, 0, none⟩ = some (.slice lo l.length lcap) := q2
  have q5 : w6.drew.cell? ⟨w.heap.size, 1, none⟩ = some (.slice ko k.length kcap) := q3
  have N6 : w.heap.size < w6.heap.size := by have h := D6.out.size; rw [World.size_alloc] at h; omega
  have E6 := Lib.hid (empty_row w6 (Nat.le_refl _))
  have G6 := Lib.hid (((Below.refl w6.heap.size w6).alloc (Nat.le_refl _) (.cells #[] 39)).drew)
  have SL := Lib.hid (VL.out.next (H6.out.trans (G6.out.mono H6.out.size)))
  have SH := Lib.hid (And.intro h3 h4)
  have q6 : (w6.alloc (.cells #[] 39)).drew.cell? ⟨w.heap.size, 0, none⟩ = some (.slice lo l.length lcap) := cell_next q2 G6.out
  have q7 : (w6.alloc (.cells #[] 39)).drew.cell? ⟨w.heap.size, 1, none⟩ = some (.slice ko k.length kcap) := cell_next q3 G6.out
  go_region_held3 (fun W => W.cell? ⟨w.heap.size, 0, none⟩ = some (.slice lo l.length lcap) ∧ W.cell? ⟨w.heap.size, 1, none⟩ = some (.slice ko k.length kcap)) (first | go_keep | exact ⟨by assumption, by assumption⟩)
    (first
      | ((refine step_app rfl (.tmp 76) (.tmp 78) (by rfl) w6.heap.size (.slice (some ⟨w6.heap.size, 0, none⟩) 0 0) 0 [] (by rfl) E6.out (.slice lo l.length lcap) l (by rfl) SL.out (by have := SH.out; omega) G6.out.size ?_); intro v7 w7 hown hg hat; go_must (have N7 := Lib.hid (app_one hown hg hat E6.out G6.out N6 q6 q7); have p0 := N7.out.2.2.2.1; have p1 := N7.out.2.2.2.2; have SK := Lib.hid (VK.out.next (H6.out.trans (N7.out.2.1.mono H6.out.size))); clear hown hg hat))
      | ((refine step_app rfl (.tmp 79) (.tmp 81) (by rfl) w6.heap.size v7 l.length (flatR l) (by rfl) N7.out.1 (.slice ko k.length kcap) k (by rfl) SK.out (by have := SH.out; omega) N7.out.2.1.size ?_); intro v8 w8 hown hg hat; go_must (have N8 := Lib.hid (app_two hown hg N7.out.1 N7.out.2.1 N7.out.2.2.1 p0 p1); have s0 := N8.out.2.2.1; have s1 := N8.out.2.2.2; clear hown hg hat))
      | (go_at_call 8; (with_reducible refine (c6.out _ _ N8.out.1).mono ?_); rintro e w9 ⟨v9, rfl, hv9, hb9⟩; go_must (have t0 := cell_next s0 hb9; have t1 := cell_next s1 hb9; have H9 := Lib.hid (N8.out.2.1.trans (hb9.mono N8.out.2.1.size)); have S2 := Lib.hid (same_one v6 v9 L2 w9 (V6.out.next H9.out) hv9); clear hb9 hv9))
      | fail)
  all_goals (
    go_wp2_with (first
      | (go_at_call 9; (with_reducible refine S2.out.mono ?_); rintro e w10 ⟨rfl, hb10⟩; have H10 := Lib.hid (H6.out.trans ((H9.out.trans (hb10.mono H9.out.size)).mono H6.out.size)); clear hb10)
      | (go_at_call 6; (with_reducible refine (ca.out _).mono ?_); rintro e w11 ⟨rfl, hb11⟩; have H11 := Lib.hid (H10.out.trans (hb11.mono H10.out.size)); clear hb11)
      | fail)
    go_ret
    exact ⟨rfl, H11.out⟩)

end Go.Proofs.Ytchfpokhngbpmaa.Ab

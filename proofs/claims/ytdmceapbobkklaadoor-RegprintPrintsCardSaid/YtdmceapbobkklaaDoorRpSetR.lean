/- A set's text: the document's. -/
import Derived.Test.YtdmceapbobkklaaDoorRpLet
import Derived.Test.YtdmceapbobkklaaDoorBdKit
import Derived.Test.YtdmceapbobkklaaDoorDgSt0
import Derived.Test.YtdmceapbobkklaaDoorRgPRight
import Derived.Test.YtdmceapbobkklaaDoorRgRight
import Derived.Deep.RegionHeld3
import Derived.Deep.QuietTactic
import Derived.BigQuiet
import Derived.Maps.AppendAt
namespace Go.Proofs.YtdmceapbobkklaaDoor.Rp
open Go Go.RowKit Go.Shelf
open Go.Proofs.YtdmceapbobkklaaDoor.Rg (R RngsAt nth setFrom rightB rightB_iff right_any rightB_of of_any SetOut hasB inB inB_set inB_isC isC uniq set_all rngs_of_row set_any none_at holdB)
open Go.Proofs.YtdmceapbobkklaaDoor.Bd (Wr IsB write_string)

/-- the tables -/
abbrev St := Dg.St
structure Gr (w0 w : World) : Prop where
  st : St w0
  b : Below w0.heap.size w0 w
theorem Gr.start {w : World} (h : St w) : Gr w w := ⟨h, Below.refl _ _⟩
theorem Gr.here {w0 w : World} (h : Gr w0 w) : St w := h.st.next h.b
theorem Gr.on {w0 w w' : World} (h : Gr w0 w) (hb : Below w.heap.size w w') : Gr w0 w' := ⟨h.st, h.b.trans (hb.mono h.b.size)⟩

theorem right_b (l : List R) (v : Value) (w : World) (h : RngsAt w v l) : Calls Tryd.prog 29 #[v] w fun e w' => e = .returned (.bool (rightB l)) ∧ Below w.heap.size w w' := by
  refine (right_any l v w h).mono ?_
  rintro e w' ⟨b, rfl, hb, h2⟩
  exact ⟨by rw [rightB_of hb], h2⟩

set_option maxRecDepth 100000 in
set_option maxHeartbeats 400000 in
theorem only_any (c : Int) (w : World) : Calls Tryd.prog 55 #[.int .i64 c] w fun e w' => e = .returned (.agg #[.int .i64 c, .int .i64 c]) ∧ Below w.heap.size w w' := by
  go_enter Tryd.func55, Tryd.ntmps55
  go_wp2
  (try simp only [Exit.inBlock, Exit.then])
  refine bodyPost_ret (results_cell_row rfl _ _ w.heap.size 75 #[.int .i64 c, .int .i64 c] (0, 0) _ rfl (heap_alloc_new _ _) Tryd.underlying75 rfl (by kernel_rfl)) rfl ?_
  exact ⟨rfl, (Below.refl w.heap.size w).alloc (Nat.le_refl _) _⟩

/-- the number of a set of just one -/
def oneB (l : List R) : Bool := decide (l.length = 1) && decide ((nth l 0).1 = (nth l 0).2)
def oneN (l : List R) : Int := if oneB l = true then (nth l 0).1 else 0
theorem oneN_no {l : List R} (h : oneB l = false) : oneN l = 0 := by unfold oneN; rw [if_neg (by rw [h]; simp)]
theorem oneN_yes {l : List R} (h : oneB l = true) : oneN l = (nth l 0).1 := by unfold oneN; rw [if_pos h]
theorem ret_ib {a c : Int} {b d : Bool} (h1 : a = c) (h2 : b = d) : Ending.returned (.tuple #[.int .i64 a, .bool b]) = .returned (.tuple #[.int .i64 c, .bool d]) := by rw [h1, h2]

set_option maxRecDepth 100000 in
set_option maxHeartbeats 1600000 in
theorem one_any (l : List R) (v : Value) (w : World) (hv : RngsAt w v l) (hr : rightB l = true) :
    Calls Tryd.prog 46 #[v] w fun e w' => e = .returned (.tuple #[.int .i64 (oneN l), .bool (oneB l)]) ∧ Below w.heap.size w w' := by
  have CR := Lib.hid (fun W (hb : Below w.heap.size w W) => right_b l v W (hv.next hb))
  rw [hr] at CR
  obtain ⟨ao, cap, rfl, hm, hcs⟩ := hv.shape
  by_cases h1 : l.length = 1
  · obtain ⟨g, rfl, c0, c1⟩ := hcs 0 (by omega)
    have CO := Lib.hid (fun W => only_any (nth l 0).1 W)
    have HO := Lib.hid (show oneB l = decide ((nth l 0).1 = (nth l 0).2) by unfold oneB; rw [decide_eq_true h1, Bool.true_and])
    have HN := Lib.hid (fun h => oneN_yes (l := l) h)
    have HM := Lib.hid (fun h => oneN_no (l := l) h)
    have hg : g.add (0 * 2) = g := by simp [Addr.add]
    rw [hg] at c0 c1
    generalize oneN l = N at *
    generalize oneB l = b at *
    generalize (nth l 0).1 = x at *
    generalize (nth l 0).2 = y at *
    rw [h1] at CR ⊢
    have q0 : w.drew.cell? g = some (.int .i64 x) := c0
    have q1 : w.drew.cell? ⟨g.block, g.off + 1, none⟩ = some (.int .i64 y) := c1
    have q2 : Below w.heap.size w w.drew := (Below.refl _ _).drew
    clear hcs hv hr hg hm
    by_cases hxy : x = y
    · subst hxy
      have HB := Lib.hid (show b = true by rw [HO.out]; simp)
      clear HO HM
      go_enter Tryd.func46, Tryd.ntmps46
      go_wp2
      go_region_held3 (fun W => W.cell? g = some (.int .i64 x) ∧ W.cell? ⟨g.block, g.off + 1, none⟩ = some (.int .i64 x) ∧ Below w.heap.size w W) (first | exact ⟨by assumption, by assumption, by assumption⟩ | go_keep)
        (first
          | (go_at_call 29; (with_reducible refine (CR.out _ (by assumption)).mono ?_); rintro e w1 ⟨rfl, hb1⟩; go_must (have r0 := cell_next (a := g) (v := .int .i64 x) (by assumption) hb1; have r1 := cell_next (a := ⟨g.block, g.off + 1, none⟩) (v := .int .i64 x) (by assumption) hb1; have r2 := Below.trans (show Below w.heap.size w _ by assumption) (hb1.mono (Below.size (show Below w.heap.size w _ by assumption)))))
          | (go_at_call 55; (with_reducible refine (CO.out _).mono ?_); rintro e w1 ⟨rfl, hb1⟩; go_must (have r0 := cell_next (a := g) (v := .int .i64 x) (by assumption) hb1; have r1 := cell_next (a := ⟨g.block, g.off + 1, none⟩) (v := .int .i64 x) (by assumption) hb1; have r2 := Below.trans (show Below w.heap.size w _ by assumption) (hb1.mono (Below.size (show Below w.heap.size w _ by assumption)))))
          | fail)
      all_goals (
        go_wp2
        go_ret2
        exact ⟨ret_ib (by rw [HN.out HB.out]) (by rw [HB.out]), by assumption⟩)
    · have HB := Lib.hid (show b = false by rw [HO.out]; simpa using hxy)
      have e1 : (y == x) = false := by simpa using fun h => hxy h.symm
      have e2 : (x == y) = false := by simpa using hxy
      clear HO HN hxy
      go_enter Tryd.func46, Tryd.ntmps46
      go_wp2
      go_region_held3 (fun W => W.cell? g = some (.int .i64 x) ∧ W.cell? ⟨g.block, g.off + 1, none⟩ = some (.int .i64 y) ∧ Below w.heap.size w W) (first | exact ⟨by assumption, by assumption, by assumption⟩ | go_keep)
        (first
          | (go_at_call 29; (with_reducible refine (CR.out _ (by assumption)).mono ?_); rintro e w1 ⟨rfl, hb1⟩; go_must (have r0 := cell_next (a := g) (v := .int .i64 x) (by assumption) hb1; have r1 := cell_next (a := ⟨g.block, g.off + 1, none⟩) (v := .int .i64 y) (by assumption) hb1; have r2 := Below.trans (show Below w.heap.size w _ by assumption) (hb1.mono (Below.size (show Below w.heap.size w _ by assumption)))))
          | (go_at_call 55; (with_reducible refine (CO.out _).mono ?_); rintro e w1 ⟨rfl, hb1⟩; go_must (have r0 := cell_next (a := g) (v := .int .i64 x) (by assumption) hb1; have r1 := cell_next (a := ⟨g.block, g.off + 1, none⟩) (v := .int .i64 y) (by assumption) hb1; have r2 := Below.trans (show Below w.heap.size w _ by assumption) (hb1.mono (Below.size (show Below w.heap.size w _ by assumption)))))
          | fail)
      all_goals (
        go_wp2
        go_ret2
        exact ⟨ret_ib (by rw [HM.out HB.out]) (by rw [HB.out]), by assumption⟩)
  · have HO := Lib.hid (show oneB l = false by unfold oneB; rw [decide_eq_false h1, Bool.false_and])
    have HM := Lib.hid (oneN_no HO.out)
    have n1 : ((l.length : Int) != 1) = true := by simp; omega
    clear hcs hv CR
    generalize oneN l = N at *
    generalize oneB l = b at *
    generalize l.length = n at *
    go_enter Tryd.func46, Tryd.ntmps46
    go_wp2
    go_quiet (fail)
    go_wp2
    go_ret2
    exact ⟨ret_ib HM.out.symm HO.out.symm, Rg.below_drewN _ _⟩

set_option maxRecDepth 100000 in
set_option maxHeartbeats 400000 in
theorem esc_any (c : Int) (w : World) (h0 : 0 ≤ c) (h1 : c ≤ 1114111) (hs : St w) : Calls Tryd.prog 64 #[.int .i64 c] w fun e w' => e = .returned (.string ⟨(escL c).toArray⟩) ∧ Below w.heap.size w w' := by
  have hl := hex_le c
  have CH := Lib.hid (Dg.hextext_any c 1 w (by omega) (by omega) (by omega) (by omega) hs.tab)
  have HE := Lib.hid (show escL c = [92, 117, 123] ++ Dg.hexText c 1 ++ [125] from rfl)
  clear hs
  generalize escL c = E at *
  generalize Dg.hexText c 1 = H at *
  go_enter Tryd.func64, Tryd.ntmps64
  go_wp2_with (go_at_call 68; (with_reducible refine CH.out.mono ?_); rintro e w1 ⟨rfl, hb1⟩)
  go_ret
  exact ⟨ret_t (by rw [HE.out]; simp [ByteArray.ext_iff]), hb1⟩

set_option maxRecDepth 100000 in
set_option maxHeartbeats 1600000 in
theorem span_any (r : R) (w : World) (h0 : 0 ≤ r.1) (h1 : r.1 ≤ r.2) (h2 : r.2 ≤ 1114111) (hs : St w) :
    Calls Tryd.prog 57 #[.agg #[.int .i64 r.1, .int .i64 r.2]] w fun e w' => e = .returned (.string ⟨(spanL r).toArray⟩) ∧ Below w.heap.size w w' := by
  have C1 := Lib.hid (fun W (hb : Below w.heap.size w W) => esc_any r.1 W (by omega) (by omega) (hs.next hb))
  have C2 := Lib.hid (fun W (hb : Below w.heap.size w W) => esc_any r.2 W (by omega) (by omega) (hs.next hb))
  have l1 := esc_len r.1
  have l2 := esc_len r.2
  have HS := Lib.hid (show spanL r = if r.1 = r.2 then escL r.1 else escL r.1 ++ [45] ++ escL r.2 from rfl)
  generalize spanL r = E at *
  obtain ⟨x, y⟩ := r
  dsimp only at *
  generalize escL x = X at *
  generalize escL y = Y at *
  clear hs h0 h1 h2
  by_cases hxy : x = y
  · have HE := Lib.hid (show E = X by rw [HS.out, if_pos hxy])
    subst hxy
    clear HS C2 l2
    have b1 := Lib.hid ((Below.refl w.heap.size w).alloc (Nat.le_refl _) (.cells #[.int .i64 x, .int .i64 x] 75))
    go_enter Tryd.func57, Tryd.ntmps57
    go_wp2_with (go_at_call 64; (with_reducible refine (C1.out _ b1.out).mono ?_); rintro e w1 ⟨rfl, hb1⟩)
    go_ret
    exact ⟨ret_t (by rw [HE.out]), b1.out.trans (hb1.mono (by simp))⟩
  · have HE := Lib.hid (show E = X ++ [45] ++ Y by rw [HS.out, if_neg hxy])
    have e1 : (x == y) = false := by simpa using hxy
    clear HS hxy
    obtain ⟨x1, q1, z1, j1⟩ := run_join ⟨X.toArray⟩ ⟨#[45]⟩ (by rw [size_mk]; show _ + 1 ≤ _; omega)
    have y1 : x1.size = X.length + 1 := z1
    obtain ⟨x2, q2, z2, j2⟩ := run_join x1 ⟨Y.toArray⟩ (by show x1.size + Y.length ≤ _; omega)
    have HX := Lib.hid (show x2 = ⟨E.toArray⟩ by rw [q2, q1, HE.out]; simp [ByteArray.ext_iff])
    clear q1 q2 z1 z2 y1 HE
    go_enter Tryd.func57, Tryd.ntmps57
    go_wp2
    have f0 : (w.alloc (.cells #[.int .i64 x, .int .i64 y] 75)).drew.cell? ⟨w.heap.size, 0, none⟩ = some (.int .i64 x) := by show (w.alloc _).cell? _ = _; simp
    have f1 : (w.alloc (.cells #[.int .i64 x, .int .i64 y] 75)).drew.cell? ⟨w.heap.size, 1, none⟩ = some (.int .i64 y) := by show (w.alloc _).cell? _ = _; simp
    have f2 : Below w.heap.size w (w.alloc (.cells #[.int .i64 x, .int .i64 y] 75)).drew := ((Below.refl w.heap.size w).alloc (Nat.le_refl _) _).drew
    go_region_held3 (fun W => W.cell? ⟨w.heap.size, 0, none⟩ = some (.int .i64 x) ∧ W.cell? ⟨w.heap.size, 1, none⟩ = some (.int .i64 y) ∧ Below w.heap.size w W) (first | exact ⟨by assumption, by assumption, by assumption⟩ | go_keep)
      (first
        | (go_at_call 64; (first | (with_reducible refine (C1.out _ (by assumption)).mono ?_) | (with_reducible refine (C2.out _ (by assumption)).mono ?_)); rintro e w1 ⟨rfl, hb1⟩; go_must (have r0 := cell_next (a := ⟨w.heap.size, 0, none⟩) (v := .int .i64 x) (by assumption) hb1; have r1 := cell_next (a := ⟨w.heap.size, 1, none⟩) (v := .int .i64 y) (by assumption) hb1; have r2 := Below.trans (show Below w.heap.size w _ by assumption) (hb1.mono (Below.size (show Below w.heap.size w _ by assumption)))))
        | fail)
    all_goals (
      go_wp2
      go_ret
      exact ⟨ret_t HX.out, by assumption⟩)

end Go.Proofs.YtdmceapbobkklaaDoor.Rp

namespace Go.Proofs.YtdmceapbobkklaaDoor.Rp
open Go Go.RowKit Go.Shelf
open Go.Proofs.YtdmceapbobkklaaDoor.Rg (R RngsAt nth setFrom rightB rightB_iff of_any SetOut hasB inB inB_set inB_isC isC uniq set_all rngs_of_row set_any none_at holdB)
open Go.Proofs.YtdmceapbobkklaaDoor.Bd (Wr IsB write_string)

theorem same_set {l L : List R} (hr : rightB l = true) (hL : setFrom 0 L) (h : ∀ c, hasB L c = inB l c) : L = l :=
  uniq hL ((rightB_iff l).1 hr) fun c => by rw [h, inB_set ((rightB_iff l).1 hr)]
/-- Of of a set is the set -/
theorem of_same (l : List R) (v : Value) (w : World) (hv : RngsAt w v l) (hr : rightB l = true) (hl : l.length ≤ 30) :
    Calls Tryd.prog 56 #[v] w fun e w' => ∃ v', e = .returned v' ∧ RngsAt w' v' l ∧ Below w.heap.size w w' := by
  refine (of_any l v w hv (by omega)).mono ?_
  rintro e w' ⟨v', L, rfl, hrow, h1, h2, _, h4⟩
  obtain rfl := same_set hr h1 h2
  exact ⟨v', rfl, rngs_of_row hrow, h4⟩
theorem rset_same (l : List R) (v : Value) (w : World) (hv : RngsAt w v l) (hr : rightB l = true) (hl : l.length ≤ 30) :
    Calls Tryd.prog 36 #[.int .i64 0, v, .slice none 0 0] w fun e w' => ∃ v', e = .returned v' ∧ RngsAt w' v' l ∧ Below w.heap.size w w' := by
  refine (set_any 0 (by omega) l [] v (.slice none 0 0) w hv (none_at w) (by simp; omega)).mono ?_
  rintro e w' ⟨v', L, rfl, hrow, h1, h2, _, h4⟩
  obtain rfl := same_set hr h1 (fun c => by rw [h2]; show (isC c && inB l c) = _; rw [inB_isC])
  exact ⟨v', rfl, rngs_of_row hrow, h4⟩

/-- what has been written of a set's class -/
def soFar (l : List R) (k : Nat) : Tx := [91] ++ (l.take k).flatMap spanL
theorem soFar_len (l : List R) (k : Nat) (hl : l.length ≤ 30) : (soFar l k).length ≤ 1300 := by
  have := spans_len (l.take k)
  rw [List.length_take] at this
  unfold soFar; simp only [List.length_append, List.length_cons, List.length_nil]; omega
theorem soFar_succ {l : List R} {k : Nat} (h : k < l.length) : soFar l (k + 1) = soFar l k ++ spanL (nth l k) := by
  unfold soFar
  rw [List.take_succ_eq_append_getElem h, List.flatMap_append, Rg.nth_eq h]; simp
theorem soFar_all {l : List R} (h : l.length ≠ 0) : soFar l l.length ++ [93] = brkL l := by
  unfold soFar brkL; rw [if_neg h, List.take_length]
theorem brk_nil {l : List R} (h : l.length = 0) : brkL l = [91, 94] ++ spanL (0, 1114111) ++ [93] := by unfold brkL; rw [if_pos h]
theorem nth_in {l : List R} {k : Nat} (hr : rightB l = true) (h : k < l.length) : 0 ≤ (nth l k).1 ∧ (nth l k).1 ≤ (nth l k).2 ∧ (nth l k).2 ≤ 1114111 := by
  have := set_all ((rightB_iff l).1 hr) (nth l k) (by rw [Rg.nth_eq h]; exact List.getElem_mem h)
  omega

set_option maxRecDepth 100000 in
set_option maxHeartbeats 1600000 in
theorem text_any (l : List R) (v : Value) (w : World) (hv : RngsAt w v l) (hr : rightB l = true) (hl : l.length ≤ 30) (hs : St w) :
    Calls Tryd.prog 48 #[v] w fun e w' => e = .returned (.string ⟨(brkL l).toArray⟩) ∧ Below w.heap.size w w' := by
  have C0 := Lib.hid (of_same l v w hv hr hl)
  have HS := Lib.hid hs
  have HR := Lib.hid hr
  clear hv hs hr
  by_cases h0 : l.length = 0
  · have l1 := span_len (0, 1114111)
    have HE := Lib.hid (brk_nil h0)
    have C1 := Lib.hid (fun W (hb : Below w.heap.size w W) => span_any (0, 1114111) W (by decide) (by decide) (by decide) (HS.out.next hb))
    generalize brkL l = E at *
    generalize spanL (0, 1114111) = X at *
    have e0 : ((l.length : Int) == 0) = true := beq_iff_eq.2 (by omega)
    dsimp only at C1
    clear HR HS
    go_enter Tryd.func48, Tryd.ntmps48
    go_wp2_with (first
      | (go_at_call 56; (with_reducible refine C0.out.mono ?_); rintro e w1 ⟨v', rfl, hv1, hb1⟩; go_must (obtain ⟨ao, cap, rfl, _, _⟩ := hv1.shape; have B1 := Lib.hid hb1; clear hb1 hv1))
      | (go_at_call 57; (with_reducible refine (C1.out _ B1.out).mono ?_); rintro e w2 ⟨rfl, hb2⟩)
      | fail)
    go_ret
    exact ⟨ret_t (by rw [HE.out]; simp [ByteArray.ext_iff]), B1.out.trans (hb2.mono B1.out.size)⟩
  · have e0 : ((l.length : Int) == 0) = false := beq_eq_false_iff_ne.2 (by omega)
    have HE := Lib.hid (soFar_all h0)
    go_enter Tryd.func48, Tryd.ntmps48
    go_wp2_with (first
      | (go_at_call 56; (with_reducible refine C0.out.mono ?_); rintro e W ⟨v', rfl, hv1, hb1⟩; go_must (obtain ⟨ao, cap, rfl, _, hcs⟩ := hv1.shape; have HC := Lib.hid hcs; have B1 := Lib.hid hb1; have CW := Lib.hid (write_string W.heap.size W.heap.size [] [91] _ (Lib.IsBuilderF.of (Lib.fresh_isBuilder 40 5 W)) (by decide)); clear hb1 hv1 hcs))
      | (go_at_call 17; (with_reducible refine CW.out.mono ?_); rintro e w2 ⟨rfl, hi2, hw2⟩; go_must (have I2 := Lib.hid hi2; have W2 := Lib.hid (((Below.refl W.heap.size W).alloc (Nat.le_refl _) _).trans hw2.below); clear hi2 hw2))
      | fail)
    go_loopw [19] (fun i wr => ∃ k : Nat, i = .int .i64 k ∧ k ≤ l.length ∧ IsB W.heap.size W.heap.size (soFar l k) wr ∧ Below W.heap.size W wr) (fun i _ => l.length - (intOf i).toNat)
    case atStart => exact ⟨0, rfl, Nat.zero_le _, I2.out, W2.out⟩
    case round =>
      obtain ⟨k, rfl, hk, hi, hb⟩ := hrel
      have HI := Lib.hid hi
      have HB := Lib.hid hb
      have hlt0 := hi.lt
      clear hi hb
      by_cases hlt : k < l.length
      · obtain ⟨g, rfl, c0, c1⟩ := HC.out k hlt
        replace c0 := cell_next c0 HB.out
        replace c1 := cell_next c1 HB.out
        obtain ⟨n0, n1, n2⟩ := nth_in HR.out hlt
        have l1 := span_len (nth l k)
        have l2 := soFar_len l k hl
        have HSS := Lib.hid (soFar_succ hlt)
        have bx := fun o => (Below.refl wr.heap.size wr).alloc (Nat.le_refl _) o
        have BX := Lib.hid bx
        have CS := Lib.hid (fun o => span_any (nth l k) (wr.alloc o) n0 n1 n2 ((HS.out.next B1.out).next (HB.out.trans ((bx o).mono HB.out.size))))
        have CW2 := Lib.hid (fun o W3 (h : Below (wr.alloc o).heap.size (wr.alloc o) W3) => write_string W.heap.size W.heap.size (soFar l k) (spanL (nth l k)) W3 ((HI.out.next (bx o)).next h) (by omega))
        clear bx
        generalize spanL (nth l k) = X at *
        generalize nth l k = r at *
        obtain ⟨x, y⟩ := r
        dsimp only at *
        go_wp2_with (first
          | (go_at_call 57; (with_reducible refine (CS.out _).mono ?_); rintro e w3 ⟨rfl, hb3⟩; go_must (have B3 := Lib.hid hb3; clear hb3))
          | (go_at_call 17; (with_reducible refine (CW2.out _ _ B3.out).mono ?_); rintro e w4 ⟨rfl, hi4, hw4⟩)
          | fail)
        go_roundw
        case rel => exact ⟨k + 1, by go_num, by omega, by rw [HSS.out]; exact hi4, (HB.out.trans (((BX.out _).mono HB.out.size).trans (B3.out.mono (by have := HB.out.size; simp; omega)))).trans hw4.below⟩
        case measure => simp [intOf]; omega
      · obtain rfl : k = l.length := by omega
        have l2 := soFar_len l l.length hl
        have CW3 := Lib.hid (write_string W.heap.size W.heap.size (soFar l l.length) [93] wr HI.out (by simp; omega))
        rw [HE.out] at CW3
        go_wp2_with (first
          | (go_at_call 17; (with_reducible refine CW3.out.mono ?_); rintro e w5 ⟨rfl, hi5, hw5⟩; go_must (have CT := Lib.hid (Tryd.Builder_String_any_f W.heap.size W.heap.size (brkL l) w5 hi5 (by have := hi5.lt; omega)); have W5 := Lib.hid (HB.out.trans hw5.below); clear hi5 hw5))
          | (go_at_call 19; (with_reducible refine CT.out.mono ?_); rintro e w6 ⟨rfl, _, hb6⟩)
          | fail)
        go_ret
        exact ⟨rfl, B1.out.trans ((W5.out.trans hb6).mono B1.out.size)⟩

theorem brk_nil2 {l : List R} (h : l.length = 0) : brkL l = [91, 94] ++ (escL 0 ++ [45] ++ escL 1114111) ++ [93] := brk_nil h
theorem span_eq {r : R} (h : r.1 = r.2) : spanL r = escL r.1 := by unfold spanL; rw [if_pos h]
theorem span_ne {r : R} (h : r.1 ≠ r.2) : spanL r = escL r.1 ++ [45] ++ escL r.2 := by unfold spanL; rw [if_neg h]

set_option maxRecDepth 100000 in
set_option maxHeartbeats 1600000 in
theorem rtext_any (l : List R) (v : Value) (w : World) (hv : RngsAt w v l) (hr : rightB l = true) (hl : l.length ≤ 30) :
    Calls Tryd.prog 41 #[v] w fun e w' => e = .returned (.string ⟨(brkL l).toArray⟩) ∧ Below w.heap.size w w' := by
  have C0 := Lib.hid (rset_same l v w hv hr hl)
  have HR := Lib.hid hr
  clear hv hr
  have HE0 := Lib.hid (fun h => brk_nil2 (l := l) h)
  have HE1 := Lib.hid (fun h => soFar_all (l := l) h)
  have lz := esc_len 0
  have lt := esc_len 1114111
  have CZ := Lib.hid (fun W => resc_any 0 W (by decide) (by decide))
  have CT := Lib.hid (fun W => resc_any 1114111 W (by decide) (by decide))
  generalize escL 0 = EZ at *
  generalize escL 1114111 = ET at *
  go_enter Tryd.func41, Tryd.ntmps41
  go_wp2_with (go_at_call 36; (with_reducible refine C0.out.mono ?_); rintro e W ⟨v', rfl, hv1, hb1⟩; go_must (obtain ⟨ao, cap, rfl, _, hcs⟩ := hv1.shape; have HC := Lib.hid hcs; have B1 := Lib.hid hb1; clear hb1 hv1 hcs))
  go_loopw [4, 5] (fun s i wr => ∃ k : Nat, i = .int .i64 k ∧ k ≤ l.length ∧ s = .string ⟨(soFar l k).toArray⟩ ∧ Below W.heap.size W wr) (fun _ i _ => l.length - (intOf i).toNat)
  case atStart => exact ⟨0, rfl, Nat.zero_le _, rfl, Below.refl _ _⟩
  case round =>
    obtain ⟨k, rfl, hk, rfl, hb⟩ := hrel
    have HB := Lib.hid hb
    clear hb
    by_cases hlt : k < l.length
    · obtain ⟨g, rfl, c0, c1⟩ := HC.out k hlt
      replace c0 := cell_next c0 HB.out
      replace c1 := cell_next c1 HB.out
      obtain ⟨n0, n1, n2⟩ := nth_in HR.out hlt
      have l1 := esc_len (nth l k).1
      have l2 := soFar_len l k hl
      have l3 := esc_len (nth l k).2
      have C1 := Lib.hid (fun W => resc_any (nth l k).1 W n0 (by omega))
      have C2 := Lib.hid (fun W => resc_any (nth l k).2 W (by omega) n2)
      have HSS := Lib.hid (soFar_succ hlt)
      have HEQ := Lib.hid (fun h => span_eq (r := nth l k) h)
      have HNE := Lib.hid (fun h => span_ne (r := nth l k) h)
      generalize soFar l k = S0 at *
      generalize spanL (nth l k) = X at *
      generalize nth l k = r at *
      obtain ⟨x, y⟩ := r
      dsimp only at *
      generalize escL x = EX at *
      generalize escL y = EY at *
      clear CZ CT
      by_cases hxy : x = y
      · have e := HEQ.out hxy
        have hn : ¬ x < y := by omega
        have HS1 := Lib.hid (show soFar l (k + 1) = S0 ++ EX by rw [HSS.out, e])
        clear HEQ HNE HSS e hxy
        go_wp2_with (go_at_call 54; (with_reducible refine (C1.out _).mono ?_); rintro e w2 ⟨rfl, hw⟩; subst hw)
        go_quiet (fail)
        go_wp2
        go_roundw
        case rel => exact ⟨k + 1, by go_num, by omega, by rw [HS1.out]; simp [ByteArray.ext_iff], HB.out.trans ((Rg.below_drewN _ _).mono HB.out.size)⟩
        case measure => simp [intOf]; omega
      · have e := HNE.out hxy
        have hn : x < y := by omega
        have HS1 := Lib.hid (show soFar l (k + 1) = S0 ++ EX ++ [45] ++ EY by rw [HSS.out, e]; simp)
        clear HEQ HNE HSS e hxy
        go_wp2_with (go_at_call 54; (with_reducible refine (C1.out _).mono ?_); rintro e w2 ⟨rfl, hw⟩; subst hw)
        go_quiet (fail)
        go_wp2_with (go_at_call 54; (with_reducible refine (C2.out _).mono ?_); rintro e w2 ⟨rfl, hw⟩; subst hw)
        go_roundw
        case rel => exact ⟨k + 1, by go_num, by omega, by rw [HS1.out]; simp [ByteArray.ext_iff], HB.out.trans ((Rg.below_drewN _ _).mono HB.out.size)⟩
        case measure => simp [intOf]; omega
    · obtain rfl : k = l.length := by omega
      have l2 := soFar_len l l.length hl
      by_cases h0 : l.length = 0
      · have e0 : ((l.length : Int) == 0) = true := beq_iff_eq.2 (by omega)
        have HE := Lib.hid (HE0.out h0)
        clear h0
        go_wp2_with (first
          | (go_at_call 54; (with_reducible refine (CZ.out _).mono ?_); rintro e w2 ⟨rfl, hw⟩; subst hw)
          | (go_at_call 54; (with_reducible refine (CT.out _).mono ?_); rintro e w2 ⟨rfl, hw⟩; subst hw)
          | fail)
        go_ret
        exact ⟨ret_t (by rw [HE.out]; simp [ByteArray.ext_iff]), B1.out.trans (HB.out.mono B1.out.size)⟩
      · have e0 : ((l.length : Int) == 0) = false := beq_eq_false_iff_ne.2 (by omega)
        have HE := Lib.hid (HE1.out h0)
        clear h0
        generalize soFar l l.length = S0 at *
        go_wp2
        go_ret
        exact ⟨ret_t (by rw [← HE.out]; simp [ByteArray.ext_iff]), B1.out.trans (HB.out.mono B1.out.size)⟩

end Go.Proofs.YtdmceapbobkklaaDoor.Rp

namespace Go.Proofs.YtdmceapbobkklaaDoor.Rp
open Go Go.RowKit Go.Shelf
open Go.Proofs.YtdmceapbobkklaaDoor.Rg (R RngsAt nth rightB)

theorem sole_one {l : List R} (h : oneB l = false) : soleB l = false := by
  unfold oneB at h; unfold soleB
  rw [Bool.and_eq_false_iff] at h
  rcases h with h | h
  · rw [h]; rfl
  · rw [h]; simp
theorem sole_eq {l : List R} (h : oneB l = true) : soleB l = plainB (nth l 0).1 := by
  unfold oneB at h; unfold soleB
  rw [Bool.and_eq_true] at h
  rw [h.1, h.2]; simp
theorem set_sole {l : List R} (h : soleB l = true) : setL l = [UInt8.ofNat (nth l 0).1.toNat] := by unfold setL; rw [if_pos h]
theorem set_brk {l : List R} (h : soleB l = false) : setL l = brkL l := by unfold setL; rw [if_neg (by rw [h]; simp)]

theorem enc_small : ∀ c : Fin 128, Utf8.encode ((c.val : Nat) : Int) = ⟨[UInt8.ofNat (((c.val : Nat) : Int)).toNat].toArray⟩ := by decide +kernel

set_option maxRecDepth 100000 in
set_option maxHeartbeats 1600000 in
theorem setp_any (l : List R) (v : Value) (w : World) (hv : RngsAt w v l) (hr : rightB l = true) (hl : l.length ≤ 30) (hs : St w) :
    Calls Tryd.prog 32 #[v] w fun e w' => e = .returned (.string ⟨(setL l).toArray⟩) ∧ Below w.heap.size w w' := by
  have C1 := Lib.hid (one_any l v w hv hr)
  have CT := Lib.hid (fun W (hb : Below w.heap.size w W) => text_any l v W (hv.next hb) hr hl (hs.next hb))
  have CP := Lib.hid (fun W => plain_any (oneN l) W)
  have HN := Lib.hid (fun h => oneN_yes (l := l) h)
  have S1 := Lib.hid (fun h => sole_one (l := l) h)
  have S2 := Lib.hid (fun h => sole_eq (l := l) h)
  have S3 := Lib.hid (fun h => set_sole (l := l) h)
  have S4 := Lib.hid (fun h => set_brk (l := l) h)
  have hN : oneB l = true → 0 ≤ (nth l 0).1 := fun h => (nth_in hr (by unfold oneB at h; simp at h; omega)).1
  clear hv hs hr
  cases hb : oneB l
  · have HE := Lib.hid (S4.out (S1.out hb))
    rw [hb] at C1
    clear S1 S2 S3 S4 HN CP hb hN
    generalize oneN l = N at *
    go_enter Tryd.func32, Tryd.ntmps32
    go_wp2_with (first
      | (go_at_call 46; (with_reducible refine C1.out.mono ?_); rintro e w1 ⟨rfl, hb1⟩; go_must (have B1 := Lib.hid hb1; clear hb1))
      | (go_at_call 48; (with_reducible refine (CT.out _ B1.out).mono ?_); rintro e w2 ⟨rfl, hb2⟩)
      | fail)
    go_ret
    exact ⟨ret_t (by rw [HE.out]), B1.out.trans (hb2.mono B1.out.size)⟩
  · have e1 := S2.out hb
    have e2 := HN.out hb
    have hN' := hN hb
    rw [← e2] at hN'
    clear hN
    rw [hb] at C1
    cases hp : plainB (nth l 0).1
    · have HE := Lib.hid (S4.out (e1.trans hp))
      rw [← e2] at hp
      rw [hp] at CP
      clear S1 S2 S3 S4 HN hb e1 e2 hp
      generalize oneN l = N at *
      by_cases h128 : N < 128
      all_goals (
        go_enter Tryd.func32, Tryd.ntmps32
        go_wp2_with (first
          | (go_at_call 46; (with_reducible refine C1.out.mono ?_); rintro e w1 ⟨rfl, hb1⟩; go_must (have B1 := Lib.hid hb1; clear hb1))
          | (go_at_call 47; (with_reducible refine (CP.out _).mono ?_); rintro e w2 ⟨rfl, hw⟩; subst hw)
          | (go_at_call 48; (with_reducible refine (CT.out _ B1.out).mono ?_); rintro e w2 ⟨rfl, hb2⟩)
          | fail)
        go_ret
        exact ⟨ret_t (by rw [HE.out]), B1.out.trans (hb2.mono B1.out.size)⟩)
    · have HE := Lib.hid (S3.out (e1.trans hp))
      have hlt := plain_lt hp
      rw [← e2] at hp hlt HE
      rw [hp] at CP
      clear S1 S2 S3 S4 HN hb e1 e2 hp CT
      generalize oneN l = N at *
      obtain ⟨c, rfl⟩ := Int.eq_ofNat_of_zero_le hlt.1
      have h128 : (c : Int) < 128 := hlt.2
      clear hlt
      go_enter Tryd.func32, Tryd.ntmps32
      go_wp2_with (first
        | (go_at_call 46; (with_reducible refine C1.out.mono ?_); rintro e w1 ⟨rfl, hb1⟩; go_must (have B1 := Lib.hid hb1; clear hb1))
        | (go_at_call 47; (with_reducible refine (CP.out _).mono ?_); rintro e w2 ⟨rfl, hw⟩; subst hw)
        | fail)
      go_ret
      exact ⟨ret_t (by rw [HE.out]; exact enc_small ⟨c, by omega⟩), B1.out⟩

end Go.Proofs.YtdmceapbobkklaaDoor.Rp

namespace Go.Proofs.YtdmceapbobkklaaDoor.Rp
open Go Go.RowKit Go.Shelf
open Go.Proofs.YtdmceapbobkklaaDoor.Rg (R RngsAt nth rightB)

theorem run_bytes1 (c : Nat) (hc : c < 128) (B : Nat) (W : World) (h : W.cell? ⟨B, 0, none⟩ = some (.int .u8 (c : Int))) :
    (convert 38 9 (.slice (some ⟨B, 0, none⟩) 1 1)).run Tryd.prog W = .ok (.string ⟨[UInt8.ofNat c].toArray⟩) W := by
  refine run_convert_bytes_back W 38 9 5 ⟨B, 0, none⟩ 1 [UInt8.ofNat c] Tryd.underlying38 Tryd.underlying5 Tryd.underlying9 fun j hj => ?_
  have hj0 : j = 0 := by simpa using hj
  subst hj0
  have e : (UInt8.ofNat c).toNat = c := by simp; omega
  have ea : (⟨B, 0, none⟩ : Addr).add 0 = ⟨B, 0, none⟩ := rfl
  rw [ea, h]
  simp [e]

theorem below_dq {w w' : World} {q : Nat} (h : Below (w.drewN q).heap.size (w.drewN q) w') : Below w.heap.size w w' := (Rg.below_drewN w q).trans h

set_option maxRecDepth 100000 in
set_option maxHeartbeats 1600000 in
theorem setr_any (l : List R) (v : Value) (w : World) (hv : RngsAt w v l) (hr : rightB l = true) (hl : l.length ≤ 30) :
    Calls Tryd.prog 24 #[v] w fun e w' => e = .returned (.string ⟨(setL l).toArray⟩) ∧ Below w.heap.size w w' := by
  have CA := Lib.hid (fun W (hb : Below w.heap.size w W) => rset_same l v W (hv.next hb) hr hl)
  have CT := Lib.hid (fun v' W (h : RngsAt W v' l) => rtext_any l v' W h hr hl)
  have CP := Lib.hid (fun W => rplain_any (nth l 0).1 W)
  have S1 := Lib.hid (fun h => sole_one (l := l) h)
  have S2 := Lib.hid (fun h => sole_eq (l := l) h)
  have S3 := Lib.hid (fun h => set_sole (l := l) h)
  have S4 := Lib.hid (fun h => set_brk (l := l) h)
  have HO := Lib.hid (show oneB l = (decide (l.length = 1) && decide ((nth l 0).1 = (nth l 0).2)) from rfl)
  have hN : l.length = 1 → 0 ≤ (nth l 0).1 := fun h => (nth_in hr (by omega)).1
  obtain ⟨ao, cap, rfl, hm, hcs⟩ := hv.shape
  clear hv hr
  have fin : soleB l = false → Hid (setL l = brkL l) := fun h => Lib.hid (S4.out h)
  by_cases h1 : l.length = 1
  · have hN' := hN h1
    obtain ⟨g, rfl, c0, c1⟩ := hcs 0 (by omega)
    rw [show g.add (0 * 2) = g by simp [Addr.add]] at c0 c1
    rw [decide_eq_true h1, Bool.true_and] at HO
    clear hcs hN
    by_cases hxy : (nth l 0).1 = (nth l 0).2
    · rw [decide_eq_true hxy] at HO
      have e1 := S2.out HO.out
      rw [← hxy] at c1
      clear hxy
      cases hp : plainB (nth l 0).1
      · have HE := fin (e1.trans hp)
        rw [hp] at CP
        clear S1 S2 S3 S4 fin e1 hp HO
        generalize (nth l 0).1 = N at *
        obtain ⟨q128, hq⟩ : ∃ b, b = decide (N < 128) := ⟨_, rfl⟩
        have HQ := Lib.hid hq
        clear hq
        cases q128
        all_goals (
          rw [h1] at CA ⊢
          go_enter Tryd.func24, Tryd.ntmps24
          go_wp2
          have h128 := HQ.out.symm
          (try have h128' : N < 128 := of_decide_eq_true h128)
          go_quiet (first
            | (go_at_call 40; with_reducible exact Calls.quiet_of_same (CP.out _)))
          go_wp2_with (first
            | (go_at_call 36; (with_reducible refine (CA.out _ (Rg.below_drewN _ _)).mono ?_); rintro e w1 ⟨v', rfl, hv1, hb1⟩; go_must (have B1 := Lib.hid (below_dq hb1); have V1 := Lib.hid hv1; clear hb1 hv1))
            | (go_at_call 41; (with_reducible refine (CT.out _ _ V1.out).mono ?_); rintro e w2 ⟨rfl, hb2⟩)
            | fail)
          go_ret
          exact ⟨ret_t (by rw [HE.out]), B1.out.trans (hb2.mono B1.out.size)⟩)
      · have HE := Lib.hid (S3.out (e1.trans hp))
        have hlt := plain_lt hp
        rw [hp] at CP
        clear S1 S2 S3 S4 fin e1 hp HO CA CT
        generalize (nth l 0).1 = N at *
        obtain ⟨c, rfl⟩ := Int.eq_ofNat_of_zero_le hlt.1
        have h128 : (c : Int) < 128 := hlt.2
        rw [Int.toNat_natCast] at HE
        clear hlt hN'
        have RB := fun (nq : Nat) => run_bytes1 c (by omega) w.heap.size ((w.drewN nq).alloc (.cells #[.int .u8 (c : Int)] 5)) (World.cell?_alloc_new _ _ _ 0)
        rw [h1]
        go_enter Tryd.func24, Tryd.ntmps24
        go_wp2
        go_quiet (first
          | (go_at_call 40; with_reducible exact Calls.quiet_of_same (CP.out _)))
        go_wp2
        go_ret
        exact ⟨ret_t (by rw [HE.out]), (Rg.below_drewN _ _).alloc (by simp) _⟩
    · rw [decide_eq_false hxy] at HO
      have HE := fin (S1.out HO.out)
      have n2 : ((nth l 0).1 == (nth l 0).2) = false := by simpa using hxy
      clear S1 S2 S3 S4 fin HO CP hxy
      generalize (nth l 0).1 = x at *
      generalize (nth l 0).2 = y at *
      rw [h1] at CA ⊢
      go_enter Tryd.func24, Tryd.ntmps24
      go_wp2
      go_quiet (fail)
      go_wp2_with (first
        | (go_at_call 36; (with_reducible refine (CA.out _ (Rg.below_drewN _ _)).mono ?_); rintro e w1 ⟨v', rfl, hv1, hb1⟩; go_must (have B1 := Lib.hid (below_dq hb1); have V1 := Lib.hid hv1; clear hb1 hv1))
        | (go_at_call 41; (with_reducible refine (CT.out _ _ V1.out).mono ?_); rintro e w2 ⟨rfl, hb2⟩)
        | fail)
      go_ret
      exact ⟨ret_t (by rw [HE.out]), B1.out.trans (hb2.mono B1.out.size)⟩
  · rw [decide_eq_false h1, Bool.false_and] at HO
    have HE := fin (S1.out HO.out)
    have n1 : ((l.length : Int) == 1) = false := beq_eq_false_iff_ne.2 (by omega)
    clear S1 S2 S3 S4 fin HO CP hN hcs h1
    generalize l.length = n at *
    go_enter Tryd.func24, Tryd.ntmps24
    go_wp2
    go_quiet (fail)
    go_wp2_with (first
      | (go_at_call 36; (with_reducible refine (CA.out _ (Rg.below_drewN _ _)).mono ?_); rintro e w1 ⟨v', rfl, hv1, hb1⟩; go_must (have B1 := Lib.hid (below_dq hb1); have V1 := Lib.hid hv1; clear hb1 hv1))
      | (go_at_call 41; (with_reducible refine (CT.out _ _ V1.out).mono ?_); rintro e w2 ⟨rfl, hb2⟩)
      | fail)
    go_ret
    exact ⟨ret_t (by rw [HE.out]), B1.out.trans (hb2.mono B1.out.size)⟩

end Go.Proofs.YtdmceapbobkklaaDoor.Rp

/- From where to where each node of a tree has what stands between: the document's Spans walked. The document's Row. The document's Far. The document's Size. Trees among a row's arguments: what they give to a walk. Specs among a row's arguments: what they give to a walk. -/
import Derived.Test.YtgjiofkjogjhhaaGreatDoorPk11
import Derived.Deep.DeepCutAuto
import Derived.Test.YtgjiofkjogjhhaaGreatDoorPk02
import Derived.Deep.RegionHeld3
import Derived.Test.YtgjiofkjogjhhaaGreatDoorPk01
import Derived.Deep.SlicePairs
import Derived.ChangeSlices
import Derived.Carry
import Derived.OpenShut
import Derived.ChangeArms
import Derived.Deep.Slices
import Derived.DataReads
import Derived.WideShapes
import Derived.Test.YtgjiofkjogjhhaaGreatDoorPk04
import Derived.Deep.Strs
import Derived.Lib.SmallJoins

namespace Go.Proofs.YtgjiofkjogjhhaaGreatDoor.Dv
open Go Go.RowKit Go.Shelf
open Go.Proofs.YtgjiofkjogjhhaaGreatDoor.Ar (timesB Nd nd nodeB nodeB_ways NodeAt node_new Tr Ok TreeAt aggN)
open Go.Proofs.YtgjiofkjogjhhaaGreatDoor.Rg (R RngsAt RowsAt nthL add_zero own_next inB rhas_any)
theorem node_times' {n : Nd} {i s : Int} (h : nodeB n i s = true) (h5 : n.op = 5) : timesB n.lo n.hi = true := by
  unfold nodeB at h
  rw [if_neg (by omega), if_neg (by omega), if_neg (by omega), if_pos h5, Bool.and_eq_true] at h
  exact h.2
section
variable {w : World} {t : Tr} {v vl : Value} {l : List Int}
theorem TabAt.sl {w : World} {N n : Nat} {v : Value} {f : Mx} (h : TabAt w N v n f) (h0 : 0 < n) : ∃ g c, v = .slice (some ⟨g, 0, none⟩) n c := by
  obtain ⟨g, c, e, _⟩ := h.at' h0
  exact ⟨g, c, e⟩
theorem den_op {t : Tr} (ht : Ok t) {k : Nat} (hk : k < t.ns.length) {n : Nd} (hn : nd t.ns k = n) : den t.ns t.sets k = denN t.sets (den t.ns t.sets) n := by
  rw [← hn]; exact den_eq (ht.node k hk)
theorem wrap_in {x : Int} (h : -9223372036854775808 ≤ x ∧ x ≤ 9223372036854775807) : IntKind.i64.wrap x = x := by
  rw [IntKind.wrap_i64]; omega
theorem wrap_succ {q : Nat} (h : q < 100000) : IntKind.i64.wrap ((q : Int) + 1) = (q : Int) + 1 := wrap_in (by omega)
set_option maxRecDepth 100000 in
set_option maxHeartbeats 16000000 in
theorem spans_any (ht : Ok t) (hT : TreeAt w v t) (hN : t.ns.length ≤ 4096) (hI : IntsAt w vl l) (hl : l.length ≤ 10000) :
    Calls Tryz.prog 59 #[v, vl] w fun e w' => ∃ x, e = .returned x ∧ TabAt w' 0 x (l.length + 1) (mat (den t.ns t.sets t.root.toNat) l) ∧ Below w.heap.size w w' := by
  obtain ⟨j0, hj, hy0, hy1, hy2⟩ := info_parts infoMx
  obtain ⟨ao, cap, so, scap, rfl, hm, hm2, hns, hss⟩ := hT.shape
  obtain ⟨lo', lcap, rfl, hlm, hil⟩ := hI.shape
  have HNS := Lib.hid hns
  have HSS := Lib.hid hss
  have HIL := Lib.hid hil
  have b1 : Below w.heap.size w (w.alloc (.cells #[.slice ao t.ns.length cap, .slice so t.sets.length scap, .int .i64 t.root] 38)) := (Below.refl w.heap.size w).alloc (Nat.le_refl _) _
  have B1 := Lib.hid b1
  have t0 : ∀ X, Below (w.alloc (.cells #[.slice ao t.ns.length cap, .slice so t.sets.length scap, .int .i64 t.root] 38)).heap.size (w.alloc (.cells #[.slice ao t.ns.length cap, .slice so t.sets.length scap, .int .i64 t.root] 38)) X → X.cell? ⟨w.heap.size, 0, none⟩ = some (.slice ao t.ns.length cap) ∧ X.cell? ⟨w.heap.size, 1, none⟩ = some (.slice so t.sets.length scap) ∧ X.cell? ⟨w.heap.size, 2, none⟩ = some (.int .i64 t.root) := fun X hX => ⟨cell_next (by simp) hX, cell_next (by simp) hX, cell_next (by simp) hX⟩
  have T0 := Lib.hid t0
  have hroot := ht.root0
  have hroot1 := ht.root1
  have OK := Lib.hid ht
  have BL := Lib.hid (fun (is : Bool) (X : World) => blank_any l.length is X (by omega))
  clear hT hns hss hil t0 hI ht
  go_enter Tryz.func59, Tryz.ntmps59
  go_upto_region 1 with fail
  clear b1
  generalize w.alloc (.cells #[.slice ao t.ns.length cap, .slice so t.sets.length scap, .int .i64 t.root] 38) = W1 at *
  go_wp2
  go_loopw [5, 6] (fun v i wr => ∃ (k : Nat) (xs : List Value), i = .int .i64 k ∧ k ≤ t.ns.length ∧ AllAt W1 wr v k (den t.ns t.sets) l xs) (fun _ i _ => t.ns.length - (intOf i).toNat)
  case atStart => exact ⟨0, [], rfl, by omega, World.ownsRow_nil _ _ _ _, fun j hj => by omega, Below.refl _ _⟩
  case round =>
    obtain ⟨k, xs, rfl, hk, hall⟩ := hrel
    have HALL := Lib.hid hall
    have hbw := B1.out.trans (hall.below.mono B1.out.size)
    obtain ⟨s0, s1, s2⟩ := T0.out _ hall.below
    have hs0 := cell_lt s0
    generalize wr = w2 at *
    by_cases hlt : k < t.ns.length
    · have n1 : (k : Int) < t.ns.length := by omega
      obtain ⟨ga, rfl, hna⟩ := HNS.out k hlt
      have hnode := OK.out.node k hlt
      generalize hn : nd t.ns k = n at *
      have hden := den_op OK.out hlt hn
      obtain ⟨op, a, b, lo, hi, set⟩ := n
      obtain ⟨q0, q1, q2, q3, q4, q5⟩ := hna
      replace q0 := cell_next q0 hbw
      replace q1 := cell_next q1 hbw
      replace q2 := cell_next q2 hbw
      replace q3 := cell_next q3 hbw
      replace q4 := cell_next q4 hbw
      replace q5 := cell_next q5 hbw
      have hga := cell_lt q0
      have hga1 := cell_lt q1
      dsimp only at q0 q1 q2 q3 q4 q5 hga hga1
      have BN := Lib.hid (fun o => (Below.refl w2.heap.size w2).alloc (Nat.le_refl _) o)
      have NB := Lib.hid (nbox_new w2 ⟨op, a, b, lo, hi, set⟩)
      have hbn := hall.below.size
      clear hall hn
      have hways := nodeB_ways hnode
      rcases hways with ⟨h1, h2⟩ | ⟨h1, h2⟩ | ⟨h1 | h1, h2⟩ | ⟨h1, h2⟩
      · dsimp only at h1 h2
        obtain ⟨rfl, rfl, rfl, rfl, rfl⟩ := h2
        subst h1
        replace hden : den t.ns t.sets k = eps := hden
        go_wp2_with (first
          | (go_at_call 81; ((with_reducible refine (BL.out true _).mono ?_); rintro e w3 ⟨x, rfl, hx, hb3⟩; obtain ⟨gx, cx, rfl⟩ := hx.sl (Nat.succ_pos _)); go_must (have B3 := Lib.hid ((BN.out _).trans (hb3.mono (by simp))); have NB3 := Lib.hid (NB.out.below hb3); have m0 := NB3.out.at'.c0; have m1 := NB3.out.at'.c1; have m2 := NB3.out.at'.c2; have m3 := NB3.out.at'.c3; have m4 := NB3.out.at'.c4; have m5 := NB3.out.at'.c5; have HX := Lib.hid ((hx.congr (eye_one l)).mono (M := 0) (Nat.zero_le _)); clear hx hb3))
          | (at_builtin; refine wpList_append_own _ rfl _ _ 108 rfl W1.heap.size 94 j0 (.slice none 0 0) 1 24 Tryz.underlying108 hj hy0 hy1 hy2 rfl (by decide) _ k xs rfl ((own_next HALL.out.own B3.out).alloc _) ⟨w3.heap.size, 0, none⟩ 1 1 [.slice (some ⟨gx, 0, none⟩) (l.length + 1) cx] rfl rfl (cell_one_new _ _ _) (by simp [Value.oneCell']) (by unfold maxLen; omega) (by omega) (by have := B3.out.size; simp; omega) ?_; intro v' w9 hown' hgrow _; go_must (have ST := Lib.hid (HALL.out.app B3.out (hden ▸ HX.out) hown' hgrow); clear hown' hgrow))
          | fail)
        go_roundw
        case rel => exact ⟨k + 1, _, by go_num, by omega, ST.out⟩
        case measure => simp [intOf]; omega
      · dsimp only at h1 h2
        obtain ⟨rfl, rfl, rfl, rfl, h2a, h2b⟩ := h2
        subst h1
        replace hden : den t.ns t.sets k = one (inB (t.sets.getD set.toNat [])) := hden
        obtain ⟨j, rfl⟩ := Int.eq_ofNat_of_zero_le h2a
        rw [Int.toNat_natCast] at hden
        have hjs : j < t.sets.length := by omega
        obtain ⟨gs, xs', rfl, c1, hrs⟩ := HSS.out j hjs
        have hP : inB (t.sets.getD j []) = inB (nthL t.sets j) := rfl
        rw [hP] at hden
        have HRS := Lib.hid hrs
        clear hrs hP
        go_upto_region 9 with (first
          | (go_at_call 81; ((with_reducible refine (BL.out false _).mono ?_); rintro e w3 ⟨x, rfl, hx, hb3⟩; obtain ⟨gx, cx, rfl⟩ := hx.sl (Nat.succ_pos _)); go_must (have B3 := Lib.hid ((BN.out _).trans (hb3.mono (by simp))); have NB3 := Lib.hid (NB.out.below hb3); have m0 := NB3.out.at'.c0; have m1 := NB3.out.at'.c1; have m2 := NB3.out.at'.c2; have m3 := NB3.out.at'.c3; have m4 := NB3.out.at'.c4; have m5 := NB3.out.at'.c5; have HX := Lib.hid (hx.congr (one_start (inB (nthL t.sets j)) l _)); clear hx hb3))
          | fail)
        have hN1 : (w2.alloc (.cells #[.int .i64 2, .int .i64 0, .int .i64 0, .int .i64 0, .int .i64 0, .int .i64 (j : Nat)] 70)).heap.size = w2.heap.size + 1 := by simp
        have HX1 := Lib.hid (show TabAt w3 (w2.heap.size + 1) _ _ _ from hN1 ▸ HX.out)
        have hs3 : w2.heap.size + 1 ≤ w3.heap.size := (cell_lt m0 : w2.heap.size < w3.heap.size)
        clear hN1 HX m0 m1 m2 m3 m4
        go_wp2
        go_loopw [9] (fun m wr => ∃ q : Nat, m = .int .i64 q ∧ q ≤ l.length ∧ TabAt wr (w2.heap.size + 1) (.slice (some ⟨gx, 0, none⟩) (l.length + 1) cx) (l.length + 1) (oneTo (inB (nthL t.sets j)) l q) ∧ Below (w2.heap.size + 1) w3 wr) (fun m _ => l.length - (intOf m).toNat)
        case atStart => exact ⟨0, rfl, by omega, HX1.out, Below.refl _ _⟩
        case round =>
          clear HX1
          obtain ⟨q, rfl, hq, ht, hbq⟩ := hrel
          have BQ := Lib.hid (B3.out.trans (hbq.mono (by omega)))
          have BW := Lib.hid (hbw.trans (BQ.out.mono hbw.size))
          have BA := Lib.hid (HALL.out.below.trans (BQ.out.mono HALL.out.below.size))
          obtain ⟨y0, y1, y2⟩ := T0.out _ BA.out
          have f5 := (hbq.cell (p := ⟨w2.heap.size, 0 + 5, none⟩) (Nat.lt_succ_self _)).trans m5
          have HT := Lib.hid ht
          by_cases hlq : q < l.length
          · obtain ⟨gl, rfl, i1⟩ := HIL.out q hlq
            replace i1 := cell_next i1 BW.out
            have e1 := cell_next c1 BW.out
            have n2 : (q : Int) < l.length := by omega
            have n3 : (j : Int) < t.sets.length := by omega
            have n4 : (q : Int) + 1 < (l.length : Int) + 1 := by omega
            have n5 : (q : Int) < (l.length : Int) + 1 := by omega
            have n6 : (0 : Int) ≤ (q : Int) + 1 := by omega
            have hwr : IntKind.i64.wrap ((q : Int) + 1) = (q : Int) + 1 := wrap_succ (by omega)
            have htn : ((q : Int) + 1).toNat = q + 1 := by omega
            have hrq : RngsAt wr.drew xs' (nthL t.sets j) := HRS.out.next (BW.out.trans ((drewB wr).mono BW.out.size))
            have CH := Lib.hid (rhas_any (nthL t.sets j) (l.getD q 0) xs' wr.drew hrq)
            obtain ⟨gx', cx', he, hcx, hcx2, _, _, hro⟩ := ht.at' (by omega)
            simp only [Value.slice.injEq, Option.some.injEq, Addr.mk.injEq] at he
            obtain ⟨⟨rfl, _⟩, _, rfl⟩ := he
            obtain ⟨ro, cr, ds, o1, o2, o3, o4, o5⟩ := hro q (by omega)
            obtain ⟨z1, z2, z3⟩ := (ht.next (drewB wr)).set rfl (i := q) (by omega) (show wr.drew.cell? ⟨gx, q, none⟩ = _ from o1) (show wr.drew.heap[ro]? = _ from o4) (m := q + 1) (by omega) (inB (nthL t.sets j) (l.getD q 0))
            rw [one_step] at z2
            have Z2 := Lib.hid z2
            have Z3 := Lib.hid ((hbq.trans ((drewB wr).mono (by have := hbq.size; omega))).trans z3)
            have y9 : wr.drew.cell? ⟨ro, q + 1, none⟩ = some (.bool (oneTo (inB (nthL t.sets j)) l q q (q + 1))) := o5 (q + 1) (by omega)
            generalize inB (nthL t.sets j) (l.getD q 0) = pv at *
            generalize l.getD q 0 = lc at *
            clear ht hbq hro o4 o5 z2 z3 hrq
            have g1 := cell_lt f5
            have g2 := cell_lt y1
            have g3 := cell_lt i1
            have g4 := cell_lt e1
            go_wp2
            refine wp_region_still_tail 18 (by kernel_rfl) (by kernel_rfl) ?_
            simp only [List.take_succ_cons, List.take_zero, List.drop_succ_cons, List.drop_zero]
            iterate 16 (with_reducible refine wpStill_step (fun K hK => ?_); go_simp; with_reducible refine hK _ ?_; clear hK K)
            (with_reducible refine wpStill_step (fun K hK => ?_))
            go_simp
            refine ⟨_, CH.out, hK _ ?_⟩
            clear hK K
            iterate 1 (with_reducible refine wpStill_step (fun K hK => ?_); go_simp; with_reducible refine hK _ ?_; clear hK K)
            with_reducible refine wpStill_nil ?_
            change wpList _ _ _ _ _ wr.drew
            generalize wr.drew = w4 at *
            go_wp2
            go_roundw
            case rel => exact ⟨q + 1, by go_num, by omega, Z2.out, Z3.out⟩
            case measure => simp [intOf]; omega
          · obtain rfl : q = l.length := by omega
            have HY := Lib.hid ((ht.congr (one_end (inB (nthL t.sets j)) l)).mono (M := 0) (Nat.zero_le _))
            clear ht hbq
            go_wp2_with (first
              | (at_builtin; refine wpList_append_own _ rfl _ _ 108 rfl W1.heap.size 94 j0 (.slice none 0 0) 1 24 Tryz.underlying108 hj hy0 hy1 hy2 rfl (by decide) _ k xs rfl ((own_next HALL.out.own BQ.out).alloc _) ⟨wr.heap.size, 0, none⟩ 1 1 [.slice (some ⟨gx, 0, none⟩) (l.length + 1) cx] rfl rfl (cell_one_new _ _ _) (by simp [Value.oneCell']) (by unfold maxLen; omega) (by omega) (by have := BQ.out.size; simp; omega) ?_; intro v' w9 hown' hgrow _; go_must (have ST := Lib.hid (HALL.out.app BQ.out (hden ▸ HY.out) hown' hgrow); clear hown' hgrow))
              | fail)
            go_roundw
            case rel => exact ⟨k + 1, _, by go_num, by omega, ST.out⟩
            case measure => simp [intOf]; omega
      · dsimp only at h1 h2
        obtain ⟨h2a, h2b, h2c, h2d, rfl, rfl, rfl⟩ := h2
        subst h1
        replace hden : den t.ns t.sets k = seq (den t.ns t.sets a.toNat) (den t.ns t.sets b.toNat) := hden
        obtain ⟨i, rfl⟩ := Int.eq_ofNat_of_zero_le h2a
        obtain ⟨j, rfl⟩ := Int.eq_ofNat_of_zero_le h2c
        rw [Int.toNat_natCast, Int.toNat_natCast] at hden
        have hi' : i < k := by omega
        have hj' : j < k := by omega
        obtain ⟨g, c, xa, rfl, c1, hxa⟩ := HALL.out.at' hi'
        obtain ⟨g', c', xb, he, c2, hxb⟩ := HALL.out.at' hj'
        simp only [Value.slice.injEq, Option.some.injEq, Addr.mk.injEq] at he
        obtain ⟨⟨rfl, _⟩, _, rfl⟩ := he
        have HXA := Lib.hid hxa
        have HXB := Lib.hid hxb
        clear hxa hxb
        go_upto_region 14 with (first
          | (go_at_call 81; ((with_reducible refine (BL.out false _).mono ?_); rintro e w3 ⟨x, rfl, hx, hb3⟩; obtain ⟨gx, cx, rfl⟩ := hx.sl (Nat.succ_pos _)); go_must (have B3 := Lib.hid ((BN.out _).trans (hb3.mono (by simp))); have NB3 := Lib.hid (NB.out.below hb3); have m0 := NB3.out.at'.c0; have m1 := NB3.out.at'.c1; have m2 := NB3.out.at'.c2; have m3 := NB3.out.at'.c3; have m4 := NB3.out.at'.c4; have m5 := NB3.out.at'.c5; have HX := Lib.hid (hx); clear hx hb3))
          | fail)
        have d1 := cell_next c1 B3.out
        have d2 := cell_next c2 B3.out
        have hw3 := cell_lt m1
        have n2 : (i : Int) < k := by omega
        have n3 : (j : Int) < k := by omega
        have hk9 : k ≤ 9223372036854775807 := by omega
        have PL := Lib.hid (times_any (l.length + 1) _ _ xa xb w3.drew (by omega) (by omega) (HXA.out.next (B3.out.trans ((drewB w3).mono B3.out.size))) (HXB.out.next (B3.out.trans ((drewB w3).mono B3.out.size))))
        have B4 := Lib.hid (B3.out.trans ((drewB w3).mono B3.out.size))
        clear c1 c2
        refine wp_region_still_tail 10 (by kernel_rfl) (by kernel_rfl) ?_
        simp only [List.take_succ_cons, List.take_zero, List.drop_succ_cons, List.drop_zero]
        iterate 10 (with_reducible refine wpStill_step (fun K hK => ?_); go_simp; with_reducible refine hK _ ?_; clear hK K)
        with_reducible refine wpStill_nil ?_
        change wpList _ _ _ _ _ w3.drew
        clear m0 m1 m2 m3 m4 m5 d1 d2 NB3 HXA HXB
        generalize w3.drew = w4 at *
        go_wp2_with (first
          | (go_at_call 83; ((with_reducible refine PL.out.mono ?_); rintro e w5 ⟨y, rfl, hy, hb5⟩; obtain ⟨gy, cy, rfl⟩ := hy.sl (Nat.succ_pos _)); go_must (have B5 := Lib.hid (B4.out.trans (hb5.mono B4.out.size)); have HY := Lib.hid ((hy.congr (mat_seq)).mono (M := 0) (Nat.zero_le _)); clear hy hb5))
          | (at_builtin; refine wpList_append_own _ rfl _ _ 108 rfl W1.heap.size 94 j0 (.slice none 0 0) 1 24 Tryz.underlying108 hj hy0 hy1 hy2 rfl (by decide) _ k xs rfl ((own_next HALL.out.own B5.out).alloc _) ⟨w5.heap.size, 0, none⟩ 1 1 [.slice (some ⟨gy, 0, none⟩) (l.length + 1) cy] rfl rfl (cell_one_new _ _ _) (by simp [Value.oneCell']) (by unfold maxLen; omega) (by omega) (by have := B5.out.size; simp; omega) ?_; intro v' w9 hown' hgrow _; go_must (have ST := Lib.hid (HALL.out.app B5.out (hden ▸ HY.out) hown' hgrow); clear hown' hgrow))
          | fail)
        go_roundw
        case rel => exact ⟨k + 1, _, by go_num, by omega, ST.out⟩
        case measure => simp [intOf]; omega
      · dsimp only at h1 h2
        obtain ⟨h2a, h2b, h2c, h2d, rfl, rfl, rfl⟩ := h2
        subst h1
        replace hden : den t.ns t.sets k = alt (den t.ns t.sets a.toNat) (den t.ns t.sets b.toNat) := hden
        obtain ⟨i, rfl⟩ := Int.eq_ofNat_of_zero_le h2a
        obtain ⟨j, rfl⟩ := Int.eq_ofNat_of_zero_le h2c
        rw [Int.toNat_natCast, Int.toNat_natCast] at hden
        have hi' : i < k := by omega
        have hj' : j < k := by omega
        obtain ⟨g, c, xa, rfl, c1, hxa⟩ := HALL.out.at' hi'
        obtain ⟨g', c', xb, he, c2, hxb⟩ := HALL.out.at' hj'
        simp only [Value.slice.injEq, Option.some.injEq, Addr.mk.injEq] at he
        obtain ⟨⟨rfl, _⟩, _, rfl⟩ := he
        have HXA := Lib.hid hxa
        have HXB := Lib.hid hxb
        clear hxa hxb
        go_upto_region 16 with (first
          | (go_at_call 81; ((with_reducible refine (BL.out false _).mono ?_); rintro e w3 ⟨x, rfl, hx, hb3⟩; obtain ⟨gx, cx, rfl⟩ := hx.sl (Nat.succ_pos _)); go_must (have B3 := Lib.hid ((BN.out _).trans (hb3.mono (by simp))); have NB3 := Lib.hid (NB.out.below hb3); have m0 := NB3.out.at'.c0; have m1 := NB3.out.at'.c1; have m2 := NB3.out.at'.c2; have m3 := NB3.out.at'.c3; have m4 := NB3.out.at'.c4; have m5 := NB3.out.at'.c5; have HX := Lib.hid (hx); clear hx hb3))
          | fail)
        have d1 := cell_next c1 B3.out
        have d2 := cell_next c2 B3.out
        have hw3 := cell_lt m1
        have n2 : (i : Int) < k := by omega
        have n3 : (j : Int) < k := by omega
        have hk9 : k ≤ 9223372036854775807 := by omega
        have PL := Lib.hid (plus_any (l.length + 1) _ _ xa xb w3.drew (by omega) (by omega) (HXA.out.next (B3.out.trans ((drewB w3).mono B3.out.size))) (HXB.out.next (B3.out.trans ((drewB w3).mono B3.out.size))))
        have B4 := Lib.hid (B3.out.trans ((drewB w3).mono B3.out.size))
        clear c1 c2
        refine wp_region_still_tail 10 (by kernel_rfl) (by kernel_rfl) ?_
        simp only [List.take_succ_cons, List.take_zero, List.drop_succ_cons, List.drop_zero]
        iterate 10 (with_reducible refine wpStill_step (fun K hK => ?_); go_simp; with_reducible refine hK _ ?_; clear hK K)
        with_reducible refine wpStill_nil ?_
        change wpList _ _ _ _ _ w3.drew
        clear m0 m1 m2 m3 m4 m5 d1 d2 NB3 HXA HXB
        generalize w3.drew = w4 at *
        go_wp2_with (first
          | (go_at_call 84; ((with_reducible refine PL.out.mono ?_); rintro e w5 ⟨y, rfl, hy, hb5⟩; obtain ⟨gy, cy, rfl⟩ := hy.sl (Nat.succ_pos _)); go_must (have B5 := Lib.hid (B4.out.trans (hb5.mono B4.out.size)); have HY := Lib.hid ((hy.congr (mat_alt)).mono (M := 0) (Nat.zero_le _)); clear hy hb5))
          | (at_builtin; refine wpList_append_own _ rfl _ _ 108 rfl W1.heap.size 94 j0 (.slice none 0 0) 1 24 Tryz.underlying108 hj hy0 hy1 hy2 rfl (by decide) _ k xs rfl ((own_next HALL.out.own B5.out).alloc _) ⟨w5.heap.size, 0, none⟩ 1 1 [.slice (some ⟨gy, 0, none⟩) (l.length + 1) cy] rfl rfl (cell_one_new _ _ _) (by simp [Value.oneCell']) (by unfold maxLen; omega) (by omega) (by have := B5.out.size; simp; omega) ?_; intro v' w9 hown' hgrow _; go_must (have ST := Lib.hid (HALL.out.app B5.out (hden ▸ HY.out) hown' hgrow); clear hown' hgrow))
          | fail)
        go_roundw
        case rel => exact ⟨k + 1, _, by go_num, by omega, ST.out⟩
        case measure => simp [intOf]; omega
      · have htm := times_iff.1 (node_times' hnode h1)
        dsimp only at h1 h2 htm
        obtain ⟨h2a, h2b, rfl, rfl⟩ := h2
        subst h1
        replace hden : den t.ns t.sets k = rep (den t.ns t.sets a.toNat) lo hi := hden
        obtain ⟨i, rfl⟩ := Int.eq_ofNat_of_zero_le h2a
        rw [Int.toNat_natCast] at hden
        have hi' : i < k := by omega
        obtain ⟨g, c, xa, rfl, c1, hxa⟩ := HALL.out.at' hi'
        have HXA := Lib.hid hxa
        clear hxa
        go_upto_region 18 with (first
          | (go_at_call 81; ((with_reducible refine (BL.out false _).mono ?_); rintro e w3 ⟨x, rfl, hx, hb3⟩; obtain ⟨gx, cx, rfl⟩ := hx.sl (Nat.succ_pos _)); go_must (have B3 := Lib.hid ((BN.out _).trans (hb3.mono (by simp))); have NB3 := Lib.hid (NB.out.below hb3); have m0 := NB3.out.at'.c0; have m1 := NB3.out.at'.c1; have m2 := NB3.out.at'.c2; have m3 := NB3.out.at'.c3; have m4 := NB3.out.at'.c4; have m5 := NB3.out.at'.c5; have HX := Lib.hid (hx); clear hx hb3))
          | fail)
        have d1 := cell_next c1 B3.out
        have hw3 := cell_lt m1
        have n2 : (i : Int) < k := by omega
        have hk9 : k ≤ 9223372036854775807 := by omega
        have PL := Lib.hid (rrep_any l (den t.ns t.sets i) lo hi xa w3.drew hl (by omega) (by omega) (by omega) (by omega) (HXA.out.next (B3.out.trans ((drewB w3).mono B3.out.size))))
        have B4 := Lib.hid (B3.out.trans ((drewB w3).mono B3.out.size))
        clear c1 htm
        refine wp_region_still_tail 9 (by kernel_rfl) (by kernel_rfl) ?_
        simp only [List.take_succ_cons, List.take_zero, List.drop_succ_cons, List.drop_zero]
        iterate 9 (with_reducible refine wpStill_step (fun K hK => ?_); go_simp; with_reducible refine hK _ ?_; clear hK K)
        with_reducible refine wpStill_nil ?_
        change wpList _ _ _ _ _ w3.drew
        clear m0 m1 m2 m3 m4 m5 d1 NB3 HXA
        generalize w3.drew = w4 at *
        go_wp2_with (first
          | (go_at_call 85; ((with_reducible refine PL.out.mono ?_); rintro e w5 ⟨y, rfl, hy, hb5⟩; obtain ⟨gy, cy, rfl⟩ := hy.sl (Nat.succ_pos _)); go_must (have B5 := Lib.hid (B4.out.trans (hb5.mono B4.out.size)); have HY := Lib.hid (hy.mono (M := 0) (Nat.zero_le _)); clear hy hb5))
          | (at_builtin; refine wpList_append_own _ rfl _ _ 108 rfl W1.heap.size 94 j0 (.slice none 0 0) 1 24 Tryz.underlying108 hj hy0 hy1 hy2 rfl (by decide) _ k xs rfl ((own_next HALL.out.own B5.out).alloc _) ⟨w5.heap.size, 0, none⟩ 1 1 [.slice (some ⟨gy, 0, none⟩) (l.length + 1) cy] rfl rfl (cell_one_new _ _ _) (by simp [Value.oneCell']) (by unfold maxLen; omega) (by omega) (by have := B5.out.size; simp; omega) ?_; intro v' w9 hown' hgrow _; go_must (have ST := Lib.hid (HALL.out.app B5.out (hden ▸ HY.out) hown' hgrow); clear hown' hgrow))
          | fail)
        go_roundw
        case rel => exact ⟨k + 1, _, by go_num, by omega, ST.out⟩
        case measure => simp [intOf]; omega
    · obtain rfl : k = t.ns.length := by omega
      obtain ⟨r, hr⟩ := Int.eq_ofNat_of_zero_le hroot
      rw [hr] at s2 hroot1
      have hrl : r < t.ns.length := by omega
      obtain ⟨g, c, x, rfl, c1, hx⟩ := HALL.out.at' hrl
      have hx1 := cell_lt c1
      have HX := Lib.hid hx
      have HX0 := Lib.hid hx
      have n1 : (r : Int) < t.ns.length := by omega
      have e1 : t.root.toNat = r := by rw [hr]; rfl
      rw [← e1] at HX
      have HE := Lib.hid HX.out
      clear hx hall
      go_wp2
      go_ret
      exact ⟨x, rfl, by first | exact HE.out | exact HX0.out, hbw⟩
end
end Go.Proofs.YtgjiofkjogjhhaaGreatDoor.Dv

namespace Go.Proofs.YtgjiofkjogjhhaaGreatDoor.Dv
open Go Go.RowKit Go.Shelf
open Go.Proofs.YtgjiofkjogjhhaaGreatDoor.Ar (Nd nd nodeB Tr Ok TreeAt)
open Go.Proofs.YtgjiofkjogjhhaaGreatDoor.Rg (R RngsAt RowsAt nthL add_zero own_next)
noncomputable def rowB (t : Tr) (l : List Int) : Bool := mat (den t.ns t.sets t.root.toNat) l 0 l.length
theorem rowB_iff {t : Tr} {l : List Int} : rowB t l = true ↔ den t.ns t.sets t.root.toNat l := by
  unfold rowB
  rw [mat_iff, sub_all]
  exact ⟨fun h => h.2, fun h => ⟨Nat.zero_le _, h⟩⟩
section
variable {w : World} {t : Tr} {v vl : Value} {l : List Int}
set_option maxRecDepth 100000 in
set_option maxHeartbeats 8000000 in
theorem rrow_any (ht : Ok t) (hT : TreeAt w v t) (hN : t.ns.length ≤ 4096) (hI : IntsAt w vl l) (hl : l.length ≤ 10000) :
    Calls Tryz.prog 43 #[v, vl] w fun e w' => e = .returned (.bool (rowB t l)) ∧ Below w.heap.size w w' := by
  obtain ⟨ao, cap, so, scap, rfl, hm, hm2, _, _⟩ := hT.shape
  obtain ⟨lo', lcap, rfl, hlm, _⟩ := hI.shape
  have b1 : Below w.heap.size w (w.alloc (.cells #[.slice ao t.ns.length cap, .slice so t.sets.length scap, .int .i64 t.root] 38)) := (Below.refl w.heap.size w).alloc (Nat.le_refl _) _
  have B1 := Lib.hid b1
  have SP := Lib.hid (spans_any ht (hT.next b1) hN (hI.next b1) hl)
  have HR := Lib.hid (show mat (den t.ns t.sets t.root.toNat) l 0 l.length = rowB t l from rfl)
  have n1 : (0 : Int) < (l.length : Int) + 1 := by omega
  have n2 : (l.length : Int) < (l.length : Int) + 1 := by omega
  clear hT hI b1
  generalize rowB t l = y at *
  generalize mat (den t.ns t.sets t.root.toNat) l = M at *
  clear ht
  go_enter Tryz.func43, Tryz.ntmps43
  go_wp2_with (first
    | (go_at_call 59; ((with_reducible refine SP.out.mono ?_); rintro e w1 ⟨x, rfl, hx, hb⟩; obtain ⟨g, c, rfl, _, _, _, _, hro⟩ := hx.at' (Nat.succ_pos _)); go_must (obtain ⟨r, c', ds, a1, _, _, _, a5⟩ := hro 0 (Nat.succ_pos _); have a6 := a5 l.length (Nat.lt_succ_self _); rw [HR.out] at a6; have B2 := Lib.hid (B1.out.trans (hb.mono B1.out.size)); clear hx hb hro a5))
    | fail)
  go_ret
  exact ⟨rfl, B2.out⟩
end
end Go.Proofs.YtgjiofkjogjhhaaGreatDoor.Dv

namespace Go.Proofs.YtgjiofkjogjhhaaGreatDoor.Ar
open Go Go.RowKit Go.Shelf
open Go.Proofs.YtgjiofkjogjhhaaGreatDoor.Rg (R RngsAt RowsAt nthL add_zero own_next)

/-- the counts of the first k nodes -/
def farL (l : List Nd) (k : Nat) : List Value := (List.range k).map fun i => .int .i64 (farK l i)
theorem farL_len (l : List Nd) (k : Nat) : (farL l k).length = k := by simp [farL]
theorem farL_succ (l : List Nd) (k : Nat) : farL l (k + 1) = farL l k ++ [.int .i64 (farK l k)] := by simp [farL, List.range_succ]
theorem farL_at {l : List Nd} {k i : Nat} (h : i < k) : (farL l k)[i]? = some (.int .i64 (farK l i)) := by simp [farL, h]
/-- what one part adds -/
theorem far_part (l : List Nd) (i : Nat) (x : Int) : ∃ A, A = (if 0 ≤ x then (if x.toNat < i then farK l x.toNat else 0) else 0) ∧
    ((¬ 0 ≤ x ∧ A = 0) ∨ (0 ≤ x ∧ ¬ x < i ∧ A = 0) ∨ ∃ a : Nat, x = a ∧ a < i ∧ A = farK l a) := by
  refine ⟨_, rfl, ?_⟩
  by_cases h : 0 ≤ x
  · obtain ⟨a, rfl⟩ := Int.eq_ofNat_of_zero_le h
    by_cases h2 : a < i
    · exact .inr (.inr ⟨a, rfl, h2, by rw [if_pos h, Int.toNat_natCast, if_pos h2]⟩)
    · exact .inr (.inl ⟨h, by omega, by rw [if_pos h, Int.toNat_natCast, if_neg h2]⟩)
  · exact .inl ⟨h, by rw [if_neg h]⟩

/-- what Far tells -/
def FarOut (t : Tr) (w : World) (e : Ending) (w' : World) : Prop := ∃ b : Bool, e = .returned (.bool b) ∧ ((b = true ∧ ¬ Near t) ∨ (b = false ∧ Near t)) ∧ Below w.heap.size w w'

set_option maxRecDepth 100000 in
set_option maxHeartbeats 8000000 in
theorem far_any (t : Tr) (v : Value) (w : World) (h : TreeAt w v t) :
    Calls Tryz.prog 13 #[v] w (FarOut t w) := by
  obtain ⟨i0, hi, hz0, hz1, hz2⟩ := info_parts infoI
  obtain ⟨ao, cap, so, scap, rfl, hm, hm2, hn, hs⟩ := h.shape
  have HN := Lib.hid hn
  have HS := Lib.hid hs
  clear hn hs h
  have b1 := (Below.refl w.heap.size w).alloc (Nat.le_refl _) (.cells #[.slice ao t.ns.length cap, .slice so t.sets.length scap, .int .i64 t.root] 38)
  have B1 := Lib.hid b1
  have T0 := Lib.hid (TBox.new w (.slice ao t.ns.length cap) (.slice so t.sets.length scap) t.root)
  have hW1s : w.heap.size + 1 ≤ (w.alloc (.cells #[.slice ao t.ns.length cap, .slice so t.sets.length scap, .int .i64 t.root] 38)).heap.size := by simp
  have hW1t : (w.alloc (.cells #[.slice ao t.ns.length cap, .slice so t.sets.length scap, .int .i64 t.root] 38)).heap.size ≤ w.heap.size + 1 := by simp
  by_cases hbig : 60 < t.ns.length ∨ 60 < t.sets.length
  · have hh : (60 : Int) < t.ns.length ∨ (¬ (60 : Int) < t.ns.length ∧ (60 : Int) < t.sets.length) := by omega
    have hnn : ¬ Near t := fun h => by have := h.ns; have := h.sets; omega
    have HNN := Lib.hid hnn
    clear hbig hnn
    rcases hh with h1 | ⟨h1, h2⟩
    all_goals (
      go_enter Tryz.func13, Tryz.ntmps13
      go_wp2
      go_ret
      exact ⟨true, rfl, .inl ⟨rfl, HNN.out⟩, b1⟩)
  · have n1 : ¬ (60 : Int) < t.ns.length := by omega
    have n2 : ¬ (60 : Int) < t.sets.length := by omega
    have l1 : t.ns.length ≤ 60 := by omega
    have l2 : t.sets.length ≤ 60 := by omega
    clear hbig hm hm2
    obtain ⟨f0, f1, f2⟩ := T0.out
    go_enter Tryz.func13, Tryz.ntmps13
    go_wp2
    generalize w.alloc (.cells #[.slice ao t.ns.length cap, .slice so t.sets.length scap, .int .i64 t.root] 38) = W1 at *
    clear f0 f1 f2
    go_loopw [3, 4] (fun o i wr => ∃ (k : Nat) (vo : Value), i = .int .i64 k ∧ vo = o ∧ k ≤ t.ns.length ∧ wr.ownsRow (w.heap.size + 1) 3 1 o k (farL t.ns k) ∧ (∀ j, j < k → farK t.ns j ≤ 3000) ∧ Below (w.heap.size + 1) W1 wr) (fun _ i _ => t.ns.length - (intOf i).toNat)
    case atStart => exact ⟨0, _, rfl, rfl, Nat.zero_le _, World.ownsRow_nil _ _ _ _, fun j hj => by omega, Below.refl _ _⟩
    case round =>
      obtain ⟨k, o, rfl, rfl, hk, hrow, hf, hbw⟩ := hrel
      obtain ⟨wo, rfl⟩ : ∃ x, x = wr := ⟨_, rfl⟩
      obtain ⟨r0, r1, r2⟩ := T0.out.next (hbw.mono (by omega))
      have hsz := hbw.size
      have HBW := Lib.hid hbw
      have HF := Lib.hid hf
      clear hbw hf
      by_cases hlt : k < t.ns.length
      · obtain ⟨g, rfl, hnode⟩ := HN.out k hlt
        have hB := B1.out.trans (HBW.out.mono (by omega))
        obtain ⟨c0, c1, c2, c3, c4, c5⟩ := hnode.next hB
        have hl0 := cell_lt c0
        have hfk : farK t.ns k = _ := farK.eq_1 t.ns k
        obtain ⟨A, hA, wa⟩ := far_part t.ns k (nd t.ns k).a
        obtain ⟨B, hB', wb⟩ := far_part t.ns k (nd t.ns k).b
        rw [← hA, ← hB'] at hfk
        have HFK := Lib.hid hfk
        have HROW := Lib.hid hrow
        clear hB hnode hA hB' hfk
        generalize nd t.ns k = n at *
        have hcell : ∀ a, a < k → ∃ G c, o = .slice (some ⟨G, 0, none⟩) k c ∧ wo.cell? ⟨G, a, none⟩ = some (.int .i64 (farK t.ns a)) ∧ G < wo.heap.size := fun a ha => by
          obtain ⟨G, c, he, hgb, hgc⟩ := HROW.out.form (by omega)
          have hrow2 := HROW.out
          subst he
          exact ⟨G, c, rfl, by rw [hrow2.cellAt a (by omega), farL_at ha], (hrow2.lt _ rfl).2⟩
        have hfin : ∀ W : World, ∀ v' : Value, W.ownsRow (w.heap.size + 1) 3 1 v' (k + 1) (farL t.ns k ++ [.int .i64 (1 + A + B)]) → W.ownsRow (w.heap.size + 1) 3 1 v' (k + 1) (farL t.ns (k + 1)) := fun W v' h => by rw [farL_succ, HFK.out]; exact h
        have HFIN := Lib.hid hfin
        have hle : (1 + A + B ≤ 3000) → ∀ j, j < k + 1 → farK t.ns j ≤ 3000 := fun h j hj => by
          by_cases hjk : j = k
          · rw [hjk, HFK.out]; exact h
          · exact HF.out j (by omega)
        have HLE := Lib.hid hle
        have hA3 : 0 ≤ A ∧ A ≤ 3000 := by
          rcases wa with ⟨_, h⟩ | ⟨_, _, h⟩ | ⟨a, _, ha, h⟩
          · omega
          · omega
          · rw [h]; have := HF.out a ha; have := farK_pos t.ns a; omega
        have hB3 : 0 ≤ B ∧ B ≤ 3000 := by
          rcases wb with ⟨_, h⟩ | ⟨_, _, h⟩ | ⟨a, _, ha, h⟩
          · omega
          · omega
          · rw [h]; have := HF.out a ha; have := farK_pos t.ns a; omega
        obtain ⟨hA0, hA1⟩ := hA3
        obtain ⟨hB0, hB1⟩ := hB3
        have wa' : (¬ 0 ≤ n.a ∧ A = 0) ∨ (0 ≤ n.a ∧ ¬ n.a < k ∧ A = 0) ∨ ∃ (a : Nat) (G c : Nat), n.a = a ∧ a < k ∧ o = .slice (some ⟨G, 0, none⟩) k c ∧ wo.cell? ⟨G, a, none⟩ = some (.int .i64 A) ∧ G < wo.heap.size := by
          rcases wa with h | h | ⟨a, h1, h2, h3⟩
          · exact .inl h
          · exact .inr (.inl h)
          · obtain ⟨G, c, e1, e2, e3⟩ := hcell a h2
            exact .inr (.inr ⟨a, G, c, h1, h2, e1, by rw [h3]; exact e2, e3⟩)
        have wb' : (¬ 0 ≤ n.b ∧ B = 0) ∨ (0 ≤ n.b ∧ ¬ n.b < k ∧ B = 0) ∨ ∃ (a : Nat) (G c : Nat), n.b = a ∧ a < k ∧ o = .slice (some ⟨G, 0, none⟩) k c ∧ wo.cell? ⟨G, a, none⟩ = some (.int .i64 B) ∧ G < wo.heap.size := by
          rcases wb with h | h | ⟨a, h1, h2, h3⟩
          · exact .inl h
          · exact .inr (.inl h)
          · obtain ⟨G, c, e1, e2, e3⟩ := hcell a h2
            exact .inr (.inr ⟨a, G, c, h1, h2, e1, by rw [h3]; exact e2, e3⟩)
        have hrow2 := Lib.hid HROW.out
        clear wa wb hcell hfin hle hrow
        obtain ⟨op, na, nb, lo, hi', st⟩ := n
        dsimp only at *
        rcases wa' with ⟨a1, rfl⟩ | ⟨a1, a2, rfl⟩ | ⟨a, G, c, rfl, a1, rfl, a2, a3⟩
        all_goals rcases wb' with ⟨b1', rfl⟩ | ⟨b1', b2', rfl⟩ | ⟨b, G', c', rfl, b1', he, b2', b3'⟩
        all_goals (try (first | (simp only [Value.slice.injEq, Option.some.injEq, Addr.mk.injEq] at he; obtain ⟨⟨rfl, _⟩, _, rfl⟩ := he) | subst he))
        all_goals (
          go_wp2_with (at_builtin; refine wpList_append_own _ rfl _ _ 32 rfl (w.heap.size + 1) 3 i0 (.int .i64 0) 1 8 Tryz.underlying32 hi hz0 hz1 hz2 rfl (by decide) _ _ _ rfl ((HROW.out.alloc _).alloc _) ⟨wo.heap.size + 1, 0, none⟩ 1 1 [.int .i64 _] rfl rfl (by simpa using cell_one_new (wo.alloc _) _ _) (by simp [Value.oneCell']) (by unfold maxLen; omega) (by omega) (by simp; omega) ?_; intro v' w2 hown' hgrow _; go_must (have HR2 := Lib.hid (HFIN.out _ _ (by simpa using hown')); have HB2 := Lib.hid (((HBW.out.alloc (by omega) _).alloc (by simp; omega) _).grown hgrow (by simp; omega) (fun x hx => (hrow2.out.lt x hx).1)); clear hown' hgrow))
          all_goals first
            | (go_ret; exact ⟨true, rfl, .inl ⟨rfl, fun hnr => by have h3 := hnr.size k hlt; rw [HFK.out] at h3; omega⟩, B1.out.trans ((HBW.out.alloc (by omega) _).mono (by omega))⟩)
            | (go_roundw
               case rel => exact ⟨k + 1, _, by go_num, rfl, by omega, HR2.out, HLE.out (by omega), HB2.out⟩
               case measure => simp [intOf]; omega)
            | skip)
      · obtain rfl : k = t.ns.length := by omega
        have HK := Lib.hid HF.out
        clear hrow HF
        go_wp2
        go_loopw [7] (fun i wr => ∃ j : Nat, i = .int .i64 j ∧ j ≤ t.sets.length ∧ (∀ q, q < j → (nthL t.sets q).length ≤ 30) ∧ Below (w.heap.size + 1) W1 wr) (fun i _ => t.sets.length - (intOf i).toNat)
        case atStart => exact ⟨0, rfl, Nat.zero_le _, fun q hq => by omega, HBW.out⟩
        case round =>
          clear r0 r1 r2 hsz
          obtain ⟨j, rfl, hj, hq, hbq⟩ := hrel
          obtain ⟨r0, r1, r2⟩ := T0.out.next (hbq.mono (by omega))
          have hsz := hbq.size
          have HBQ := Lib.hid hbq
          have HQ := Lib.hid hq
          clear hbq hq
          by_cases hjl : j < t.sets.length
          · obtain ⟨gs, x, rfl, x1, x2⟩ := HS.out j hjl
            obtain ⟨xo, xcap, rfl, xm, _⟩ := x2.shape
            have y1 := cell_next x1 (B1.out.trans (HBQ.out.mono (by omega)))
            have hle : ¬ (30 < (nthL t.sets j).length) → ∀ q, q < j + 1 → (nthL t.sets q).length ≤ 30 := fun h q hq => by
              by_cases hqj : q = j
              · subst hqj; omega
              · exact HQ.out q (by omega)
            have HLE := Lib.hid hle
            have HEA := Lib.hid (fun (h : 30 < (nthL t.sets j).length) (hn : Near t) => show False by have := hn.each j hjl; omega)
            clear hle x1 x2
            by_cases h30 : 30 < (nthL t.sets j).length
            all_goals (generalize (nthL t.sets j).length = m at *)
            · have h30' : (30 : Int) < (m : Int) := by omega
              go_wp2
              go_ret
              exact ⟨true, rfl, .inl ⟨rfl, fun hn => HEA.out h30 hn⟩, B1.out.trans (HBQ.out.mono (by omega))⟩
            · have h30' : ¬ (30 : Int) < (m : Int) := by omega
              go_wp2
              go_roundw
              case rel => exact ⟨j + 1, by go_num, by omega, HLE.out h30, HBQ.out⟩
              case measure => simp [intOf]; omega
          · obtain rfl : j = t.sets.length := by omega
            go_wp2
            go_ret
            exact ⟨false, rfl, .inr ⟨rfl, l1, l2, HK.out, HQ.out⟩, B1.out.trans (HBQ.out.mono (by omega))⟩

noncomputable def farB (t : Tr) : Bool := @decide (¬ Near t) (Classical.propDecidable _)
theorem farB_no {t : Tr} (h : Near t) : farB t = false := by unfold farB; rw [@decide_eq_false_iff_not _ (Classical.propDecidable _)]; exact fun h' => h' h
theorem farB_yes {t : Tr} (h : ¬ Near t) : farB t = true := by unfold farB; rw [@decide_eq_true_iff _ (Classical.propDecidable _)]; exact h
theorem far_b (t : Tr) (v : Value) (w : World) (h : TreeAt w v t) :
    Calls Tryz.prog 13 #[v] w fun e w' => e = .returned (.bool (farB t)) ∧ Below w.heap.size w w' := by
  refine (far_any t v w h).mono ?_
  rintro e w' ⟨b, rfl, hb, h2⟩
  rcases hb with ⟨rfl, hn⟩ | ⟨rfl, hn⟩
  · exact ⟨by rw [farB_yes hn], h2⟩
  · exact ⟨by rw [farB_no hn], h2⟩

end Go.Proofs.YtgjiofkjogjhhaaGreatDoor.Ar

namespace Go.Proofs.YtgjiofkjogjhhaaGreatDoor.Ar
open Go Go.RowKit Go.Shelf
open Go.Proofs.YtgjiofkjogjhhaaGreatDoor.Rg (R RngsAt RowsAt nthL add_zero own_next)

set_option maxRecDepth 100000 in
set_option maxHeartbeats 4000000 in
theorem rsize_any (t : Tr) (ht : Ok t) (hb : Bnd gZ t.ns) : ∀ (i : Nat), i < t.ns.length → ∀ (v : Value) (w : World), TreeAt w v t →
    Calls Tryz.prog 15 #[v, .int .i64 i] w fun e w' => e = .returned (.int .i64 (reck gZ t.ns i)) ∧ Below w.heap.size w w' := by
  intro i
  induction i using Nat.strongRecOn with
  | ind i ih =>
    intro hi v w hv
    have HV := Lib.hid hv
    have IH := Lib.hid ih
    have HBD := Lib.hid hb
    obtain ⟨ao, cap, so, scap, rfl, hm, hm2, hn, _⟩ := hv.shape
    obtain ⟨g, rfl, hN⟩ := hn i hi
    obtain ⟨c0, c1, c2, c3, c4, c5⟩ := hN
    have hlt := cell_lt c0
    have hw := nodeB_ways (ht.node i hi)
    have h2 := Lib.hid (fun h ha hb => reck_two (g := gZ) (l := t.ns) (i := i) h ha hb)
    have h1 := Lib.hid (fun h ha => reck_one (g := gZ) (l := t.ns) (i := i) h ha)
    have h0 := Lib.hid (fun h ha => reck_none (g := gZ) (l := t.ns) (i := i) h ha)
    clear hn hv ih hb ht
    generalize nd t.ns i = n at *
    by_cases ho : n.op = 3 ∨ n.op = 4
    · have hx : 0 ≤ n.a ∧ n.a < i ∧ 0 ≤ n.b ∧ n.b < i := by omega
      obtain ⟨ha0, ha1, hb0, hb1⟩ := hx
      obtain ⟨a, ha⟩ := Int.eq_ofNat_of_zero_le ha0
      obtain ⟨b, hb⟩ := Int.eq_ofNat_of_zero_le hb0
      have hai : a < i := by omega
      have hbi : b < i := by omega
      have e2 := h2.out ho (by omega) (by omega)
      rw [ha, hb] at e2
      have B1 := HBD.out a (by omega)
      have B2 := HBD.out b (by omega)
      simp only [Int.toNat_natCast] at e2
      rw [gZ_two] at e2
      rw [ha] at c1
      rw [hb] at c2
      have E2 := Lib.hid e2
      have ca := Lib.hid (fun v W (h : TreeAt W v t) => IH.out a hai (by omega) v W h)
      have cb := Lib.hid (fun v W (h : TreeAt W v t) => IH.out b hbi (by omega) v W h)
      have hop : (n.op == 3) = true ∨ ((n.op == 3) = false ∧ (n.op == 4) = true) := by
        rcases ho with h | h
        · exact .inl (by simpa using h)
        · exact .inr ⟨by simp; omega, by simpa using h⟩
      clear hw ha hb ha0 ha1 hb0 hb1 e2 h2 h1 h0 IH HBD ho
      generalize reck gZ t.ns i = r at *
      generalize reck gZ t.ns a = ra at *
      generalize reck gZ t.ns b = rb at *
      rcases hop with hop | ⟨hop, hop2⟩
      all_goals (
        go_enter Tryz.func15, Tryz.ntmps15
        go_wp2
        have r0 : Below w.heap.size w ((w.alloc (.cells #[.slice (some g) t.ns.length cap, .slice so t.sets.length scap, .int .i64 t.root] 38)).alloc (.cells #[.int .i64 n.op, .int .i64 a, .int .i64 b, .int .i64 n.lo, .int .i64 n.hi, .int .i64 n.set] 70)) := ((Below.refl w.heap.size w).alloc (Nat.le_refl _) _).alloc (by simp) _
        have f0 : ((w.alloc (.cells #[.slice (some g) t.ns.length cap, .slice so t.sets.length scap, .int .i64 t.root] 38)).alloc (.cells #[.int .i64 n.op, .int .i64 a, .int .i64 b, .int .i64 n.lo, .int .i64 n.hi, .int .i64 n.set] 70)).cell? ⟨w.heap.size, 0, none⟩ = some (.slice (some g) t.ns.length cap) := by simp
        have f1 : ((w.alloc (.cells #[.slice (some g) t.ns.length cap, .slice so t.sets.length scap, .int .i64 t.root] 38)).alloc (.cells #[.int .i64 n.op, .int .i64 a, .int .i64 b, .int .i64 n.lo, .int .i64 n.hi, .int .i64 n.set] 70)).cell? ⟨w.heap.size, 1, none⟩ = some (.slice so t.sets.length scap) := by simp
        have f2 : ((w.alloc (.cells #[.slice (some g) t.ns.length cap, .slice so t.sets.length scap, .int .i64 t.root] 38)).alloc (.cells #[.int .i64 n.op, .int .i64 a, .int .i64 b, .int .i64 n.lo, .int .i64 n.hi, .int .i64 n.set] 70)).cell? ⟨w.heap.size, 2, none⟩ = some (.int .i64 t.root) := by simp
        have f3 : ((w.alloc (.cells #[.slice (some g) t.ns.length cap, .slice so t.sets.length scap, .int .i64 t.root] 38)).alloc (.cells #[.int .i64 n.op, .int .i64 a, .int .i64 b, .int .i64 n.lo, .int .i64 n.hi, .int .i64 n.set] 70)).cell? ⟨w.heap.size + 1, 1, none⟩ = some (.int .i64 (a : Int)) := by simp
        have f4 : ((w.alloc (.cells #[.slice (some g) t.ns.length cap, .slice so t.sets.length scap, .int .i64 t.root] 38)).alloc (.cells #[.int .i64 n.op, .int .i64 a, .int .i64 b, .int .i64 n.lo, .int .i64 n.hi, .int .i64 n.set] 70)).cell? ⟨w.heap.size + 1, 2, none⟩ = some (.int .i64 (b : Int)) := by simp
        generalize ((w.alloc (.cells #[.slice (some g) t.ns.length cap, .slice so t.sets.length scap, .int .i64 t.root] 38)).alloc (.cells #[.int .i64 n.op, .int .i64 a, .int .i64 b, .int .i64 n.lo, .int .i64 n.hi, .int .i64 n.set] 70)) = W at *
        replace f0 : W.drew.cell? _ = _ := f0
        replace f1 : W.drew.cell? _ = _ := f1
        replace f2 : W.drew.cell? _ = _ := f2
        replace f3 : W.drew.cell? _ = _ := f3
        replace f4 : W.drew.cell? _ = _ := f4
        replace r0 := r0.drew
        go_region_held3 (fun W => W.cell? ⟨w.heap.size, 0, none⟩ = some (.slice (some g) t.ns.length cap) ∧ W.cell? ⟨w.heap.size, 1, none⟩ = some (.slice so t.sets.length scap) ∧ W.cell? ⟨w.heap.size, 2, none⟩ = some (.int .i64 t.root) ∧ W.cell? ⟨w.heap.size + 1, 1, none⟩ = some (.int .i64 (a : Int)) ∧ W.cell? ⟨w.heap.size + 1, 2, none⟩ = some (.int .i64 (b : Int)) ∧ Below w.heap.size w W) (first | exact ⟨by assumption, by assumption, by assumption, by assumption, by assumption, by assumption⟩ | go_keep)
          (first
            | (go_at_call 15; (first | (with_reducible refine (ca.out _ _ (HV.out.next (by assumption))).mono ?_) | (with_reducible refine (cb.out _ _ (HV.out.next (by assumption))).mono ?_)); rintro e w1 ⟨rfl, hb1⟩; go_must (have q1 := cell_next (a := ⟨w.heap.size, 0, none⟩) (v := .slice (some g) t.ns.length cap) (by assumption) hb1; have q2 := cell_next (a := ⟨w.heap.size, 1, none⟩) (v := .slice so t.sets.length scap) (by assumption) hb1; have q3 := cell_next (a := ⟨w.heap.size, 2, none⟩) (v := .int .i64 t.root) (by assumption) hb1; have q4 := cell_next (a := ⟨w.heap.size + 1, 1, none⟩) (v := .int .i64 (a : Int)) (by assumption) hb1; have q5 := cell_next (a := ⟨w.heap.size + 1, 2, none⟩) (v := .int .i64 (b : Int)) (by assumption) hb1; have B6 := Below.trans (show Below w.heap.size w _ by assumption) (hb1.mono (Below.size (show Below w.heap.size w _ by assumption)))))
            | fail)
        all_goals (
          go_wp2
          go_ret
          exact ⟨ret_int (by rw [E2.out]; simp only [IntKind.wrap_i64]; omega), by assumption⟩))
    · by_cases h5 : n.op = 5
      · have hx : 0 ≤ n.a ∧ n.a < i := by omega
        obtain ⟨ha0, ha1⟩ := hx
        obtain ⟨a, ha⟩ := Int.eq_ofNat_of_zero_le ha0
        have hai : a < i := by omega
        have e2 := h1.out h5 (by omega)
        rw [ha] at e2
        have B1 := HBD.out a (by omega)
        simp only [Int.toNat_natCast] at e2
        rw [gZ_one] at e2
        rw [ha] at c1
        have E2 := Lib.hid e2
        have ca := Lib.hid (fun v W (h : TreeAt W v t) => IH.out a hai (by omega) v W h)
        have o3 : (n.op == 3) = false := by simp; omega
        have o4 : (n.op == 4) = false := by simp; omega
        have o5 : (n.op == 5) = true := by simpa using h5
        clear hw ha ha0 ha1 e2 h2 h1 h0 IH HBD ho h5
        generalize reck gZ t.ns i = r at *
        generalize reck gZ t.ns a = ra at *
        go_enter Tryz.func15, Tryz.ntmps15
        go_wp2_with (first
          | (go_at_call 15; (with_reducible refine (ca.out _ _ (HV.out.next (((Below.refl w.heap.size w).alloc (Nat.le_refl _) _).alloc (by simp) _))).mono ?_); rintro e w1 ⟨rfl, hb1⟩; go_must (have H1 := Lib.hid ((((Below.refl w.heap.size w).alloc (Nat.le_refl _) _).alloc (by simp) _).trans (hb1.mono (by simp; omega))); clear hb1))
          | fail)
        go_ret
        exact ⟨ret_int (by rw [E2.out]), H1.out⟩
      · have e2 := h0.out ho h5
        rw [gZ_none] at e2
        have E2 := Lib.hid e2
        have o3 : (n.op == 3) = false := by simp; omega
        have o4 : (n.op == 4) = false := by simp; omega
        have o5 : (n.op == 5) = false := by simpa using h5
        clear hw e2 h2 h1 h0 IH HBD ho h5
        generalize reck gZ t.ns i = r at *
        go_enter Tryz.func15, Tryz.ntmps15
        go_wp2
        go_ret
        exact ⟨ret_int E2.out.symm, ((Below.refl w.heap.size w).alloc (Nat.le_refl _) _).alloc (by simp) _⟩

end Go.Proofs.YtgjiofkjogjhhaaGreatDoor.Ar

namespace Go.Proofs.YtgjiofkjogjhhaaGreatDoor.Ar
open Go Go.RowKit Go.Shelf Go.ChangeShapes Go.WideShapes Go.Deep
open Go.Proofs.YtgjiofkjogjhhaaGreatDoor.Rg (R RngsAt RowsAt nthL nth add_zero own_next add_pair)

set_option maxRecDepth 4000
theorem add_nxt (a : Addr) (m o : Nat) : a.add (m + (o + 1)) = ⟨(a.add m).block, (a.add m).off + (o + 1), none⟩ := by
  unfold Addr.add
  by_cases h : m = 0
  · simp [h]
  · simp [h]; omega
section
variable {H : Type} {enc : TypeId × Value → H} {W : World} {base : Nat} {sp : Nat → Bool} {held : Bool} {fuel : Nat} {cs : List Value} {x : DataW H × List MemPlace}
theorem int_cell {t : TypeId} (ht : Tryz.prog.underlying t = some (.int .i64)) {u : Value} {y : Option (DataW H × List MemPlace)} (h : DataW.trod enc Tryz.prog W base sp held fuel t [u] = y) (hy : y ≠ none) : ∃ n : Int, u = .int .i64 n := by
  obtain ⟨z, rfl⟩ := Option.ne_none_iff_exists'.1 hy
  obtain ⟨n, hn, _, _⟩ := DataW.trod_int ht h
  exact ⟨n, by simpa using hn⟩
/-- a slice of ranges, by its cell -/
theorem rngs_cell (h : DataW.trod enc Tryz.prog W base sp held fuel 71 cs = some x) : ∃ v l, cs = [v] ∧ RngsAt W v l := by
  rcases open_slice_pairs Tryz.underlying71 Tryz.underlying75 (by kernel_rfl) rfl rfl (by kernel_rfl) (by kernel_rfl) h with ⟨hcs, _⟩ | ⟨a, len', cap', m, n, V0, V1, D0, D1, P0, P1, hcs, _, hl, hm, hmm, _, hi⟩
  · exact ⟨_, [], hcs, .inl ⟨rfl, rfl⟩⟩
  · have hlm : len' ≤ m := by rw [hmm]; split <;> omega
    refine ⟨_, (List.range len').map fun i => (intOf (V0 i), intOf (V1 i)), hcs, .inr ⟨a, cap', by simp, by simp; omega, fun i hil => ?_⟩⟩
    have hil' : i < len' := by simpa using hil
    obtain ⟨h1, h2, h3, h4⟩ := hi i (by omega)
    obtain ⟨p, hp, _, _⟩ := DataW.trod_int Tryz.underlying3 h3
    obtain ⟨q, hq, _, _⟩ := DataW.trod_int Tryz.underlying3 h4
    have ex : V0 i = .int .i64 p := by simpa using hp
    have ey : V1 i = .int .i64 q := by simpa using hq
    have hn : nth ((List.range len').map fun i => (intOf (V0 i), intOf (V1 i))) i = (p, q) := by
      simp [nth, List.getD, hil', ex, ey, intOf]
    rw [hn]
    refine ⟨by rw [h1, ex], ?_⟩
    rw [add_pair] at h2
    rw [h2, ey]
/-- a slice of slices of ranges -/
theorem rows_cell (h : DataW.trod enc Tryz.prog W base sp held fuel 36 cs = some x) : ∃ v L, cs = [v] ∧ RowsAt W v L := by
  rcases open_slice1 Tryz.underlying36 (by kernel_rfl) h with ⟨hcs, _⟩ | ⟨a, len, cap, m, n, V, D, Pl, hcs, _, hl, hm, hmm, _, hi⟩
  · exact ⟨_, [], hcs, .inl ⟨rfl, rfl⟩⟩
  · have hlm : len ≤ m := by rw [hmm]; split <;> omega
    have hex : ∀ i, ∃ l : List R, i < len → RngsAt W (V i) l := fun i => by
      by_cases hil : i < len
      · obtain ⟨_, h2⟩ := hi i (by omega)
        obtain ⟨v, l, hv, hr⟩ := rngs_cell h2
        simp only [List.cons.injEq, and_true] at hv
        subst hv
        exact ⟨l, fun _ => hr⟩
      · exact ⟨[], fun h => absurd h hil⟩
    obtain ⟨f, hf⟩ := Classical.skolem.1 hex
    refine ⟨_, (List.range len).map f, hcs, .inr ⟨a, cap, by simp, by simp; omega, fun i hil => ?_⟩⟩
    have hil' : i < len := by simpa using hil
    refine ⟨V i, (hi i (by omega)).1, ?_⟩
    have : nthL ((List.range len).map f) i = f i := by simp [nthL, List.getD, hil']
    rw [this]
    exact hf i hil'
/-- six numbers -/
theorem node_cells (h : DataW.trod enc Tryz.prog W base sp held fuel 70 cs = some x) : ∃ n : Nd, cs = cellsN n := by
  obtain ⟨xs, k, _, _, hl, hxl, hf⟩ := DataW.trod_struct Tryz.underlying70 h
  rw [show Tryz.prog.cellsOf 70 = 6 by kernel_rfl] at hl
  have hci : Tryz.prog.cellsOf 3 = 1 := by kernel_rfl
  match cs, hl, xs, hxl with
  | [c0, c1, c2, c3, c4, c5], _, [y0, y1, y2, y3, y4, y5], _ =>
    have g0 : DataW.trod enc Tryz.prog W base sp held k 3 ((([c0, c1, c2, c3, c4, c5] : List Value).drop 0).take (Tryz.prog.cellsOf 3)) = some y0 := hf 0 _ rfl
    have g1 : DataW.trod enc Tryz.prog W base sp held k 3 ((([c0, c1, c2, c3, c4, c5] : List Value).drop 1).take (Tryz.prog.cellsOf 3)) = some y1 := hf 1 _ rfl
    have g2 : DataW.trod enc Tryz.prog W base sp held k 3 ((([c0, c1, c2, c3, c4, c5] : List Value).drop 2).take (Tryz.prog.cellsOf 3)) = some y2 := hf 2 _ rfl
    have g3 : DataW.trod enc Tryz.prog W base sp held k 3 ((([c0, c1, c2, c3, c4, c5] : List Value).drop 3).take (Tryz.prog.cellsOf 3)) = some y3 := hf 3 _ rfl
    have g4 : DataW.trod enc Tryz.prog W base sp held k 3 ((([c0, c1, c2, c3, c4, c5] : List Value).drop 4).take (Tryz.prog.cellsOf 3)) = some y4 := hf 4 _ rfl
    have g5 : DataW.trod enc Tryz.prog W base sp held k 3 ((([c0, c1, c2, c3, c4, c5] : List Value).drop 5).take (Tryz.prog.cellsOf 3)) = some y5 := hf 5 _ rfl
    rw [hci] at g0 g1 g2 g3 g4 g5
    obtain ⟨n0, rfl⟩ := int_cell Tryz.underlying3 g0 (by simp)
    obtain ⟨n1, rfl⟩ := int_cell Tryz.underlying3 g1 (by simp)
    obtain ⟨n2, rfl⟩ := int_cell Tryz.underlying3 g2 (by simp)
    obtain ⟨n3, rfl⟩ := int_cell Tryz.underlying3 g3 (by simp)
    obtain ⟨n4, rfl⟩ := int_cell Tryz.underlying3 g4 (by simp)
    obtain ⟨n5, rfl⟩ := int_cell Tryz.underlying3 g5 (by simp)
    exact ⟨⟨n0, n1, n2, n3, n4, n5⟩, rfl⟩
/-- a slice of nodes -/
theorem nodes_cell (h : DataW.trod enc Tryz.prog W base sp held fuel 35 cs = some x) : ∃ v l, cs = [v] ∧ NodesAt W v l := by
  rcases open_slice Tryz.underlying35 h with ⟨hcs, _⟩ | ⟨a, len, cap, m, n, D, Pl, hcs, _, hl, hm, hmm, _, hi⟩
  · exact ⟨_, [], hcs, .inl ⟨rfl, rfl⟩⟩
  · have hlm : len ≤ m := by rw [hmm]; split <;> omega
    have hex : ∀ i, ∃ n : Nd, i < len → NodeAt W (a.add (i * 6)) n := fun i => by
      by_cases hil : i < len
      · obtain ⟨cs', h1, h2⟩ := hi i (by omega)
        obtain ⟨nn, rfl⟩ := node_cells h2
        rw [show Tryz.prog.cellsOf 70 = 6 by kernel_rfl] at h1
        obtain ⟨_, _, hc⟩ := World.cells?_some h1
        have k0 := hc 0 (by omega)
        have k1 := hc 1 (by omega)
        have k2 := hc 2 (by omega)
        have k3 := hc 3 (by omega)
        have k4 := hc 4 (by omega)
        have k5 := hc 5 (by omega)
        rw [add_add] at k0 k1 k2 k3 k4 k5
        rw [Nat.add_zero] at k0
        rw [add_nxt] at k1 k2 k3 k4 k5
        exact ⟨nn, fun _ => ⟨k0, k1, k2, k3, k4, k5⟩⟩
      · exact ⟨default, fun h => absurd h hil⟩
    obtain ⟨f, hf⟩ := Classical.skolem.1 hex
    refine ⟨_, (List.range len).map f, hcs, .inr ⟨a, cap, by simp, by simp; omega, fun i hil => ?_⟩⟩
    have hil' : i < len := by simpa using hil
    have : nd ((List.range len).map f) i = f i := by simp [nd, List.getD, hil']
    rw [this]
    exact hf i hil'
/-- a tree's three cells -/
theorem tree_cells (h : DataW.trod enc Tryz.prog W base sp held fuel 38 cs = some x) : ∃ vn vs, ∃ t : Tr, cs = [vn, vs, .int .i64 t.root] ∧ NodesAt W vn t.ns ∧ RowsAt W vs t.sets := by
  obtain ⟨xs, k, _, _, hl, hxl, hf⟩ := DataW.trod_struct Tryz.underlying38 h
  rw [show Tryz.prog.cellsOf 38 = 3 by kernel_rfl] at hl
  match cs, hl, xs, hxl with
  | [c0, c1, c2], _, [y0, y1, y2], _ =>
    have g0 : DataW.trod enc Tryz.prog W base sp held k 35 ((([c0, c1, c2] : List Value).drop 0).take (Tryz.prog.cellsOf 35)) = some y0 := hf 0 _ rfl
    have g1 : DataW.trod enc Tryz.prog W base sp held k 36 ((([c0, c1, c2] : List Value).drop 1).take (Tryz.prog.cellsOf 36)) = some y1 := hf 1 _ rfl
    have g2 : DataW.trod enc Tryz.prog W base sp held k 3 ((([c0, c1, c2] : List Value).drop 2).take (Tryz.prog.cellsOf 3)) = some y2 := hf 2 _ rfl
    rw [show Tryz.prog.cellsOf 35 = 1 by kernel_rfl] at g0
    rw [show Tryz.prog.cellsOf 36 = 1 by kernel_rfl] at g1
    rw [show Tryz.prog.cellsOf 3 = 1 by kernel_rfl] at g2
    obtain ⟨vn, l, e0, hn⟩ := nodes_cell (x := y0) g0
    obtain ⟨vs, L, e1, hs⟩ := rows_cell (x := y1) g1
    obtain ⟨r, rfl⟩ := int_cell Tryz.underlying3 g2 (by simp)
    have e0' : c0 = vn := by simpa using e0
    have e1' : c1 = vs := by simpa using e1
    subst e0' e1'
    exact ⟨c0, c1, ⟨l, L, r⟩, rfl, hn, hs⟩
end

section
variable {H : Type} {enc : TypeId × Value → H} {W : World} {v : Value} {d : DataW H} {ps : List MemPlace} {base b2 : Nat} {sp : Nat → Bool} {held : Bool}
theorem tree_of_trod (ho : Value.okWide Tryz.prog W .any b2 38 v) (h : DataW.Trod enc Tryz.prog W base sp held 38 v d ps) : ∃ t, TreeAt W v t := by
  obtain ⟨⟨cs⟩, rfl, _⟩ := okWide_struct Tryz.underlying38 ho
  obtain ⟨fuel, hf⟩ := h
  obtain ⟨vn, vs, t, e, hn, hs⟩ := tree_cells hf
  have e' : cs = [vn, vs, .int .i64 t.root] := by simpa [Value.cells] using e
  subst e'
  exact ⟨t, vn, vs, rfl, hn, hs⟩
end

end Go.Proofs.YtgjiofkjogjhhaaGreatDoor.Ar

namespace Go.Proofs.YtgjiofkjogjhhaaGreatDoor.Sp
open Go Go.RowKit Go.Shelf Go.ChangeShapes Go.WideShapes Go.Deep Go.Joins
open Go.Proofs.YtgjiofkjogjhhaaGreatDoor.Ar (Tr TreeAt NodesAt int_cell tree_cells add_nxt)
open Go.Proofs.YtgjiofkjogjhhaaGreatDoor.Rg (nthL)
open Go.Proofs.YtgjiofkjogjhhaaGreatDoor.Ac (bE)
set_option maxRecDepth 4000

section
variable {H : Type} {enc : TypeId × Value → H} {W : World} {base : Nat} {sp : Nat → Bool} {held : Bool} {fuel : Nat} {cs : List Value} {x : DataW H × List MemPlace}
/-- a slice of texts, by its cell -/
theorem strs_cell (h : DataW.trod enc Tryz.prog W base sp held fuel 22 cs = some x) : ∃ v l, cs = [v] ∧ StrsAt W v l ∧ CapOk v := by
  rcases open_strs Tryz.underlying22 Tryz.underlying9 (by kernel_rfl) h with ⟨hcs, _⟩ | ⟨a, len', cap', m, Sx, hcs, _, hl, hm, hmm, _, hc⟩
  · exact ⟨_, [], hcs, .inl ⟨rfl, rfl⟩, fun ao n c e => by cases e; exact Nat.le_refl _⟩
  · have hlm : len' ≤ m := by rw [hmm]; split <;> omega
    refine ⟨_, (List.range len').map Sx, hcs, .inr ⟨a, cap', by simp, by simp; omega, fun i hi => ?_⟩, fun ao n c e => by cases e; exact hl⟩
    have hi' : i < len' := by simpa using hi
    rw [(hc i (by omega)).1]
    simp [List.getD, hi']
/-- an act's two cells -/
theorem act_cells (h : DataW.trod enc Tryz.prog W base sp held fuel 34 cs = some x) : ∃ (em : ByteArray) (g : Int), cs = [.string em, .int .i64 g] := by
  obtain ⟨xs, k, _, _, hl, hxl, hf⟩ := DataW.trod_struct Tryz.underlying34 h
  rw [show Tryz.prog.cellsOf 34 = 2 by kernel_rfl] at hl
  match cs, hl, xs, hxl with
  | [c0, c1], _, [y0, y1], _ =>
    have g0 : DataW.trod enc Tryz.prog W base sp held k 9 ((([c0, c1] : List Value).drop 0).take (Tryz.prog.cellsOf 9)) = some y0 := hf 0 _ rfl
    have g1 : DataW.trod enc Tryz.prog W base sp held k 3 ((([c0, c1] : List Value).drop 1).take (Tryz.prog.cellsOf 3)) = some y1 := hf 1 _ rfl
    rw [show Tryz.prog.cellsOf 9 = 1 by kernel_rfl] at g0
    rw [show Tryz.prog.cellsOf 3 = 1 by kernel_rfl] at g1
    obtain ⟨s, e0, _, _⟩ := DataW.trod_string Tryz.underlying9 g0
    obtain ⟨n1, rfl⟩ := int_cell Tryz.underlying3 g1 (by simp)
    have e0' : c0 = .string s := by simpa using e0
    subst e0'
    exact ⟨s, n1, rfl⟩
/-- a rule's six cells -/
theorem rule_cells (h : DataW.trod enc Tryz.prog W base sp held fuel 40 cs = some x) :
    ∃ (r : Rl) (no : Option Addr) (ncap : Nat) (so : Option Addr) (scap : Nat), cs = [.int .i64 r.mode, .slice no r.t.ns.length ncap, .slice so r.t.sets.length scap, .int .i64 r.t.root, .string r.em, .int .i64 r.go] ∧ TreeAt W (.agg #[.slice no r.t.ns.length ncap, .slice so r.t.sets.length scap, .int .i64 r.t.root]) r.t := by
  obtain ⟨xs, k, _, _, hl, hxl, hf⟩ := DataW.trod_struct Tryz.underlying40 h
  rw [show Tryz.prog.cellsOf 40 = 6 by kernel_rfl] at hl
  match cs, hl, xs, hxl with
  | [c0, c1, c2, c3, c4, c5], _, [y0, y1, y2], _ =>
    have g0 : DataW.trod enc Tryz.prog W base sp held k 3 ((([c0, c1, c2, c3, c4, c5] : List Value).drop 0).take (Tryz.prog.cellsOf 3)) = some y0 := hf 0 _ rfl
    have g1 : DataW.trod enc Tryz.prog W base sp held k 38 ((([c0, c1, c2, c3, c4, c5] : List Value).drop 1).take (Tryz.prog.cellsOf 38)) = some y1 := hf 1 _ rfl
    have g2 : DataW.trod enc Tryz.prog W base sp held k 34 ((([c0, c1, c2, c3, c4, c5] : List Value).drop 4).take (Tryz.prog.cellsOf 34)) = some y2 := hf 2 _ rfl
    rw [show Tryz.prog.cellsOf 3 = 1 by kernel_rfl] at g0
    rw [show Tryz.prog.cellsOf 38 = 3 by kernel_rfl] at g1
    rw [show Tryz.prog.cellsOf 34 = 2 by kernel_rfl] at g2
    obtain ⟨m, rfl⟩ := int_cell Tryz.underlying3 g0 (by simp)
    obtain ⟨vn, vs, t, e1, hn, hs⟩ := tree_cells (x := y1) g1
    obtain ⟨em, g, e2⟩ := act_cells (x := y2) g2
    simp only [List.drop, List.take, List.cons.injEq, and_true] at e1 e2
    obtain ⟨rfl, rfl, rfl⟩ := e1
    obtain ⟨rfl, rfl⟩ := e2
    have ht : TreeAt W (.agg #[c1, c2, .int .i64 t.root]) t := ⟨c1, c2, rfl, hn, hs⟩
    have ht2 := ht
    obtain ⟨no, ncap, so, scap, e, _, _, _, _⟩ := ht.shape
    simp only [Value.agg.injEq, Array.mk.injEq, List.cons.injEq, and_true] at e
    obtain ⟨rfl, rfl⟩ := e
    exact ⟨⟨m, t, em, g⟩, no, ncap, so, scap, rfl, ht2⟩
/-- a slice of rules -/
theorem rules_cell (h : DataW.trod enc Tryz.prog W base sp held fuel 23 cs = some x) : ∃ v l, cs = [v] ∧ RulesAt W v l := by
  rcases open_slice Tryz.underlying23 h with ⟨hcs, _⟩ | ⟨a, len, cap, m, n, D, Pl, hcs, _, hl, hm, hmm, _, hi⟩
  · exact ⟨_, [], hcs, .inl ⟨rfl, rfl⟩⟩
  · have hlm : len ≤ m := by rw [hmm]; split <;> omega
    have hex : ∀ i, ∃ r : Rl, i < len → ∃ no ncap so scap, RuleIn W (a.add (i * 6)) r no ncap so scap := fun i => by
      by_cases hil : i < len
      · obtain ⟨cs', h1, h2⟩ := hi i (by omega)
        obtain ⟨r, no, ncap, so, scap, rfl, ht⟩ := rule_cells h2
        rw [show Tryz.prog.cellsOf 40 = 6 by kernel_rfl] at h1
        obtain ⟨_, _, hc⟩ := World.cells?_some h1
        have k0 := hc 0 (by omega)
        have k1 := hc 1 (by omega)
        have k2 := hc 2 (by omega)
        have k3 := hc 3 (by omega)
        have k4 := hc 4 (by omega)
        have k5 := hc 5 (by omega)
        rw [add_add] at k0 k1 k2 k3 k4 k5
        rw [Nat.add_zero] at k0
        rw [add_nxt] at k1 k2 k3 k4 k5
        exact ⟨r, fun _ => ⟨no, ncap, so, scap, k0, k1, k2, k3, k4, k5, ht⟩⟩
      · exact ⟨rl0, fun h => absurd h hil⟩
    obtain ⟨f, hf⟩ := Classical.skolem.1 hex
    refine ⟨_, (List.range len).map f, hcs, .inr ⟨a, cap, by simp, by simp; omega, fun i hil => ?_⟩⟩
    have hil' : i < len := by simpa using hil
    have : rl ((List.range len).map f) i = f i := by simp [rl, List.getD, hil']
    rw [this]
    exact hf i hil'
end

section
variable {H : Type} {enc : TypeId × Value → H} {W : World} {v : Value} {d : DataW H} {ps : List MemPlace} {base b2 : Nat} {sp : Nat → Bool} {held : Bool}
theorem spec_of_trod (ho : Value.okWide Tryz.prog W .any b2 25 v) (h : DataW.Trod enc Tryz.prog W base sp held 25 v d ps) : ∃ M l, SpecAt W v M l := by
  obtain ⟨v0, v1, y0, y1, n, rfl, _, _, h0, h1⟩ := open_agg2 Tryz.underlying25 (by kernel_rfl) (by kernel_rfl) ho h
  obtain ⟨w0, M, e0, hM, hcap⟩ := strs_cell (x := y0) h0
  obtain ⟨w1, l, e1, hl⟩ := rules_cell (x := y1) h1
  have e0' : v0 = w0 := by simpa using e0
  have e1' : v1 = w1 := by simpa using e1
  subst e0' e1'
  exact ⟨M, l, v0, v1, rfl, hM, hl, hcap⟩
end
end Go.Proofs.YtgjiofkjogjhhaaGreatDoor.Sp

/- From where to where each node of a tree has what stands between: the document's Spans walked. -/
import Derived.Test.YtjmdlioakkibcaaGreatDoorPk23
import Derived.Deep.DeepCutAuto

namespace Go.Proofs.YtjmdlioakkibcaaGreatDoor.Dv
open Go Go.RowKit Go.Shelf
open Go.Proofs.YtjmdlioakkibcaaGreatDoor.Ar (timesB Nd nd nodeB nodeB_ways NodeAt node_new Tr Ok TreeAt aggN)
open Go.Proofs.YtjmdlioakkibcaaGreatDoor.Rg (R RngsAt RowsAt nthL add_zero own_next inB rhas_any)
section
variable {w : World} {t : Tr} {v vl : Value} {l : List Int}
theorem TabAt.sl {w : World} {N n : Nat} {v : Value} {f : Mx} (h : TabAt w N v n f) (h0 : 0 < n) : ∃ g c, v = .slice (some ⟨g, 0, none⟩) n c := by
  obtain ⟨g, c, e, _⟩ := h.at' h0
  exact ⟨g, c, e⟩
theorem den_op {t : Tr} (ht : Ok t) {k : Nat} (hk : k < t.ns.length) {n : Nd} (hn : nd t.ns k = n) : den t.ns t.sets k = denN t.sets (den t.ns t.sets) n := by
  rw [← hn]; exact den_eq (ht.node k hk)
theorem wrap_in {x : Int} (h : -9223372036854775808 ≤ x ∧ x ≤ 9223372036854775807) : IntKind.i64.wrap x = x := by
  rw [IntKind.wrap_i64]; omega
theorem wrap_succ {q : Nat} (h : q < 100000) : IntKind.i64.wrap ((q : Int) + 1) = (q : Int) + 1 := wrap_in (by omega)
set_option maxRecDepth 100000 in
set_option maxHeartbeats 16000000 in
theorem spans_any (ht : Ok t) (hT : TreeAt w v t) (hN : t.ns.length ≤ 4096) (hI : IntsAt w vl l) (hl : l.length ≤ 10000) :
    Calls Tryz.prog 13 #[v, vl] w fun e w' => ∃ x, e = .returned x ∧ TabAt w' 0 x (l.length + 1) (mat (den t.ns t.sets t.root.toNat) l) ∧ Below w.heap.size w w' := by
  obtain ⟨j0, hj, hy0, hy1, hy2⟩ := info_parts infoMx
  obtain ⟨ao, cap, so, scap, rfl, hm, hm2, hns, hss⟩ := hT.shape
  obtain ⟨lo', lcap, rfl, hlm, hil⟩ := hI.shape
  have HNS := Lib.hid hns
  have HSS := Lib.hid hss
  have HIL := Lib.hid hil
  have b1 : Below w.heap.size w (w.alloc (.cells #[.slice ao t.ns.length cap, .slice so t.sets.length scap, .int .i64 t.root] 25)) := (Below.refl w.heap.size w).alloc (Nat.le_refl _) _
  have B1 := Lib.hid b1
  have t0 : ∀ X, Below (w.alloc (.cells #[.slice ao t.ns.length cap, .slice so t.sets.length scap, .int .i64 t.root] 25)).heap.size (w.alloc (.cells #[.slice ao t.ns.length cap, .slice so t.sets.length scap, .int .i64 t.root] 25)) X → X.cell? ⟨w.heap.size, 0, none⟩ = some (.slice ao t.ns.length cap) ∧ X.cell? ⟨w.heap.size, 1, none⟩ = some (.slice so t.sets.length scap) ∧ X.cell? ⟨w.heap.size, 2, none⟩ = some (.int .i64 t.root) := fun X hX => ⟨cell_next (by simp) hX, cell_next (by simp) hX, cell_next (by simp) hX⟩
  have T0 := Lib.hid t0
  have hroot := ht.root0
  have hroot1 := ht.root1
  have OK := Lib.hid ht
  have BL := Lib.hid (fun (is : Bool) (X : World) => blank_any l.length is X (by omega))
  clear hT hns hss hil t0 hI ht
  go_enter Tryz.func13, Tryz.ntmps13
  go_upto_region 1 with fail
  clear b1
  generalize w.alloc (.cells #[.slice ao t.ns.length cap, .slice so t.sets.length scap, .int .i64 t.root] 25) = W1 at *
  go_wp2
  go_loopw [5, 6] (fun v i wr => ∃ (k : Nat) (xs : List Value), i = .int .i64 k ∧ k ≤ t.ns.length ∧ AllAt W1 wr v k (den t.ns t.sets) l xs) (fun _ i _ => t.ns.length - (intOf i).toNat)
  case atStart => exact ⟨0, [], rfl, by omega, World.ownsRow_nil _ _ _ _, fun j hj => by omega, Below.refl _ _⟩
  case round =>
    obtain ⟨k, xs, rfl, hk, hall⟩ := hrel
    have HALL := Lib.hid hall
    have hbw := B1.out.trans (hall.below.mono B1.out.size)
    obtain ⟨s0, s1, s2⟩ := T0.out _ hall.below
    have hs0 := cell_lt s0
    generalize wr = w2 at *
    by_cases hlt : k < t.ns.length
    · have n1 : (k : Int) < t.ns.length := by omega
      obtain ⟨ga, rfl, hna⟩ := HNS.out k hlt
      have hnode := OK.out.node k hlt
      generalize hn : nd t.ns k = n at *
      have hden := den_op OK.out hlt hn
      obtain ⟨op, a, b, lo, hi, set⟩ := n
      obtain ⟨q0, q1, q2, q3, q4, q5⟩ := hna
      replace q0 := cell_next q0 hbw
      replace q1 := cell_next q1 hbw
      replace q2 := cell_next q2 hbw
      replace q3 := cell_next q3 hbw
      replace q4 := cell_next q4 hbw
      replace q5 := cell_next q5 hbw
      have hga := cell_lt q0
      have hga1 := cell_lt q1
      dsimp only at q0 q1 q2 q3 q4 q5 hga hga1
      have BN := Lib.hid (fun o => (Below.refl w2.heap.size w2).alloc (Nat.le_refl _) o)
      have NB := Lib.hid (nbox_new w2 ⟨op, a, b, lo, hi, set⟩)
      have hbn := hall.below.size
      clear hall hn
      have hways := nodeB_ways hnode
      rcases hways with ⟨h1, h2⟩ | ⟨h1, h2⟩ | ⟨h1 | h1, h2⟩ | ⟨h1, h2⟩
      · dsimp only at h1 h2
        obtain ⟨rfl, rfl, rfl, rfl, rfl⟩ := h2
        subst h1
        replace hden : den t.ns t.sets k = eps := hden
        go_wp2_with (first
          | (go_at_call 26; ((with_reducible refine (BL.out true _).mono ?_); rintro e w3 ⟨x, rfl, hx, hb3⟩; obtain ⟨gx, cx, rfl⟩ := hx.sl (Nat.succ_pos _)); go_must (have B3 := Lib.hid ((BN.out _).trans (hb3.mono (by simp))); have NB3 := Lib.hid (NB.out.below hb3); have m0 := NB3.out.at'.c0; have m1 := NB3.out.at'.c1; have m2 := NB3.out.at'.c2; have m3 := NB3.out.at'.c3; have m4 := NB3.out.at'.c4; have m5 := NB3.out.at'.c5; have HX := Lib.hid ((hx.congr (eye_one l)).mono (M := 0) (Nat.zero_le _)); clear hx hb3))
          | (at_builtin; refine wpList_append_own _ rfl _ _ 61 rfl W1.heap.size 38 j0 (.slice none 0 0) 1 24 Tryz.underlying61 hj hy0 hy1 hy2 rfl (by decide) _ k xs rfl ((own_next HALL.out.own B3.out).alloc _) ⟨w3.heap.size, 0, none⟩ 1 1 [.slice (some ⟨gx, 0, none⟩) (l.length + 1) cx] rfl rfl (cell_one_new _ _ _) (by simp [Value.oneCell']) (by unfold maxLen; omega) (by omega) (by have := B3.out.size; simp; omega) ?_; intro v' w9 hown' hgrow _; go_must (have ST := Lib.hid (HALL.out.app B3.out (hden ▸ HX.out) hown' hgrow); clear hown' hgrow))
          | fail)
        go_roundw
        case rel => exact ⟨k + 1, _, by go_num, by omega, ST.out⟩
        case measure => simp [intOf]; omega
      · dsimp only at h1 h2
        obtain ⟨rfl, rfl, rfl, rfl, h2a, h2b⟩ := h2
        subst h1
        replace hden : den t.ns t.sets k = one (inB (t.sets.getD set.toNat [])) := hden
        obtain ⟨j, rfl⟩ := Int.eq_ofNat_of_zero_le h2a
        rw [Int.toNat_natCast] at hden
        have hjs : j < t.sets.length := by omega
        obtain ⟨gs, xs', rfl, c1, hrs⟩ := HSS.out j hjs
        have hP : inB (t.sets.getD j []) = inB (nthL t.sets j) := rfl
        rw [hP] at hden
        have HRS := Lib.hid hrs
        clear hrs hP
        go_upto_region 9 with (first
          | (go_at_call 26; ((with_reducible refine (BL.out false _).mono ?_); rintro e w3 ⟨x, rfl, hx, hb3⟩; obtain ⟨gx, cx, rfl⟩ := hx.sl (Nat.succ_pos _)); go_must (have B3 := Lib.hid ((BN.out _).trans (hb3.mono (by simp))); have NB3 := Lib.hid (NB.out.below hb3); have m0 := NB3.out.at'.c0; have m1 := NB3.out.at'.c1; have m2 := NB3.out.at'.c2; have m3 := NB3.out.at'.c3; have m4 := NB3.out.at'.c4; have m5 := NB3.out.at'.c5; have HX := Lib.hid (hx.congr (one_start (inB (nthL t.sets j)) l _)); clear hx hb3))
          | fail)
        have hN1 : (w2.alloc (.cells #[.int .i64 2, .int .i64 0, .int .i64 0, .int .i64 0, .int .i64 0, .int .i64 (j : Nat)] 35)).heap.size = w2.heap.size + 1 := by simp
        have HX1 := Lib.hid (show TabAt w3 (w2.heap.size + 1) _ _ _ from hN1 ▸ HX.out)
        have hs3 : w2.heap.size + 1 ≤ w3.heap.size := (cell_lt m0 : w2.heap.size < w3.heap.size)
        clear hN1 HX m0 m1 m2 m3 m4
        go_wp2
        go_loopw [9] (fun m wr => ∃ q : Nat, m = .int .i64 q ∧ q ≤ l.length ∧ TabAt wr (w2.heap.size + 1) (.slice (some ⟨gx, 0, none⟩) (l.length + 1) cx) (l.length + 1) (oneTo (inB (nthL t.sets j)) l q) ∧ Below (w2.heap.size + 1) w3 wr) (fun m _ => l.length - (intOf m).toNat)
        case atStart => exact ⟨0, rfl, by omega, HX1.out, Below.refl _ _⟩
        case round =>
          clear HX1
          obtain ⟨q, rfl, hq, ht, hbq⟩ := hrel
          have BQ := Lib.hid (B3.out.trans (hbq.mono (by omega)))
          have BW := Lib.hid (hbw.trans (BQ.out.mono hbw.size))
          have BA := Lib.hid (HALL.out.below.trans (BQ.out.mono HALL.out.below.size))
          obtain ⟨y0, y1, y2⟩ := T0.out _ BA.out
          have f5 := (hbq.cell (p := ⟨w2.heap.size, 0 + 5, none⟩) (Nat.lt_succ_self _)).trans m5
          have HT := Lib.hid ht
          by_cases hlq : q < l.length
          · obtain ⟨gl, rfl, i1⟩ := HIL.out q hlq
            replace i1 := cell_next i1 BW.out
            have e1 := cell_next c1 BW.out
            have n2 : (q : Int) < l.length := by omega
            have n3 : (j : Int) < t.sets.length := by omega
            have n4 : (q : Int) + 1 < (l.length : Int) + 1 := by omega
            have n5 : (q : Int) < (l.length : Int) + 1 := by omega
            have n6 : (0 : Int) ≤ (q : Int) + 1 := by omega
            have hwr : IntKind.i64.wrap ((q : Int) + 1) = (q : Int) + 1 := wrap_succ (by omega)
            have htn : ((q : Int) + 1).toNat = q + 1 := by omega
            have hrq : RngsAt wr.drew xs' (nthL t.sets j) := HRS.out.next (BW.out.trans ((drewB wr).mono BW.out.size))
            have CH := Lib.hid (rhas_any (nthL t.sets j) (l.getD q 0) xs' wr.drew hrq)
            obtain ⟨gx', cx', he, hcx, hcx2, _, _, hro⟩ := ht.at' (by omega)
            simp only [Value.slice.injEq, Option.some.injEq, Addr.mk.injEq] at he
            obtain ⟨⟨rfl, _⟩, _, rfl⟩ := he
            obtain ⟨ro, cr, ds, o1, o2, o3, o4, o5⟩ := hro q (by omega)
            obtain ⟨z1, z2, z3⟩ := (ht.next (drewB wr)).set rfl (i := q) (by omega) (show wr.drew.cell? ⟨gx, q, none⟩ = _ from o1) (show wr.drew.heap[ro]? = _ from o4) (m := q + 1) (by omega) (inB (nthL t.sets j) (l.getD q 0))
            rw [one_step] at z2
            have Z2 := Lib.hid z2
            have Z3 := Lib.hid ((hbq.trans ((drewB wr).mono (by have := hbq.size; omega))).trans z3)
            have y9 : wr.drew.cell? ⟨ro, q + 1, none⟩ = some (.bool (oneTo (inB (nthL t.sets j)) l q q (q + 1))) := o5 (q + 1) (by omega)
            generalize inB (nthL t.sets j) (l.getD q 0) = pv at *
            generalize l.getD q 0 = lc at *
            clear ht hbq hro o4 o5 z2 z3 hrq
            have g1 := cell_lt f5
            have g2 := cell_lt y1
            have g3 := cell_lt i1
            have g4 := cell_lt e1
            go_wp2
            refine wp_region_still_tail 18 (by kernel_rfl) (by kernel_rfl) ?_
            simp only [List.take_succ_cons, List.take_zero, List.drop_succ_cons, List.drop_zero]
            iterate 16 (with_reducible refine wpStill_step (fun K hK => ?_); go_simp; with_reducible refine hK _ ?_; clear hK K)
            (with_reducible refine wpStill_step (fun K hK => ?_))
            go_simp
            refine ⟨_, CH.out, hK _ ?_⟩
            clear hK K
            iterate 1 (with_reducible refine wpStill_step (fun K hK => ?_); go_simp; with_reducible refine hK _ ?_; clear hK K)
            with_reducible refine wpStill_nil ?_
            change wpList _ _ _ _ _ wr.drew
            generalize wr.drew = w4 at *
            go_wp2
            go_roundw
            case rel => exact ⟨q + 1, by go_num, by omega, Z2.out, Z3.out⟩
            case measure => simp [intOf]; omega
          · obtain rfl : q = l.length := by omega
            have HY := Lib.hid ((ht.congr (one_end (inB (nthL t.sets j)) l)).mono (M := 0) (Nat.zero_le _))
            clear ht hbq
            go_wp2_with (first
              | (at_builtin; refine wpList_append_own _ rfl _ _ 61 rfl W1.heap.size 38 j0 (.slice none 0 0) 1 24 Tryz.underlying61 hj hy0 hy1 hy2 rfl (by decide) _ k xs rfl ((own_next HALL.out.own BQ.out).alloc _) ⟨wr.heap.size, 0, none⟩ 1 1 [.slice (some ⟨gx, 0, none⟩) (l.length + 1) cx] rfl rfl (cell_one_new _ _ _) (by simp [Value.oneCell']) (by unfold maxLen; omega) (by omega) (by have := BQ.out.size; simp; omega) ?_; intro v' w9 hown' hgrow _; go_must (have ST := Lib.hid (HALL.out.app BQ.out (hden ▸ HY.out) hown' hgrow); clear hown' hgrow))
              | fail)
            go_roundw
            case rel => exact ⟨k + 1, _, by go_num, by omega, ST.out⟩
            case measure => simp [intOf]; omega
      · dsimp only at h1 h2
        obtain ⟨h2a, h2b, h2c, h2d, rfl, rfl, rfl⟩ := h2
        subst h1
        replace hden : den t.ns t.sets k = seq (den t.ns t.sets a.toNat) (den t.ns t.sets b.toNat) := hden
        obtain ⟨i, rfl⟩ := Int.eq_ofNat_of_zero_le h2a
        obtain ⟨j, rfl⟩ := Int.eq_ofNat_of_zero_le h2c
        rw [Int.toNat_natCast, Int.toNat_natCast] at hden
        have hi' : i < k := by omega
        have hj' : j < k := by omega
        obtain ⟨g, c, xa, rfl, c1, hxa⟩ := HALL.out.at' hi'
        obtain ⟨g', c', xb, he, c2, hxb⟩ := HALL.out.at' hj'
        simp only [Value.slice.injEq, Option.some.injEq, Addr.mk.injEq] at he
        obtain ⟨⟨rfl, _⟩, _, rfl⟩ := he
        have HXA := Lib.hid hxa
        have HXB := Lib.hid hxb
        clear hxa hxb
        go_upto_region 14 with (first
          | (go_at_call 26; ((with_reducible refine (BL.out false _).mono ?_); rintro e w3 ⟨x, rfl, hx, hb3⟩; obtain ⟨gx, cx, rfl⟩ := hx.sl (Nat.succ_pos _)); go_must (have B3 := Lib.hid ((BN.out _).trans (hb3.mono (by simp))); have NB3 := Lib.hid (NB.out.below hb3); have m0 := NB3.out.at'.c0; have m1 := NB3.out.at'.c1; have m2 := NB3.out.at'.c2; have m3 := NB3.out.at'.c3; have m4 := NB3.out.at'.c4; have m5 := NB3.out.at'.c5; have HX := Lib.hid (hx); clear hx hb3))
          | fail)
        have d1 := cell_next c1 B3.out
        have d2 := cell_next c2 B3.out
        have hw3 := cell_lt m1
        have n2 : (i : Int) < k := by omega
        have n3 : (j : Int) < k := by omega
        have hk9 : k ≤ 9223372036854775807 := by omega
        have PL := Lib.hid (times_any (l.length + 1) _ _ xa xb w3.drew (by omega) (by omega) (HXA.out.next (B3.out.trans ((drewB w3).mono B3.out.size))) (HXB.out.next (B3.out.trans ((drewB w3).mono B3.out.size))))
        have B4 := Lib.hid (B3.out.trans ((drewB w3).mono B3.out.size))
        clear c1 c2
        refine wp_region_still_tail 10 (by kernel_rfl) (by kernel_rfl) ?_
        simp only [List.take_succ_cons, List.take_zero, List.drop_succ_cons, List.drop_zero]
        iterate 10 (with_reducible refine wpStill_step (fun K hK => ?_); go_simp; with_reducible refine hK _ ?_; clear hK K)
        with_reducible refine wpStill_nil ?_
        change wpList _ _ _ _ _ w3.drew
        clear m0 m1 m2 m3 m4 m5 d1 d2 NB3 HXA HXB
        generalize w3.drew = w4 at *
        go_wp2_with (first
          | (go_at_call 28; ((with_reducible refine PL.out.mono ?_); rintro e w5 ⟨y, rfl, hy, hb5⟩; obtain ⟨gy, cy, rfl⟩ := hy.sl (Nat.succ_pos _)); go_must (have B5 := Lib.hid (B4.out.trans (hb5.mono B4.out.size)); have HY := Lib.hid ((hy.congr (mat_seq)).mono (M := 0) (Nat.zero_le _)); clear hy hb5))
          | (at_builtin; refine wpList_append_own _ rfl _ _ 61 rfl W1.heap.size 38 j0 (.slice none 0 0) 1 24 Tryz.underlying61 hj hy0 hy1 hy2 rfl (by decide) _ k xs rfl ((own_next HALL.out.own B5.out).alloc _) ⟨w5.heap.size, 0, none⟩ 1 1 [.slice (some ⟨gy, 0, none⟩) (l.length + 1) cy] rfl rfl (cell_one_new _ _ _) (by simp [Value.oneCell']) (by unfold maxLen; omega) (by omega) (by have := B5.out.size; simp; omega) ?_; intro v' w9 hown' hgrow _; go_must (have ST := Lib.hid (HALL.out.app B5.out (hden ▸ HY.out) hown' hgrow); clear hown' hgrow))
          | fail)
        go_roundw
        case rel => exact ⟨k + 1, _, by go_num, by omega, ST.out⟩
        case measure => simp [intOf]; omega
      · dsimp only at h1 h2
        obtain ⟨h2a, h2b, h2c, h2d, rfl, rfl, rfl⟩ := h2
        subst h1
        replace hden : den t.ns t.sets k = alt (den t.ns t.sets a.toNat) (den t.ns t.sets b.toNat) := hden
        obtain ⟨i, rfl⟩ := Int.eq_ofNat_of_zero_le h2a
        obtain ⟨j, rfl⟩ := Int.eq_ofNat_of_zero_le h2c
        rw [Int.toNat_natCast, Int.toNat_natCast] at hden
        have hi' : i < k := by omega
        have hj' : j < k := by omega
        obtain ⟨g, c, xa, rfl, c1, hxa⟩ := HALL.out.at' hi'
        obtain ⟨g', c', xb, he, c2, hxb⟩ := HALL.out.at' hj'
        simp only [Value.slice.injEq, Option.some.injEq, Addr.mk.injEq] at he
        obtain ⟨⟨rfl, _⟩, _, rfl⟩ := he
        have HXA := Lib.hid hxa
        have HXB := Lib.hid hxb
        clear hxa hxb
        go_upto_region 16 with (first
          | (go_at_call 26; ((with_reducible refine (BL.out false _).mono ?_); rintro e w3 ⟨x, rfl, hx, hb3⟩; obtain ⟨gx, cx, rfl⟩ := hx.sl (Nat.succ_pos _)); go_must (have B3 := Lib.hid ((BN.out _).trans (hb3.mono (by simp))); have NB3 := Lib.hid (NB.out.below hb3); have m0 := NB3.out.at'.c0; have m1 := NB3.out.at'.c1; have m2 := NB3.out.at'.c2; have m3 := NB3.out.at'.c3; have m4 := NB3.out.at'.c4; have m5 := NB3.out.at'.c5; have HX := Lib.hid (hx); clear hx hb3))
          | fail)
        have d1 := cell_next c1 B3.out
        have d2 := cell_next c2 B3.out
        have hw3 := cell_lt m1
        have n2 : (i : Int) < k := by omega
        have n3 : (j : Int) < k := by omega
        have hk9 : k ≤ 9223372036854775807 := by omega
        have PL := Lib.hid (plus_any (l.length + 1) _ _ xa xb w3.drew (by omega) (by omega) (HXA.out.next (B3.out.trans ((drewB w3).mono B3.out.size))) (HXB.out.next (B3.out.trans ((drewB w3).mono B3.out.size))))
        have B4 := Lib.hid (B3.out.trans ((drewB w3).mono B3.out.size))
        clear c1 c2
        refine wp_region_still_tail 10 (by kernel_rfl) (by kernel_rfl) ?_
        simp only [List.take_succ_cons, List.take_zero, List.drop_succ_cons, List.drop_zero]
        iterate 10 (with_reducible refine wpStill_step (fun K hK => ?_); go_simp; with_reducible refine hK _ ?_; clear hK K)
        with_reducible refine wpStill_nil ?_
        change wpList _ _ _ _ _ w3.drew
        clear m0 m1 m2 m3 m4 m5 d1 d2 NB3 HXA HXB
        generalize w3.drew = w4 at *
        go_wp2_with (first
          | (go_at_call 29; ((with_reducible refine PL.out.mono ?_); rintro e w5 ⟨y, rfl, hy, hb5⟩; obtain ⟨gy, cy, rfl⟩ := hy.sl (Nat.succ_pos _)); go_must (have B5 := Lib.hid (B4.out.trans (hb5.mono B4.out.size)); have HY := Lib.hid ((hy.congr (mat_alt)).mono (M := 0) (Nat.zero_le _)); clear hy hb5))
          | (at_builtin; refine wpList_append_own _ rfl _ _ 61 rfl W1.heap.size 38 j0 (.slice none 0 0) 1 24 Tryz.underlying61 hj hy0 hy1 hy2 rfl (by decide) _ k xs rfl ((own_next HALL.out.own B5.out).alloc _) ⟨w5.heap.size, 0, none⟩ 1 1 [.slice (some ⟨gy, 0, none⟩) (l.length + 1) cy] rfl rfl (cell_one_new _ _ _) (by simp [Value.oneCell']) (by unfold maxLen; omega) (by omega) (by have := B5.out.size; simp; omega) ?_; intro v' w9 hown' hgrow _; go_must (have ST := Lib.hid (HALL.out.app B5.out (hden ▸ HY.out) hown' hgrow); clear hown' hgrow))
          | fail)
        go_roundw
        case rel => exact ⟨k + 1, _, by go_num, by omega, ST.out⟩
        case measure => simp [intOf]; omega
      · have htm := times_iff.1 (node_times hnode h1)
        dsimp only at h1 h2 htm
        obtain ⟨h2a, h2b, rfl, rfl⟩ := h2
        subst h1
        replace hden : den t.ns t.sets k = rep (den t.ns t.sets a.toNat) lo hi := hden
        obtain ⟨i, rfl⟩ := Int.eq_ofNat_of_zero_le h2a
        rw [Int.toNat_natCast] at hden
        have hi' : i < k := by omega
        obtain ⟨g, c, xa, rfl, c1, hxa⟩ := HALL.out.at' hi'
        have HXA := Lib.hid hxa
        clear hxa
        go_upto_region 18 with (first
          | (go_at_call 26; ((with_reducible refine (BL.out false _).mono ?_); rintro e w3 ⟨x, rfl, hx, hb3⟩; obtain ⟨gx, cx, rfl⟩ := hx.sl (Nat.succ_pos _)); go_must (have B3 := Lib.hid ((BN.out _).trans (hb3.mono (by simp))); have NB3 := Lib.hid (NB.out.below hb3); have m0 := NB3.out.at'.c0; have m1 := NB3.out.at'.c1; have m2 := NB3.out.at'.c2; have m3 := NB3.out.at'.c3; have m4 := NB3.out.at'.c4; have m5 := NB3.out.at'.c5; have HX := Lib.hid (hx); clear hx hb3))
          | fail)
        have d1 := cell_next c1 B3.out
        have hw3 := cell_lt m1
        have n2 : (i : Int) < k := by omega
        have hk9 : k ≤ 9223372036854775807 := by omega
        have PL := Lib.hid (rrep_any l (den t.ns t.sets i) lo hi xa w3.drew hl (by omega) (by omega) (by omega) (by omega) (HXA.out.next (B3.out.trans ((drewB w3).mono B3.out.size))))
        have B4 := Lib.hid (B3.out.trans ((drewB w3).mono B3.out.size))
        clear c1 htm
        refine wp_region_still_tail 9 (by kernel_rfl) (by kernel_rfl) ?_
        simp only [List.take_succ_cons, List.take_zero, List.drop_succ_cons, List.drop_zero]
        iterate 9 (with_reducible refine wpStill_step (fun K hK => ?_); go_simp; with_reducible refine hK _ ?_; clear hK K)
        with_reducible refine wpStill_nil ?_
        change wpList _ _ _ _ _ w3.drew
        clear m0 m1 m2 m3 m4 m5 d1 NB3 HXA
        generalize w3.drew = w4 at *
        go_wp2_with (first
          | (go_at_call 30; ((with_reducible refine PL.out.mono ?_); rintro e w5 ⟨y, rfl, hy, hb5⟩; obtain ⟨gy, cy, rfl⟩ := hy.sl (Nat.succ_pos _)); go_must (have B5 := Lib.hid (B4.out.trans (hb5.mono B4.out.size)); have HY := Lib.hid (hy.mono (M := 0) (Nat.zero_le _)); clear hy hb5))
          | (at_builtin; refine wpList_append_own _ rfl _ _ 61 rfl W1.heap.size 38 j0 (.slice none 0 0) 1 24 Tryz.underlying61 hj hy0 hy1 hy2 rfl (by decide) _ k xs rfl ((own_next HALL.out.own B5.out).alloc _) ⟨w5.heap.size, 0, none⟩ 1 1 [.slice (some ⟨gy, 0, none⟩) (l.length + 1) cy] rfl rfl (cell_one_new _ _ _) (by simp [Value.oneCell']) (by unfold maxLen; omega) (by omega) (by have := B5.out.size; simp; omega) ?_; intro v' w9 hown' hgrow _; go_must (have ST := Lib.hid (HALL.out.app B5.out (hden ▸ HY.out) hown' hgrow); clear hown' hgrow))
          | fail)
        go_roundw
        case rel => exact ⟨k + 1, _, by go_num, by omega, ST.out⟩
        case measure => simp [intOf]; omega
    · obtain rfl : k = t.ns.length := by omega
      obtain ⟨r, hr⟩ := Int.eq_ofNat_of_zero_le hroot
      rw [hr] at s2 hroot1
      have hrl : r < t.ns.length := by omega
      obtain ⟨g, c, x, rfl, c1, hx⟩ := HALL.out.at' hrl
      have hx1 := cell_lt c1
      have HX := Lib.hid hx
      have HX0 := Lib.hid hx
      have n1 : (r : Int) < t.ns.length := by omega
      have e1 : t.root.toNat = r := by rw [hr]; rfl
      rw [← e1] at HX
      have HE := Lib.hid HX.out
      clear hx hall
      go_wp2
      go_ret
      exact ⟨x, rfl, by first | exact HE.out | exact HX0.out, hbw⟩
end
end Go.Proofs.YtjmdlioakkibcaaGreatDoor.Dv

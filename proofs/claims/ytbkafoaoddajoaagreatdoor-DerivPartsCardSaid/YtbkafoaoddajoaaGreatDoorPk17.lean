/- From where to where each node of a tree has what stands between: the document's Spans. From where to where each node of a tree has what stands between: the document's Spans walked. The document's All, Valid, Join; whether numbers are the same. The document's Row and Has. The example of the laws of regprint and of deriv: its tree, in plain words and in memory. What a tree tells by its parts, in numbers; trees that are near. The document's Far. -/
import Derived.Test.YtbkafoaoddajoaaGreatDoorPk16
import Derived.Test.YtbkafoaoddajoaaGreatDoorPk08
import Derived.Test.YtbkafoaoddajoaaGreatDoorPk01
import Derived.Deep.DeepCutAuto
import Derived.Test.YtbkafoaoddajoaaGreatDoorPk14
import Derived.Test.YtbkafoaoddajoaaGreatDoorPk03
import Derived.Laws.ResultCell
import Derived.Deep.DeepMust

namespace Go.Proofs.YtbkafoaoddajoaaGreatDoor.Dv
open Go Go.RowKit Go.Shelf
open Go.Proofs.YtbkafoaoddajoaaGreatDoor.Ar (timesB Nd nd nodeB nodeB_ways NodeAt node_new Tr Ok TreeAt aggN)
open Go.Proofs.YtbkafoaoddajoaaGreatDoor.Rg (R RngsAt RowsAt nthL add_zero own_next inB rhas_any)

theorem infoMx : (Tryz.prog.info? 38).map (fun i => (i.zero, i.size, i.bytes)) = some (some (.slice none 0 0), 1, 24) := by kernel_rfl
def oneTo (P : Int → Bool) (l : List Int) (k : Nat) : Mx := fun i m => decide (m = i + 1 ∧ i < k) && P (l.getD i 0)
theorem one_start (P : Int → Bool) (l : List Int) (n : Nat) : Eqm n (fun i m => eyeV false i m) (oneTo P l 0) := fun i m _ _ => by simp [eyeV, oneTo]
theorem one_step (P : Int → Bool) (l : List Int) (k : Nat) : upd (oneTo P l k) k (k + 1) (P (l.getD k 0)) = oneTo P l (k + 1) := by
  funext i m
  unfold upd oneTo
  by_cases h : i = k ∧ m = k + 1
  · obtain ⟨rfl, rfl⟩ := h
    rw [if_pos ⟨rfl, rfl⟩]
    simp
  · rw [if_neg h]
    congr 1
    rw [decide_eq_decide]
    omega
theorem one_end (P : Int → Bool) (l : List Int) : Eqm (l.length + 1) (oneTo P l l.length) (mat (one P) l) := Eqm.trans (fun i m hi hm => by
  unfold oneTo
  congr 1
  rw [decide_eq_decide]
  omega) (mat_one P l)
theorem eye_one (l : List Int) : Eqm (l.length + 1) (fun i m => eyeV true i m) (mat eps l) := Eqm.trans (fun i m _ _ => by simp [eyeV]) (mat_eps l)
section
variable {w w' : World} {N n : Nat} {f : Mx} {v : Value}
theorem TabAt.grown {o : Option Nat} (h : TabAt w N v n f) (hg : w.grownBy w' o) (ho : ∀ g, o = some g → ∃ cs t, w.heap[g]? = some (.cells cs t (0, 0)) ∧ t ≠ 4 ∧ t ≠ 40) : TabAt w' N v n f := by
  obtain ⟨xs, h1, h2⟩ := h
  refine ⟨xs, ⟨h1.1, ?_⟩, h2.keep fun k ds _ hk => hg.block k (Array.getElem?_eq_some_iff.1 hk).1 fun e => ?_⟩
  · rcases h1.2 with h | ⟨g, cap, cur, a, b, c, d⟩
    · exact .inl h
    · refine .inr ⟨g, cap, cur, a, b, ?_, d⟩
      rw [hg.block g (Array.getElem?_eq_some_iff.1 c).1 (fun e => ?_)]
      · exact c
      · obtain ⟨cs, t, hh, _, ht⟩ := ho g e.symm
        rw [c] at hh
        simp only [Option.some.injEq, Obj.cells.injEq] at hh
        exact ht hh.2.1.symm
  · obtain ⟨cs, t, hh, ht, _⟩ := ho k e.symm
    rw [hk] at hh
    simp only [Option.some.injEq, Obj.cells.injEq] at hh
    exact ht hh.2.1.symm
end
/-- all tables so far -/
structure AllAt (w0 w : World) (v : Value) (k : Nat) (D : Nat → L) (l : List Int) (xs : List Value) : Prop where
  own : w.ownsRow w0.heap.size 38 1 v k xs
  tab : ∀ j, j < k → ∃ x, xs[j]? = some x ∧ TabAt w 0 x (l.length + 1) (mat (D j) l)
  below : Below w0.heap.size w0 w
section
variable {w0 w w' : World} {v v' : Value} {k : Nat} {D : Nat → L} {l : List Int} {xs : List Value}
theorem AllAt.next (h : AllAt w0 w v k D l xs) (hb : Below w.heap.size w w') : AllAt w0 w' v k D l xs :=
  ⟨own_next h.own hb, fun j hj => by
    obtain ⟨x, h1, h2⟩ := h.tab j hj
    exact ⟨x, h1, h2.next hb⟩, h.below.trans (hb.mono h.below.size)⟩
theorem AllAt.at' (h : AllAt w0 w v k D l xs) {j : Nat} (hj : j < k) : ∃ g cap x, v = .slice (some ⟨g, 0, none⟩) k cap ∧ w.cell? ⟨g, j, none⟩ = some x ∧ TabAt w 0 x (l.length + 1) (mat (D j) l) := by
  obtain ⟨x, h1, h2⟩ := h.tab j hj
  obtain ⟨g, cap, rfl, _, _⟩ := h.own.form (by omega)
  have hl := h.own.1
  exact ⟨g, cap, x, rfl, by rw [h.own.cellAt j (by omega), h1], h2⟩
/-- a table more -/
theorem AllAt.app (h : AllAt w0 w v k D l xs) {x : Value} {W : World} (hb : Below w.heap.size w W) (hx : TabAt W 0 x (l.length + 1) (mat (D k) l)) {o : Obj} (hown : w'.ownsRow w0.heap.size 38 1 v' (k + 1) (xs ++ [x])) (hg : (W.alloc o).grownBy w' v.ownBlock) : AllAt w0 w' v' (k + 1) D l (xs ++ [x]) := by
  have h1 := h.next hb
  have bA := (Below.refl W.heap.size W).alloc (Nat.le_refl _) o
  have h2 := h1.next bA
  have hl := h.own.1
  have hgo : ∀ g, v.ownBlock = some g → ∃ cs t, (W.alloc o).heap[g]? = some (.cells cs t (0, 0)) ∧ t ≠ 4 ∧ t ≠ 40 := fun g e => by
    obtain ⟨_, cs, hh⟩ := row_of h2.own e
    exact ⟨cs, _, hh, by decide, by decide⟩
  refine ⟨hown, fun j hj => ?_, h2.below.grown hg h2.below.size (fun q hq => (h2.own.lt q hq).1)⟩
  rcases Nat.lt_or_ge j k with hjk | hjk
  · obtain ⟨y, y1, y2⟩ := h2.tab j hjk
    exact ⟨y, by rw [List.getElem?_append_left (by omega)]; exact y1, y2.grown hg hgo⟩
  · obtain rfl : j = k := by omega
    exact ⟨x, by rw [List.getElem?_append_right (by omega), show j - xs.length = 0 by omega]; rfl, (hx.next bA).grown hg hgo⟩
end
end Go.Proofs.YtbkafoaoddajoaaGreatDoor.Dv

namespace Go.Proofs.YtbkafoaoddajoaaGreatDoor.Dv
open Go Go.RowKit Go.Shelf
open Go.Proofs.YtbkafoaoddajoaaGreatDoor.Ar (timesB Nd nd nodeB nodeB_ways NodeAt node_new Tr Ok TreeAt aggN)
open Go.Proofs.YtbkafoaoddajoaaGreatDoor.Rg (R RngsAt RowsAt nthL add_zero own_next inB rhas_any)
section
variable {w : World} {t : Tr} {v vl : Value} {l : List Int}
theorem TabAt.sl {w : World} {N n : Nat} {v : Value} {f : Mx} (h : TabAt w N v n f) (h0 : 0 < n) : ∃ g c, v = .slice (some ⟨g, 0, none⟩) n c := by
  obtain ⟨g, c, e, _⟩ := h.at' h0
  exact ⟨g, c, e⟩
theorem den_op {t : Tr} (ht : Ok t) {k : Nat} (hk : k < t.ns.length) {n : Nd} (hn : nd t.ns k = n) : den t.ns t.sets k = denN t.sets (den t.ns t.sets) n := by
  rw [← hn]; exact den_eq (ht.node k hk)
theorem wrap_in {x : Int} (h : -9223372036854775808 ≤ x ∧ x ≤ 9223372036854775807) : IntKind.i64.wrap x = x := by
  rw [IntKind.wrap_i64]; omega
theorem wrap_succ {q : Nat} (h : q < 100000) : IntKind.i64.wrap ((q : Int) + 1) = (q : Int) + 1 := wrap_in (by omega)
set_option maxRecDepth 100000 in
set_option maxHeartbeats 16000000 in
theorem spans_any (ht : Ok t) (hT : TreeAt w v t) (hN : t.ns.length ≤ 4096) (hI : IntsAt w vl l) (hl : l.length ≤ 10000) :
    Calls Tryz.prog 13 #[v, vl] w fun e w' => ∃ x, e = .returned x ∧ TabAt w' 0 x (l.length + 1) (mat (den t.ns t.sets t.root.toNat) l) ∧ Below w.heap.size w w' := by
  obtain ⟨j0, hj, hy0, hy1, hy2⟩ := info_parts infoMx
  obtain ⟨ao, cap, so, scap, rfl, hm, hm2, hns, hss⟩ := hT.shape
  obtain ⟨lo', lcap, rfl, hlm, hil⟩ := hI.shape
  have HNS := Lib.hid hns
  have HSS := Lib.hid hss
  have HIL := Lib.hid hil
  have b1 : Below w.heap.size w (w.alloc (.cells #[.slice ao t.ns.length cap, .slice so t.sets.length scap, .int .i64 t.root] 25)) := (Below.refl w.heap.size w).alloc (Nat.le_refl _) _
  have B1 := Lib.hid b1
  have t0 : ∀ X, Below (w.alloc (.cells #[.slice ao t.ns.length cap, .slice so t.sets.length scap, .int .i64 t.root] 25)).heap.size (w.alloc (.cells #[.slice ao t.ns.length cap, .slice so t.sets.length scap, .int .i64 t.root] 25)) X → X.cell? ⟨w.heap.size, 0, none⟩ = some (.slice ao t.ns.length cap) ∧ X.cell? ⟨w.heap.size, 1, none⟩ = some (.slice so t.sets.length scap) ∧ X.cell? ⟨w.heap.size, 2, none⟩ = some (.int .i64 t.root) := fun X hX => ⟨cell_next (by simp) hX, cell_next (by simp) hX, cell_next (by simp) hX⟩
  have T0 := Lib.hid t0
  have hroot := ht.root0
  have hroot1 := ht.root1
  have OK := Lib.hid ht
  have BL := Lib.hid (fun (is : Bool) (X : World) => blank_any l.length is X (by omega))
  clear hT hns hss hil t0 hI ht
  go_enter Tryz.func13, Tryz.ntmps13
  go_upto_region 1 with fail
  clear b1
  generalize w.alloc (.cells #[.slice ao t.ns.length cap, .slice so t.sets.length scap, .int .i64 t.root] 25) = W1 at *
  go_wp2
  go_loopw [5, 6] (fun v i wr => ∃ (k : Nat) (xs : List Value), i = .int .i64 k ∧ k ≤ t.ns.length ∧ AllAt W1 wr v k (den t.ns t.sets) l xs) (fun _ i _ => t.ns.length - (intOf i).toNat)
  case atStart => exact ⟨0, [], rfl, by omega, World.ownsRow_nil _ _ _ _, fun j hj => by omega, Below.refl _ _⟩
  case round =>
    obtain ⟨k, xs, rfl, hk, hall⟩ := hrel
    have HALL := Lib.hid hall
    have hbw := B1.out.trans (hall.below.mono B1.out.size)
    obtain ⟨s0, s1, s2⟩ := T0.out _ hall.below
    have hs0 := cell_lt s0
    generalize wr = w2 at *
    by_cases hlt : k < t.ns.length
    · have n1 : (k : Int) < t.ns.length := by omega
      obtain ⟨ga, rfl, hna⟩ := HNS.out k hlt
      have hnode := OK.out.node k hlt
      generalize hn : nd t.ns k = n at *
      have hden := den_op OK.out hlt hn
      obtain ⟨op, a, b, lo, hi, set⟩ := n
      obtain ⟨q0, q1, q2, q3, q4, q5⟩ := hna
      replace q0 := cell_next q0 hbw
      replace q1 := cell_next q1 hbw
      replace q2 := cell_next q2 hbw
      replace q3 := cell_next q3 hbw
      replace q4 := cell_next q4 hbw
      replace q5 := cell_next q5 hbw
      have hga := cell_lt q0
      have hga1 := cell_lt q1
      dsimp only at q0 q1 q2 q3 q4 q5 hga hga1
      have BN := Lib.hid (fun o => (Below.refl w2.heap.size w2).alloc (Nat.le_refl _) o)
      have NB := Lib.hid (nbox_new w2 ⟨op, a, b, lo, hi, set⟩)
      have hbn := hall.below.size
      clear hall hn
      have hways := nodeB_ways hnode
      rcases hways with ⟨h1, h2⟩ | ⟨h1, h2⟩ | ⟨h1 | h1, h2⟩ | ⟨h1, h2⟩
      · dsimp only at h1 h2
        obtain ⟨rfl, rfl, rfl, rfl, rfl⟩ := h2
        subst h1
        replace hden : den t.ns t.sets k = eps := hden
        go_wp2_with (first
          | (go_at_call 26; ((with_reducible refine (BL.out true _).mono ?_); rintro e w3 ⟨x, rfl, hx, hb3⟩; obtain ⟨gx, cx, rfl⟩ := hx.sl (Nat.succ_pos _)); go_must (have B3 := Lib.hid ((BN.out _).trans (hb3.mono (by simp))); have NB3 := Lib.hid (NB.out.below hb3); have m0 := NB3.out.at'.c0; have m1 := NB3.out.at'.c1; have m2 := NB3.out.at'.c2; have m3 := NB3.out.at'.c3; have m4 := NB3.out.at'.c4; have m5 := NB3.out.at'.c5; have HX := Lib.hid ((hx.congr (eye_one l)).mono (M := 0) (Nat.zero_le _)); clear hx hb3))
          | (at_builtin; refine wpList_append_own _ rfl _ _ 61 rfl W1.heap.size 38 j0 (.slice none 0 0) 1 24 Tryz.underlying61 hj hy0 hy1 hy2 rfl (by decide) _ k xs rfl ((own_next HALL.out.own B3.out).alloc _) ⟨w3.heap.size, 0, none⟩ 1 1 [.slice (some ⟨gx, 0, none⟩) (l.length + 1) cx] rfl rfl (cell_one_new _ _ _) (by simp [Value.oneCell']) (by unfold maxLen; omega) (by omega) (by have := B3.out.size; simp; omega) ?_; intro v' w9 hown' hgrow _; go_must (have ST := Lib.hid (HALL.out.app B3.out (hden ▸ HX.out) hown' hgrow); clear hown' hgrow))
          | fail)
        go_roundw
        case rel => exact ⟨k + 1, _, by go_num, by omega, ST.out⟩
        case measure => simp [intOf]; omega
      · dsimp only at h1 h2
        obtain ⟨rfl, rfl, rfl, rfl, h2a, h2b⟩ := h2
        subst h1
        replace hden : den t.ns t.sets k = one (inB (t.sets.getD set.toNat [])) := hden
        obtain ⟨j, rfl⟩ := Int.eq_ofNat_of_zero_le h2a
        rw [Int.toNat_natCast] at hden
        have hjs : j < t.sets.length := by omega
        obtain ⟨gs, xs', rfl, c1, hrs⟩ := HSS.out j hjs
        have hP : inB (t.sets.getD j []) = inB (nthL t.sets j) := rfl
        rw [hP] at hden
        have HRS := Lib.hid hrs
        clear hrs hP
        go_upto_region 9 with (first
          | (go_at_call 26; ((with_reducible refine (BL.out false _).mono ?_); rintro e w3 ⟨x, rfl, hx, hb3⟩; obtain ⟨gx, cx, rfl⟩ := hx.sl (Nat.succ_pos _)); go_must (have B3 := Lib.hid ((BN.out _).trans (hb3.mono (by simp))); have NB3 := Lib.hid (NB.out.below hb3); have m0 := NB3.out.at'.c0; have m1 := NB3.out.at'.c1; have m2 := NB3.out.at'.c2; have m3 := NB3.out.at'.c3; have m4 := NB3.out.at'.c4; have m5 := NB3.out.at'.c5; have HX := Lib.hid (hx.congr (one_start (inB (nthL t.sets j)) l _)); clear hx hb3))
          | fail)
        have hN1 : (w2.alloc (.cells #[.int .i64 2, .int .i64 0, .int .i64 0, .int .i64 0, .int .i64 0, .int .i64 (j : Nat)] 35)).heap.size = w2.heap.size + 1 := by simp
        have HX1 := Lib.hid (show TabAt w3 (w2.heap.size + 1) _ _ _ from hN1 ▸ HX.out)
        have hs3 : w2.heap.size + 1 ≤ w3.heap.size := (cell_lt m0 : w2.heap.size < w3.heap.size)
        clear hN1 HX m0 m1 m2 m3 m4
        go_wp2
        go_loopw [9] (fun m wr => ∃ q : Nat, m = .int .i64 q ∧ q ≤ l.length ∧ TabAt wr (w2.heap.size + 1) (.slice (some ⟨gx, 0, none⟩) (l.length + 1) cx) (l.length + 1) (oneTo (inB (nthL t.sets j)) l q) ∧ Below (w2.heap.size + 1) w3 wr) (fun m _ => l.length - (intOf m).toNat)
        case atStart => exact ⟨0, rfl, by omega, HX1.out, Below.refl _ _⟩
        case round =>
          clear HX1
          obtain ⟨q, rfl, hq, ht, hbq⟩ := hrel
          have BQ := Lib.hid (B3.out.trans (hbq.mono (by omega)))
          have BW := Lib.hid (hbw.trans (BQ.out.mono hbw.size))
          have BA := Lib.hid (HALL.out.below.trans (BQ.out.mono HALL.out.below.size))
          obtain ⟨y0, y1, y2⟩ := T0.out _ BA.out
          have f5 := (hbq.cell (p := ⟨w2.heap.size, 0 + 5, none⟩) (Nat.lt_succ_self _)).trans m5
          have HT := Lib.hid ht
          by_cases hlq : q < l.length
          · obtain ⟨gl, rfl, i1⟩ := HIL.out q hlq
            replace i1 := cell_next i1 BW.out
            have e1 := cell_next c1 BW.out
            have n2 : (q : Int) < l.length := by omega
            have n3 : (j : Int) < t.sets.length := by omega
            have n4 : (q : Int) + 1 < (l.length : Int) + 1 := by omega
            have n5 : (q : Int) < (l.length : Int) + 1 := by omega
            have n6 : (0 : Int) ≤ (q : Int) + 1 := by omega
            have hwr : IntKind.i64.wrap ((q : Int) + 1) = (q : Int) + 1 := wrap_succ (by omega)
            have htn : ((q : Int) + 1).toNat = q + 1 := by omega
            have hrq : RngsAt wr.drew xs' (nthL t.sets j) := HRS.out.next (BW.out.trans ((drewB wr).mono BW.out.size))
            have CH := Lib.hid (rhas_any (nthL t.sets j) (l.getD q 0) xs' wr.drew hrq)
            obtain ⟨gx', cx', he, hcx, hcx2, _, _, hro⟩ := ht.at' (by omega)
            simp only [Value.slice.injEq, Option.some.injEq, Addr.mk.injEq] at he
            obtain ⟨⟨rfl, _⟩, _, rfl⟩ := he
            obtain ⟨ro, cr, ds, o1, o2, o3, o4, o5⟩ := hro q (by omega)
            obtain ⟨z1, z2, z3⟩ := (ht.next (drewB wr)).set rfl (i := q) (by omega) (show wr.drew.cell? ⟨gx, q, none⟩ = _ from o1) (show wr.drew.heap[ro]? = _ from o4) (m := q + 1) (by omega) (inB (nthL t.sets j) (l.getD q 0))
            rw [one_step] at z2
            have Z2 := Lib.hid z2
            have Z3 := Lib.hid ((hbq.trans ((drewB wr).mono (by have := hbq.size; omega))).trans z3)
            have y9 : wr.drew.cell? ⟨ro, q + 1, none⟩ = some (.bool (oneTo (inB (nthL t.sets j)) l q q (q + 1))) := o5 (q + 1) (by omega)
            generalize inB (nthL t.sets j) (l.getD q 0) = pv at *
            generalize l.getD q 0 = lc at *
            clear ht hbq hro o4 o5 z2 z3 hrq
            have g1 := cell_lt f5
            have g2 := cell_lt y1
            have g3 := cell_lt i1
            have g4 := cell_lt e1
            go_wp2
            refine wp_region_still_tail 18 (by kernel_rfl) (by kernel_rfl) ?_
            simp only [List.take_succ_cons, List.take_zero, List.drop_succ_cons, List.drop_zero]
            iterate 16 (with_reducible refine wpStill_step (fun K hK => ?_); go_simp; with_reducible refine hK _ ?_; clear hK K)
            (with_reducible refine wpStill_step (fun K hK => ?_))
            go_simp
            refine ⟨_, CH.out, hK _ ?_⟩
            clear hK K
            iterate 1 (with_reducible refine wpStill_step (fun K hK => ?_); go_simp; with_reducible refine hK _ ?_; clear hK K)
            with_reducible refine wpStill_nil ?_
            change wpList _ _ _ _ _ wr.drew
            generalize wr.drew = w4 at *
            go_wp2
            go_roundw
            case rel => exact ⟨q + 1, by go_num, by omega, Z2.out, Z3.out⟩
            case measure => simp [intOf]; omega
          · obtain rfl : q = l.length := by omega
            have HY := Lib.hid ((ht.congr (one_end (inB (nthL t.sets j)) l)).mono (M := 0) (Nat.zero_le _))
            clear ht hbq
            go_wp2_with (first
              | (at_builtin; refine wpList_append_own _ rfl _ _ 61 rfl W1.heap.size 38 j0 (.slice none 0 0) 1 24 Tryz.underlying61 hj hy0 hy1 hy2 rfl (by decide) _ k xs rfl ((own_next HALL.out.own BQ.out).alloc _) ⟨wr.heap.size, 0, none⟩ 1 1 [.slice (some ⟨gx, 0, none⟩) (l.length + 1) cx] rfl rfl (cell_one_new _ _ _) (by simp [Value.oneCell']) (by unfold maxLen; omega) (by omega) (by have := BQ.out.size; simp; omega) ?_; intro v' w9 hown' hgrow _; go_must (have ST := Lib.hid (HALL.out.app BQ.out (hden ▸ HY.out) hown' hgrow); clear hown' hgrow))
              | fail)
            go_roundw
            case rel => exact ⟨k + 1, _, by go_num, by omega, ST.out⟩
            case measure => simp [intOf]; omega
      · dsimp only at h1 h2
        obtain ⟨h2a, h2b, h2c, h2d, rfl, rfl, rfl⟩ := h2
        subst h1
        replace hden : den t.ns t.sets k = seq (den t.ns t.sets a.toNat) (den t.ns t.sets b.toNat) := hden
        obtain ⟨i, rfl⟩ := Int.eq_ofNat_of_zero_le h2a
        obtain ⟨j, rfl⟩ := Int.eq_ofNat_of_zero_le h2c
        rw [Int.toNat_natCast, Int.toNat_natCast] at hden
        have hi' : i < k := by omega
        have hj' : j < k := by omega
        obtain ⟨g, c, xa, rfl, c1, hxa⟩ := HALL.out.at' hi'
        obtain ⟨g', c', xb, he, c2, hxb⟩ := HALL.out.at' hj'
        simp only [Value.slice.injEq, Option.some.injEq, Addr.mk.injEq] at he
        obtain ⟨⟨rfl, _⟩, _, rfl⟩ := he
        have HXA := Lib.hid hxa
        have HXB := Lib.hid hxb
        clear hxa hxb
        go_upto_region 14 with (first
          | (go_at_call 26; ((with_reducible refine (BL.out false _).mono ?_); rintro e w3 ⟨x, rfl, hx, hb3⟩; obtain ⟨gx, cx, rfl⟩ := hx.sl (Nat.succ_pos _)); go_must (have B3 := Lib.hid ((BN.out _).trans (hb3.mono (by simp))); have NB3 := Lib.hid (NB.out.below hb3); have m0 := NB3.out.at'.c0; have m1 := NB3.out.at'.c1; have m2 := NB3.out.at'.c2; have m3 := NB3.out.at'.c3; have m4 := NB3.out.at'.c4; have m5 := NB3.out.at'.c5; have HX := Lib.hid (hx); clear hx hb3))
          | fail)
        have d1 := cell_next c1 B3.out
        have d2 := cell_next c2 B3.out
        have hw3 := cell_lt m1
        have n2 : (i : Int) < k := by omega
        have n3 : (j : Int) < k := by omega
        have hk9 : k ≤ 9223372036854775807 := by omega
        have PL := Lib.hid (times_any (l.length + 1) _ _ xa xb w3.drew (by omega) (by omega) (HXA.out.next (B3.out.trans ((drewB w3).mono B3.out.size))) (HXB.out.next (B3.out.trans ((drewB w3).mono B3.out.size))))
        have B4 := Lib.hid (B3.out.trans ((drewB w3).mono B3.out.size))
        clear c1 c2
        refine wp_region_still_tail 10 (by kernel_rfl) (by kernel_rfl) ?_
        simp only [List.take_succ_cons, List.take_zero, List.drop_succ_cons, List.drop_zero]
        iterate 10 (with_reducible refine wpStill_step (fun K hK => ?_); go_simp; with_reducible refine hK _ ?_; clear hK K)
        with_reducible refine wpStill_nil ?_
        change wpList _ _ _ _ _ w3.drew
        clear m0 m1 m2 m3 m4 m5 d1 d2 NB3 HXA HXB
        generalize w3.drew = w4 at *
        go_wp2_with (first
          | (go_at_call 28; ((with_reducible refine PL.out.mono ?_); rintro e w5 ⟨y, rfl, hy, hb5⟩; obtain ⟨gy, cy, rfl⟩ := hy.sl (Nat.succ_pos _)); go_must (have B5 := Lib.hid (B4.out.trans (hb5.mono B4.out.size)); have HY := Lib.hid ((hy.congr (mat_seq)).mono (M := 0) (Nat.zero_le _)); clear hy hb5))
          | (at_builtin; refine wpList_append_own _ rfl _ _ 61 rfl W1.heap.size 38 j0 (.slice none 0 0) 1 24 Tryz.underlying61 hj hy0 hy1 hy2 rfl (by decide) _ k xs rfl ((own_next HALL.out.own B5.out).alloc _) ⟨w5.heap.size, 0, none⟩ 1 1 [.slice (some ⟨gy, 0, none⟩) (l.length + 1) cy] rfl rfl (cell_one_new _ _ _) (by simp [Value.oneCell']) (by unfold maxLen; omega) (by omega) (by have := B5.out.size; simp; omega) ?_; intro v' w9 hown' hgrow _; go_must (have ST := Lib.hid (HALL.out.app B5.out (hden ▸ HY.out) hown' hgrow); clear hown' hgrow))
          | fail)
        go_roundw
        case rel => exact ⟨k + 1, _, by go_num, by omega, ST.out⟩
        case measure => simp [intOf]; omega
      · dsimp only at h1 h2
        obtain ⟨h2a, h2b, h2c, h2d, rfl, rfl, rfl⟩ := h2
        subst h1
        replace hden : den t.ns t.sets k = alt (den t.ns t.sets a.toNat) (den t.ns t.sets b.toNat) := hden
        obtain ⟨i, rfl⟩ := Int.eq_ofNat_of_zero_le h2a
        obtain ⟨j, rfl⟩ := Int.eq_ofNat_of_zero_le h2c
        rw [Int.toNat_natCast, Int.toNat_natCast] at hden
        have hi' : i < k := by omega
        have hj' : j < k := by omega
        obtain ⟨g, c, xa, rfl, c1, hxa⟩ := HALL.out.at' hi'
        obtain ⟨g', c', xb, he, c2, hxb⟩ := HALL.out.at' hj'
        simp only [Value.slice.injEq, Option.some.injEq, Addr.mk.injEq] at he
        obtain ⟨⟨rfl, _⟩, _, rfl⟩ := he
        have HXA := Lib.hid hxa
        have HXB := Lib.hid hxb
        clear hxa hxb
        go_upto_region 16 with (first
          | (go_at_call 26; ((with_reducible refine (BL.out false _).mono ?_); rintro e w3 ⟨x, rfl, hx, hb3⟩; obtain ⟨gx, cx, rfl⟩ := hx.sl (Nat.succ_pos _)); go_must (have B3 := Lib.hid ((BN.out _).trans (hb3.mono (by simp))); have NB3 := Lib.hid (NB.out.below hb3); have m0 := NB3.out.at'.c0; have m1 := NB3.out.at'.c1; have m2 := NB3.out.at'.c2; have m3 := NB3.out.at'.c3; have m4 := NB3.out.at'.c4; have m5 := NB3.out.at'.c5; have HX := Lib.hid (hx); clear hx hb3))
          | fail)
        have d1 := cell_next c1 B3.out
        have d2 := cell_next c2 B3.out
        have hw3 := cell_lt m1
        have n2 : (i : Int) < k := by omega
        have n3 : (j : Int) < k := by omega
        have hk9 : k ≤ 9223372036854775807 := by omega
        have PL := Lib.hid (plus_any (l.length + 1) _ _ xa xb w3.drew (by omega) (by omega) (HXA.out.next (B3.out.trans ((drewB w3).mono B3.out.size))) (HXB.out.next (B3.out.trans ((drewB w3).mono B3.out.size))))
        have B4 := Lib.hid (B3.out.trans ((drewB w3).mono B3.out.size))
        clear c1 c2
        refine wp_region_still_tail 10 (by kernel_rfl) (by kernel_rfl) ?_
        simp only [List.take_succ_cons, List.take_zero, List.drop_succ_cons, List.drop_zero]
        iterate 10 (with_reducible refine wpStill_step (fun K hK => ?_); go_simp; with_reducible refine hK _ ?_; clear hK K)
        with_reducible refine wpStill_nil ?_
        change wpList _ _ _ _ _ w3.drew
        clear m0 m1 m2 m3 m4 m5 d1 d2 NB3 HXA HXB
        generalize w3.drew = w4 at *
        go_wp2_with (first
          | (go_at_call 29; ((with_reducible refine PL.out.mono ?_); rintro e w5 ⟨y, rfl, hy, hb5⟩; obtain ⟨gy, cy, rfl⟩ := hy.sl (Nat.succ_pos _)); go_must (have B5 := Lib.hid (B4.out.trans (hb5.mono B4.out.size)); have HY := Lib.hid ((hy.congr (mat_alt)).mono (M := 0) (Nat.zero_le _)); clear hy hb5))
          | (at_builtin; refine wpList_append_own _ rfl _ _ 61 rfl W1.heap.size 38 j0 (.slice none 0 0) 1 24 Tryz.underlying61 hj hy0 hy1 hy2 rfl (by decide) _ k xs rfl ((own_next HALL.out.own B5.out).alloc _) ⟨w5.heap.size, 0, none⟩ 1 1 [.slice (some ⟨gy, 0, none⟩) (l.length + 1) cy] rfl rfl (cell_one_new _ _ _) (by simp [Value.oneCell']) (by unfold maxLen; omega) (by omega) (by have := B5.out.size; simp; omega) ?_; intro v' w9 hown' hgrow _; go_must (have ST := Lib.hid (HALL.out.app B5.out (hden ▸ HY.out) hown' hgrow); clear hown' hgrow))
          | fail)
        go_roundw
        case rel => exact ⟨k + 1, _, by go_num, by omega, ST.out⟩
        case measure => simp [intOf]; omega
      · have htm := times_iff.1 (node_times hnode h1)
        dsimp only at h1 h2 htm
        obtain ⟨h2a, h2b, rfl, rfl⟩ := h2
        subst h1
        replace hden : den t.ns t.sets k = rep (den t.ns t.sets a.toNat) lo hi := hden
        obtain ⟨i, rfl⟩ := Int.eq_ofNat_of_zero_le h2a
        rw [Int.toNat_natCast] at hden
        have hi' : i < k := by omega
        obtain ⟨g, c, xa, rfl, c1, hxa⟩ := HALL.out.at' hi'
        have HXA := Lib.hid hxa
        clear hxa
        go_upto_region 18 with (first
          | (go_at_call 26; ((with_reducible refine (BL.out false _).mono ?_); rintro e w3 ⟨x, rfl, hx, hb3⟩; obtain ⟨gx, cx, rfl⟩ := hx.sl (Nat.succ_pos _)); go_must (have B3 := Lib.hid ((BN.out _).trans (hb3.mono (by simp))); have NB3 := Lib.hid (NB.out.below hb3); have m0 := NB3.out.at'.c0; have m1 := NB3.out.at'.c1; have m2 := NB3.out.at'.c2; have m3 := NB3.out.at'.c3; have m4 := NB3.out.at'.c4; have m5 := NB3.out.at'.c5; have HX := Lib.hid (hx); clear hx hb3))
          | fail)
        have d1 := cell_next c1 B3.out
        have hw3 := cell_lt m1
        have n2 : (i : Int) < k := by omega
        have hk9 : k ≤ 9223372036854775807 := by omega
        have PL := Lib.hid (rrep_any l (den t.ns t.sets i) lo hi xa w3.drew hl (by omega) (by omega) (by omega) (by omega) (HXA.out.next (B3.out.trans ((drewB w3).mono B3.out.size))))
        have B4 := Lib.hid (B3.out.trans ((drewB w3).mono B3.out.size))
        clear c1 htm
        refine wp_region_still_tail 9 (by kernel_rfl) (by kernel_rfl) ?_
        simp only [List.take_succ_cons, List.take_zero, List.drop_succ_cons, List.drop_zero]
        iterate 9 (with_reducible refine wpStill_step (fun K hK => ?_); go_simp; with_reducible refine hK _ ?_; clear hK K)
        with_reducible refine wpStill_nil ?_
        change wpList _ _ _ _ _ w3.drew
        clear m0 m1 m2 m3 m4 m5 d1 NB3 HXA
        generalize w3.drew = w4 at *
        go_wp2_with (first
          | (go_at_call 30; ((with_reducible refine PL.out.mono ?_); rintro e w5 ⟨y, rfl, hy, hb5⟩; obtain ⟨gy, cy, rfl⟩ := hy.sl (Nat.succ_pos _)); go_must (have B5 := Lib.hid (B4.out.trans (hb5.mono B4.out.size)); have HY := Lib.hid (hy.mono (M := 0) (Nat.zero_le _)); clear hy hb5))
          | (at_builtin; refine wpList_append_own _ rfl _ _ 61 rfl W1.heap.size 38 j0 (.slice none 0 0) 1 24 Tryz.underlying61 hj hy0 hy1 hy2 rfl (by decide) _ k xs rfl ((own_next HALL.out.own B5.out).alloc _) ⟨w5.heap.size, 0, none⟩ 1 1 [.slice (some ⟨gy, 0, none⟩) (l.length + 1) cy] rfl rfl (cell_one_new _ _ _) (by simp [Value.oneCell']) (by unfold maxLen; omega) (by omega) (by have := B5.out.size; simp; omega) ?_; intro v' w9 hown' hgrow _; go_must (have ST := Lib.hid (HALL.out.app B5.out (hden ▸ HY.out) hown' hgrow); clear hown' hgrow))
          | fail)
        go_roundw
        case rel => exact ⟨k + 1, _, by go_num, by omega, ST.out⟩
        case measure => simp [intOf]; omega
    · obtain rfl : k = t.ns.length := by omega
      obtain ⟨r, hr⟩ := Int.eq_ofNat_of_zero_le hroot
      rw [hr] at s2 hroot1
      have hrl : r < t.ns.length := by omega
      obtain ⟨g, c, x, rfl, c1, hx⟩ := HALL.out.at' hrl
      have hx1 := cell_lt c1
      have HX := Lib.hid hx
      have HX0 := Lib.hid hx
      have n1 : (r : Int) < t.ns.length := by omega
      have e1 : t.root.toNat = r := by rw [hr]; rfl
      rw [← e1] at HX
      have HE := Lib.hid HX.out
      clear hx hall
      go_wp2
      go_ret
      exact ⟨x, rfl, by first | exact HE.out | exact HX0.out, hbw⟩
end
end Go.Proofs.YtbkafoaoddajoaaGreatDoor.Dv

namespace Go.Proofs.YtbkafoaoddajoaaGreatDoor.Ut
open Go.RowKit

def szOf : Value → Nat
  | .string t => t.size
  | _ => 0
theorem cons_at {t : ByteArray} (h : 0 < t.size) : allL t.data.toList = (getL t.data.toList).1 :: allL (t.extract (getL t.data.toList).2 t.size).data.toList ∧ 1 ≤ (getL t.data.toList).2 ∧ (getL t.data.toList).2 ≤ t.size := by
  have hl : 0 < t.data.toList.length := by rw [← Lib.size_eq]; exact h
  have h1 := all_step hl
  have h2 := get_at hl
  rw [List.drop_zero, Nat.zero_add] at h1 h2
  rw [drop_extract, Lib.size_eq t]
  exact ⟨h1, by omega, by omega⟩

set_option maxRecDepth 100000 in
set_option maxHeartbeats 1000000 in
theorem rall_any (s : ByteArray) (w : World) (hs : s.size ≤ 17592186044000) :
    Calls Tryz.prog 12 #[.string s] w fun e W' => ∃ v, e = .returned v ∧ IntsAt W' v (allL s.data.toList) ∧ Below w.heap.size w W' := by
  obtain ⟨i0, hi, hz0, hz1, hz2⟩ := info_parts infoI
  go_enter Tryz.func12, Tryz.ntmps12
  go_wp2
  go_loopw [0, 3] (fun x v wr => ∃ (t : ByteArray) (pre : List Int), x = .string t ∧ pre.length + t.size ≤ s.size ∧ allL s.data.toList = pre ++ allL t.data.toList ∧ wr.ownsRow w.heap.size 3 1 v pre.length (pre.map (Value.int .i64)) ∧ Below w.heap.size w wr) (fun x _ _ => szOf x)
  case atStart => exact ⟨s, [], rfl, by simp, rfl, World.ownsRow_nil _ _ _ _, Below.refl _ _⟩
  case round =>
    obtain ⟨t, pre, rfl, hpl, ha, hrow, hb⟩ := hrel
    have HA := Lib.hid ha
    clear ha
    by_cases ht : 0 < t.size
    · obtain ⟨hc1, hc2, hc3⟩ := cons_at ht
      have hg := Lib.hid (fun w => rget_any t w (by unfold maxLen; omega))
      simp only [vGet] at hg
      have HC := Lib.hid hc1
      clear hc1
      generalize (getL t.data.toList).1 = c at *
      generalize (getL t.data.toList).2 = m at *
      go_wp2_with (first
        | (go_at_call 25; refine (hg.out _).mono ?_; rintro e W ⟨rfl, hbw⟩; have hrow1 := row_next hrow hbw; have hb1 := hb.trans (hbw.mono hb.size); have hsz1 := hb1.size)
        | (at_builtin; refine wpList_append_own _ rfl _ _ 36 rfl w.heap.size 3 i0 (.int .i64 0) 1 8 Tryz.underlying36 hi hz0 hz1 hz2 rfl (by decide) _ _ _ rfl (hrow1.alloc _) ⟨W.heap.size, 0, none⟩ 1 1 [.int .i64 c] rfl rfl (cell_one_new _ _ _) (by simp [Value.oneCell']) (by unfold maxLen; omega) (by omega) (by simp; omega) ?_; intro v' w2 hown' hgrow _))
      have hz : (t.extract m t.size).size = t.size - m := by rw [ByteArray.size_extract]; omega
      go_roundw
      case rel => exact ⟨t.extract m t.size, pre ++ [c], rfl, by simp; omega, by rw [HA.out, HC.out]; simp, by simpa using hown', (hb1.alloc hsz1 _).grown hgrow (by simp; omega) (fun k hk => ((World.ownsRowF_of hrow1).lt k hk).1)⟩
      case measure => simp only [szOf, hz]; omega
    · have h0 : t.data.toList = [] := List.eq_nil_of_length_eq_zero (by rw [← Lib.size_eq]; omega)
      have H0 := Lib.hid h0
      clear h0
      go_wp2
      go_ret
      exact ⟨_, rfl, by rw [HA.out, H0.out, allL_nil, List.append_nil]; exact ints_of_row hrow, hb⟩


theorem valid_drop {l : List Int} {k : Nat} (h : l.length ≤ k) : ((l.drop k).all fun c => decide (0 ≤ c)) = true := by
  rw [List.drop_eq_nil_of_le h]; rfl
theorem valid_at {l : List Int} {k : Nat} {c : Int} (h : k < l.length) (hc : l.getD k 0 = c) : ((l.drop k).all fun c => decide (0 ≤ c)) = (decide (0 ≤ c) && (l.drop (k + 1)).all fun c => decide (0 ≤ c)) := by
  have e : l.getD k 0 = l[k] := by simp [List.getD, h]
  rw [List.drop_eq_getElem_cons h, List.all_cons, ← e, hc]

set_option maxRecDepth 100000 in
set_option maxHeartbeats 1000000 in
theorem rvalid_any (s : ByteArray) (w : World) (hs : s.size ≤ 17592186044000) :
    Calls Tryz.prog 14 #[.string s] w fun e W' => e = .returned (.bool (validL s.data.toList)) ∧ Below w.heap.size w W' := by
  have hal := Lib.hid (rall_any s w hs)
  have hvl : ((allL s.data.toList).drop 0).all (fun c => decide (0 ≤ c)) = validL s.data.toList := rfl
  generalize allL s.data.toList = l at *
  generalize validL s.data.toList = V at *
  have HV := Lib.hid hvl
  clear hvl
  go_enter Tryz.func14, Tryz.ntmps14
  go_wp2_with (go_at_call 12; refine hal.out.mono ?_; rintro e w1 ⟨v, rfl, hv, hb⟩; obtain ⟨ao, cap, rfl, hm, hcl⟩ := hv.shape)
  have HC := Lib.hid hcl
  clear hcl hv
  go_loop [4] (fun i => ∃ k : Nat, k ≤ l.length ∧ ((l.drop k).all fun c => decide (0 ≤ c)) = V ∧ i = .int .i64 k) (fun i => l.length - (intOf i).toNat)
  case atStart => exact ⟨0, by omega, HV.out, rfl⟩
  case round =>
    obtain ⟨k, hk, hx, rfl⟩ := hrel
    by_cases hlt : k < l.length
    · have hy := fun c h => (valid_at (l := l) (k := k) (c := c) hlt h).symm.trans hx
      have HY := Lib.hid hy
      clear hx hy
      obtain ⟨ad, rfl, hcell⟩ := HC.out k hlt
      generalize hc : l.getD k 0 = c at *
      go_wp2
      · have h0 : c < 0 := by assumption
        have hz := HY.out c rfl
        rw [decide_eq_false (by omega), Bool.false_and] at hz
        go_ret
        exact ⟨ret_bool hz, hb⟩
      · have h0 : 0 ≤ c := by assumption
        have hz := HY.out c rfl
        rw [decide_eq_true h0, Bool.true_and] at hz
        go_round
        case rel => exact ⟨k + 1, by omega, hz, by go_num⟩
        case measure => simp [intOf]; omega
    · rw [valid_drop (by omega)] at hx
      have HX := Lib.hid hx
      clear hx
      go_wp2
      go_ret
      exact ⟨ret_bool HX.out, hb⟩

end Go.Proofs.YtbkafoaoddajoaaGreatDoor.Ut

namespace Go.Proofs.YtbkafoaoddajoaaGreatDoor.Dv
open Go Go.RowKit Go.Shelf
open Go.Proofs.YtbkafoaoddajoaaGreatDoor.Ar (Nd nd nodeB Tr Ok TreeAt)
open Go.Proofs.YtbkafoaoddajoaaGreatDoor.Rg (R RngsAt RowsAt nthL add_zero own_next)
open Go.Proofs.YtbkafoaoddajoaaGreatDoor.Ut (allL validL rall_any rvalid_any)
noncomputable def rowB (t : Tr) (l : List Int) : Bool := mat (den t.ns t.sets t.root.toNat) l 0 l.length
theorem rowB_iff {t : Tr} {l : List Int} : rowB t l = true ↔ den t.ns t.sets t.root.toNat l := by
  unfold rowB
  rw [mat_iff, sub_all]
  exact ⟨fun h => h.2, fun h => ⟨Nat.zero_le _, h⟩⟩
noncomputable def hasB' (t : Tr) (s : List UInt8) : Bool := validL s && rowB t (allL s)
section
variable {w : World} {t : Tr} {v vl : Value} {l : List Int} {s : ByteArray}
set_option maxRecDepth 100000 in
set_option maxHeartbeats 8000000 in
theorem rrow_any (ht : Ok t) (hT : TreeAt w v t) (hN : t.ns.length ≤ 4096) (hI : IntsAt w vl l) (hl : l.length ≤ 10000) :
    Calls Tryz.prog 10 #[v, vl] w fun e w' => e = .returned (.bool (rowB t l)) ∧ Below w.heap.size w w' := by
  obtain ⟨ao, cap, so, scap, rfl, hm, hm2, _, _⟩ := hT.shape
  obtain ⟨lo', lcap, rfl, hlm, _⟩ := hI.shape
  have b1 : Below w.heap.size w (w.alloc (.cells #[.slice ao t.ns.length cap, .slice so t.sets.length scap, .int .i64 t.root] 25)) := (Below.refl w.heap.size w).alloc (Nat.le_refl _) _
  have B1 := Lib.hid b1
  have SP := Lib.hid (spans_any ht (hT.next b1) hN (hI.next b1) hl)
  have HR := Lib.hid (show mat (den t.ns t.sets t.root.toNat) l 0 l.length = rowB t l from rfl)
  have n1 : (0 : Int) < (l.length : Int) + 1 := by omega
  have n2 : (l.length : Int) < (l.length : Int) + 1 := by omega
  clear hT hI b1
  generalize rowB t l = y at *
  generalize mat (den t.ns t.sets t.root.toNat) l = M at *
  clear ht
  go_enter Tryz.func10, Tryz.ntmps10
  go_wp2_with (first
    | (go_at_call 13; ((with_reducible refine SP.out.mono ?_); rintro e w1 ⟨x, rfl, hx, hb⟩; obtain ⟨g, c, rfl, _, _, _, _, hro⟩ := hx.at' (Nat.succ_pos _)); go_must (obtain ⟨r, c', ds, a1, _, _, _, a5⟩ := hro 0 (Nat.succ_pos _); have a6 := a5 l.length (Nat.lt_succ_self _); rw [HR.out] at a6; have B2 := Lib.hid (B1.out.trans (hb.mono B1.out.size)); clear hx hb hro a5))
    | fail)
  go_ret
  exact ⟨rfl, B2.out⟩
set_option maxRecDepth 100000 in
set_option maxHeartbeats 8000000 in
theorem rhasT_any (ht : Ok t) (hT : TreeAt w v t) (hN : t.ns.length ≤ 4096) (hs : s.size ≤ 10000) :
    Calls Tryz.prog 11 #[v, .string s] w fun e w' => e = .returned (.bool (hasB' t s.data.toList)) ∧ Below w.heap.size w w' := by
  obtain ⟨ao, cap, so, scap, rfl, hm, hm2, _, _⟩ := hT.shape
  have b1 : Below w.heap.size w (w.alloc (.cells #[.slice ao t.ns.length cap, .slice so t.sets.length scap, .int .i64 t.root] 25)) := (Below.refl w.heap.size w).alloc (Nat.le_refl _) _
  have B1 := Lib.hid b1
  have HA := Lib.hid (rall_any s (w.alloc (.cells #[.slice ao t.ns.length cap, .slice so t.sets.length scap, .int .i64 t.root] 25)) (by omega))
  have HV := Lib.hid (fun X => rvalid_any s X (by omega))
  have HT := Lib.hid (fun X (hX : Below w.heap.size w X) => hT.next hX)
  have hlen : (allL s.data.toList).length ≤ 10000 := by
    have := Ut.allL_le s.data.toList
    rw [← Lib.size_eq] at this
    omega
  have RW := Lib.hid (fun (X : World) (vl : Value) (hX : Below w.heap.size w X) (hI : IntsAt X vl (allL s.data.toList)) => rrow_any ht (hT.next hX) hN hI hlen)
  have t0 : ∀ X, Below (w.alloc (.cells #[.slice ao t.ns.length cap, .slice so t.sets.length scap, .int .i64 t.root] 25)).heap.size (w.alloc (.cells #[.slice ao t.ns.length cap, .slice so t.sets.length scap, .int .i64 t.root] 25)) X → X.cell? ⟨w.heap.size, 0, none⟩ = some (.slice ao t.ns.length cap) ∧ X.cell? ⟨w.heap.size, 1, none⟩ = some (.slice so t.sets.length scap) ∧ X.cell? ⟨w.heap.size, 2, none⟩ = some (.int .i64 t.root) := fun X hX => ⟨cell_next (by simp) hX, cell_next (by simp) hX, cell_next (by simp) hX⟩
  have T0 := Lib.hid t0
  have hM : hasB' t s.data.toList = (validL s.data.toList && rowB t (allL s.data.toList)) := rfl
  rw [hM]
  clear hT t0 ht hM hlen
  generalize validL s.data.toList = V at *
  generalize rowB t (allL s.data.toList) = Y at *
  generalize allL s.data.toList = LL at *
  cases V
  · rw [Bool.false_and]
    go_enter Tryz.func11, Tryz.ntmps11
    go_upto_region 1 with fail
    clear b1
    generalize w.alloc (.cells #[.slice ao t.ns.length cap, .slice so t.sets.length scap, .int .i64 t.root] 25) = W1 at *
    go_wp2_with (first
      | (go_at_call 12; ((with_reducible refine HA.out.mono ?_); rintro e w2 ⟨vl, rfl, hv, hb⟩); go_must (have HL := Lib.hid hv; have B2 := Lib.hid hb; clear hv hb))
      | (go_at_call 14; ((with_reducible refine (HV.out _).mono ?_); rintro e w3 ⟨rfl, hb⟩); go_must (have B3 := Lib.hid (B2.out.trans (hb.mono B2.out.size)); clear hb))
      | fail)
    go_ret
    exact ⟨rfl, B1.out.trans (B3.out.mono B1.out.size)⟩
  · rw [Bool.true_and]
    go_enter Tryz.func11, Tryz.ntmps11
    go_upto_region 1 with fail
    clear b1
    generalize w.alloc (.cells #[.slice ao t.ns.length cap, .slice so t.sets.length scap, .int .i64 t.root] 25) = W1 at *
    go_wp2_with (first
      | (go_at_call 12; ((with_reducible refine HA.out.mono ?_); rintro e w2 ⟨vl, rfl, hv, hb⟩); go_must (have HL := Lib.hid hv; have B2 := Lib.hid hb; clear hv hb))
      | (go_at_call 14; ((with_reducible refine (HV.out _).mono ?_); rintro e w3 ⟨rfl, hb⟩); go_must (have B3 := Lib.hid (B2.out.trans (hb.mono B2.out.size)); obtain ⟨t1, t2, t3⟩ := T0.out _ B3.out; have g1 := cell_lt t1; have HL3 := Lib.hid (HL.out.next hb); have B4 := Lib.hid (B1.out.trans (B3.out.mono B1.out.size)); clear hb))
      | (go_at_call 10; ((with_reducible refine (RW.out _ _ B4.out HL3.out).mono ?_); rintro e w5 ⟨rfl, hb⟩); go_must (have B5 := Lib.hid (B4.out.trans (hb.mono B4.out.size)); clear hb))
      | fail)
    go_ret
    exact ⟨rfl, B5.out⟩
end
end Go.Proofs.YtbkafoaoddajoaaGreatDoor.Dv

namespace Go.Proofs.YtbkafoaoddajoaaGreatDoor.Rp
open Go Go.RowKit Go.Shelf
open Go.Proofs.YtbkafoaoddajoaaGreatDoor.Ar (Nd nd Tr Ok TreeAt TBox NodesAt NodeAt checkE ok_check)
open Go.Proofs.YtbkafoaoddajoaaGreatDoor.Rg (R RngsAt RowsAt nthL nth rightB rightB_iff setFrom add_zero)
theorem heapA {W : World} {o : Obj} {B : Nat} (hB : B = W.heap.size) : (W.alloc o).heap[B]? = some o := by subst hB; exact heap_alloc_new _ _
theorem belA {w W : World} {C : Obj} (h : Below w.heap.size w W) : Below w.heap.size w (W.alloc C) := h.alloc h.size C

set_option maxRecDepth 100000 in
set_option maxHeartbeats 1600000 in
theorem rone_any (c : Int) (w : World) : Calls Tryz.prog 33 #[.int .i64 c] w fun e w' => e = .returned (.slice (some ⟨w.heap.size, 0, none⟩) 1 1) ∧ w' = w.alloc (.cells #[.int .i64 c, .int .i64 c] 92) := by
  go_enter Tryz.func33, Tryz.ntmps33
  go_wp2
  go_ret
  exact ⟨rfl, rfl⟩

/-- the example -/
def exT : Tr := ⟨[⟨2, 0, 0, 0, 0, 0⟩, ⟨2, 0, 0, 0, 0, 1⟩, ⟨2, 0, 0, 0, 0, 2⟩, ⟨3, 1, 2, 0, 0, 0⟩, ⟨5, 3, 0, 0, -1, 0⟩, ⟨4, 0, 4, 0, 0, 0⟩], [[(97, 97)], [(98, 98)], [(99, 99)]], 5⟩
theorem ex_ok : Ok exT where
  root0 := by decide
  root1 := by decide
  sets := fun s hs => by
    have h : s = [(97, 97)] ∨ s = [(98, 98)] ∨ s = [(99, 99)] := by simpa [exT] using hs
    rw [rightB_iff]
    rcases h with rfl | rfl | rfl <;> simp [setFrom]
  node := fun i hi => by
    have h : i = 0 ∨ i = 1 ∨ i = 2 ∨ i = 3 ∨ i = 4 ∨ i = 5 := by simp [exT] at hi; omega
    rcases h with rfl | rfl | rfl | rfl | rfl | rfl <;> decide
theorem ex_check : checkE exT = 0 := ok_check ex_ok (by decide) (by decide)
def SomeOut (w : World) (e : Ending) (w' : World) : Prop := ∃ v, e = .returned v ∧ TreeAt w' v exT ∧ Below w.heap.size w w'

theorem heapB {W : World} {o x : Obj} {B : Nat} (h : W.heap[B]? = some x) : (W.alloc o).heap[B]? = some x := (heap_alloc_old _ _ (Array.getElem?_eq_some_iff.1 h).1).trans h
/-- a set of one number, in memory -/
theorem rngs_one {W : World} {B : Nat} {c : Int} (h : W.heap[B]? = some (.cells #[.int .i64 c, .int .i64 c] 92 (0, 0))) : RngsAt W (.slice (some ⟨B, 0, none⟩) 1 1) [(c, c)] :=
  .inr ⟨_, 1, rfl, by unfold maxLen; simp, fun i hi => by
    have e : i = 0 := by simpa using hi
    subst e
    rw [add_zero, Lib.cell_of_heap h, Lib.cell_of_heap h]
    exact ⟨rfl, rfl⟩⟩
theorem ex_at {W : World} {b1 b2 b3 b4 b5 : Nat} (h1 : W.heap[b1]? = some (.cells #[.int .i64 97, .int .i64 97] 92 (0, 0))) (h2 : W.heap[b2]? = some (.cells #[.int .i64 98, .int .i64 98] 92 (0, 0))) (h3 : W.heap[b3]? = some (.cells #[.int .i64 99, .int .i64 99] 92 (0, 0)))
    (h4 : W.heap[b4]? = some (.cells #[.slice (some ⟨b1, 0, none⟩) 1 1, .slice (some ⟨b2, 0, none⟩) 1 1, .slice (some ⟨b3, 0, none⟩) 1 1] 51 (0, 0)))
    (h5 : W.heap[b5]? = some (.cells #[.int .i64 2, .int .i64 0, .int .i64 0, .int .i64 0, .int .i64 0, .int .i64 0, .int .i64 2, .int .i64 0, .int .i64 0, .int .i64 0, .int .i64 0, .int .i64 1, .int .i64 2, .int .i64 0, .int .i64 0, .int .i64 0, .int .i64 0, .int .i64 2, .int .i64 3, .int .i64 1, .int .i64 2, .int .i64 0, .int .i64 0, .int .i64 0, .int .i64 5, .int .i64 3, .int .i64 0, .int .i64 0, .int .i64 (-1), .int .i64 0, .int .i64 4, .int .i64 0, .int .i64 4, .int .i64 0, .int .i64 0, .int .i64 0] 35 (0, 0))) : TreeAt W (.agg #[.slice (some ⟨b5, 0, none⟩) 6 6, .slice (some ⟨b4, 0, none⟩) 3 3, .int .i64 5]) exT := by
  refine ⟨_, _, rfl, .inr ⟨_, 6, rfl, by unfold maxLen; decide, fun i hi => ?_⟩, .inr ⟨_, 3, rfl, by unfold maxLen; decide, fun i hi => ?_⟩⟩
  · have h : i = 0 ∨ i = 1 ∨ i = 2 ∨ i = 3 ∨ i = 4 ∨ i = 5 := by simp [exT] at hi; omega
    rw [add_zero]
    rcases h with rfl | rfl | rfl | rfl | rfl | rfl
    all_goals (constructor <;> (rw [Lib.cell_of_heap h5]; rfl))
  · have h : i = 0 ∨ i = 1 ∨ i = 2 := by simp [exT] at hi; omega
    rw [add_zero]
    rcases h with rfl | rfl | rfl
    · exact ⟨_, by rw [Lib.cell_of_heap h4]; rfl, rngs_one h1⟩
    · exact ⟨_, by rw [Lib.cell_of_heap h4]; rfl, rngs_one h2⟩
    · exact ⟨_, by rw [Lib.cell_of_heap h4]; rfl, rngs_one h3⟩

set_option maxRecDepth 100000 in
set_option maxHeartbeats 4000000 in
theorem some_any (w : World) : Calls Tryz.prog 16 #[] w (SomeOut w) := by
  have C := Lib.hid rone_any
  go_enter Tryz.func16, Tryz.ntmps16
  go_wp2_with (go_at_call 33; (with_reducible refine (C.out _ _).mono ?_); rintro e w1 ⟨rfl, hw⟩; subst hw)
  (try simp only [Exit.inBlock, Exit.then])
  refine bodyPost_ret (results_cell_row rfl _ _ w.heap.size 25 #[.slice (some ⟨w.heap.size + 1 + 1 + 1 + 1 + 1, 0, none⟩) 6 6, .slice (some ⟨w.heap.size + 1 + 1 + 1 + 1, 0, none⟩) 3 3, .int .i64 5] (0, 0) _ rfl (by repeat (first | (refine heapA ?_; simp; done) | refine heapB ?_)) Tryz.underlying25 rfl (by kernel_rfl)) rfl ?_
  refine ⟨_, rfl, ex_at (b1 := w.heap.size + 1) (b2 := w.heap.size + 1 + 1) (b3 := w.heap.size + 1 + 1 + 1) ?_ ?_ ?_ ?_ ?_, ?_⟩
  · repeat (first | (refine heapA ?_; simp; done) | refine heapB ?_)
  · repeat (first | (refine heapA ?_; simp; done) | refine heapB ?_)
  · repeat (first | (refine heapA ?_; simp; done) | refine heapB ?_)
  · repeat (first | (refine heapA ?_; simp; done) | refine heapB ?_)
  · repeat (first | (refine heapA ?_; simp; done) | refine heapB ?_)
  · exact belA (belA (belA (belA (belA (belA (Below.refl _ _))))))

end Go.Proofs.YtbkafoaoddajoaaGreatDoor.Rp

namespace Go.Proofs.YtbkafoaoddajoaaGreatDoor.Ar
open Go Go.RowKit Go.Shelf
open Go.Proofs.YtbkafoaoddajoaaGreatDoor.Rg (R RngsAt RowsAt nthL add_zero own_next)

theorem gD_two (a b : Int) (ha : 0 ≤ a) (hb : 0 ≤ b) : gD [a, b] = max a b + 1 := by simp [gD]; omega
theorem gD_one (a : Int) (ha : 0 ≤ a) : gD [a] = a + 1 := by simp [gD]; omega
theorem gD_none : gD [] = 1 := rfl
theorem gZ_two (a b : Int) : gZ [a, b] = 1 + a + b := by simp [gZ]
theorem gZ_one (a : Int) : gZ [a] = 1 + a := by simp [gZ]
theorem gZ_none : gZ [] = 1 := rfl
/-- what a tree tells lies between -/
def Bnd (g : List Int → Int) (l : List Nd) : Prop := ∀ i, i < l.length → 1 ≤ reck g l i ∧ reck g l i ≤ 1048576

theorem ret_int {a b : Int} (h : a = b) : Ending.returned (.int .i64 a) = .returned (.int .i64 b) := by rw [h]

theorem bnd_gD {t : Tr} (ht : Ok t) (hl : t.ns.length ≤ 4096) : Bnd gD t.ns := by
  have h : ∀ i, i < t.ns.length → 1 ≤ reck gD t.ns i ∧ reck gD t.ns i ≤ (i : Int) + 1 := by
    intro i
    induction i using Nat.strongRecOn with
    | ind i ih =>
      intro hi
      rcases nodeB_ways (ht.node i hi) with ⟨h1, _⟩ | ⟨h1, _⟩ | ⟨h1, h2⟩ | ⟨h1, h2⟩
      · rw [reck_none (by omega) (by omega), gD_none]; omega
      · rw [reck_none (by omega) (by omega), gD_none]; omega
      · have e1 := ih (nd t.ns i).a.toNat (by omega) (by omega)
        have e2 := ih (nd t.ns i).b.toNat (by omega) (by omega)
        rw [reck_two h1 (by omega) (by omega), gD_two _ _ (by omega) (by omega)]; omega
      · have e1 := ih (nd t.ns i).a.toNat (by omega) (by omega)
        rw [reck_one h1 (by omega), gD_one _ (by omega)]; omega
  exact fun i hi => by have := h i hi; omega
theorem gS_two (a b : Int) : gS [a, b] = min (1 + a + b) 1048576 := by simp [gS]
theorem gS_one (a : Int) : gS [a] = min (1 + a) 1048576 := by simp [gS]
theorem gS_none : gS [] = 1 := rfl
theorem bnd_gS {t : Tr} (ht : Ok t) : Bnd gS t.ns := by
  intro i
  induction i using Nat.strongRecOn with
  | ind i ih =>
    intro hi
    rcases nodeB_ways (ht.node i hi) with ⟨h1, _⟩ | ⟨h1, _⟩ | ⟨h1, h2⟩ | ⟨h1, h2⟩
    · rw [reck_none (by omega) (by omega), gS_none]; omega
    · rw [reck_none (by omega) (by omega), gS_none]; omega
    · have e1 := ih (nd t.ns i).a.toNat (by omega) (by omega)
      have e2 := ih (nd t.ns i).b.toNat (by omega) (by omega)
      rw [reck_two h1 (by omega) (by omega), gS_two]; omega
    · have e1 := ih (nd t.ns i).a.toNat (by omega) (by omega)
      rw [reck_one h1 (by omega), gS_one]; omega

/-- how many nodes are counted, whatever the kinds -/
def farK (l : List Nd) (i : Nat) : Int :=
  1 + (if 0 ≤ (nd l i).a then (if (nd l i).a.toNat < i then farK l (nd l i).a.toNat else 0) else 0) + (if 0 ≤ (nd l i).b then (if (nd l i).b.toNat < i then farK l (nd l i).b.toNat else 0) else 0)
  termination_by i
  decreasing_by all_goals omega
theorem farK_pos (l : List Nd) (i : Nat) : 1 ≤ farK l i := by
  induction i using Nat.strongRecOn with
  | ind i ih =>
    rw [farK]
    have e1 : ∀ x : Nat, 0 ≤ (if x < i then farK l x else 0) := fun x => by
      split
      · have := ih x (by omega); omega
      · omega
    have a1 := e1 (nd l i).a.toNat
    have a2 := e1 (nd l i).b.toNat
    split <;> split <;> omega
/-- no tree is far: what the document's Far tells apart -/
structure Near (t : Tr) : Prop where
  ns : t.ns.length ≤ 60
  sets : t.sets.length ≤ 60
  size : ∀ i, i < t.ns.length → farK t.ns i ≤ 3000
  each : ∀ k, k < t.sets.length → (Rg.nthL t.sets k).length ≤ 30
theorem gZ_far {t : Tr} (ht : Ok t) : ∀ i, i < t.ns.length → 1 ≤ reck gZ t.ns i ∧ reck gZ t.ns i ≤ farK t.ns i := by
  intro i
  induction i using Nat.strongRecOn with
  | ind i ih =>
    intro hi
    have hp := farK_pos t.ns
    have h0 := hp i
    rcases nodeB_ways (ht.node i hi) with ⟨h1, _⟩ | ⟨h1, _⟩ | ⟨h1, h2⟩ | ⟨h1, h2⟩
    · rw [reck_none (by omega) (by omega), gZ_none]; omega
    · rw [reck_none (by omega) (by omega), gZ_none]; omega
    · have e1 := ih (nd t.ns i).a.toNat (by omega) (by omega)
      have e2 := ih (nd t.ns i).b.toNat (by omega) (by omega)
      rw [reck_two h1 (by omega) (by omega), gZ_two, farK, if_pos (by omega), if_pos (by omega), if_pos (by omega), if_pos (by omega)]; omega
    · have e1 := ih (nd t.ns i).a.toNat (by omega) (by omega)
      rw [reck_one h1 (by omega), gZ_one, farK, if_pos (by omega), if_pos (by omega)]
      have hq := hp (nd t.ns i).b.toNat
      split
      · split <;> omega
      · omega
theorem bnd_gZ {t : Tr} (ht : Ok t) (hn : Near t) : Bnd gZ t.ns := fun i hi => by
  have h1 := gZ_far ht i hi
  have h2 := hn.size i hi
  omega
theorem gS_gZ {t : Tr} (ht : Ok t) (hn : Near t) : ∀ i, i < t.ns.length → reck gS t.ns i = reck gZ t.ns i := by
  intro i
  induction i using Nat.strongRecOn with
  | ind i ih =>
    intro hi
    have hb := bnd_gZ ht hn
    have h0 := hb i hi
    have h00 := gZ_far ht i hi
    have h01 := hn.size i hi
    rcases nodeB_ways (ht.node i hi) with ⟨h1, _⟩ | ⟨h1, _⟩ | ⟨h1, h2⟩ | ⟨h1, h2⟩
    · rw [reck_none (by omega) (by omega), reck_none (by omega) (by omega)]; rfl
    · rw [reck_none (by omega) (by omega), reck_none (by omega) (by omega)]; rfl
    · rw [reck_two h1 (by omega) (by omega), gZ_two] at h00
      rw [reck_two h1 (by omega) (by omega), reck_two h1 (by omega) (by omega), gS_two, gZ_two, ih _ (by omega) (by omega), ih _ (by omega) (by omega)]; omega
    · rw [reck_one h1 (by omega), gZ_one] at h00
      rw [reck_one h1 (by omega), reck_one h1 (by omega), gS_one, gZ_one, ih _ (by omega) (by omega)]; omega

end Go.Proofs.YtbkafoaoddajoaaGreatDoor.Ar

namespace Go.Proofs.YtbkafoaoddajoaaGreatDoor.Ar
open Go Go.RowKit Go.Shelf
open Go.Proofs.YtbkafoaoddajoaaGreatDoor.Rg (R RngsAt RowsAt nthL add_zero own_next)

/-- the counts of the first k nodes -/
def farL (l : List Nd) (k : Nat) : List Value := (List.range k).map fun i => .int .i64 (farK l i)
theorem farL_len (l : List Nd) (k : Nat) : (farL l k).length = k := by simp [farL]
theorem farL_succ (l : List Nd) (k : Nat) : farL l (k + 1) = farL l k ++ [.int .i64 (farK l k)] := by simp [farL, List.range_succ]
theorem farL_at {l : List Nd} {k i : Nat} (h : i < k) : (farL l k)[i]? = some (.int .i64 (farK l i)) := by simp [farL, h]
/-- what one part adds -/
theorem far_part (l : List Nd) (i : Nat) (x : Int) : ∃ A, A = (if 0 ≤ x then (if x.toNat < i then farK l x.toNat else 0) else 0) ∧
    ((¬ 0 ≤ x ∧ A = 0) ∨ (0 ≤ x ∧ ¬ x < i ∧ A = 0) ∨ ∃ a : Nat, x = a ∧ a < i ∧ A = farK l a) := by
  refine ⟨_, rfl, ?_⟩
  by_cases h : 0 ≤ x
  · obtain ⟨a, rfl⟩ := Int.eq_ofNat_of_zero_le h
    by_cases h2 : a < i
    · exact .inr (.inr ⟨a, rfl, h2, by rw [if_pos h, Int.toNat_natCast, if_pos h2]⟩)
    · exact .inr (.inl ⟨h, by omega, by rw [if_pos h, Int.toNat_natCast, if_neg h2]⟩)
  · exact .inl ⟨h, by rw [if_neg h]⟩

/-- what Far tells -/
def FarOut (t : Tr) (w : World) (e : Ending) (w' : World) : Prop := ∃ b : Bool, e = .returned (.bool b) ∧ ((b = true ∧ ¬ Near t) ∨ (b = false ∧ Near t)) ∧ Below w.heap.size w w'

set_option maxRecDepth 100000 in
set_option maxHeartbeats 8000000 in
theorem far_any (t : Tr) (v : Value) (w : World) (h : TreeAt w v t) :
    Calls Tryz.prog 31 #[v] w (FarOut t w) := by
  obtain ⟨i0, hi, hz0, hz1, hz2⟩ := info_parts infoI
  obtain ⟨ao, cap, so, scap, rfl, hm, hm2, hn, hs⟩ := h.shape
  have HN := Lib.hid hn
  have HS := Lib.hid hs
  clear hn hs h
  have b1 := (Below.refl w.heap.size w).alloc (Nat.le_refl _) (.cells #[.slice ao t.ns.length cap, .slice so t.sets.length scap, .int .i64 t.root] 25)
  have B1 := Lib.hid b1
  have T0 := Lib.hid (TBox.new w (.slice ao t.ns.length cap) (.slice so t.sets.length scap) t.root)
  have hW1s : w.heap.size + 1 ≤ (w.alloc (.cells #[.slice ao t.ns.length cap, .slice so t.sets.length scap, .int .i64 t.root] 25)).heap.size := by simp
  have hW1t : (w.alloc (.cells #[.slice ao t.ns.length cap, .slice so t.sets.length scap, .int .i64 t.root] 25)).heap.size ≤ w.heap.size + 1 := by simp
  by_cases hbig : 60 < t.ns.length ∨ 60 < t.sets.length
  · have hh : (60 : Int) < t.ns.length ∨ (¬ (60 : Int) < t.ns.length ∧ (60 : Int) < t.sets.length) := by omega
    have hnn : ¬ Near t := fun h => by have := h.ns; have := h.sets; omega
    have HNN := Lib.hid hnn
    clear hbig hnn
    rcases hh with h1 | ⟨h1, h2⟩
    all_goals (
      go_enter Tryz.func31, Tryz.ntmps31
      go_wp2
      go_ret
      exact ⟨true, rfl, .inl ⟨rfl, HNN.out⟩, b1⟩)
  · have n1 : ¬ (60 : Int) < t.ns.length := by omega
    have n2 : ¬ (60 : Int) < t.sets.length := by omega
    have l1 : t.ns.length ≤ 60 := by omega
    have l2 : t.sets.length ≤ 60 := by omega
    clear hbig hm hm2
    obtain ⟨f0, f1, f2⟩ := T0.out
    go_enter Tryz.func31, Tryz.ntmps31
    go_wp2
    generalize w.alloc (.cells #[.slice ao t.ns.length cap, .slice so t.sets.length scap, .int .i64 t.root] 25) = W1 at *
    clear f0 f1 f2
    go_loopw [3, 4] (fun o i wr => ∃ (k : Nat) (vo : Value), i = .int .i64 k ∧ vo = o ∧ k ≤ t.ns.length ∧ wr.ownsRow (w.heap.size + 1) 3 1 o k (farL t.ns k) ∧ (∀ j, j < k → farK t.ns j ≤ 3000) ∧ Below (w.heap.size + 1) W1 wr) (fun _ i _ => t.ns.length - (intOf i).toNat)
    case atStart => exact ⟨0, _, rfl, rfl, Nat.zero_le _, World.ownsRow_nil _ _ _ _, fun j hj => by omega, Below.refl _ _⟩
    case round =>
      obtain ⟨k, o, rfl, rfl, hk, hrow, hf, hbw⟩ := hrel
      obtain ⟨wo, rfl⟩ : ∃ x, x = wr := ⟨_, rfl⟩
      obtain ⟨r0, r1, r2⟩ := T0.out.next (hbw.mono (by omega))
      have hsz := hbw.size
      have HBW := Lib.hid hbw
      have HF := Lib.hid hf
      clear hbw hf
      by_cases hlt : k < t.ns.length
      · obtain ⟨g, rfl, hnode⟩ := HN.out k hlt
        have hB := B1.out.trans (HBW.out.mono (by omega))
        obtain ⟨c0, c1, c2, c3, c4, c5⟩ := hnode.next hB
        have hl0 := cell_lt c0
        have hfk : farK t.ns k = _ := farK.eq_1 t.ns k
        obtain ⟨A, hA, wa⟩ := far_part t.ns k (nd t.ns k).a
        obtain ⟨B, hB', wb⟩ := far_part t.ns k (nd t.ns k).b
        rw [← hA, ← hB'] at hfk
        have HFK := Lib.hid hfk
        have HROW := Lib.hid hrow
        clear hB hnode hA hB' hfk
        generalize nd t.ns k = n at *
        have hcell : ∀ a, a < k → ∃ G c, o = .slice (some ⟨G, 0, none⟩) k c ∧ wo.cell? ⟨G, a, none⟩ = some (.int .i64 (farK t.ns a)) ∧ G < wo.heap.size := fun a ha => by
          obtain ⟨G, c, he, hgb, hgc⟩ := HROW.out.form (by omega)
          have hrow2 := HROW.out
          subst he
          exact ⟨G, c, rfl, by rw [hrow2.cellAt a (by omega), farL_at ha], (hrow2.lt _ rfl).2⟩
        have hfin : ∀ W : World, ∀ v' : Value, W.ownsRow (w.heap.size + 1) 3 1 v' (k + 1) (farL t.ns k ++ [.int .i64 (1 + A + B)]) → W.ownsRow (w.heap.size + 1) 3 1 v' (k + 1) (farL t.ns (k + 1)) := fun W v' h => by rw [farL_succ, HFK.out]; exact h
        have HFIN := Lib.hid hfin
        have hle : (1 + A + B ≤ 3000) → ∀ j, j < k + 1 → farK t.ns j ≤ 3000 := fun h j hj => by
          by_cases hjk : j = k
          · rw [hjk, HFK.out]; exact h
          · exact HF.out j (by omega)
        have HLE := Lib.hid hle
        have hA3 : 0 ≤ A ∧ A ≤ 3000 := by
          rcases wa with ⟨_, h⟩ | ⟨_, _, h⟩ | ⟨a, _, ha, h⟩
          · omega
          · omega
          · rw [h]; have := HF.out a ha; have := farK_pos t.ns a; omega
        have hB3 : 0 ≤ B ∧ B ≤ 3000 := by
          rcases wb with ⟨_, h⟩ | ⟨_, _, h⟩ | ⟨a, _, ha, h⟩
          · omega
          · omega
          · rw [h]; have := HF.out a ha; have := farK_pos t.ns a; omega
        obtain ⟨hA0, hA1⟩ := hA3
        obtain ⟨hB0, hB1⟩ := hB3
        have wa' : (¬ 0 ≤ n.a ∧ A = 0) ∨ (0 ≤ n.a ∧ ¬ n.a < k ∧ A = 0) ∨ ∃ (a : Nat) (G c : Nat), n.a = a ∧ a < k ∧ o = .slice (some ⟨G, 0, none⟩) k c ∧ wo.cell? ⟨G, a, none⟩ = some (.int .i64 A) ∧ G < wo.heap.size := by
          rcases wa with h | h | ⟨a, h1, h2, h3⟩
          · exact .inl h
          · exact .inr (.inl h)
          · obtain ⟨G, c, e1, e2, e3⟩ := hcell a h2
            exact .inr (.inr ⟨a, G, c, h1, h2, e1, by rw [h3]; exact e2, e3⟩)
        have wb' : (¬ 0 ≤ n.b ∧ B = 0) ∨ (0 ≤ n.b ∧ ¬ n.b < k ∧ B = 0) ∨ ∃ (a : Nat) (G c : Nat), n.b = a ∧ a < k ∧ o = .slice (some ⟨G, 0, none⟩) k c ∧ wo.cell? ⟨G, a, none⟩ = some (.int .i64 B) ∧ G < wo.heap.size := by
          rcases wb with h | h | ⟨a, h1, h2, h3⟩
          · exact .inl h
          · exact .inr (.inl h)
          · obtain ⟨G, c, e1, e2, e3⟩ := hcell a h2
            exact .inr (.inr ⟨a, G, c, h1, h2, e1, by rw [h3]; exact e2, e3⟩)
        have hrow2 := Lib.hid HROW.out
        clear wa wb hcell hfin hle hrow
        obtain ⟨op, na, nb, lo, hi', st⟩ := n
        dsimp only at *
        rcases wa' with ⟨a1, rfl⟩ | ⟨a1, a2, rfl⟩ | ⟨a, G, c, rfl, a1, rfl, a2, a3⟩
        all_goals rcases wb' with ⟨b1', rfl⟩ | ⟨b1', b2', rfl⟩ | ⟨b, G', c', rfl, b1', he, b2', b3'⟩
        all_goals (try (first | (simp only [Value.slice.injEq, Option.some.injEq, Addr.mk.injEq] at he; obtain ⟨⟨rfl, _⟩, _, rfl⟩ := he) | subst he))
        all_goals (
          go_wp2_with (at_builtin; refine wpList_append_own _ rfl _ _ 36 rfl (w.heap.size + 1) 3 i0 (.int .i64 0) 1 8 Tryz.underlying36 hi hz0 hz1 hz2 rfl (by decide) _ _ _ rfl ((HROW.out.alloc _).alloc _) ⟨wo.heap.size + 1, 0, none⟩ 1 1 [.int .i64 _] rfl rfl (by simpa using cell_one_new (wo.alloc _) _ _) (by simp [Value.oneCell']) (by unfold maxLen; omega) (by omega) (by simp; omega) ?_; intro v' w2 hown' hgrow _; go_must (have HR2 := Lib.hid (HFIN.out _ _ (by simpa using hown')); have HB2 := Lib.hid (((HBW.out.alloc (by omega) _).alloc (by simp; omega) _).grown hgrow (by simp; omega) (fun x hx => (hrow2.out.lt x hx).1)); clear hown' hgrow))
          all_goals first
            | (go_ret; exact ⟨true, rfl, .inl ⟨rfl, fun hnr => by have h3 := hnr.size k hlt; rw [HFK.out] at h3; omega⟩, B1.out.trans ((HBW.out.alloc (by omega) _).mono (by omega))⟩)
            | (go_roundw
               case rel => exact ⟨k + 1, _, by go_num, rfl, by omega, HR2.out, HLE.out (by omega), HB2.out⟩
               case measure => simp [intOf]; omega)
            | skip)
      · obtain rfl : k = t.ns.length := by omega
        have HK := Lib.hid HF.out
        clear hrow HF
        go_wp2
        go_loopw [7] (fun i wr => ∃ j : Nat, i = .int .i64 j ∧ j ≤ t.sets.length ∧ (∀ q, q < j → (nthL t.sets q).length ≤ 30) ∧ Below (w.heap.size + 1) W1 wr) (fun i _ => t.sets.length - (intOf i).toNat)
        case atStart => exact ⟨0, rfl, Nat.zero_le _, fun q hq => by omega, HBW.out⟩
        case round =>
          clear r0 r1 r2 hsz
          obtain ⟨j, rfl, hj, hq, hbq⟩ := hrel
          obtain ⟨r0, r1, r2⟩ := T0.out.next (hbq.mono (by omega))
          have hsz := hbq.size
          have HBQ := Lib.hid hbq
          have HQ := Lib.hid hq
          clear hbq hq
          by_cases hjl : j < t.sets.length
          · obtain ⟨gs, x, rfl, x1, x2⟩ := HS.out j hjl
            obtain ⟨xo, xcap, rfl, xm, _⟩ := x2.shape
            have y1 := cell_next x1 (B1.out.trans (HBQ.out.mono (by omega)))
            have hle : ¬ (30 < (nthL t.sets j).length) → ∀ q, q < j + 1 → (nthL t.sets q).length ≤ 30 := fun h q hq => by
              by_cases hqj : q = j
              · subst hqj; omega
              · exact HQ.out q (by omega)
            have HLE := Lib.hid hle
            have HEA := Lib.hid (fun (h : 30 < (nthL t.sets j).length) (hn : Near t) => show False by have := hn.each j hjl; omega)
            clear hle x1 x2
            by_cases h30 : 30 < (nthL t.sets j).length
            all_goals (generalize (nthL t.sets j).length = m at *)
            · have h30' : (30 : Int) < (m : Int) := by omega
              go_wp2
              go_ret
              exact ⟨true, rfl, .inl ⟨rfl, fun hn => HEA.out h30 hn⟩, B1.out.trans (HBQ.out.mono (by omega))⟩
            · have h30' : ¬ (30 : Int) < (m : Int) := by omega
              go_wp2
              go_roundw
              case rel => exact ⟨j + 1, by go_num, by omega, HLE.out h30, HBQ.out⟩
              case measure => simp [intOf]; omega
          · obtain rfl : j = t.sets.length := by omega
            go_wp2
            go_ret
            exact ⟨false, rfl, .inr ⟨rfl, l1, l2, HK.out, HQ.out⟩, B1.out.trans (HBQ.out.mono (by omega))⟩

noncomputable def farB (t : Tr) : Bool := @decide (¬ Near t) (Classical.propDecidable _)
theorem farB_no {t : Tr} (h : Near t) : farB t = false := by unfold farB; rw [@decide_eq_false_iff_not _ (Classical.propDecidable _)]; exact fun h' => h' h
theorem farB_yes {t : Tr} (h : ¬ Near t) : farB t = true := by unfold farB; rw [@decide_eq_true_iff _ (Classical.propDecidable _)]; exact h
theorem far_b (t : Tr) (v : Value) (w : World) (h : TreeAt w v t) :
    Calls Tryz.prog 31 #[v] w fun e w' => e = .returned (.bool (farB t)) ∧ Below w.heap.size w w' := by
  refine (far_any t v w h).mono ?_
  rintro e w' ⟨b, rfl, hb, h2⟩
  rcases hb with ⟨rfl, hn⟩ | ⟨rfl, hn⟩
  · exact ⟨by rw [farB_yes hn], h2⟩
  · exact ⟨by rw [farB_no hn], h2⟩

end Go.Proofs.YtbkafoaoddajoaaGreatDoor.Ar

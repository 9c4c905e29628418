/- The spans of a tree's nodes, the tree's, and the length of the shortest text. What is wrong with a rule. What is wrong with a spec. Each mode's rules, by their numbers: groups. A rule copied. The rules, mode by mode: Grouped. -/
import Derived.Test.YtgjiofkjogjhhaaGreatDoorPk08
import Derived.Test.YtgjiofkjogjhhaaGreatDoorPk15
import Derived.Deep.RegionWith
import Derived.Laws.EntriesVeiled
import Derived.Deep.Cut
import Derived.Test.YtgjiofkjogjhhaaGreatDoorPk13
import Derived.Test.YtgjiofkjogjhhaaGreatDoorPk04
import Derived.Laws.MakeOwn
import Derived.Laws.OwnMore
import Derived.Deep.AppendLies
import Derived.OwnWalk
import Derived.Test.YtgjiofkjogjhhaaGreatDoorPk10
import Derived.Test.YtgjiofkjogjhhaaGreatDoorPk01

namespace Go.Proofs.YtgjiofkjogjhhaaGreatDoor.Ms
open Go Go.RowKit Go.Shelf
open Go.Proofs.YtgjiofkjogjhhaaGreatDoor.Rp (heapA heapB belA)
open Go.Proofs.YtgjiofkjogjhhaaGreatDoor.Ar (Nd nd Tr Ok TreeAt TBox checkE check_any check_ok)
open Go.Proofs.YtgjiofkjogjhhaaGreatDoor.Rg (R RngsAt nthL own_next)

noncomputable def setsP (t : Tr) : List Sp := (List.range t.sets.length).map fun k => spL (nthL t.sets k)
theorem setsP_len (t : Tr) : (setsP t).length = t.sets.length := by simp [setsP]
theorem setsP_get (t : Tr) (k : Nat) : (setsP t).getD k z0 = if k < t.sets.length then spL (nthL t.sets k) else z0 := by
  unfold setsP
  by_cases h : k < t.sets.length <;> simp [List.getD, h]
theorem setsP_bd (t : Tr) (k : Nat) : Bd ((setsP t).getD k z0) := by
  rw [setsP_get]; split
  · exact spL_bd _
  · exact bd_z0
theorem setsP_no (t : Tr) (k : Nat) : ¬ nulS ((setsP t).getD k z0) := by
  rw [setsP_get]; split
  · exact spL_no _
  · rintro ⟨h, _⟩; simp [z0] at h
theorem below_drew1 {w : World} : Below w.heap.size w w.drew := ⟨rfl, rfl, rfl, Nat.le_refl _, fun _ _ => rfl⟩
theorem one_new (w : World) (v : Value) (T : TypeId) : (w.alloc (.cells #[v] T)).cell? ⟨w.heap.size, 0, none⟩ = some v := by rw [World.cell?_alloc_new]; rfl

set_option maxRecDepth 100000 in
set_option maxHeartbeats 8000000 in
theorem spans_any (t : Tr) (ok : Ok t) (hl1 : t.ns.length ≤ 4096) (hl2 : t.sets.length ≤ 4096) (h30 : ∀ k, k < t.sets.length → (nthL t.sets k).length ≤ 30) (v : Value) (w : World) (h : TreeAt w v t) :
    Calls Tryz.prog 112 #[v] w fun e w' => ∃ v', e = .returned v' ∧ SpsAt w' v' (allS t (setsP t)) ∧ Below w.heap.size w w' := by
  obtain ⟨i0, hi, hz0, hz1, hz2⟩ := info_parts infoSp
  have HV := Lib.hid h
  obtain ⟨ao, cap, so, scap, rfl, hm, hm2, _, hs⟩ := h.shape
  have HS := Lib.hid hs
  have H30 := Lib.hid h30
  have T0 := Lib.hid (TBox.new w (.slice ao t.ns.length cap) (.slice so t.sets.length scap) t.root)
  have b1 := (Below.refl w.heap.size w).alloc (Nat.le_refl _) (.cells #[.slice ao t.ns.length cap, .slice so t.sets.length scap, .int .i64 t.root] 38)
  have B1 := Lib.hid b1
  have UP := Lib.hid (fun bx vs v X (h1 : TreeAt X v t) (h2 : X.cell? ⟨bx, 0, none⟩ = some vs) (h3 : SpsAt X vs (setsP t)) => up_any t ok hl1 (setsP t) (setsP_len t) (setsP_bd t) bx vs v X h1 h2 h3)
  obtain ⟨RR, hRR⟩ : ∃ RR : Nat → Sp, ∀ k, RR k = spL (nthL t.sets k) := ⟨_, fun _ => rfl⟩
  have HRR := Lib.hid hRR
  have HEND : Hid (partS RR t.sets.length t.sets.length = setsP t) := Lib.hid (by rw [partS_end]; unfold setsP; exact List.map_congr_left fun i _ => hRR i)
  have HPL := Lib.hid (setsP_len t)
  generalize setsP t = AL at *
  clear hs h ok hRR b1 h30
  go_enter Tryz.func112, Tryz.ntmps112
  go_wp2_with (first
    | (at_make; refine wpList_make_full _ rfl _ _ 133 rfl (w.heap.size + 1) 124 i0 (.agg #[.bool false, .bool false, .int .i64 0, .int .i64 0]) 4 Tryz.underlying133 hi hz0 hz1 .i64 .i64 t.sets.length t.sets.length t.sets.length rfl rfl rfl rfl (by rw [hz2]; omega) (by unfold maxLen; omega) (by simp) ?_; intro w2 hown2 hgrow2; go_must (rw [partS_start RR] at hown2; have BB := Lib.hid ((Below.refl (w.heap.size + 1) _).grown hgrow2 (by simp) (fun k hk => by cases hk)); obtain ⟨r0, r1, r2⟩ := T0.out.next (BB.out.mono (by simp)); have hws := cell_lt r0; have ROW := Lib.hid hown2; clear hown2 hgrow2))
    | fail)
  have hsB := BB.out.size
  rw [World.size_alloc] at hsB
  obtain ⟨L, hL'⟩ : ∃ L, L = w.heap.size + 1 := ⟨_, rfl⟩
  have ROW' := ROW.out
  rw [World.size_alloc, ← hL'] at ROW'
  have ROW2 := Lib.hid ROW'
  clear ROW ROW'
  have hl2' := (ROW2.out.lt _ rfl).2
  rw [← hL']
  have T1 := Lib.hid T0.out
  have BW := Lib.hid B1.out
  have hW1s : (w.alloc (.cells #[.slice ao t.ns.length cap, .slice so t.sets.length scap, .int .i64 t.root] 38)).heap.size = w.heap.size + 1 := World.size_alloc _ _
  clear T0 B1
  generalize w.alloc (.cells #[.slice ao t.ns.length cap, .slice so t.sets.length scap, .int .i64 t.root] 38) = W1 at *
  have HL := Lib.hid hL'
  have hbs : Below (w.heap.size + 1) W1 (w2.alloc (.cells #[.slice (some ⟨L, 0, none⟩) t.sets.length t.sets.length] 133)) := BB.out.alloc hsB _
  have rbs := one_new w2 (.slice (some ⟨L, 0, none⟩) t.sets.length t.sets.length) 133
  have robs := own_next ROW2.out ((Below.refl w2.heap.size w2).alloc (Nat.le_refl _) (.cells #[.slice (some ⟨L, 0, none⟩) t.sets.length t.sets.length] 133))
  have hLb : L < w2.heap.size := hl2'
  have RBS := Lib.hid rbs
  have ROBS := Lib.hid robs
  have HBS := Lib.hid hbs
  clear rbs robs hbs hL' hl2' ROW2 BB
  generalize w2.alloc (.cells #[.slice (some ⟨L, 0, none⟩) t.sets.length t.sets.length] 133) = W2 at *
  clear r0 r1 r2 hws hsB
  generalize w2.heap.size = bs at *
  clear w2
  go_loopw [13] (fun i wr => ∃ k : Nat, i = .int .i64 k ∧ k ≤ t.sets.length ∧ wr.ownsRow (w.heap.size + 1) 124 4 (.slice (some ⟨L, 0, none⟩) t.sets.length t.sets.length) t.sets.length (flatS (partS RR t.sets.length k)) ∧ wr.cell? ⟨bs, 0, none⟩ = some (.slice (some ⟨L, 0, none⟩) t.sets.length t.sets.length) ∧ Below (w.heap.size + 1) W1 wr) (fun i _ => t.sets.length - (intOf i).toNat)
  case atStart => exact ⟨0, rfl, Nat.zero_le _, by have := ROBS.out; rw [HL.out] at this ⊢; exact this, RBS.out, HBS.out⟩
  case round =>
    obtain ⟨k, rfl, hk, hrow, hbx, hbw⟩ := hrel
    obtain ⟨wo, rfl⟩ : ∃ x, x = wr := ⟨_, rfl⟩
    have hB := BW.out.trans (hbw.mono (by omega))
    have hLs : L < wo.heap.size := (hrow.lt _ rfl).2
    have hbl := cell_lt hbx
    by_cases hlt : k < t.sets.length
    · obtain ⟨g, x, rfl, c0, hx⟩ := HS.out k hlt
      have c1 := cell_next c0 hB
      have h30 := H30.out k hlt
      have C := Lib.hid (fun X (hX : Below wo.heap.size wo X) => spanOf_any (nthL t.sets k) x X ((hx.next hB).next hX) (by omega))
      rw [← HRR.out k] at C
      unfold aggS at C
      have ROWk := Lib.hid hrow
      have HBW := Lib.hid hbw
      have hne : bs ≠ L := by omega
      have hi0 : (0 : Int) ≤ k := by omega
      have hi1 : (k : Int) < (t.sets.length : Int) := by omega
      have hszl : w.heap.size + 1 ≤ wo.heap.size := by have := hbw.size; omega
      clear hrow hbw hB hx c0
      go_wp2
      go_region_held3 (fun W => W.cell? ⟨bs, 0, none⟩ = some (.slice (some ⟨L, 0, none⟩) t.sets.length t.sets.length)) (first | with_reducible exact hbx | with_reducible exact kbx | with_reducible exact cell_drew (put4k kbx (.inl hne) _ _ _ _) | with_reducible exact put4k kbx (.inl hne) _ _ _ _ | go_keep) (first
        | (go_at_call 120; (with_reducible refine (C.out _ below_drew1).mono ?_); rintro e w5 ⟨rfl, hb5'⟩; go_must (have hb5 := drew_back hb5'; have kbx := cell_next hbx hb5; have hL5 := own_next ROWk.out hb5; obtain ⟨e0, e1, e2, e3⟩ := cellsrow hL5 (partS_len _ _ _) hlt; dsimp only at e0 e1 e2 e3; have f0 := hL5.frozenAt (k * 4); have f1 := hL5.frozenAt (k * 4 + 1); have f2 := hL5.frozenAt (k * 4 + 2); have f3 := hL5.frozenAt (k * 4 + 3); have S1 := Lib.hid (row_put hL5 hlt); have B5 := Lib.hid (HBW.out.trans (hb5.mono hszl)); have l5 : L < w5.heap.size := (hL5.lt _ rfl).2; clear hb5 hb5' hL5))
        | fail)
      all_goals (
        (try go_wp2)
        go_roundw
        case rel => exact ⟨k + 1, by go_num, by omega, S1.out, put4k kbx (.inl hne) _ _ _ _, put_below B5.out (by have := HL.out; omega)⟩
        case measure => simp [intOf]; omega)
    · obtain rfl : k = t.sets.length := by omega
      rw [HEND.out] at hrow
      have hlen := HPL.out
      have HZ : SpsAt wo (.slice (some ⟨L, 0, none⟩) AL.length t.sets.length) AL := sps_of_row (B := w.heap.size + 1) (by show wo.ownsRow (w.heap.size + 1) 124 4 _ AL.length (flatS AL); rw [hlen]; exact hrow)
      rw [hlen] at HZ
      obtain ⟨q0, q1, q2⟩ := T1.out.next (hbw.mono (by omega))
      have U := Lib.hid (UP.out bs _ _ wo (HV.out.next hB) hbx HZ)
      have HB := Lib.hid hB
      clear hrow hbw hB HZ hlen
      go_wp2_with (first
        | (go_at_call 121; (with_reducible refine U.out.mono ?_); rintro e w5 ⟨v', rfl, h1, h2⟩; go_must (have H1 := Lib.hid h1; have H2 := Lib.hid (HB.out.trans (h2.mono HB.out.size)); clear h1 h2))
        | fail)
      go_ret
      exact ⟨v', rfl, H1.out, H2.out⟩

/-- a tree's span -/
noncomputable def wholeS (t : Tr) : Sp := if checkE t = 0 then spn t.ns (setsP t) t.root.toNat else z0
noncomputable def leastV (t : Tr) : Int := if (wholeS t).has = true then (wholeS t).le else -1
theorem least_zero {t : Tr} (hc : checkE t = 0) : leastV t = 0 ↔ Dv.den t.ns t.sets t.root.toNat [] := by
  obtain ⟨ok, _, _⟩ := check_ok hc
  have hr0 := ok.root0
  have hr1 := ok.root1
  have h := nul_den (S := t.sets) ok.node (setsP_bd t) (setsP_no t) t.root.toNat (by omega)
  rw [← h]
  unfold leastV wholeS nulS
  rw [if_pos hc]
  by_cases hh : (spn t.ns (setsP t) t.root.toNat).has = true
  · rw [if_pos hh]; simp [hh]
  · rw [if_neg hh]; simp [hh]

set_option maxRecDepth 100000 in
set_option maxHeartbeats 4000000 in
theorem whole_any (t : Tr) (h30 : ∀ k, k < t.sets.length → (nthL t.sets k).length ≤ 30) (v : Value) (w : World) (h : TreeAt w v t) :
    Calls Tryz.prog 99 #[v] w fun e w' => e = .returned (aggS (wholeS t)) ∧ Below w.heap.size w w' := by
  have HV := Lib.hid h
  obtain ⟨ao, cap, so, scap, rfl, _, _, _, _⟩ := h.shape
  have hb : Below w.heap.size w ((w.alloc (.cells #[.slice ao t.ns.length cap, .slice so t.sets.length scap, .int .i64 t.root] 38)).alloc (.cells #[.bool false, .bool false, .int .i64 0, .int .i64 0] 124)) := belA (belA (Below.refl _ _))
  have x0 : ((w.alloc (.cells #[.slice ao t.ns.length cap, .slice so t.sets.length scap, .int .i64 t.root] 38)).alloc (.cells #[.bool false, .bool false, .int .i64 0, .int .i64 0] 124)).heap[w.heap.size]? = some (.cells #[.slice ao t.ns.length cap, .slice so t.sets.length scap, .int .i64 t.root] 38 (0, 0)) := heapB (heapA rfl)
  have x2 : ((w.alloc (.cells #[.slice ao t.ns.length cap, .slice so t.sets.length scap, .int .i64 t.root] 38)).alloc (.cells #[.bool false, .bool false, .int .i64 0, .int .i64 0] 124)).heap[w.heap.size + 1]? = some (.cells #[.bool false, .bool false, .int .i64 0, .int .i64 0] 124 (0, 0)) := heapA (by simp)
  have C := Lib.hid (check_any t _ _ (HV.out.next hb))
  have SPN := Lib.hid (fun (hc : checkE t = 0) X (hX : Below w.heap.size w X) => spans_any t (check_ok hc).1 (check_ok hc).2.1 (check_ok hc).2.2 h30 _ X (HV.out.next hX))
  have X0 := Lib.hid x0
  have X2 := Lib.hid x2
  have HB := Lib.hid hb
  by_cases hc : checkE t = 0
  · obtain ⟨ok, _, _⟩ := check_ok hc
    obtain ⟨q, hq⟩ := Int.eq_ofNat_of_zero_le ok.root0
    have hr1 := ok.root1
    have hqn : q < t.ns.length := by omega
    have S1 := Lib.hid (SPN.out hc)
    have HW : Hid (wholeS t = (allS t (setsP t)).getD q z0) := Lib.hid (by unfold wholeS; rw [if_pos hc, allS_at hqn, hq]; rfl)
    have HLn := Lib.hid (allS_len t (setsP t))
    rw [HW.out]
    generalize allS t (setsP t) = AL at *
    have hq2 : q < AL.length := by have := HLn.out; omega
    have HSP : Hid (∀ w5 v', SpsAt w5 v' AL → ∃ ad cap', v' = .slice (some ad) AL.length cap' ∧ SpIn w5 (ad.add (q * 4)) (AL.getD q z0)) := Lib.hid fun w5 v' h => by
      obtain ⟨ao', cap', rfl, _, hin⟩ := h.shape
      obtain ⟨ad, rfl, sp⟩ := hin q hq2
      exact ⟨ad, cap', rfl, sp⟩
    generalize AL.getD q z0 = s at *
    unfold aggS
    rw [hc] at C
    rw [hq] at x0 x2 hb C S1 X0 X2 HB ⊢
    clear SPN h30 hc ok hq hr1 h HV HW hb x0 x2 hq2
    go_enter Tryz.func99, Tryz.ntmps99
    go_upto_region 1 with fail
    generalize (w.alloc (.cells #[.slice ao t.ns.length cap, .slice so t.sets.length scap, .int .i64 (q : Int)] 38)).alloc (.cells #[.bool false, .bool false, .int .i64 0, .int .i64 0] 124) = W1 at *
    have c0 : W1.cell? ⟨w.heap.size, 0, none⟩ = some (.slice ao t.ns.length cap) := by rw [Lib.cell_of_heap X0.out]; rfl
    have c1 : W1.cell? ⟨w.heap.size, 1, none⟩ = some (.slice so t.sets.length scap) := by rw [Lib.cell_of_heap X0.out]; rfl
    have c2 : W1.cell? ⟨w.heap.size, 2, none⟩ = some (.int .i64 (q : Int)) := by rw [Lib.cell_of_heap X0.out]; rfl
    go_upto_region 3 with (first
      | (go_at_call 61; (with_reducible refine C.out.mono ?_); rintro e w2 ⟨rfl, hb2⟩; go_must (have k0 := cell_next c0 hb2; have k1 := cell_next c1 hb2; have k2 := cell_next c2 hb2; have HB2 := Lib.hid (HB.out.trans (hb2.mono HB.out.size)); have X3 := Lib.hid (heap_below X2.out hb2); clear hb2 c0 c1 c2))
      | fail)
    have iq0 : (0 : Int) ≤ q := by omega
    have iq1 : (q : Int) < (AL.length : Int) := by have := HLn.out; omega
    have SX := Lib.hid (S1.out _ (below_drew HB2.out))
    have n0 : w.heap.size ≠ w.heap.size + 1 := by omega
    have lw2 := cell_lt k0
    clear HLn hqn S1
    go_region_with (first
      | (go_at_call 112; (with_reducible refine (SX.out).mono ?_); rintro e w5 ⟨v', rfl, hs, hb5'⟩; go_must (have hb5 := drew_back hb5'; obtain ⟨ad, cap', rfl, s0, s1, s2, s3⟩ := HSP.out _ _ hs; have kk2 := cell_next k2 hb5; have X5 := Lib.hid (heap_below X3.out hb5); obtain ⟨e0, e1, e2, e3⟩ := cells_sp X5.out; have f0 := Lib.frozen_of_heap X5.out 0; have f1 := Lib.frozen_of_heap X5.out 1; have f2 := Lib.frozen_of_heap X5.out 2; have f3 := Lib.frozen_of_heap X5.out 3; have l3 := (Array.getElem?_eq_some_iff.1 X5.out).1; have B5 := Lib.hid (HB2.out.trans (hb5.mono HB2.out.size)); clear hb5 hb5' hs))
      | fail)
    all_goals (
      (try go_wp2)
      (try simp only [Exit.inBlock, Exit.then])
      refine bodyPost_ret (results_cell_row rfl _ _ (w.heap.size + 1) 124 #[.bool s.has, .bool s.en, .int .i64 s.le, .int .i64 s.mo] (0, 0) _ rfl (set_sp X5.out _ _ _ _) Tryz.underlying124 rfl (by kernel_rfl)) rfl ?_
      exact ⟨rfl, below_sp B5.out (by omega) _ _ _ _⟩)
  · have hne : (checkE t != 0) = true := by simpa using hc
    have hz : wholeS t = z0 := by unfold wholeS; rw [if_neg hc]
    rw [hz]
    generalize checkE t = E at *
    clear SPN h30 hc h HV hb x0 x2 hz X0
    unfold aggS z0
    go_enter Tryz.func99, Tryz.ntmps99
    go_wp2_with (first
      | (go_at_call 61; (with_reducible refine C.out.mono ?_); rintro e w2 ⟨rfl, hb2⟩; go_must (have HB2 := Lib.hid (HB.out.trans (hb2.mono HB.out.size)); have X5 := Lib.hid (heap_below X2.out hb2); obtain ⟨e0, e1, e2, e3⟩ := cells_sp X5.out; have f0 := Lib.frozen_of_heap X5.out 0; have f1 := Lib.frozen_of_heap X5.out 1; have f2 := Lib.frozen_of_heap X5.out 2; have f3 := Lib.frozen_of_heap X5.out 3; clear hb2))
      | fail)
    (try simp only [Exit.inBlock, Exit.then])
    refine bodyPost_ret (results_cell_row rfl _ _ (w.heap.size + 1) 124 #[.bool false, .bool false, .int .i64 0, .int .i64 0] (0, 0) _ rfl (set_sp X5.out _ _ _ _) Tryz.underlying124 rfl (by kernel_rfl)) rfl ?_
    exact ⟨rfl, below_sp HB2.out (by omega) _ _ _ _⟩

set_option maxRecDepth 100000 in
set_option maxHeartbeats 2000000 in
theorem least_any (t : Tr) (h30 : ∀ k, k < t.sets.length → (nthL t.sets k).length ≤ 30) (v : Value) (w : World) (h : TreeAt w v t) :
    Calls Tryz.prog 74 #[v] w fun e w' => e = .returned (.int .i64 (leastV t)) ∧ Below w.heap.size w w' := by
  have HV := Lib.hid h
  obtain ⟨ao, cap, so, scap, rfl, _, _, _, _⟩ := h.shape
  have hb := (Below.refl w.heap.size w).alloc (Nat.le_refl _) (.cells #[.slice ao t.ns.length cap, .slice so t.sets.length scap, .int .i64 t.root] 38)
  have C := Lib.hid (whole_any t h30 _ _ (HV.out.next hb))
  have HB := Lib.hid hb
  unfold leastV
  clear h HV hb h30
  generalize wholeS t = s at *
  obtain ⟨sh, se, sl, sm⟩ := s
  unfold aggS at C
  simp only at C ⊢
  cases sh
  all_goals (
    go_enter Tryz.func74, Tryz.ntmps74
    go_wp2_with (first
      | (go_at_call 99; (with_reducible refine C.out.mono ?_); rintro e w2 ⟨rfl, hb2⟩; go_must (have HB2 := Lib.hid ((HB.out.trans (hb2.mono HB.out.size))); clear hb2))
      | fail)
    go_ret
    exact ⟨by simp, belA HB2.out⟩)
end Go.Proofs.YtgjiofkjogjhhaaGreatDoor.Ms

namespace Go.Proofs.YtgjiofkjogjhhaaGreatDoor.Sp
open Go Go.RowKit Go.Shelf
open Go.Proofs.YtgjiofkjogjhhaaGreatDoor.Wd (nameL)
open Go.Proofs.YtgjiofkjogjhhaaGreatDoor.Ac (bE)
open Go.Proofs.YtgjiofkjogjhhaaGreatDoor.Ar (Tr TreeAt checkE check_ok)
open Go.Proofs.YtgjiofkjogjhhaaGreatDoor.Rg (nthL)
open Go.Proofs.YtgjiofkjogjhhaaGreatDoor.Rp (deepL heapA heapB belA)
open Go.Proofs.YtgjiofkjogjhhaaGreatDoor.Ms (leastV least_any least_zero)

/-- what a rule's looks may take for granted -/
structure Fit (r : Rl) : Prop where
  em : r.em.size ≤ 1000000
  each : ∀ k, k < r.t.sets.length → (nthL r.t.sets k).length ≤ 30
section
variable {R S : Nat} {r : Rl} {no : Option Addr} {ncap : Nat} {so : Option Addr} {scap : Nat} {M : List ByteArray} {l : List Rl} {mo : Option Addr} {mcap : Nat} {ro : Option Addr} {rcap : Nat} {w : World}
theorem look5 (h : RB R r no ncap so scap w) (hc : checkE r.t = 0) (hf : Fit r) :
    Calls Tryz.prog 73 #[.pointer (some ⟨R, 0, none⟩)] w fun e w' => e = .returned (.int .i64 (eIf (nulT r.t) 8)) ∧ Below w.heap.size w w' := by
  have C1 := Lib.hid (least_any r.t hf.each _ w h.hT)
  have HN : Hid ((leastV r.t == 0) = nulT r.t) := Lib.hid (by rw [Bool.eq_iff_iff, beq_iff_eq, nulT_iff]; exact least_zero hc)
  have T := Lib.hid (fun b W => told_any b 8 W)
  obtain ⟨a0, a1, a2, a3, a4, a5⟩ := h.cells
  clear h hc hf
  have HR : Hid (∀ b, nulT r.t = b → Ending.returned (.int .i64 (eIf b 8)) = .returned (.int .i64 (eIf (nulT r.t) 8))) := Lib.hid fun b h => by rw [h]
  generalize nulT r.t = N at *
  generalize leastV r.t = x at *
  go_enter Tryz.func73, Tryz.ntmps73
  go_wp2_with (first
    | (go_at_call 74; (with_reducible refine C1.out.mono ?_); rintro e w1 ⟨rfl, hb1⟩; go_must (have B1 := Lib.hid hb1; clear hb1))
    | (go_at_call 27; (with_reducible refine (T.out _ _).mono ?_); rintro e w2 ⟨rfl, hw⟩; subst hw)
    | fail)
  go_ret
  exact ⟨HR.out _ HN.out.symm, B1.out⟩

def kRule : Nat → FuncId
  | 0 => 68
  | 1 => 69
  | 2 => 70
  | 3 => 71
  | _ => 73
def bRule (R S : Nat) : Nat → Array Value
  | 0 => #[.pointer (some ⟨R, 0, none⟩), .pointer (some ⟨S, 0, none⟩)]
  | _ => #[.pointer (some ⟨R, 0, none⟩)]
noncomputable def eRule (m : Nat) (r : Rl) (i : Nat) : Int := (ruleL m r).getD i 0
theorem eRule_list (m : Nat) (r : Rl) : listE (eRule m r) 5 = ruleL m r := rfl
theorem enters_rule (i : Nat) (hi : i < 5) : Enters Tryz.prog (kRule i) := by
  match i, hi with
  | 0, _ => exact enters_of Tryz.func68 (by kernel_rfl) rfl
  | 1, _ => exact enters_of Tryz.func69 (by kernel_rfl) rfl
  | 2, _ => exact enters_of Tryz.func70 (by kernel_rfl) rfl
  | 3, _ => exact enters_of Tryz.func71 (by kernel_rfl) rfl
  | 4, _ => exact enters_of Tryz.func73 (by kernel_rfl) rfl
theorem looks_rule (h : RB R r no ncap so scap w) (k : SB S M l mo mcap ro rcap w) (hf : Fit r) (i : Nat) (hi : i < 5) (hz : ∀ j, j < i → eRule M.length r j = 0) (W : World) (hW : Below w.heap.size w W) :
    Calls Tryz.prog (kRule i) (bRule R S i) W fun e W' => e = .returned (.int .i64 (eRule M.length r i)) ∧ Below W.heap.size W W' := by
  match i, hi with
  | 0, _ => exact look1 (h.next hW) (k.next hW)
  | 1, _ => exact look2 (h.next hW) hf.em
  | 2, _ => exact look3 (h.next hW)
  | 3, _ => exact look4 (h.next hW) (hz 2 (by omega))
  | 4, _ => exact look5 (h.next hW) (hz 2 (by omega)) hf
theorem row_rule {X : World} {g R S : Nat} (h : X.heap[g]? = some (.cells #[.func (.func 68) #[] #[.pointer (some ⟨R, 0, none⟩), .pointer (some ⟨S, 0, none⟩)], .func (.func 69) #[] #[.pointer (some ⟨R, 0, none⟩)], .func (.func 70) #[] #[.pointer (some ⟨R, 0, none⟩)], .func (.func 71) #[] #[.pointer (some ⟨R, 0, none⟩)], .func (.func 73) #[] #[.pointer (some ⟨R, 0, none⟩)]] 65 (0, 0))) (i : Nat) (hi : i < 5) :
    X.cell? ((⟨g, 0, none⟩ : Addr).add i) = some (lookV (kRule i) (bRule R S i)) := by
  rw [Rg.add_zero, Lib.cell_of_heap h]
  match i, hi with
  | 0, _ => rfl
  | 1, _ => rfl
  | 2, _ => rfl
  | 3, _ => rfl
  | 4, _ => rfl

set_option maxRecDepth 100000 in
set_option maxHeartbeats 2000000 in
theorem ofRule_any (r : Rl) (M : List ByteArray) (l : List Rl) (v1 v2 : Value) (w : World) (h1 : RuleAt w v1 r) (h2 : SpecAt w v2 M l) (hf : Fit r) :
    Calls Tryz.prog 50 #[v1, v2] w fun e w' => e = .returned (.int .i64 (ruleE M.length r)) ∧ Below w.heap.size w w' := by
  obtain ⟨no, ncap, so, scap, rfl, ht⟩ := h1
  have HS := Lib.hid h2
  obtain ⟨mo, mcap, ro, rcap, rfl, _, _, _, _, _⟩ := h2.shape
  have hb : Below w.heap.size w ((w.alloc (.cells #[.int .i64 r.mode, .slice no r.t.ns.length ncap, .slice so r.t.sets.length scap, .int .i64 r.t.root, .string r.em, .int .i64 r.go] 40)).alloc (.cells #[.slice mo M.length mcap, .slice ro l.length rcap] 25)) := belA (belA (Below.refl _ _))
  have k1 : RB w.heap.size r no ncap so scap ((w.alloc (.cells #[.int .i64 r.mode, .slice no r.t.ns.length ncap, .slice so r.t.sets.length scap, .int .i64 r.t.root, .string r.em, .int .i64 r.go] 40)).alloc (.cells #[.slice mo M.length mcap, .slice ro l.length rcap] 25)) := ⟨heapB (heapA rfl), ht.next hb⟩
  have k2 : SB (w.heap.size + 1) M l mo mcap ro rcap ((w.alloc (.cells #[.int .i64 r.mode, .slice no r.t.ns.length ncap, .slice so r.t.sets.length scap, .int .i64 r.t.root, .string r.em, .int .i64 r.go] 40)).alloc (.cells #[.slice mo M.length mcap, .slice ro l.length rcap] 25)) := ⟨heapA (by simp), HS.out.next hb⟩
  have HB := Lib.hid hb
  have F := Lib.hid (fun X (hX : Below ((w.alloc (.cells #[.int .i64 r.mode, .slice no r.t.ns.length ncap, .slice so r.t.sets.length scap, .int .i64 r.t.root, .string r.em, .int .i64 r.go] 40)).alloc (.cells #[.slice mo M.length mcap, .slice ro l.length rcap] 25)).heap.size ((w.alloc (.cells #[.int .i64 r.mode, .slice no r.t.ns.length ncap, .slice so r.t.sets.length scap, .int .i64 r.t.root, .string r.em, .int .i64 r.go] 40)).alloc (.cells #[.slice mo M.length mcap, .slice ro l.length rcap] 25)) X) g hg => first_any 5 kRule (bRule w.heap.size (w.heap.size + 1)) (eRule M.length r) ⟨g, 0, none⟩ X (row_rule hg) enters_rule (fun i hi hz W hW => looks_rule (k1.next hX) (k2.next hX) hf i hi hz W hW) (by omega))
  rw [eRule_list] at F
  rw [show ruleE M.length r = firstE (ruleL M.length r) from rfl]
  clear h2 ht k1 k2 hb HS
  generalize firstE (ruleL M.length r) = E at *
  go_enter Tryz.func50, Tryz.ntmps50
  go_upto_region 1 with fail
  generalize (w.alloc (.cells #[.int .i64 r.mode, .slice no r.t.ns.length ncap, .slice so r.t.sets.length scap, .int .i64 r.t.root, .string r.em, .int .i64 r.go] 40)).alloc (.cells #[.slice mo M.length mcap, .slice ro l.length rcap] 25) = W1 at *
  go_wp2_with (first
    | (go_at_call 25; (refine (F.out _ (belA (Below.refl _ _)) _ (heapA rfl)).mono ?_); rintro e w1 ⟨rfl, hb1⟩; go_must (have B1 := Lib.hid (HB.out.trans ((belA (Below.refl _ _)).trans (hb1.mono (by simp)) |>.mono HB.out.size)); clear hb1))
    | fail)
  go_ret
  exact ⟨rfl, B1.out⟩
end
end Go.Proofs.YtgjiofkjogjhhaaGreatDoor.Sp

namespace Go.Proofs.YtgjiofkjogjhhaaGreatDoor.Sp
open Go Go.RowKit Go.Shelf
open Go.Proofs.YtgjiofkjogjhhaaGreatDoor.Wd (nameL)
open Go.Proofs.YtgjiofkjogjhhaaGreatDoor.Ac (bE)
open Go.Proofs.YtgjiofkjogjhhaaGreatDoor.Ar (Tr TreeAt checkE check_ok)
open Go.Proofs.YtgjiofkjogjhhaaGreatDoor.Rp (heapA heapB belA)

/-- what a spec's looks may take for granted -/
structure FitS (M : List ByteArray) (l : List Rl) : Prop where
  names : ∀ j, j < M.length → (M.getD j bE).size ≤ 1000000
  rules : ∀ i, i < l.length → Fit (rl l i)
section
variable {S : Nat} {M : List ByteArray} {l : List Rl} {mo : Option Addr} {mcap : Nat} {ro : Option Addr} {rcap : Nat} {w : World}

theorem mapE_at {l : List Rl} {m i : Nat} (h : i < l.length) : (l.map (ruleE m)).getD i 0 = ruleE m (rl l i) := by simp [List.getD, h, rl]
set_option maxRecDepth 100000 in
set_option maxHeartbeats 2000000 in
theorem ofRules_any (v : Value) (hv : SpecAt w v M l) (hf : FitS M l) :
    Calls Tryz.prog 34 #[v] w fun e w' => e = .returned (.int .i64 (rulesE M.length l)) ∧ Below w.heap.size w w' := by
  have HV := Lib.hid hv
  obtain ⟨mo, mcap, ro, rcap, rfl, hm, hl, _, hr, _⟩ := hv.shape
  obtain ⟨ao, cap, e, _, hc⟩ := hr.shape
  simp only [Value.slice.injEq] at e
  obtain ⟨rfl, _, rfl⟩ := e
  have HC := Lib.hid hc
  have b1 := (Below.refl w.heap.size w).alloc (Nat.le_refl _) (.cells #[.slice mo M.length mcap, .slice ro l.length rcap] 25)
  have S0 := Lib.hid (SBox.new w (.slice mo M.length mcap) (.slice ro l.length rcap))
  have OR := Lib.hid (fun i (hi : i < l.length) X (hX : Below w.heap.size w X) v1 (h1 : RuleAt X v1 (rl l i)) => ofRule_any (rl l i) M l v1 _ X h1 (HV.out.next hX) (hf.rules i hi))
  have NO : Hid ((∀ j, j < l.length → ruleE M.length (rl l j) = 0) → rulesE M.length l = 0) := Lib.hid (fun hz => firstE_none (l := l.map (ruleE M.length)) (fun j hj => by rw [List.length_map] at hj; rw [mapE_at hj]; exact hz j hj))
  have YES : Hid (∀ i, i < l.length → (∀ j, j < i → ruleE M.length (rl l j) = 0) → ruleE M.length (rl l i) ≠ 0 → rulesE M.length l = ruleE M.length (rl l i)) := Lib.hid (fun i hi hz hne => (firstE_at (l := l.map (ruleE M.length)) (i := i) (by rw [List.length_map]; exact hi) (fun j hj => by rw [mapE_at (by omega)]; exact hz j hj) (by rw [mapE_at hi]; exact hne)).trans (mapE_at hi))
  have B1 := Lib.hid b1
  clear hr hv hc b1 hf
  generalize rulesE M.length l = F at *
  go_enter Tryz.func34, Tryz.ntmps34
  go_upto_region 1 with fail
  have hW1s : (w.alloc (.cells #[.slice mo M.length mcap, .slice ro l.length rcap] 25)).heap.size = w.heap.size + 1 := World.size_alloc _ _
  generalize w.alloc (.cells #[.slice mo M.length mcap, .slice ro l.length rcap] 25) = W1 at *
  obtain ⟨s0, s1⟩ := S0.out
  go_wp2
  go_loopw [9] (fun i wr => ∃ k : Nat, k ≤ l.length ∧ i = .int .i64 k ∧ (∀ j, j < k → ruleE M.length (rl l j) = 0) ∧ Below W1.heap.size W1 wr) (fun i _ => l.length - (intOf i).toNat)
  case atStart => exact ⟨0, by omega, rfl, fun j hj => by omega, Below.refl _ _⟩
  case round =>
    clear s0 s1
    obtain ⟨k, hk, rfl, hz, hb⟩ := hrel
    obtain ⟨wo, rfl⟩ : ∃ x, x = wr := ⟨_, rfl⟩
    have HZ0 := Lib.hid hz
    have HB := Lib.hid (B1.out.trans (hb.mono (by omega)))
    have HBW := Lib.hid hb
    obtain ⟨s0, s1⟩ := S0.out.next hb
    have ls := cell_lt s0
    by_cases hlt : k < l.length
    · obtain ⟨g, rfl, no, ncap, so, scap, hin⟩ := HC.out k hlt
      have hin1 := hin.next HB.out
      obtain ⟨c0, c1, c2, c3, c4, c5, ct⟩ := hin1
      have OK := Lib.hid (OR.out k hlt)
      have Y1 := Lib.hid (YES.out k hlt hz)
      have Z1 : Hid (ruleE M.length (rl l k) = 0 → ∀ j, j < k + 1 → ruleE M.length (rl l j) = 0) := Lib.hid (fun h j hj => by
        rcases Nat.lt_or_ge j k with h' | h'
        · exact HZ0.out j h'
        · obtain rfl : j = k := by omega
          exact h)
      have h0i : (0 : Int) ≤ k := by omega
      have h1i : (k : Int) < (l.length : Int) := by omega
      have RA := Lib.hid (show RuleAt wo _ (rl l k) from ⟨no, ncap, so, scap, rfl, ct⟩)
      clear hz hb hin ct
      generalize rl l k = r at *
      have CK := Lib.hid (fun X (hX : Below wo.heap.size wo X) => OK.out X (HB.out.trans (hX.mono HB.out.size)) _ (RA.out.next hX))
      by_cases he : ruleE M.length r = 0
      · have HZ := Lib.hid (Z1.out he)
        rw [he] at CK
        clear he Y1 Z1 OK OR
        go_wp2_with (first
          | (go_at_call 50; (with_reducible refine (CK.out _ (belA (Below.refl _ _))).mono ?_); rintro e w1 ⟨rfl, hb1⟩; go_must (have B2 := Lib.hid (HBW.out.trans (((belA (Below.refl _ _)).trans (hb1.mono (by simp))).mono HBW.out.size)); clear hb1))
          | fail)
        go_roundw
        case rel => exact ⟨k + 1, by omega, by go_num, HZ.out, B2.out⟩
        case measure => simp [intOf]; omega
      · have HF := Lib.hid (Y1.out he)
        have d0 : (ruleE M.length r != 0) = true := by simpa using he
        clear he Y1 Z1 OK OR
        generalize ruleE M.length r = x at *
        go_wp2_with (first
          | (go_at_call 50; (with_reducible refine (CK.out _ (belA (Below.refl _ _))).mono ?_); rintro e w1 ⟨rfl, hb1⟩; go_must (have B2 := Lib.hid (HB.out.trans (((belA (Below.refl _ _)).trans (hb1.mono (by simp))).mono HB.out.size)); clear hb1))
          | fail)
        go_ret
        exact ⟨retE HF.out.symm, B2.out⟩
    · obtain rfl : k = l.length := by omega
      have HF := Lib.hid (NO.out hz)
      clear hz hb
      go_wp2
      go_ret
      exact ⟨retE HF.out.symm, HB.out⟩

theorem lookA (k : SB S M l mo mcap ro rcap w) : Calls Tryz.prog 26 #[.pointer (some ⟨S, 0, none⟩)] w fun e w' => e = .returned (.int .i64 (eIf (decide (M.length = 0) || decide (l.length = 0)) 10)) ∧ Below w.heap.size w w' := by
  obtain ⟨b0, b1⟩ := k.cells
  have T := Lib.hid (fun b W => told_any b 10 W)
  clear k
  have HR : Hid (∀ b, (decide (M.length = 0) || decide (l.length = 0)) = b → Ending.returned (.int .i64 (eIf b 10)) = .returned (.int .i64 (eIf (decide (M.length = 0) || decide (l.length = 0)) 10))) := Lib.hid fun b h => by rw [h]
  generalize Ending.returned (.int .i64 (eIf (decide (M.length = 0) || decide (l.length = 0)) 10)) = E at *
  generalize M.length = m at *
  generalize l.length = n at *
  by_cases h0 : m = 0
  · have d0 : ((m : Int) == 0) = true := by simpa using h0
    have HZ := Lib.hid (HR.out true (by simp [h0]))
    clear HR h0
    go_enter Tryz.func26, Tryz.ntmps26
    go_wp2_with (go_at_call 27; (with_reducible refine (T.out _ _).mono ?_); rintro e w2 ⟨rfl, hw⟩; subst hw)
    go_ret
    exact ⟨HZ.out, Below.refl _ _⟩
  · have d0 : ((m : Int) == 0) = false := by simpa using h0
    have HZ := Lib.hid (HR.out ((n : Int) == 0) (by simp [h0]; rw [Bool.eq_iff_iff]; simp))
    clear HR h0
    go_enter Tryz.func26, Tryz.ntmps26
    go_wp2_with (go_at_call 27; (with_reducible refine (T.out _ _).mono ?_); rintro e w2 ⟨rfl, hw⟩; subst hw)
    go_ret
    exact ⟨HZ.out, Below.refl _ _⟩
theorem lookB (k : SB S M l mo mcap ro rcap w) : Calls Tryz.prog 28 #[.pointer (some ⟨S, 0, none⟩)] w fun e w' => e = .returned (.int .i64 (eIf (decide (16 < M.length) || decide (128 < l.length)) 6)) ∧ Below w.heap.size w w' := by
  obtain ⟨b0, b1⟩ := k.cells
  have T := Lib.hid (fun b W => told_any b 6 W)
  clear k
  have HR : Hid (∀ b, (decide (16 < M.length) || decide (128 < l.length)) = b → Ending.returned (.int .i64 (eIf b 6)) = .returned (.int .i64 (eIf (decide (16 < M.length) || decide (128 < l.length)) 6))) := Lib.hid fun b h => by rw [h]
  generalize Ending.returned (.int .i64 (eIf (decide (16 < M.length) || decide (128 < l.length)) 6)) = E at *
  generalize M.length = m at *
  generalize l.length = n at *
  by_cases h0 : 16 < m
  · have d0 : (16 : Int) < (m : Int) := by omega
    have HZ := Lib.hid (HR.out true (by simp [h0]))
    clear HR h0
    go_enter Tryz.func28, Tryz.ntmps28
    go_wp2_with (go_at_call 27; (with_reducible refine (T.out _ _).mono ?_); rintro e w2 ⟨rfl, hw⟩; subst hw)
    go_ret
    exact ⟨HZ.out, Below.refl _ _⟩
  · have d0 : ¬ (16 : Int) < (m : Int) := by omega
    by_cases h1 : 128 < n
    · have d1 : (128 : Int) < (n : Int) := by omega
      have HZ := Lib.hid (HR.out true (by simp [h1]))
      clear HR h0 h1
      go_enter Tryz.func28, Tryz.ntmps28
      go_wp2_with (go_at_call 27; (with_reducible refine (T.out _ _).mono ?_); rintro e w2 ⟨rfl, hw⟩; subst hw)
      go_ret
      exact ⟨HZ.out, Below.refl _ _⟩
    · have d1 : ¬ (128 : Int) < (n : Int) := by omega
      have HZ := Lib.hid (HR.out false (by simp; omega))
      clear HR h0 h1
      go_enter Tryz.func28, Tryz.ntmps28
      go_wp2_with (go_at_call 27; (with_reducible refine (T.out _ _).mono ?_); rintro e w2 ⟨rfl, hw⟩; subst hw)
      go_ret
      exact ⟨HZ.out, Below.refl _ _⟩
theorem lookC (k : SB S M l mo mcap ro rcap w) (hf : FitS M l) : Calls Tryz.prog 29 #[.pointer (some ⟨S, 0, none⟩)] w fun e w' => e = .returned (.int .i64 (eIf (!namesB M) 4)) ∧ Below w.heap.size w w' := by
  obtain ⟨b0, b1⟩ := k.cells
  obtain ⟨mo', mcap', ro', rcap', e, _, _, hs, _, _⟩ := k.hA.shape
  simp only [Value.agg.injEq, Array.mk.injEq, List.cons.injEq, Value.slice.injEq, and_true] at e
  obtain ⟨⟨rfl, _, rfl⟩, rfl, _, rfl⟩ := e
  have C := Lib.hid (names_any M _ w hs hf.names)
  have T := Lib.hid (fun b W => told_any b 4 W)
  clear k hs hf
  generalize namesB M = N at *
  go_enter Tryz.func29, Tryz.ntmps29
  go_wp2_with (first
    | (go_at_call 30; (with_reducible refine C.out.mono ?_); rintro e w1 ⟨rfl, hw⟩; subst hw)
    | (go_at_call 27; (with_reducible refine (T.out _ _).mono ?_); rintro e w2 ⟨rfl, hw⟩; subst hw))
  go_ret
  exact ⟨rfl, Below.refl _ _⟩
theorem lookD (k : SB S M l mo mcap ro rcap w) : Calls Tryz.prog 31 #[.pointer (some ⟨S, 0, none⟩)] w fun e w' => e = .returned (.int .i64 (eIf (!unlikeB M) 5)) ∧ Below w.heap.size w w' := by
  obtain ⟨b0, b1⟩ := k.cells
  obtain ⟨mo', mcap', ro', rcap', e, _, _, hs, _, hcp⟩ := k.hA.shape
  simp only [Value.agg.injEq, Array.mk.injEq, List.cons.injEq, Value.slice.injEq, and_true] at e
  obtain ⟨⟨rfl, _, rfl⟩, rfl, _, rfl⟩ := e
  have C := Lib.hid (unlike_any M _ w hs (fun ao n c e => by simp only [Value.slice.injEq] at e; obtain ⟨_, rfl, rfl⟩ := e; exact hcp))
  have T := Lib.hid (fun b W => told_any b 5 W)
  clear k hs hcp
  generalize unlikeB M = N at *
  go_enter Tryz.func31, Tryz.ntmps31
  go_wp2_with (first
    | (go_at_call 32; (with_reducible refine C.out.mono ?_); rintro e w1 ⟨rfl, hw⟩; subst hw)
    | (go_at_call 27; (with_reducible refine (T.out _ _).mono ?_); rintro e w2 ⟨rfl, hw⟩; subst hw))
  go_ret
  exact ⟨rfl, Below.refl _ _⟩
theorem lookE (k : SB S M l mo mcap ro rcap w) (hf : FitS M l) : Calls Tryz.prog 33 #[.pointer (some ⟨S, 0, none⟩)] w fun e w' => e = .returned (.int .i64 (rulesE M.length l)) ∧ Below w.heap.size w w' := by
  obtain ⟨b0, b1⟩ := k.cells
  have C := Lib.hid (ofRules_any _ k.hA hf)
  clear k hf
  generalize rulesE M.length l = N at *
  go_enter Tryz.func33, Tryz.ntmps33
  go_wp2_with (first
    | (go_at_call 34; (with_reducible refine C.out.mono ?_); rintro e w1 ⟨rfl, hb1⟩; go_must (have B1 := Lib.hid hb1; clear hb1))
    | fail)
  go_ret
  exact ⟨rfl, B1.out⟩

def kSpec : Nat → FuncId
  | 0 => 26
  | 1 => 28
  | 2 => 29
  | 3 => 31
  | _ => 33
def bSpec (S : Nat) : Nat → Array Value := fun _ => #[.pointer (some ⟨S, 0, none⟩)]
noncomputable def eSpec (M : List ByteArray) (l : List Rl) (i : Nat) : Int := (specL M l).getD i 0
theorem eSpec_list (M : List ByteArray) (l : List Rl) : listE (eSpec M l) 5 = specL M l := rfl
theorem enters_spec (i : Nat) (hi : i < 5) : Enters Tryz.prog (kSpec i) := by
  match i, hi with
  | 0, _ => exact enters_of Tryz.func26 (by kernel_rfl) rfl
  | 1, _ => exact enters_of Tryz.func28 (by kernel_rfl) rfl
  | 2, _ => exact enters_of Tryz.func29 (by kernel_rfl) rfl
  | 3, _ => exact enters_of Tryz.func31 (by kernel_rfl) rfl
  | 4, _ => exact enters_of Tryz.func33 (by kernel_rfl) rfl
theorem looks_spec (k : SB S M l mo mcap ro rcap w) (hf : FitS M l) (i : Nat) (hi : i < 5) (W : World) (hW : Below w.heap.size w W) :
    Calls Tryz.prog (kSpec i) (bSpec S i) W fun e W' => e = .returned (.int .i64 (eSpec M l i)) ∧ Below W.heap.size W W' := by
  match i, hi with
  | 0, _ => exact lookA (k.next hW)
  | 1, _ => exact lookB (k.next hW)
  | 2, _ => exact lookC (k.next hW) hf
  | 3, _ => exact lookD (k.next hW)
  | 4, _ => exact lookE (k.next hW) hf
theorem row_spec {X : World} {g S : Nat} (h : X.heap[g]? = some (.cells #[.func (.func 26) #[] #[.pointer (some ⟨S, 0, none⟩)], .func (.func 28) #[] #[.pointer (some ⟨S, 0, none⟩)], .func (.func 29) #[] #[.pointer (some ⟨S, 0, none⟩)], .func (.func 31) #[] #[.pointer (some ⟨S, 0, none⟩)], .func (.func 33) #[] #[.pointer (some ⟨S, 0, none⟩)]] 65 (0, 0))) (i : Nat) (hi : i < 5) :
    X.cell? ((⟨g, 0, none⟩ : Addr).add i) = some (lookV (kSpec i) (bSpec S i)) := by
  rw [Rg.add_zero, Lib.cell_of_heap h]
  match i, hi with
  | 0, _ => rfl
  | 1, _ => rfl
  | 2, _ => rfl
  | 3, _ => rfl
  | 4, _ => rfl

set_option maxRecDepth 100000 in
set_option maxHeartbeats 2000000 in
theorem check_spec (v : Value) (hv : SpecAt w v M l) (hf : FitS M l) :
    Calls Tryz.prog 9 #[v] w fun e w' => e = .returned (.int .i64 (specE M l)) ∧ Below w.heap.size w w' := by
  have HS := Lib.hid hv
  obtain ⟨mo, mcap, ro, rcap, rfl, _, _, _, _, _⟩ := hv.shape
  have hb : Below w.heap.size w (w.alloc (.cells #[.slice mo M.length mcap, .slice ro l.length rcap] 25)) := belA (Below.refl _ _)
  have k2 : SB w.heap.size M l mo mcap ro rcap (w.alloc (.cells #[.slice mo M.length mcap, .slice ro l.length rcap] 25)) := ⟨heapA rfl, HS.out.next hb⟩
  have HB := Lib.hid hb
  have F := Lib.hid (fun X (hX : Below (w.alloc (.cells #[.slice mo M.length mcap, .slice ro l.length rcap] 25)).heap.size (w.alloc (.cells #[.slice mo M.length mcap, .slice ro l.length rcap] 25)) X) g hg => first_any 5 kSpec (bSpec w.heap.size) (eSpec M l) ⟨g, 0, none⟩ X (row_spec hg) enters_spec (fun i hi _ W hW => looks_spec (k2.next hX) hf i hi W hW) (by omega))
  rw [eSpec_list] at F
  rw [show specE M l = firstE (specL M l) from rfl]
  clear hv k2 hb HS
  generalize firstE (specL M l) = E at *
  go_enter Tryz.func9, Tryz.ntmps9
  go_upto_region 1 with fail
  generalize w.alloc (.cells #[.slice mo M.length mcap, .slice ro l.length rcap] 25) = W1 at *
  go_wp2_with (first
    | (go_at_call 25; (refine (F.out _ (belA (Below.refl _ _)) _ (heapA rfl)).mono ?_); rintro e w1 ⟨rfl, hb1⟩; go_must (have B1 := Lib.hid (HB.out.trans ((belA (Below.refl _ _)).trans (hb1.mono (by simp)) |>.mono HB.out.size)); clear hb1))
    | fail)
  go_ret
  exact ⟨rfl, B1.out⟩
end
end Go.Proofs.YtgjiofkjogjhhaaGreatDoor.Sp

namespace Go.Proofs.YtgjiofkjogjhhaaGreatDoor.Sp
open Go Go.RowKit Go.Shelf
open Go.Proofs.YtgjiofkjogjhhaaGreatDoor.Rg (own_next add_zero)
open Go.Proofs.YtgjiofkjogjhhaaGreatDoor.Rp (heapA heapB belA)

/-- numbers as cells -/
def natV (ks : List Nat) : List Value := ks.map fun (k : Nat) => Value.int .i64 (k : Int)
theorem natV_len (ks : List Nat) : (natV ks).length = ks.length := by simp [natV]
theorem natV_snoc (ks : List Nat) (k : Nat) : natV (ks ++ [k]) = natV ks ++ [Value.int .i64 (k : Int)] := by simp [natV]
def rowV (m : Nat) (vs : Nat → Value) : Array Value := ((List.range m).map vs).toArray
theorem rowV_at {m : Nat} {vs : Nat → Value} {j : Nat} (h : j < m) : (rowV m vs)[j]? = some (vs j) := by simp [rowV, h]
/-- a row of m slices of numbers -/
structure GAt (w : World) (L m : Nat) (G : Nat → List Nat) (vs : Nat → Value) : Prop where
  row : w.heap[L]? = some (.cells (rowV m vs) 32 (0, 0))
  rows : ∀ j, j < m → w.ownsRow (L + 1) 3 1 (vs j) (G j).length (natV (G j))
  apart : ∀ i j, i < m → j < m → i ≠ j → (vs i).ownBlock = none ∨ (vs i).ownBlock ≠ (vs j).ownBlock
theorem GAt.lt {w : World} {L m : Nat} {G : Nat → List Nat} {vs : Nat → Value} (h : GAt w L m G vs) : L < w.heap.size := (Array.getElem?_eq_some_iff.1 h.row).1
theorem GAt.cell {w : World} {L m : Nat} {G : Nat → List Nat} {vs : Nat → Value} (h : GAt w L m G vs) {j : Nat} (hj : j < m) : w.cell? ⟨L, j, none⟩ = some (vs j) := by
  rw [Lib.cell_of_heap h.row]; exact rowV_at hj
theorem GAt.next {w w' : World} {L m : Nat} {G : Nat → List Nat} {vs : Nat → Value} (h : GAt w L m G vs) (hb : Below w.heap.size w w') : GAt w' L m G vs :=
  ⟨(hb.block L h.lt).trans h.row, fun j hj => own_next (h.rows j hj) hb, h.apart⟩
theorem GAt.congr {w : World} {L m : Nat} {G G' : Nat → List Nat} {vs : Nat → Value} (h : GAt w L m G vs) (e : ∀ j, j < m → G j = G' j) : GAt w L m G' vs :=
  ⟨h.row, fun j hj => by rw [← e j hj]; exact h.rows j hj, h.apart⟩
theorem grown_set (w : World) (p : Addr) (u : Value) : w.grownBy (w.setCell p u) (some p.block) := ⟨rfl, rfl, rfl, by simp, fun k _ hk => heap_setCell_other w p k u (fun e => hk (by simp [e]))⟩
theorem own_block {w : World} {B : Nat} {e : TypeId} {s n : Nat} {v : Value} {xs : List Value} (h : w.ownsRow B e s v n xs) : v.ownBlock = none ∨ ∃ g, v.ownBlock = some g ∧ B ≤ g ∧ g < w.heap.size := by
  rcases h.2 with ⟨rfl, _⟩ | ⟨g, cap, cur, rfl, hb, hg, _⟩
  · exact .inl rfl
  · exact .inr ⟨g, rfl, hb, (Array.getElem?_eq_some_iff.1 hg).1⟩
def updV (vs : Nat → Value) (q : Nat) (v : Value) : Nat → Value := fun j => if j = q then v else vs j
theorem rowV_set {m q : Nat} {vs : Nat → Value} {v : Value} : (rowV m vs).setIfInBounds q v = rowV m (updV vs q v) := by
  apply Array.ext_getElem?
  intro j
  unfold rowV updV
  rw [Array.getElem?_setIfInBounds]
  by_cases h : q = j
  · subst h
    by_cases hq : q < m <;> simp [hq]
  · by_cases hj : j < m
    · simp [h, hj, Ne.symm h]
    · simp [h, hj]
/-- a number put behind a mode's -/
theorem GAt.push {W w' : World} {L m q n : Nat} {G : Nat → List Nat} {vs : Nat → Value} {g cap : Nat} (h : GAt W L m G vs) (hq : q < m) (hn : n = (G q).length + 1) (k : Nat)
    (hown : w'.ownsRow (L + 1) 3 1 (.slice (some ⟨g, 0, none⟩) n cap) n (natV (G q) ++ [.int .i64 (k : Int)])) (hg : W.grownBy w' (vs q).ownBlock) (hat : (vs q).ownBlock = some g ∨ g = W.heap.size) :
    w'.cell? ⟨L, q, none⟩ = some (vs q) ∧ w'.frozen? ⟨L, q, none⟩ = false ∧ L < w'.heap.size ∧
    GAt (w'.setCell ⟨L, q, none⟩ (.slice (some ⟨g, 0, none⟩) n cap)) L m (fun j => if j = q then G q ++ [k] else G j) (updV vs q (.slice (some ⟨g, 0, none⟩) n cap)) := by
  have hL : w'.heap[L]? = some (.cells (rowV m vs) 32 (0, 0)) := (hg.block L h.lt (fun e => by
    rcases own_block (h.rows q hq) with e' | ⟨g', e', hb, _⟩
    · rw [e'] at e; cases e
    · rw [e', Option.some.injEq] at e; omega)).trans h.row
  have hLlt := (Array.getElem?_eq_some_iff.1 hL).1
  have hgL : L + 1 ≤ g := (hown.lt g rfl).1
  have hset := grown_set w' ⟨L, q, none⟩ (.slice (some ⟨g, 0, none⟩) n cap)
  have keep : ∀ {v : Value} {n' : Nat} {xs : List Value}, w'.ownsRow (L + 1) 3 1 v n' xs → (w'.setCell ⟨L, q, none⟩ (.slice (some ⟨g, 0, none⟩) n cap)).ownsRow (L + 1) 3 1 v n' xs := fun {v n' xs} hr => hr.kept hset (by
    rcases own_block hr with e | ⟨g', e, hb, _⟩
    · exact .inl e
    · right; rw [e]; intro e2; simp at e2; omega)
  have old : ∀ j, j < m → j ≠ q → w'.ownsRow (L + 1) 3 1 (vs j) (G j).length (natV (G j)) := fun j hj hne => (h.rows j hj).kept hg (h.apart j q hj hq hne)
  refine ⟨by rw [Lib.cell_of_heap hL]; exact rowV_at hq, Lib.frozen_of_heap hL q, hLlt, ?_, fun j hj => ?_, fun i j hi hj hne => ?_⟩
  · rw [heap_setCell_same w' L q _ _ _ hL, rowV_set]
  · by_cases e : j = q
    · subst e
      simp only [updV, if_pos]
      rw [show (G j ++ [k]).length = n by simp [hn], natV_snoc]
      exact keep hown
    · simp only [updV, if_neg e]
      exact keep (old j hj e)
  · have hfar : ∀ i, i < m → i ≠ q → (vs i).ownBlock = none ∨ (vs i).ownBlock ≠ some g := fun i hi hiq => by
      rcases hat with e | e
      · have := h.apart i q hi hq hiq
        rwa [e] at this
      · rcases own_block (h.rows i hi) with e' | ⟨g', e', _, hlt⟩
        · exact .inl e'
        · right; rw [e']; intro e2; simp at e2; omega
    by_cases e : i = q
    · subst e
      simp only [updV, if_pos, if_neg (Ne.symm hne)]
      rcases hfar j hj (Ne.symm hne) with h' | h'
      · right; rw [h']; simp [Value.ownBlock]
      · right; exact fun e => h' e.symm
    · by_cases e2 : j = q
      · subst e2
        simp only [updV, if_pos, if_neg e]
        exact hfar i hi e
      · simp only [updV, if_neg e, if_neg e2]
        exact h.apart i j hi hj hne
theorem infoIs : (Tryz.prog.info? 32).map (fun i => (i.zero, i.size, i.bytes)) = some (some (.slice none 0 0), 1, 24) := by kernel_rfl
theorem own_none {w : World} {B L m : Nat} (h : w.ownsRow B 32 1 (.slice (some ⟨L, 0, none⟩) m m) m (List.replicate m (.slice none 0 0))) : GAt w L m (fun _ => []) (fun _ => .slice none 0 0) := by
  refine ⟨?_, fun j _ => World.ownsRow_nil _ _ _ _, fun i j _ _ _ => .inl rfl⟩
  rcases h.2 with ⟨e, _⟩ | ⟨g, cap, cur, e, hb, hg, hnc, hcm, hcs, ht⟩
  · simp at e
  · simp only [Value.slice.injEq, Option.some.injEq, Addr.mk.injEq, and_true, true_and] at e
    obtain ⟨rfl, rfl⟩ := e
    rw [hg]
    congr 2
    apply Array.toList_inj.1
    rw [List.take_of_length_le (by simp; omega)] at ht
    rw [ht]
    unfold rowV
    rw [List.map_const', List.length_range]

def GrpOut (w : World) (m : Nat) (G : Nat → List Nat) (e : Ending) (w' : World) : Prop :=
  ∃ L vs, e = .returned (.slice (some ⟨L, 0, none⟩) m m) ∧ w.heap.size ≤ L ∧ GAt w' L m G vs ∧ Below w.heap.size w w'
theorem GrpOut.mk' {w w' : World} {m L : Nat} {G : Nat → List Nat} {vs : Nat → Value} (h : w.heap.size ≤ L) (hg : GAt w' L m G vs) (hb : Below w.heap.size w w') : GrpOut w m G (.returned (.slice (some ⟨L, 0, none⟩) m m)) w' := ⟨L, vs, rfl, h, hg, hb⟩
set_option maxRecDepth 100000 in
set_option maxHeartbeats 4000000 in
theorem groups_any (M : List ByteArray) (l : List Rl) (v : Value) (w : World) (hv : SpecAt w v M l) (hm : M.length ≤ 1000) (hl : l.length ≤ 1000) :
    Calls Tryz.prog 20 #[v] w fun e w' => GrpOut w M.length (fun j => idxs l j l.length) e w' := by
  obtain ⟨i0, hi, hz0, hz1, hz2⟩ := info_parts infoIs
  obtain ⟨j0, hi', jz0, jz1, jz2⟩ := info_parts infoI
  have HV := Lib.hid hv
  obtain ⟨mo, mcap, ro, rcap, rfl, _, _, _, hr, _⟩ := hv.shape
  obtain ⟨ao, cap, e, _, hc⟩ := hr.shape
  simp only [Value.slice.injEq] at e
  obtain ⟨rfl, _, rfl⟩ := e
  have HC := Lib.hid hc
  have b1 := (Below.refl w.heap.size w).alloc (Nat.le_refl _) (.cells #[.slice mo M.length mcap, .slice ro l.length rcap] 25)
  have S0 := Lib.hid (SBox.new w (.slice mo M.length mcap) (.slice ro l.length rcap))
  have IM := Lib.hid (fun n X (hX : Below w.heap.size w X) => isMode_any n M l _ X (HV.out.next hX))
  have B1 := Lib.hid b1
  have hW1s : (w.alloc (.cells #[.slice mo M.length mcap, .slice ro l.length rcap] 25)).heap.size = w.heap.size + 1 := World.size_alloc _ _
  clear hr hv hc b1
  go_enter Tryz.func20, Tryz.ntmps20
  go_upto_region 1 with fail
  generalize w.alloc (.cells #[.slice mo M.length mcap, .slice ro l.length rcap] 25) = W1 at *
  obtain ⟨s0, s1⟩ := S0.out
  go_wp2_with (first
    | (at_make; refine wpList_make_full _ rfl _ _ 54 rfl (w.heap.size + 1) 32 i0 (.slice none 0 0) 1 Tryz.underlying54 hi hz0 hz1 .i64 .i64 M.length M.length M.length rfl rfl rfl rfl (by rw [hz2]; omega) (by unfold maxLen; omega) (by omega) ?_; intro w2 hown2 hgrow2; go_must (rw [show (madeCells (Value.slice none 0 0).cells (M.length * 1)).toList = List.replicate M.length (.slice none 0 0) by rw [Nat.mul_one]; exact toList_madeCells_one _ _] at hown2; have BB := Lib.hid ((Below.refl (w.heap.size + 1) _).grown hgrow2 (by omega) (fun k hk => by cases hk)); obtain ⟨r0, r1⟩ := S0.out.next (BB.out.mono (by omega)); have hws := cell_lt r0; have GA := Lib.hid (own_none hown2); have hL1 := (hown2.lt _ rfl).1; clear hown2 hgrow2 s0 s1))
    | fail)
  rw [hW1s] at GA
  obtain ⟨L, hL'⟩ : ∃ L, L = w.heap.size + 1 := ⟨_, rfl⟩
  rw [← hL'] at GA ⊢
  have HL := Lib.hid hL'
  have HW1 := Lib.hid hW1s
  have hwL : w.heap.size < L := by omega
  clear r0 r1 hws hL1 hL' hW1s
  go_loopw [13] (fun i wr => ∃ (k : Nat) (vs : Nat → Value), k ≤ l.length ∧ i = .int .i64 k ∧ GAt wr L M.length (fun j => idxs l j k) vs ∧ Below (w.heap.size + 1) W1 wr) (fun i _ => l.length - (intOf i).toNat)
  case atStart => exact ⟨0, _, by omega, rfl, GA.out, BB.out⟩
  case round =>
    clear GA BB
    obtain ⟨k, vs, hk, rfl, hga, hb⟩ := hrel
    obtain ⟨wo, rfl⟩ : ∃ x, x = wr := ⟨_, rfl⟩
    have HBW := Lib.hid hb
    have HB := Lib.hid (B1.out.trans (hb.mono (by omega)))
    have hT := S0.out.next (hb.mono (by rw [HW1.out]; omega))
    obtain ⟨s0, s1⟩ := hT
    have ls := cell_lt s0
    have hLlt := hga.lt
    by_cases hlt : k < l.length
    · obtain ⟨g, rfl, no, ncap, so, scap, hin⟩ := HC.out k hlt
      have c0 := (hin.next HB.out).c0
      have hgl := cell_lt c0
      have IMk := Lib.hid (IM.out (rl l k).mode wo HB.out)
      have hIS := @isM_iff (rl l k).mode M.length
      have Y1 := Lib.hid (fun (j : Nat) (h : (rl l k).mode = (j : Int)) => idxs_yes h)
      have N1 := Lib.hid (fun (j : Nat) (h : (rl l k).mode ≠ (j : Int)) => idxs_no (l := l) (m := j) (n := k) h)
      have HGA := Lib.hid hga
      have h0i : (0 : Int) ≤ k := by omega
      have h1i : (k : Int) < (l.length : Int) := by omega
      clear hin hga hb
      generalize (rl l k).mode = p at *
      cases hp : isM p M.length
      · rw [hp] at IMk
        have hno : ∀ j, j < M.length → p ≠ (j : Int) := fun j hj e => by
          rw [Bool.eq_false_iff] at hp
          exact hp (hIS.2 (by omega))
        have HG2 := Lib.hid (HGA.out.congr (G' := fun j => idxs l j (k + 1)) fun j hj => (N1.out j (hno j hj)).symm)
        clear hp hIS Y1 N1 hno
        go_wp2_with (first
          | (go_at_call 44; (with_reducible refine IMk.out.mono ?_); rintro e w1 ⟨rfl, hb1⟩; go_must (have B2 := Lib.hid (HBW.out.trans (hb1.mono (by have := HBW.out.size; rw [HW1.out] at this; omega))); have G2 := Lib.hid (HG2.out.next hb1); clear hb1))
          | fail)
        go_roundw
        case rel => exact ⟨k + 1, vs, by omega, by go_num, G2.out, B2.out⟩
        case measure => simp [intOf]; omega
      · rw [hp] at IMk
        obtain ⟨p0, p1⟩ := hIS.1 hp
        obtain ⟨q, rfl⟩ := Int.eq_ofNat_of_zero_le p0
        have hq : q < M.length := by omega
        have hlen := idxs_len l q k
        have hcong : ∀ j, j < M.length → (if j = q then idxs l q k ++ [k] else idxs l j k) = idxs l j (k + 1) := fun j hj => by
          by_cases e : j = q
          · subst e; rw [if_pos rfl]; exact (Y1.out j rfl).symm
          · rw [if_neg e]; exact (N1.out j (by omega)).symm
        have HCG := Lib.hid hcong
        have hVq := HGA.out.rows q hq
        have hcq := HGA.out.cell hq
        clear hp hIS Y1 N1 hcong
        obtain ⟨n, hn⟩ : ∃ n, (idxs l q k).length = n := ⟨_, rfl⟩
        have HN := Lib.hid hn
        have hn1 : n ≤ 1000 := by omega
        have HVQ := Lib.hid hVq
        have q0i : (0 : Int) ≤ q := by omega
        have q1i : (q : Int) < (M.length : Int) := by omega
        clear hVq hlen hn
        obtain ⟨vq, hvq⟩ : ∃ x, vs q = x := ⟨_, rfl⟩
        have HVE := Lib.hid hvq
        rw [hvq] at hcq HVQ
        rw [HN.out] at HVQ
        clear hvq
        obtain ⟨vo, vn, vc, rfl⟩ : ∃ a b c, vq = .slice a b c := by
          rcases HVQ.out.2 with ⟨e, _⟩ | ⟨g, cap, cur, e, _⟩
          · exact ⟨_, _, _, e⟩
          · exact ⟨_, _, _, e⟩
        go_wp2_with (first
          | (go_at_call 44; (with_reducible refine IMk.out.mono ?_); rintro e w1 ⟨rfl, hb1⟩; go_must (have B2 := Lib.hid (HBW.out.trans (hb1.mono (by have := HBW.out.size; rw [HW1.out] at this; omega))); have G2 := Lib.hid (HGA.out.next hb1); have kq := cell_next hcq hb1; have V2 := Lib.hid (own_next HVQ.out hb1); have hl1 := cell_lt kq; have hs1 := hb1.size; have hsz1 : w.heap.size + 1 ≤ w1.heap.size := (by omega); have hbk : ∀ k, (Value.slice vo vn vc).ownBlock = some k → w.heap.size + 1 ≤ k := (fun k hk => by have := HL.out; rcases own_block V2.out with e | ⟨g', e, hb, _⟩ <;> rw [e] at hk <;> simp at hk; omega); have HBK := Lib.hid hbk; clear hb1 hbk))
          | (at_builtin; refine wpList_append_lies _ rfl _ _ 32 rfl (L + 1) 3 j0 (.int .i64 0) 1 8 Tryz.underlying32 hi' jz0 jz1 jz2 rfl (by decide) (.slice vo vn vc) n (natV (idxs l q k)) rfl (own_next V2.out ((Below.refl _ _).alloc (Nat.le_refl _) _)) ⟨w1.heap.size, 0, none⟩ 1 1 [.int .i64 (k : Int)] rfl rfl (World.news_of_block (World.alloc_heap_new w1 _)) (by simp [Value.oneCell']) (by decide) (by unfold maxLen; omega) (by omega) (by simp; omega) _ rfl ?_; intro g5 cap5 w5 hown hg hat _; go_must (obtain ⟨y1, y2, y3, y4⟩ := GAt.push (G2.out.next ((Below.refl _ _).alloc (Nat.le_refl _) (.cells #[.int .i64 (k : Int)] 3))) hq (by rw [HN.out]) k hown (by rw [HVE.out]; exact hg) (by rw [HVE.out]; exact hat); rw [HVE.out] at y1; have Y4 := Lib.hid y4; have B5 := Lib.hid ((B2.out.alloc hsz1 (.cells #[.int .i64 (k : Int)] 3)).grown hg (by simp; omega) HBK.out); clear hown hg hat y4))
          | fail)
        go_roundw
        case rel => exact ⟨k + 1, _, by omega, by go_num, Y4.out.congr HCG.out, B5.out.setCell (p := ⟨L, q, none⟩) (by have := HL.out; simp; omega) _⟩
        case measure => simp [intOf]; omega
    · obtain rfl : k = l.length := by omega
      have HGA := Lib.hid hga
      clear hga hb
      go_wp2
      go_ret
      exact GrpOut.mk' (by omega) HGA.out HB.out
end Go.Proofs.YtgjiofkjogjhhaaGreatDoor.Sp

namespace Go.Proofs.YtgjiofkjogjhhaaGreatDoor.Sp
open Go Go.RowKit Go.Shelf
open Go.Proofs.YtgjiofkjogjhhaaGreatDoor.Ar (Nd nd Tr Ok TreeAt NodesAt NodeAt flatN flatN_len flatN_one nodes_cells infoN)
open Go.Proofs.YtgjiofkjogjhhaaGreatDoor.Rg (R RngsAt RowsAt nthL add_zero own_next wpList_app flatR infoS row_apart)
open Go.Proofs.YtgjiofkjogjhhaaGreatDoor.Rp (heapA heapB belA)
open Go.Proofs.YtgjiofkjogjhhaaGreatDoor.Ac (clone_any)

/-- 'append' of nodes that may be none -/
theorem wpList_appN {W : World} {ops : Array Oper} {rest : List Oper} {o : Oper} {a : Act} {Q : Exit → Act → World → Prop} (hgd : o.guard = none) (s x : Operand)
    (ho : o.op = .call { callee := .builtin .append, args := #[s, x], argTypes := #[35, 35] }) (B : Nat) (v : Value) (n : Nat) (xs : List Value) (hs : a.eval s = v) (hown : W.ownsRow B 70 6 v n xs)
    (src : Value) (l : List Nd) (hx : a.eval x = src) (hsrc : NodesAt W src l) (hM : n + l.length ≤ 1000000) (hB : B ≤ W.heap.size)
    (h : ∀ v' w', w'.ownsRow B 70 6 v' (n + l.length) (xs ++ flatN l) → W.grownBy w' v.ownBlock → wpList Tryz.prog ops Q rest (a.put o.dst v') w') : wpList Tryz.prog ops Q (o :: rest) a W := by
  obtain ⟨i0, hi, hz0, hz1, hz2⟩ := info_parts infoN
  rcases hsrc with ⟨rfl, rfl⟩ | ⟨ad, cap, rfl, _, hc⟩
  · exact wpList_append_own_none hgd s x 35 ho B 70 i0 6 Tryz.underlying35 hi v n xs hs hown hx (h v W (by simpa [flatN] using hown) ⟨rfl, rfl, rfl, Nat.le_refl _, fun _ _ _ => rfl⟩)
  · exact wpList_append_own _ hgd s x 35 ho B 70 i0 (.agg #[.int .i64 0, .int .i64 0, .int .i64 0, .int .i64 0, .int .i64 0, .int .i64 0]) 6 48 Tryz.underlying35 hi hz0 hz1 hz2 rfl (by decide) v n xs hs hown ad l.length cap (flatN l) hx (flatN_len l) (nodes_cells hc) flatN_one (by unfold maxLen; omega) (by omega) hB fun v' w' h1 h2 _ => h v' w' h1 h2
theorem own_slice {w : World} {B : Nat} {e : TypeId} {s n : Nat} {v : Value} {xs : List Value} (h : w.ownsRow B e s v n xs) : ∃ a c, v = .slice a n c ∧ ∀ k, v.ownBlock = some k → B ≤ k := by
  rcases h.2 with ⟨rfl, rfl⟩ | ⟨g, cap, cur, rfl, hb, _⟩
  · exact ⟨_, _, rfl, fun k hk => by simp [Value.ownBlock] at hk⟩
  · exact ⟨_, _, rfl, fun k hk => by simp [Value.ownBlock] at hk; omega⟩
/-- what a copy tells: the numbers and the name; of its tree no more than that it is one -/
def CopyOut (r : Rl) (w : World) (e : Ending) (w' : World) : Prop :=
  ∃ no nl nc so sl sc, e = .returned (.agg #[.int .i64 r.mode, .slice no nl nc, .slice so sl sc, .int .i64 r.t.root, .string r.em, .int .i64 r.go]) ∧ Below w.heap.size w w'
structure FitC (r : Rl) : Prop where
  em : r.em.size ≤ 1000000
  nodes : r.t.ns.length ≤ 1000000
  sets : r.t.sets.length ≤ 1000000
  each : ∀ k, k < r.t.sets.length → (nthL r.t.sets k).length ≤ 1000000
theorem heapNc {w w' : World} {k : Nat} {o : Obj} (h : w.heap[k]? = some o) (hb : Below w.heap.size w w') : w'.heap[k]? = some o := (hb.block k (Array.getElem?_eq_some_iff.1 h).1).trans h
theorem set6 {w : World} {b : Nat} {a0 a1 a2 a3 a4 a5 : Value} {t : TypeId} (h : w.heap[b]? = some (.cells #[a0, a1, a2, a3, a4, a5] t (0, 0))) (x : Value) :
    (w.setCell ⟨b, 1, none⟩ x).heap[b]? = some (.cells #[a0, x, a2, a3, a4, a5] t (0, 0)) ∧ (w.setCell ⟨b, 2, none⟩ x).heap[b]? = some (.cells #[a0, a1, x, a3, a4, a5] t (0, 0)) ∧ (w.setCell ⟨b, 4, none⟩ x).heap[b]? = some (.cells #[a0, a1, a2, a3, x, a5] t (0, 0)) := by
  refine ⟨?_, ?_, ?_⟩
  · rw [heap_setCell_same w b 1 _ t x h]; rfl
  · rw [heap_setCell_same w b 2 _ t x h]; rfl
  · rw [heap_setCell_same w b 4 _ t x h]; rfl
theorem all6 {w : World} {b : Nat} {a0 a1 a2 a3 a4 a5 : Value} {t : TypeId} (h : w.heap[b]? = some (.cells #[a0, a1, a2, a3, a4, a5] t (0, 0))) (y0 y1 y2 y3 y4 y5 : Value) :
    ((((((w.setCell ⟨b, 0, none⟩ y0).setCell ⟨b, 1, none⟩ y1).setCell ⟨b, 2, none⟩ y2).setCell ⟨b, 3, none⟩ y3).setCell ⟨b, 4, none⟩ y4).setCell ⟨b, 5, none⟩ y5).heap[b]? = some (.cells #[y0, y1, y2, y3, y4, y5] t (0, 0)) := by
  have h0 := heap_setCell_same w b 0 _ t y0 h
  have h1 := heap_setCell_same _ b 1 _ t y1 h0
  have h2 := heap_setCell_same _ b 2 _ t y2 h1
  have h3 := heap_setCell_same _ b 3 _ t y3 h2
  have h4 := heap_setCell_same _ b 4 _ t y4 h3
  have h5 := heap_setCell_same _ b 5 _ t y5 h4
  rw [h5]; rfl
theorem below6 {B b : Nat} {w W : World} (h : Below B w W) (hb : B ≤ b) (y0 y1 y2 y3 y4 y5 : Value) : Below B w ((((((W.setCell ⟨b, 0, none⟩ y0).setCell ⟨b, 1, none⟩ y1).setCell ⟨b, 2, none⟩ y2).setCell ⟨b, 3, none⟩ y3).setCell ⟨b, 4, none⟩ y4).setCell ⟨b, 5, none⟩ y5) :=
  (((((h.setCell (p := ⟨b, 0, none⟩) hb _).setCell (p := ⟨b, 1, none⟩) hb _).setCell (p := ⟨b, 2, none⟩) hb _).setCell (p := ⟨b, 3, none⟩) hb _).setCell (p := ⟨b, 4, none⟩) hb _).setCell (p := ⟨b, 5, none⟩) hb _
theorem cells6 {w : World} {b : Nat} {a0 a1 a2 a3 a4 a5 : Value} {t : TypeId} (h : w.heap[b]? = some (.cells #[a0, a1, a2, a3, a4, a5] t (0, 0))) :
    w.cell? ⟨b, 0, none⟩ = some a0 ∧ w.cell? ⟨b, 1, none⟩ = some a1 ∧ w.cell? ⟨b, 2, none⟩ = some a2 ∧ w.cell? ⟨b, 3, none⟩ = some a3 ∧ w.cell? ⟨b, 4, none⟩ = some a4 ∧ w.cell? ⟨b, 5, none⟩ = some a5 := by
  unfold World.cell?; simp [h]
theorem set_far {w : World} {b c o : Nat} {x : Value} {ob : Obj} (h : w.heap[b]? = some ob) (hne : b ≠ c) : (w.setCell ⟨c, o, none⟩ x).heap[b]? = some ob := (heap_setCell_other w ⟨c, o, none⟩ b x hne).trans h
theorem grown_far {w w' : World} {b B : Nat} {v : Value} {ob : Obj} (h : w.heap[b]? = some ob) (hg : w.grownBy w' v.ownBlock) (hB : ∀ k, v.ownBlock = some k → B ≤ k) (hb : b < B) : w'.heap[b]? = some ob :=
  (hg.block b (Array.getElem?_eq_some_iff.1 h).1 (fun e => by have := hB b e.symm; omega)).trans h
set_option maxRecDepth 100000 in
set_option maxHeartbeats 4000000 in
theorem copied_any (r : Rl) (v : Value) (w : World) (hv : RuleAt w v r) (hf : FitC r) : Calls Tryz.prog 37 #[v] w fun e w' => CopyOut r w e w' := by
  obtain ⟨i0, hi, hz0, hz1, hz2⟩ := info_parts infoS
  obtain ⟨no, ncap, so, scap, rfl, ht⟩ := hv
  obtain ⟨vn, vs, e, hn, hs⟩ := ht
  simp only [Value.agg.injEq, Array.mk.injEq, List.cons.injEq, and_true] at e
  obtain ⟨rfl, rfl, _⟩ := e
  obtain ⟨em0, ns0, ss0, each⟩ := hf
  obtain ⟨so', scap', e, hm2, hc⟩ := hs.shape
  simp only [Value.slice.injEq] at e
  obtain ⟨rfl, _, rfl⟩ := e
  have HN := Lib.hid hn
  have HC := Lib.hid hc
  have EACH := Lib.hid each
  have hb : Below w.heap.size w ((w.alloc (.cells #[.int .i64 r.mode, .slice no r.t.ns.length ncap, .slice so r.t.sets.length scap, .int .i64 r.t.root, .string r.em, .int .i64 r.go] 40)).alloc (.cells #[.int .i64 0, .slice none 0 0, .slice none 0 0, .int .i64 0, .string ⟨#[]⟩, .int .i64 0] 40)) := belA (belA (Below.refl _ _))
  have x0 : ((w.alloc (.cells #[.int .i64 r.mode, .slice no r.t.ns.length ncap, .slice so r.t.sets.length scap, .int .i64 r.t.root, .string r.em, .int .i64 r.go] 40)).alloc (.cells #[.int .i64 0, .slice none 0 0, .slice none 0 0, .int .i64 0, .string ⟨#[]⟩, .int .i64 0] 40)).heap[w.heap.size]? = some (.cells #[.int .i64 r.mode, .slice no r.t.ns.length ncap, .slice so r.t.sets.length scap, .int .i64 r.t.root, .string r.em, .int .i64 r.go] 40 (0, 0)) := heapB (heapA rfl)
  have x1 : ((w.alloc (.cells #[.int .i64 r.mode, .slice no r.t.ns.length ncap, .slice so r.t.sets.length scap, .int .i64 r.t.root, .string r.em, .int .i64 r.go] 40)).alloc (.cells #[.int .i64 0, .slice none 0 0, .slice none 0 0, .int .i64 0, .string ⟨#[]⟩, .int .i64 0] 40)).heap[w.heap.size + 1]? = some (.cells #[.int .i64 0, .slice none 0 0, .slice none 0 0, .int .i64 0, .string ⟨#[]⟩, .int .i64 0] 40 (0, 0)) := heapA (by simp)
  have hsz : ((w.alloc (.cells #[.int .i64 r.mode, .slice no r.t.ns.length ncap, .slice so r.t.sets.length scap, .int .i64 r.t.root, .string r.em, .int .i64 r.go] 40)).alloc (.cells #[.int .i64 0, .slice none 0 0, .slice none 0 0, .int .i64 0, .string ⟨#[]⟩, .int .i64 0] 40)).heap.size = w.heap.size + 1 + 1 := by simp
  have CL := Lib.hid (fun W => clone_any r.em W (by omega))
  have X0 := Lib.hid x0
  have X1 := Lib.hid x1
  have HB := Lib.hid hb
  have HSZ := Lib.hid hsz
  clear hn hs hc x0 x1 hb hsz each
  go_enter Tryz.func37, Tryz.ntmps37
  go_upto_region 1 with fail
  generalize (w.alloc (.cells #[.int .i64 r.mode, .slice no r.t.ns.length ncap, .slice so r.t.sets.length scap, .int .i64 r.t.root, .string r.em, .int .i64 r.go] 40)).alloc (.cells #[.int .i64 0, .slice none 0 0, .slice none 0 0, .int .i64 0, .string ⟨#[]⟩, .int .i64 0] 40) = W1 at *
  have c4 : W1.cell? ⟨w.heap.size, 4, none⟩ = some (.string r.em) := by rw [Lib.cell_of_heap X0.out]; rfl
  go_upto_region 2 with (first
    | (go_at_call 54; (with_reducible refine (CL.out _).mono ?_); rintro e w1 ⟨rfl, hb1⟩; go_must (have k4 := cell_next c4 hb1; have f4 := Lib.frozen_of_heap ((hb1.block _ (cell_lt c4)).trans X0.out) 4; have HB1 := Lib.hid hb1; clear hb1))
    | fail)
  have y0 := (set6 (heapNc X0.out HB1.out) (.string r.em)).2.2
  have y1 := set_far (x := .string r.em) (o := 4) (heapNc X1.out HB1.out) (show w.heap.size + 1 ≠ w.heap.size by omega)
  have yb : Below w.heap.size w (w1.setCell ⟨w.heap.size, 4, none⟩ (.string r.em)) := (HB.out.trans (HB1.out.mono HB.out.size)).setCell (p := ⟨w.heap.size, 4, none⟩) (Nat.le_refl _) _
  have Y0 := Lib.hid y0
  have Y1 := Lib.hid y1
  have YB := Lib.hid yb
  clear y0 y1 yb k4 f4 X0 X1 HB HB1 c4 HSZ CL
  generalize w1.setCell ⟨w.heap.size, 4, none⟩ (.string r.em) = W2 at *
  obtain ⟨c0, c1, c2, c3, c4, c5⟩ := cells6 Y0.out
  have hs1 := (Array.getElem?_eq_some_iff.1 Y1.out).1
  go_upto_region 3 with (first
    | (at_builtin; refine wpList_appN rfl _ _ rfl (w.heap.size + 1 + 1) (.slice none 0 0) 0 [] rfl (World.ownsRow_nil _ _ _ _) _ r.t.ns rfl (HN.out.next YB.out) (by omega) (by omega) ?_; intro v' w3 hown hg; go_must (obtain ⟨va, vc, rfl, _⟩ := own_slice hown; have HG := Lib.hid hg; have k1 := (hg.block w.heap.size (by omega) (fun e => by cases e)).trans Y0.out; have f1 := Lib.frozen_of_heap k1 1; have e1 := (cells6 k1).2.1; have K1 := Lib.hid k1; have l1 := (Array.getElem?_eq_some_iff.1 k1).1; clear k1 hown hg))
    | fail)
  have z0 := (set6 K1.out (.slice va r.t.ns.length vc)).1
  have z1 := set_far (x := .slice va r.t.ns.length vc) (o := 1) ((HG.out.block (w.heap.size + 1) (by omega) (fun e => by cases e)).trans Y1.out) (show w.heap.size + 1 ≠ w.heap.size by omega)
  have zb : Below w.heap.size w (w3.setCell ⟨w.heap.size, 1, none⟩ (.slice va r.t.ns.length vc)) := (YB.out.grown HG.out (by omega) (fun k hk => by cases hk)).setCell (p := ⟨w.heap.size, 1, none⟩) (Nat.le_refl _) _
  have Z0 := Lib.hid z0
  have Z1 := Lib.hid z1
  have ZB := Lib.hid zb
  clear z0 z1 zb f1 e1 l1 K1 HG Y0 Y1 YB c0 c1 c2 c3 c4 c5 hs1
  generalize w3.setCell ⟨w.heap.size, 1, none⟩ (.slice va r.t.ns.length vc) = W4 at *
  obtain ⟨c0, c1, c2, c3, c4, c5⟩ := cells6 Z0.out
  go_wp2
  go_loopw [3, 22] (fun sv i wr => ∃ (k : Nat) (xs : List Value), i = .int .i64 k ∧ k ≤ r.t.sets.length ∧ wr.ownsRow (w.heap.size + 1 + 1) 71 1 sv k xs ∧ wr.heap[w.heap.size]? = some (.cells #[.int .i64 r.mode, .slice va r.t.ns.length vc, .slice so r.t.sets.length scap, .int .i64 r.t.root, .string r.em, .int .i64 r.go] 40 (0, 0)) ∧
      wr.heap[w.heap.size + 1]? = some (.cells #[.int .i64 0, .slice none 0 0, .slice none 0 0, .int .i64 0, .string ⟨#[]⟩, .int .i64 0] 40 (0, 0)) ∧ Below w.heap.size w wr) (fun _ i _ => r.t.sets.length - (intOf i).toNat)
  case atStart => exact ⟨0, [], rfl, Nat.zero_le _, World.ownsRow_nil _ _ _ _, Z0.out, Z1.out, ZB.out⟩
  case round =>
    clear c0 c1 c2 c3 c4 c5 Z0 Z1 ZB
    obtain ⟨k, xs, rfl, hk, hrow, x0, x1, hb⟩ := hrel
    obtain ⟨wo, rfl⟩ : ∃ x, x = wr := ⟨_, rfl⟩
    have hs1 := (Array.getElem?_eq_some_iff.1 x1).1
    have X0 := Lib.hid x0
    have X1 := Lib.hid x1
    have HB := Lib.hid hb
    by_cases hlt : k < r.t.sets.length
    · obtain ⟨g, x, rfl, c0, hx⟩ := HC.out k hlt
      have c1 := cell_next c0 HB.out
      have HX := Lib.hid (hx.next HB.out)
      have hle := EACH.out k hlt
      have HROW := Lib.hid hrow
      have h0i : (0 : Int) ≤ k := by omega
      have h1i : (k : Int) < (r.t.sets.length : Int) := by omega
      obtain ⟨sa, sc, e, hbk⟩ := own_slice hrow
      subst e
      have HBK := Lib.hid hbk
      clear hrow x0 x1 hb hx c0 hbk
      generalize nthL r.t.sets k = ll at *
      go_wp2_with (first
        | (at_builtin; refine wpList_app rfl _ _ rfl (w.heap.size + 1 + 1) (.slice none 0 0) 0 [] rfl (World.ownsRow_nil _ _ _ _) _ ll rfl HX.out (by omega) (by omega) ?_; intro v' w3 hown hg; go_must (obtain ⟨va2, vc2, rfl, _⟩ := own_slice hown; have ROW3 := Lib.hid (HROW.out.kept hg (by cases h : (Value.slice sa k sc).ownBlock <;> simp [Value.ownBlock])); have P0 := Lib.hid ((hg.block w.heap.size (by omega) (fun e => by cases e)).trans X0.out); have P1 := Lib.hid ((hg.block (w.heap.size + 1) (by omega) (fun e => by cases e)).trans X1.out); have B3 := Lib.hid (HB.out.grown hg (by omega) (fun k hk => by cases hk)); have hs3 := hg.size; clear hown hg))
        | (at_builtin; refine wpList_append_own _ rfl _ _ 36 rfl (w.heap.size + 1 + 1) 71 i0 (.slice none 0 0) 1 24 Tryz.underlying36 hi hz0 hz1 hz2 rfl (by decide) (.slice sa k sc) k xs rfl (own_next ROW3.out ((Below.refl _ _).alloc (Nat.le_refl _) _)) ⟨w3.heap.size, 0, none⟩ 1 1 [.slice va2 ll.length vc2] rfl rfl (World.news_of_block (World.alloc_heap_new w3 _)) (by simp [Value.oneCell']) (by unfold maxLen; omega) (by omega) (by simp; omega) ?_; intro v'' w5 hown hg _; go_must (obtain ⟨va3, vc3, rfl, _⟩ := own_slice hown; have ROW5 := Lib.hid hown; have Q0 := Lib.hid (grown_far (heapB P0.out) hg HBK.out (by omega)); have Q1 := Lib.hid (grown_far (heapB P1.out) hg HBK.out (by omega)); have B5 := Lib.hid ((B3.out.alloc (by omega) _).grown hg (by simp; omega) (fun k hk => by have := HBK.out k hk; omega)); clear hown hg))
        | fail)
      go_roundw
      case rel => exact ⟨k + 1, _, by go_num, by omega, ROW5.out, Q0.out, Q1.out, B5.out⟩
      case measure => simp [intOf]; omega
    · obtain rfl : k = r.t.sets.length := by omega
      obtain ⟨sa, sc, e, _⟩ := own_slice hrow
      subst e
      clear hrow
      have f2 := Lib.frozen_of_heap x0 2
      have e2 := (cells6 x0).2.2.1
      have l0 := (Array.getElem?_eq_some_iff.1 x0).1
      go_upto_region 10 with fail
      have y0 := (set6 x0 (.slice sa r.t.sets.length sc)).2.1
      have y1 := set_far (x := .slice sa r.t.sets.length sc) (o := 2) x1 (show w.heap.size + 1 ≠ w.heap.size by omega)
      have yb : Below w.heap.size w (wo.setCell ⟨w.heap.size, 2, none⟩ (.slice sa r.t.sets.length sc)) := hb.setCell (p := ⟨w.heap.size, 2, none⟩) (Nat.le_refl _) _
      clear x0 x1 hb f2 e2 l0 hs1 X0 X1 HB
      generalize wo.setCell ⟨w.heap.size, 2, none⟩ (.slice sa r.t.sets.length sc) = W6 at *
      obtain ⟨c0, c1, c2, c3, c4, c5⟩ := cells6 y0
      obtain ⟨d0, d1, d2, d3, d4, d5⟩ := cells6 y1
      have g0 := Lib.frozen_of_heap y1 0
      have g1 := Lib.frozen_of_heap y1 1
      have g2 := Lib.frozen_of_heap y1 2
      have g3 := Lib.frozen_of_heap y1 3
      have g4 := Lib.frozen_of_heap y1 4
      have g5 := Lib.frozen_of_heap y1 5
      have l1 := (Array.getElem?_eq_some_iff.1 y1).1
      have l0 := (Array.getElem?_eq_some_iff.1 y0).1
      have Y1 := Lib.hid y1
      have YB := Lib.hid yb
      clear y0 y1 yb
      go_wp2
      (try simp only [Exit.inBlock, Exit.then])
      refine bodyPost_ret (results_cell_row rfl _ _ (w.heap.size + 1) 40 #[.int .i64 r.mode, .slice va r.t.ns.length vc, .slice sa r.t.sets.length sc, .int .i64 r.t.root, .string r.em, .int .i64 r.go] (0, 0) _ rfl (all6 Y1.out _ _ _ _ _ _) Tryz.underlying40 rfl (by kernel_rfl)) rfl ?_
      exact ⟨_, _, _, _, _, _, rfl, below6 YB.out (by omega) _ _ _ _ _ _⟩
end Go.Proofs.YtgjiofkjogjhhaaGreatDoor.Sp

namespace Go.Proofs.YtgjiofkjogjhhaaGreatDoor.Sp
open Go Go.RowKit Go.Shelf
open Go.Proofs.YtgjiofkjogjhhaaGreatDoor.Rg (own_next add_zero)
open Go.Proofs.YtgjiofkjogjhhaaGreatDoor.Rp (heapA heapB belA)

/-- a copied rule: its number, and what its tree became -/
structure Cp where
  k : Nat
  no : Option Addr
  nl : Nat
  nc : Nat
  so : Option Addr
  sl : Nat
  sc : Nat
def cellsC (l : List Rl) (c : Cp) : List Value := [.int .i64 (rl l c.k).mode, .slice c.no c.nl c.nc, .slice c.so c.sl c.sc, .int .i64 (rl l c.k).t.root, .string (rl l c.k).em, .int .i64 (rl l c.k).go]
def flatC (l : List Rl) (cs : List Cp) : List Value := cs.flatMap (cellsC l)
theorem flatC_snoc (l : List Rl) (cs : List Cp) (c : Cp) : flatC l (cs ++ [c]) = flatC l cs ++ cellsC l c := by simp [flatC]
theorem flatC_at (l : List Rl) : ∀ (cs : List Cp) (i : Nat) (h : i < cs.length), (flatC l cs)[i * 6]? = some (.int .i64 (rl l cs[i].k).mode) ∧ (flatC l cs)[i * 6 + 1]? = some (.slice cs[i].no cs[i].nl cs[i].nc) ∧ (flatC l cs)[i * 6 + 2]? = some (.slice cs[i].so cs[i].sl cs[i].sc) ∧
    (flatC l cs)[i * 6 + 3]? = some (.int .i64 (rl l cs[i].k).t.root) ∧ (flatC l cs)[i * 6 + 4]? = some (.string (rl l cs[i].k).em) ∧ (flatC l cs)[i * 6 + 5]? = some (.int .i64 (rl l cs[i].k).go)
  | [], i, h => by simp at h
  | c :: r, 0, h => by simp [flatC, cellsC]
  | c :: r, i + 1, h => by
    have := flatC_at l r i (by simpa using h)
    rw [show (i + 1) * 6 = i * 6 + 1 + 1 + 1 + 1 + 1 + 1 by omega]
    simpa [flatC, cellsC] using this
theorem infoRl : (Tryz.prog.info? 40).map (fun i => (i.zero, i.size, i.bytes)) = some (some (.agg #[.int .i64 0, .slice none 0 0, .slice none 0 0, .int .i64 0, .string ⟨#[]⟩, .int .i64 0]), 6, 88) := by kernel_rfl
/-- what Grouped tells -/
def GrdOut (w : World) (l : List Rl) (m : Nat) (e : Ending) (w' : World) : Prop :=
  ∃ v cs, e = .returned v ∧ w'.ownsRow w.heap.size 40 6 v cs.length (flatC l cs) ∧ cs.map (·.k) = grpL l m ∧ Below w.heap.size w w'
theorem GrdOut.mk' {w w' : World} {l : List Rl} {m B : Nat} {v : Value} {cs : List Cp} (h : w'.ownsRow B 40 6 v cs.length (flatC l cs)) (hB : w.heap.size ≤ B) (hc : cs.map (·.k) = grpL l m) (hb : Below w.heap.size w w') : GrdOut w l m (.returned v) w' := ⟨v, cs, rfl, Rg.row_base h hB, hc, hb⟩
theorem ints_nat {w : World} {B : Nat} {v : Value} {ks : List Nat} (h : w.ownsRow B 3 1 v ks.length (natV ks)) : ∃ ao cap, v = .slice ao ks.length cap ∧ ∀ i (hi : i < ks.length), ∃ ad, ao = some ad ∧ w.cell? (ad.add i) = some (.int .i64 (ks[i] : Nat)) := by
  have hi : IntsAt w v (ks.map fun (k : Nat) => (k : Int)) := ints_of_row (B := B) (by
    rw [List.length_map, List.map_map]
    exact h)
  obtain ⟨ao, cap, e, _, hc⟩ := hi.shape
  rw [List.length_map] at e hc
  refine ⟨ao, cap, e, fun i hi => ?_⟩
  obtain ⟨ad, h1, h2⟩ := hc i hi
  refine ⟨ad, h1, ?_⟩
  rw [h2]
  simp [List.getD, hi]

set_option maxRecDepth 100000 in
set_option maxHeartbeats 4000000 in
theorem grouped_any (M : List ByteArray) (l : List Rl) (v : Value) (w : World) (hv : SpecAt w v M l) (hm : M.length ≤ 1000) (hl : l.length ≤ 1000) (hf : ∀ i, i < l.length → FitC (rl l i)) :
    Calls Tryz.prog 11 #[v] w fun e w' => GrdOut w l M.length e w' := by
  obtain ⟨i0, hi, hz0, hz1, hz2⟩ := info_parts infoRl
  have HV := Lib.hid hv
  obtain ⟨mo, mcap, ro, rcap, rfl, _, _, _, hr, _⟩ := hv.shape
  obtain ⟨ao, cap, e, _, hc⟩ := hr.shape
  simp only [Value.slice.injEq] at e
  obtain ⟨rfl, _, rfl⟩ := e
  have HC := Lib.hid hc
  have HF := Lib.hid hf
  have b1 := (Below.refl w.heap.size w).alloc (Nat.le_refl _) (.cells #[.slice mo M.length mcap, .slice ro l.length rcap] 25)
  have S0 := Lib.hid (SBox.new w (.slice mo M.length mcap) (.slice ro l.length rcap))
  have GR := Lib.hid (groups_any M l _ _ (HV.out.next b1) hm hl)
  have B1 := Lib.hid b1
  have CP := Lib.hid (fun i (hi : i < l.length) X v1 (h1 : RuleAt X v1 (rl l i)) => copied_any (rl l i) v1 X h1 (HF.out i hi))
  have HLE := Lib.hid (grpL_le l)
  clear hr hv hc b1 hf
  go_enter Tryz.func11, Tryz.ntmps11
  go_upto_region 1 with fail
  generalize w.alloc (.cells #[.slice mo M.length mcap, .slice ro l.length rcap] 25) = W1 at *
  obtain ⟨s0, s1⟩ := S0.out
  go_wp2_with (first
    | (go_at_call 20; (with_reducible refine GR.out.mono ?_); rintro e w2 ⟨L, vs, rfl, hL, hg, hb2⟩; go_must (have GA := Lib.hid hg; have BB := Lib.hid hb2; have HL := Lib.hid hL; clear hg hb2 hL s0 s1))
    | fail)
  have hs2 := BB.out.size
  have B2 := Lib.hid (B1.out.trans (BB.out.mono B1.out.size))
  have S2 := Lib.hid (S0.out.next BB.out)
  clear S0 B1 BB HL GR
  go_loopw [3, 11] (fun sv i wr => ∃ (j : Nat) (cs : List Cp), i = .int .i64 j ∧ j ≤ M.length ∧ wr.ownsRow w2.heap.size 40 6 sv cs.length (flatC l cs) ∧ cs.map (·.k) = grpL l j ∧ Below w2.heap.size w2 wr) (fun _ i _ => M.length - (intOf i).toNat)
  case atStart => exact ⟨0, [], rfl, Nat.zero_le _, World.ownsRow_nil _ _ _ _, rfl, Below.refl _ _⟩
  case round =>
    obtain ⟨j, cs, rfl, hj, hrow, hcs, hb⟩ := hrel
    obtain ⟨wo, rfl⟩ : ∃ x, x = wr := ⟨_, rfl⟩
    by_cases hlt : j < M.length
    · have cj := cell_next (GA.out.cell hlt) hb
      obtain ⟨ga, gc, hvs, hint⟩ := ints_nat (GA.out.rows j hlt)
      rw [hvs] at cj
      have HI := Lib.hid hint
      have h0i : (0 : Int) ≤ j := by omega
      have h1i : (j : Int) < (M.length : Int) := by omega
      have hlj := cell_lt cj
      have MEM := Lib.hid (fun k (h : k ∈ idxs l j l.length) => (idxs_mem.1 h).1)
      have HCS := Lib.hid hcs
      have HROW := Lib.hid hrow
      have HB := Lib.hid hb
      have GS := Lib.hid (grpL_succ l j)
      have HLE1 := Lib.hid (HLE.out (j + 1))
      have hkl : (idxs l j l.length).length ≤ 1000 := by have := idxs_len l j l.length; omega
      clear hint hvs hcs hrow hb
      generalize idxs l j l.length = ks at *
      go_wp2
      go_loopw [3, 17] (fun sv i wr => ∃ (q : Nat) (cs : List Cp), i = .int .i64 q ∧ q ≤ ks.length ∧ wr.ownsRow w2.heap.size 40 6 sv cs.length (flatC l cs) ∧ cs.map (·.k) = grpL l j ++ ks.take q ∧ Below w2.heap.size w2 wr) (fun _ i _ => ks.length - (intOf i).toNat)
      case atStart => exact ⟨0, cs, rfl, Nat.zero_le _, HROW.out, by rw [HCS.out]; simp, HB.out⟩
      case round =>
        clear HROW HCS HB cj hlj
        obtain ⟨q, ds, rfl, hq, hrow, hds, hb⟩ := hrel
        obtain ⟨wo, rfl⟩ : ∃ x, x = wr := ⟨_, rfl⟩
        by_cases hql : q < ks.length
        · obtain ⟨ad, rfl, c0⟩ := HI.out q hql
          have c1 := cell_next c0 hb
          have hk := MEM.out ks[q] (List.getElem_mem hql)
          obtain ⟨s0, s1⟩ := S2.out.next hb
          obtain ⟨rg, rfl, no, ncap, so, scap, hin⟩ := HC.out ks[q] hk
          have hB := B2.out.trans (hb.mono B2.out.size)
          have hin1 := hin.next hB
          obtain ⟨d0, d1, d2, d3, d4, d5, dt⟩ := hin1
          have CPk := Lib.hid (CP.out ks[q] hk wo _ ⟨no, ncap, so, scap, rfl, dt⟩)
          have ls := cell_lt s0
          have lc := cell_lt c1
          have ld := cell_lt d0
          have HDS : Hid (∀ c : Cp, c.k = ks[q] → (ds ++ [c]).map (·.k) = grpL l j ++ ks.take (q + 1)) := Lib.hid (fun c hc => by
            rw [List.map_append, hds, List.take_succ_eq_append_getElem hql]; simp [hc])
          have hdl : ds.length ≤ 1000 := by
            have h1 : ds.length = (grpL l j ++ ks.take q).length := by rw [← hds, List.length_map]
            have h2 := HLE1.out
            rw [GS.out] at h2
            simp only [List.length_append, List.length_take] at h1 h2
            omega
          have FL := Lib.hid (fun c => flatC_snoc l ds c)
          have HROW := Lib.hid hrow
          have HBq := Lib.hid hb
          have HBw := Lib.hid hB
          have hszq : w2.heap.size ≤ wo.heap.size := hb.size
          have h0q : (0 : Int) ≤ q := by omega
          have h1q : (q : Int) < (ks.length : Int) := by omega
          obtain ⟨sa, sc, e, hbk⟩ := own_slice hrow
          subst e
          have HBK := Lib.hid hbk
          unfold CopyOut at CPk
          clear hrow hds hb hB hin c0 dt hbk
          have hk0 : (0 : Int) ≤ (ks[q] : Nat) := by omega
          have hk1 : ((ks[q] : Nat) : Int) < (l.length : Int) := by omega
          have hcell : Hid (∀ no nl nc so sl sc, cellsC l ⟨ks[q], no, nl, nc, so, sl, sc⟩ = [.int .i64 (rl l ks[q]).mode, .slice no nl nc, .slice so sl sc, .int .i64 (rl l ks[q]).t.root, .string (rl l ks[q]).em, .int .i64 (rl l ks[q]).go]) := Lib.hid fun _ _ _ _ _ _ => rfl
          generalize hkk : ks[q] = kk at *
          generalize rl l kk = r at *
          clear hkk
          go_wp2_with (first
            | (go_at_call 37; (with_reducible refine CPk.out.mono ?_); rintro e w3 ⟨no3, nl3, nc3, so3, sl3, sc3, rfl, hb3⟩; go_must (have B3 := Lib.hid (HBq.out.trans (hb3.mono hszq)); have R3 := Lib.hid (own_next HROW.out hb3); have hs3 := hb3.size; have FLc := Lib.hid (FL.out ⟨kk, no3, nl3, nc3, so3, sl3, sc3⟩); have HDc := Lib.hid (HDS.out ⟨kk, no3, nl3, nc3, so3, sl3, sc3⟩ rfl); have HCc := Lib.hid (hcell.out no3 nl3 nc3 so3 sl3 sc3); clear hb3))
            | (at_builtin; refine wpList_append_own _ rfl _ _ 23 rfl w2.heap.size 40 i0 (.agg #[.int .i64 0, .slice none 0 0, .slice none 0 0, .int .i64 0, .string ⟨#[]⟩, .int .i64 0]) 6 88 Tryz.underlying23 hi hz0 hz1 hz2 rfl (by decide) (.slice sa ds.length sc) ds.length (flatC l ds) rfl (own_next R3.out ((Below.refl _ _).alloc (Nat.le_refl _) _)) ⟨w3.heap.size, 0, none⟩ 1 1 [.int .i64 r.mode, .slice no3 nl3 nc3, .slice so3 sl3 sc3, .int .i64 r.t.root, .string r.em, .int .i64 r.go] rfl rfl (World.news_of_block (World.alloc_heap_new w3 _)) (by simp [Value.oneCell']) (by unfold maxLen; omega) (by omega) (by simp; omega) ?_; intro v5 w5 hown hg _; go_must (obtain ⟨va5, vc5, rfl, _⟩ := own_slice hown; have ROW5 := Lib.hid hown; have B5 := Lib.hid ((B3.out.alloc (by omega) _).grown hg (by simp; omega) HBK.out); clear hown hg))
            | fail)
          go_roundw
          case rel => exact ⟨q + 1, ds ++ [⟨kk, no3, nl3, nc3, so3, sl3, sc3⟩], by go_num, by omega, by rw [FLc.out, HCc.out, List.length_append]; exact ROW5.out, HDc.out, B5.out⟩
          case measure => simp [intOf]; omega
        · obtain rfl : q = ks.length := by omega
          have HROW := Lib.hid hrow
          have HDS := Lib.hid hds
          have HBq := Lib.hid hb
          clear hrow hds hb
          go_wp2
          go_roundw
          case rel => exact ⟨j + 1, ds, by go_num, by omega, HROW.out, by rw [HDS.out, GS.out, List.take_length], HBq.out⟩
          case measure => simp [intOf]; omega
    · obtain rfl : j = M.length := by omega
      have HROW := Lib.hid hrow
      have HCS := Lib.hid hcs
      have HBq := Lib.hid (B2.out.trans (hb.mono B2.out.size))
      clear hrow hcs hb
      go_wp2
      go_ret
      exact GrdOut.mk' HROW.out B2.out.size HCS.out HBq.out
end Go.Proofs.YtgjiofkjogjhhaaGreatDoor.Sp

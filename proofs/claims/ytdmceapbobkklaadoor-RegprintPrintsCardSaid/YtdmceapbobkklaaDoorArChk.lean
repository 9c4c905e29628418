/- The program's Check. -/
import Derived.Test.YtdmceapbobkklaaDoorArMay
import Derived.Test.YtdmceapbobkklaaDoorArBox
import Derived.Test.YtdmceapbobkklaaDoorRgPRight
namespace Go.Proofs.YtdmceapbobkklaaDoor.Ar
open Go Go.RowKit Go.Shelf
open Go.Proofs.YtdmceapbobkklaaDoor.Rg (R RngsAt RowsAt nthL add_zero own_next rightB right_any rightB_of)

theorem right_b (l : List R) (v : Value) (w : World) (h : RngsAt w v l) : Calls Tryd.prog 29 #[v] w fun e w' => e = .returned (.bool (rightB l)) ∧ Below w.heap.size w w' := by
  refine (right_any l v w h).mono ?_
  rintro e w' ⟨b, rfl, hb, h2⟩
  exact ⟨by rw [rightB_of hb], h2⟩

set_option maxRecDepth 100000 in
set_option maxHeartbeats 8000000 in
theorem check_any (t : Tr) (v : Value) (w : World) (h : TreeAt w v t) :
    Calls Tryd.prog 14 #[v] w fun e w' => e = .returned (.int .i64 (checkE t)) ∧ Below w.heap.size w w' := by
  have HV := Lib.hid h
  obtain ⟨ao, cap, so, scap, rfl, hm, hm2, hn, hs⟩ := h.shape
  have HN := Lib.hid hn
  have HS := Lib.hid hs
  clear hn hs h
  have b1 := (Below.refl w.heap.size w).alloc (Nat.le_refl _) (.cells #[.slice ao t.ns.length cap, .slice so t.sets.length scap, .int .i64 t.root] 25)
  have B1 := Lib.hid b1
  have T0 := Lib.hid (TBox.new w (.slice ao t.ns.length cap) (.slice so t.sets.length scap) t.root)
  by_cases hbig : 4096 < t.ns.length ∨ 4096 < t.sets.length
  · rw [check_big hbig]
    have hh : (4096 : Int) < t.ns.length ∨ (¬ (4096 : Int) < t.ns.length ∧ (4096 : Int) < t.sets.length) := by omega
    clear hbig
    rcases hh with h1 | ⟨h1, h2⟩
    all_goals (
      go_enter Tryd.func14, Tryd.ntmps14
      go_wp2
      go_ret
      exact ⟨rfl, b1⟩)
  · have n1 : ¬ (4096 : Int) < t.ns.length := by omega
    have n2 : ¬ (4096 : Int) < t.sets.length := by omega
    have HBIG := Lib.hid hbig
    have CR := Lib.hid (check_root (t := t) hbig)
    have CS := Lib.hid (check_sets (t := t) hbig)
    have CN := Lib.hid (check_node (t := t) hbig)
    have CA := Lib.hid (check_all (t := t) hbig)
    generalize checkE t = E at *
    have CB := Lib.hid (fun v w (h : IntsAt w v [t.root]) => below_any t.ns.length v [t.root] w h)
    have HB := Lib.hid (show rootB t = belowB t.ns.length [t.root] by rw [belowB_one]; rfl)
    generalize rootB t = r at *
    rw [← HB.out] at CB
    clear hbig
    cases r
    · have e := CR.out rfl
      go_enter Tryd.func14, Tryd.ntmps14
      go_wp2_with (go_at_call 28; (with_reducible refine (CB.out _ _ (slice_oneAt _ _ (by simp) _)).mono ?_); rintro e w1 ⟨rfl, rfl⟩)
      go_ret
      exact ⟨ret_e e.symm, b1.alloc (by simp) _⟩
    · go_enter Tryd.func14, Tryd.ntmps14
      go_wp2_with (go_at_call 28; (with_reducible refine (CB.out _ _ (slice_oneAt _ _ (by simp) _)).mono ?_); rintro e w1 ⟨rfl, rfl⟩)
      have HW := Lib.hid (show Below (w.heap.size + 1) (w.alloc (.cells #[.slice ao t.ns.length cap, .slice so t.sets.length scap, .int .i64 t.root] 25)) ((w.alloc (.cells #[.slice ao t.ns.length cap, .slice so t.sets.length scap, .int .i64 t.root] 25)).alloc (.cells #[.int .i64 t.root] 3)) from (Below.refl _ _).alloc (by simp) _)
      have HSZ : (w.alloc (.cells #[.slice ao t.ns.length cap, .slice so t.sets.length scap, .int .i64 t.root] 25)).heap.size = w.heap.size + 1 := by simp
      generalize w.alloc (.cells #[.slice ao t.ns.length cap, .slice so t.sets.length scap, .int .i64 t.root] 25) = W1 at *
      go_loopw [28] (fun i wr => ∃ k : Nat, i = .int .i64 k ∧ k ≤ t.sets.length ∧ setsB t.sets k = true ∧ Below (w.heap.size + 1) W1 wr) (fun i _ => t.sets.length - (intOf i).toNat)
      case atStart => exact ⟨0, rfl, Nat.zero_le _, rfl, HW.out⟩
      case round =>
        obtain ⟨k, rfl, hk, hset, hbw⟩ := hrel
        obtain ⟨q0, q1, q2⟩ := T0.out.next (hbw.mono (by omega))
        have hsz := hbw.size
        have HBW := Lib.hid hbw
        clear hbw
        by_cases hlt : k < t.sets.length
        · obtain ⟨gs, x, rfl, x1, x2⟩ := HS.out k hlt
          have hB := B1.out.trans (HBW.out.mono (by omega))
          have y1 := cell_next x1 hB
          have HR := Lib.hid (right_b (nthL t.sets k) x wr (x2.next hB))
          have HSS := Lib.hid (setsB_succ hlt)
          have HSF := Lib.hid (fun h => setsB_false (S := t.sets) (k := k + 1) (n := t.sets.length) h (by omega))
          rw [hset, Bool.true_and] at HSS
          have HSET := Lib.hid hset
          clear hset x1 x2 hB
          replace HSS : Hid (setsB t.sets (k + 1) = rightB (nthL t.sets k)) := HSS
          generalize rightB (nthL t.sets k) = b at *
          cases b
          all_goals (
            go_wp2_with (go_at_call 29; (with_reducible refine HR.out.mono ?_); rintro e w2 ⟨rfl, hb2⟩; go_must (have B2 := Lib.hid (HBW.out.trans (hb2.mono (by omega))); clear hb2))
            first
              | (go_ret; exact ⟨ret_e (CS.out (HSF.out HSS.out)).symm, B1.out.trans (B2.out.mono (by omega))⟩)
              | (go_roundw
                 case rel => exact ⟨k + 1, by go_num, by omega, HSS.out, B2.out⟩
                 case measure => simp [intOf]; omega))
        · obtain rfl : k = t.sets.length := by omega
          have HSET := Lib.hid hset
          clear hset
          go_wp2
          go_loopw [39] (fun i wr => ∃ k : Nat, i = .int .i64 k ∧ k ≤ t.ns.length ∧ allB t.ns t.sets.length k = true ∧ Below (w.heap.size + 1) W1 wr) (fun i _ => t.ns.length - (intOf i).toNat)
          case atStart => exact ⟨0, rfl, Nat.zero_le _, rfl, HBW.out⟩
          case round =>
            clear q0 q1 q2 hsz
            obtain ⟨k, rfl, hk, hall, hbw⟩ := hrel
            obtain ⟨q0, q1, q2⟩ := T0.out.next (hbw.mono (by omega))
            have hsz := hbw.size
            have HBW2 := Lib.hid hbw
            clear hbw
            by_cases hlt : k < t.ns.length
            · obtain ⟨g, rfl, hnode⟩ := HN.out k hlt
              have hB := B1.out.trans (HBW2.out.mono (by omega))
              obtain ⟨c0, c1, c2, c3, c4, c5⟩ := hnode.next hB
              have hl0 := cell_lt c0
              have hl1 : w.heap.size < wr.heap.size := by omega
              have HM := Lib.hid (fun W => may_any (nd t.ns k) k t.sets.length W)
              have HSS := Lib.hid (allB_succ t.ns t.sets.length k)
              have HSF := Lib.hid (fun h => allB_false (l := t.ns) (s := t.sets.length) (k := k + 1) (n := t.ns.length) h (by omega))
              rw [hall, Bool.true_and] at HSS
              clear hall hnode hB
              unfold aggN at HM
              generalize nodeB (nd t.ns k) k t.sets.length = b at *
              generalize nd t.ns k = n at *
              cases b
              all_goals (
                go_wp2_with (go_at_call 30; (with_reducible refine (HM.out _).mono ?_); rintro e w2 ⟨rfl, hb2⟩; go_must (have B2 := Lib.hid (HBW2.out.trans ((((Below.refl wr.heap.size wr).alloc (Nat.le_refl _) (.cells #[.int .i64 n.op, .int .i64 n.a, .int .i64 n.b, .int .i64 n.lo, .int .i64 n.hi, .int .i64 n.set] 56)).mono (by omega)).trans (hb2.mono (by simp; omega)))); clear hb2))
                first
                  | (go_ret; exact ⟨ret_e (CN.out (HSF.out HSS.out)).symm, B1.out.trans (B2.out.mono (by omega))⟩)
                  | (go_roundw
                     case rel => exact ⟨k + 1, by go_num, by omega, HSS.out, B2.out⟩
                     case measure => simp [intOf]; omega))
            · obtain rfl : k = t.ns.length := by omega
              have e := CA.out (by simp) HSET.out hall
              have HE := Lib.hid e
              clear e hall
              go_wp2
              go_ret
              exact ⟨ret_e HE.out.symm, B1.out.trans (HBW2.out.mono (by omega))⟩

end Go.Proofs.YtdmceapbobkklaaDoor.Ar

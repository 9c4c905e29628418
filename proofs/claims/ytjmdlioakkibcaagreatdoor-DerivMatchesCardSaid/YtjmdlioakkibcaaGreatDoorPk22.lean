/- The program's Right. The program's Check. The program's Matches and Nullable. Tables of places in plain words: from where to where a row of numbers leads. Tables of places in memory: the document's blank. Tables of places in memory: the document's blank. -/
import Derived.Test.YtjmdlioakkibcaaGreatDoorPk01
import Derived.Deep.DeepMust
import Derived.Test.YtjmdlioakkibcaaGreatDoorPk21
import Derived.Test.YtjmdlioakkibcaaGreatDoorPk04
import Derived.Test.YtjmdlioakkibcaaGreatDoorPk20
import Derived.Lib.Hide
import Derived.Carry

namespace Go.Proofs.YtjmdlioakkibcaaGreatDoor.Rg
open Go.RowKit Go.Shelf

/-- what Right tells -/
def RightOut (l : List R) (w : World) (e : Ending) (w' : World) : Prop := ∃ b, e = .returned (.bool b) ∧ (b = true ↔ setFrom 0 l) ∧ Below w.heap.size w w'
def RightRel (l : List R) (w : World) (s i : Value) (wr : World) : Prop :=
  ∃ (k : Nat) (m : Int), i = .int .i64 k ∧ s = .int .i64 m ∧ k ≤ l.length ∧ 0 ≤ m ∧ m ≤ 1114113 ∧ (setFrom 0 l ↔ setFrom m (l.drop k)) ∧ Below w.heap.size w wr

set_option maxHeartbeats 1600000 in
theorem right_any (l : List R) (v : Value) (w : World) (hv : RngsAt w v l) :
    Calls Tryz.prog 35 #[v] w fun e w' => RightOut l w e w' := by
  obtain ⟨ao, cap, rfl, hm, hcs⟩ := hv.shape
  have HC := Lib.hid hcs
  clear hcs hv
  go_enter Tryz.func35, Tryz.ntmps35
  go_wp2
  go_loopw [3, 8] (fun s i wr => RightRel l w s i wr) (fun _ i _ => l.length - (intOf i).toNat)
  case atStart => exact ⟨0, 0, rfl, rfl, Nat.zero_le _, by omega, by omega, Iff.rfl, Below.refl _ _⟩
  case round =>
    obtain ⟨k, m, rfl, rfl, hk, hm0, hm1, hset, hb⟩ := hrel
    by_cases hlt : k < l.length
    · obtain ⟨g, rfl, c1, c2⟩ := HC.out k hlt
      replace c1 := cell_next c1 hb
      replace c2 := cell_next c2 hb
      rw [set_at hlt] at hset
      have HS := Lib.hid hset
      have HB := Lib.hid hb
      have hsz := hb.size
      clear hset hb
      go_wp2
      all_goals first
        | (go_ret; exact ⟨_, rfl, ⟨fun h => (by cases h), fun h => by obtain ⟨h1, h2, h3, _⟩ := HS.out.1 h; omega⟩, HB.out.alloc hsz _⟩)
        | (go_roundw
           case rel => exact ⟨k + 1, _, by go_num, rfl, by omega, by omega, by omega, by rw [HS.out]; exact ⟨fun h => h.2.2.2, fun h => ⟨by omega, by omega, by omega, h⟩⟩, HB.out.alloc hsz _⟩
           case measure => simp [intOf]; omega)
    · obtain rfl : k = l.length := by omega
      rw [List.drop_length] at hset
      have HS := Lib.hid hset
      clear hset
      go_wp2
      go_ret
      exact ⟨_, rfl, by rw [HS.out]; simp [setFrom], hb⟩


end Go.Proofs.YtjmdlioakkibcaaGreatDoor.Rg

namespace Go.Proofs.YtjmdlioakkibcaaGreatDoor.Ar
open Go Go.RowKit Go.Shelf
open Go.Proofs.YtjmdlioakkibcaaGreatDoor.Rg (R RngsAt RowsAt nthL add_zero own_next rightB right_any rightB_of)

theorem right_b (l : List R) (v : Value) (w : World) (h : RngsAt w v l) : Calls Tryz.prog 35 #[v] w fun e w' => e = .returned (.bool (rightB l)) ∧ Below w.heap.size w w' := by
  refine (right_any l v w h).mono ?_
  rintro e w' ⟨b, rfl, hb, h2⟩
  exact ⟨by rw [rightB_of hb], h2⟩

set_option maxRecDepth 100000 in
set_option maxHeartbeats 8000000 in
theorem check_any (t : Tr) (v : Value) (w : World) (h : TreeAt w v t) :
    Calls Tryz.prog 17 #[v] w fun e w' => e = .returned (.int .i64 (checkE t)) ∧ Below w.heap.size w w' := by
  have HV := Lib.hid h
  obtain ⟨ao, cap, so, scap, rfl, hm, hm2, hn, hs⟩ := h.shape
  have HN := Lib.hid hn
  have HS := Lib.hid hs
  clear hn hs h
  have b1 := (Below.refl w.heap.size w).alloc (Nat.le_refl _) (.cells #[.slice ao t.ns.length cap, .slice so t.sets.length scap, .int .i64 t.root] 25)
  have B1 := Lib.hid b1
  have T0 := Lib.hid (TBox.new w (.slice ao t.ns.length cap) (.slice so t.sets.length scap) t.root)
  by_cases hbig : 4096 < t.ns.length ∨ 4096 < t.sets.length
  · rw [check_big hbig]
    have hh : (4096 : Int) < t.ns.length ∨ (¬ (4096 : Int) < t.ns.length ∧ (4096 : Int) < t.sets.length) := by omega
    clear hbig
    rcases hh with h1 | ⟨h1, h2⟩
    all_goals (
      go_enter Tryz.func17, Tryz.ntmps17
      go_wp2
      go_ret
      exact ⟨rfl, b1⟩)
  · have n1 : ¬ (4096 : Int) < t.ns.length := by omega
    have n2 : ¬ (4096 : Int) < t.sets.length := by omega
    have HBIG := Lib.hid hbig
    have CR := Lib.hid (check_root (t := t) hbig)
    have CS := Lib.hid (check_sets (t := t) hbig)
    have CN := Lib.hid (check_node (t := t) hbig)
    have CA := Lib.hid (check_all (t := t) hbig)
    generalize checkE t = E at *
    have CB := Lib.hid (fun v w (h : IntsAt w v [t.root]) => below_any t.ns.length v [t.root] w h)
    have HB := Lib.hid (show rootB t = belowB t.ns.length [t.root] by rw [belowB_one]; rfl)
    generalize rootB t = r at *
    rw [← HB.out] at CB
    clear hbig
    cases r
    · have e := CR.out rfl
      go_enter Tryz.func17, Tryz.ntmps17
      go_wp2_with (go_at_call 34; (with_reducible refine (CB.out _ _ (slice_oneAt _ _ (by simp) _)).mono ?_); rintro e w1 ⟨rfl, rfl⟩)
      go_ret
      exact ⟨ret_e e.symm, b1.alloc (by simp) _⟩
    · go_enter Tryz.func17, Tryz.ntmps17
      go_wp2_with (go_at_call 34; (with_reducible refine (CB.out _ _ (slice_oneAt _ _ (by simp) _)).mono ?_); rintro e w1 ⟨rfl, rfl⟩)
      have HW := Lib.hid (show Below (w.heap.size + 1) (w.alloc (.cells #[.slice ao t.ns.length cap, .slice so t.sets.length scap, .int .i64 t.root] 25)) ((w.alloc (.cells #[.slice ao t.ns.length cap, .slice so t.sets.length scap, .int .i64 t.root] 25)).alloc (.cells #[.int .i64 t.root] 3)) from (Below.refl _ _).alloc (by simp) _)
      have HSZ : (w.alloc (.cells #[.slice ao t.ns.length cap, .slice so t.sets.length scap, .int .i64 t.root] 25)).heap.size = w.heap.size + 1 := by simp
      generalize w.alloc (.cells #[.slice ao t.ns.length cap, .slice so t.sets.length scap, .int .i64 t.root] 25) = W1 at *
      go_loopw [28] (fun i wr => ∃ k : Nat, i = .int .i64 k ∧ k ≤ t.sets.length ∧ setsB t.sets k = true ∧ Below (w.heap.size + 1) W1 wr) (fun i _ => t.sets.length - (intOf i).toNat)
      case atStart => exact ⟨0, rfl, Nat.zero_le _, rfl, HW.out⟩
      case round =>
        obtain ⟨k, rfl, hk, hset, hbw⟩ := hrel
        obtain ⟨q0, q1, q2⟩ := T0.out.next (hbw.mono (by omega))
        have hsz := hbw.size
        have HBW := Lib.hid hbw
        clear hbw
        by_cases hlt : k < t.sets.length
        · obtain ⟨gs, x, rfl, x1, x2⟩ := HS.out k hlt
          have hB := B1.out.trans (HBW.out.mono (by omega))
          have y1 := cell_next x1 hB
          have HR := Lib.hid (right_b (nthL t.sets k) x wr (x2.next hB))
          have HSS := Lib.hid (setsB_succ hlt)
          have HSF := Lib.hid (fun h => setsB_false (S := t.sets) (k := k + 1) (n := t.sets.length) h (by omega))
          rw [hset, Bool.true_and] at HSS
          have HSET := Lib.hid hset
          clear hset x1 x2 hB
          replace HSS : Hid (setsB t.sets (k + 1) = rightB (nthL t.sets k)) := HSS
          generalize rightB (nthL t.sets k) = b at *
          cases b
          all_goals (
            go_wp2_with (go_at_call 35; (with_reducible refine HR.out.mono ?_); rintro e w2 ⟨rfl, hb2⟩; go_must (have B2 := Lib.hid (HBW.out.trans (hb2.mono (by omega))); clear hb2))
            first
              | (go_ret; exact ⟨ret_e (CS.out (HSF.out HSS.out)).symm, B1.out.trans (B2.out.mono (by omega))⟩)
              | (go_roundw
                 case rel => exact ⟨k + 1, by go_num, by omega, HSS.out, B2.out⟩
                 case measure => simp [intOf]; omega))
        · obtain rfl : k = t.sets.length := by omega
          have HSET := Lib.hid hset
          clear hset
          go_wp2
          go_loopw [39] (fun i wr => ∃ k : Nat, i = .int .i64 k ∧ k ≤ t.ns.length ∧ allB t.ns t.sets.length k = true ∧ Below (w.heap.size + 1) W1 wr) (fun i _ => t.ns.length - (intOf i).toNat)
          case atStart => exact ⟨0, rfl, Nat.zero_le _, rfl, HBW.out⟩
          case round =>
            clear q0 q1 q2 hsz
            obtain ⟨k, rfl, hk, hall, hbw⟩ := hrel
            obtain ⟨q0, q1, q2⟩ := T0.out.next (hbw.mono (by omega))
            have hsz := hbw.size
            have HBW2 := Lib.hid hbw
            clear hbw
            by_cases hlt : k < t.ns.length
            · obtain ⟨g, rfl, hnode⟩ := HN.out k hlt
              have hB := B1.out.trans (HBW2.out.mono (by omega))
              obtain ⟨c0, c1, c2, c3, c4, c5⟩ := hnode.next hB
              have hl0 := cell_lt c0
              have hl1 : w.heap.size < wr.heap.size := by omega
              have HM := Lib.hid (fun W => may_any (nd t.ns k) k t.sets.length W)
              have HSS := Lib.hid (allB_succ t.ns t.sets.length k)
              have HSF := Lib.hid (fun h => allB_false (l := t.ns) (s := t.sets.length) (k := k + 1) (n := t.ns.length) h (by omega))
              rw [hall, Bool.true_and] at HSS
              clear hall hnode hB
              unfold aggN at HM
              generalize nodeB (nd t.ns k) k t.sets.length = b at *
              generalize nd t.ns k = n at *
              cases b
              all_goals (
                go_wp2_with (go_at_call 36; (with_reducible refine (HM.out _).mono ?_); rintro e w2 ⟨rfl, hb2⟩; go_must (have B2 := Lib.hid (HBW2.out.trans ((((Below.refl wr.heap.size wr).alloc (Nat.le_refl _) (.cells #[.int .i64 n.op, .int .i64 n.a, .int .i64 n.b, .int .i64 n.lo, .int .i64 n.hi, .int .i64 n.set] 35)).mono (by omega)).trans (hb2.mono (by simp; omega)))); clear hb2))
                first
                  | (go_ret; exact ⟨ret_e (CN.out (HSF.out HSS.out)).symm, B1.out.trans (B2.out.mono (by omega))⟩)
                  | (go_roundw
                     case rel => exact ⟨k + 1, by go_num, by omega, HSS.out, B2.out⟩
                     case measure => simp [intOf]; omega))
            · obtain rfl : k = t.ns.length := by omega
              have e := CA.out (by simp) HSET.out hall
              have HE := Lib.hid e
              clear e hall
              go_wp2
              go_ret
              exact ⟨ret_e HE.out.symm, B1.out.trans (HBW2.out.mono (by omega))⟩

end Go.Proofs.YtjmdlioakkibcaaGreatDoor.Ar

namespace Go.Proofs.YtjmdlioakkibcaaGreatDoor.Dv
open Go Go.RowKit Go.Shelf Go.Maps
open Go.Proofs.YtjmdlioakkibcaaGreatDoor.Ar (timesB Nd nd nodeB Tr Ok TreeAt checkE check_ok check_any)
open Go.Proofs.YtjmdlioakkibcaaGreatDoor.Rg (R RngsAt RowsAt nthL add_zero own_next)
open Go.Proofs.YtjmdlioakkibcaaGreatDoor.Ut (allL validL valid_any Tabs tabs_next)

/-- what Matches tells -/
noncomputable def matchesF (t : Tr) (s : List UInt8) : Bool × Int := if checkE t = 0 then if validL s = true then matchF t (allL s) else (false, 0) else (false, checkE t)
/-- what Nullable tells -/
noncomputable def nullF (t : Tr) : Bool := if checkE t = 0 then bareAt (mkF t).1 (mkF t).2.2 else false
section
variable {w : World} {s : ByteArray} {t : Tr} {v : Value}
set_option maxHeartbeats 800000 in
theorem ways_any (w : World) : Calls Tryz.prog 19 #[] w fun e w' => e = .returned (.slice (some ⟨w.heap.size, 0, none⟩) 2 2) ∧ w' = w.alloc (.cells #[.func (.func 38) #[] #[], .func (.func 39) #[] #[]] 47) := by
  go_enter Tryz.func19, Tryz.ntmps19
  go_wp2
  go_ret
  exact ⟨rfl, rfl⟩

set_option maxRecDepth 100000 in
set_option maxHeartbeats 8000000 in
theorem matches_any (hT : TreeAt w v t) (hU : Tabs w) (hs : s.size ≤ maxLen) :
    Calls Tryz.prog 7 #[v, .string s] w fun e w' => e = .returned (.tuple #[.bool (matchesF t s.data.toList).1, .int .i64 (matchesF t s.data.toList).2]) ∧ Below w.heap.size w w' := by
  have HT := Lib.hid hT
  have HU := Lib.hid hU
  obtain ⟨ao, cap, so, scap, rfl, _, _, _, _⟩ := hT.shape
  have b1 : Below w.heap.size w (w.alloc (.cells #[.slice ao t.ns.length cap, .slice so t.sets.length scap, .int .i64 t.root] 25)) := (Below.refl w.heap.size w).alloc (Nat.le_refl _) _
  have B1 := Lib.hid b1
  have CC := Lib.hid (check_any t _ _ (hT.next b1))
  have t0 : ∀ X, Below (w.alloc (.cells #[.slice ao t.ns.length cap, .slice so t.sets.length scap, .int .i64 t.root] 25)).heap.size (w.alloc (.cells #[.slice ao t.ns.length cap, .slice so t.sets.length scap, .int .i64 t.root] 25)) X → X.cell? ⟨w.heap.size, 0, none⟩ = some (.slice ao t.ns.length cap) ∧ X.cell? ⟨w.heap.size, 1, none⟩ = some (.slice so t.sets.length scap) ∧ X.cell? ⟨w.heap.size, 2, none⟩ = some (.int .i64 t.root) := fun X hX => ⟨cell_next (by simp) hX, cell_next (by simp) hX, cell_next (by simp) hX⟩
  have T0 := Lib.hid t0
  have V := Lib.hid (fun X (hX : Below w.heap.size w X) => valid_any s X hs (tabs_next hU hX))
  clear hT hU t0
  by_cases hc : checkE t = 0
  · obtain ⟨hok, hN, _⟩ := check_ok hc
    by_cases hv : validL s.data.toList = true
    · rw [hv] at V
      have C0 := Lib.hid (fun X (hX : Below w.heap.size w X) => has_tree_any spread_c hok hN (HT.out.next hX) hv)
      have C1 := Lib.hid (fun X (hX : Below w.heap.size w X) => has_tree_any whole_c hok hN (HT.out.next hX) hv)
      have hM : matchesF t s.data.toList = matchF t (allL s.data.toList) := by unfold matchesF; rw [if_pos hc, if_pos hv]
      unfold matchF at hM
      rw [hc] at CC
      generalize hasF spreadF (mkF t).1 [(mkF t).2.2] (allL s.data.toList) = P at *
      generalize hasF wholeF (mkF t).1 [(mkF t).2.2] (allL s.data.toList) = Q at *
      generalize matchesF t s.data.toList = R at *
      have HM := Lib.hid hM
      clear hM hc hok hN hv HT HU
      go_enter Tryz.func7, Tryz.ntmps7
      go_upto_region 1 with fail
      clear b1
      generalize w.alloc (.cells #[.slice ao t.ns.length cap, .slice so t.sets.length scap, .int .i64 t.root] 25) = W1 at *
      obtain ⟨t1, t2, t3⟩ := T0.out W1 (Below.refl _ _)
      have hs1 := cell_lt t1
      go_wp2_with (first
        | (go_at_call 17; ((with_reducible refine CC.out.mono ?_); rintro e w2 ⟨rfl, h2⟩); go_must (have B2 := Lib.hid h2; clear h2))
        | (go_at_call 18; ((with_reducible refine (V.out _ (B1.out.trans (B2.out.mono B1.out.size))).mono ?_); rintro e w3 ⟨rfl, h3⟩); go_must (have B3 := Lib.hid (B2.out.trans (h3.mono B2.out.size)); clear h3))
        | (go_at_call 19; ((with_reducible refine (ways_any _).mono ?_); rintro e w4 ⟨rfl, hw4⟩); go_must (have B4 := Lib.hid (B3.out.trans (show Below W1.heap.size w3 w4 from hw4 ▸ ((Below.refl w3.heap.size w3).alloc (Nat.le_refl _) _).mono B3.out.size)); have f0 : w4.cell? ⟨w3.heap.size, 0, none⟩ = some (.func (.func 38) #[] #[]) := (by rw [hw4]; simp); have f1 : w4.cell? ⟨w3.heap.size, 1, none⟩ = some (.func (.func 39) #[] #[]) := (by rw [hw4]; simp); clear hw4))
        | fail)
      generalize w3.heap.size = gw at *
      go_loopw [21] (fun i wr => ∃ k : Nat, i = .int .i64 k ∧ k ≤ 2 ∧ Below w4.heap.size w4 wr ∧ (1 ≤ k → P.2 = false) ∧ (2 ≤ k → Q.2 = false)) (fun i _ => 2 - (intOf i).toNat)
      case atStart => exact ⟨0, rfl, by omega, Below.refl _ _, fun h => by omega, fun h => by omega⟩
      case round =>
        obtain ⟨k, rfl, hk, hb, hP, hQ⟩ := hrel
        have HB := Lib.hid (B4.out.trans (hb.mono B4.out.size))
        have HW := Lib.hid (B1.out.trans (HB.out.mono B1.out.size))
        obtain ⟨r1, r2, r3⟩ := T0.out wr HB.out
        have e0 := cell_next f0 hb
        have e1 := cell_next f1 hb
        have HBB := Lib.hid hb
        clear hb f0 f1 t1 t2 t3
        rcases (show k = 0 ∨ k = 1 ∨ k = 2 by omega) with rfl | rfl | rfl
        · have K0 := Lib.hid (C0.out wr HW.out)
          cases hp : P.2
          · go_wp2_with (first
              | (go_at_call 20; ((with_reducible refine K0.out.mono ?_); rintro e w5 ⟨rfl, h5⟩); go_must (have B5 := Lib.hid h5; clear h5))
              | fail)
            go_roundw
            case rel => exact ⟨1, rfl, by omega, HBB.out.trans (B5.out.mono HBB.out.size), fun _ => (by first | exact hp | trivial), fun h => by omega⟩
            case measure => simp [intOf]
          · go_wp2_with (first
              | (go_at_call 20; ((with_reducible refine K0.out.mono ?_); rintro e w5 ⟨rfl, h5⟩); go_must (have B5 := Lib.hid h5; clear h5))
              | fail)
            go_ret2
            exact ⟨by rw [HM.out, if_pos hp]; rfl, HW.out.trans (B5.out.mono HW.out.size)⟩
        · have K0 := Lib.hid (C1.out wr HW.out)
          cases hp : Q.2
          · go_wp2_with (first
              | (go_at_call 20; ((with_reducible refine K0.out.mono ?_); rintro e w5 ⟨rfl, h5⟩); go_must (have B5 := Lib.hid h5; clear h5))
              | fail)
            go_roundw
            case rel => exact ⟨2, rfl, by omega, HBB.out.trans (B5.out.mono HBB.out.size), fun _ => hP (by omega), fun _ => (by first | exact hp | trivial)⟩
            case measure => simp [intOf]
          · go_wp2_with (first
              | (go_at_call 20; ((with_reducible refine K0.out.mono ?_); rintro e w5 ⟨rfl, h5⟩); go_must (have B5 := Lib.hid h5; clear h5))
              | fail)
            go_ret2
            exact ⟨by rw [HM.out, if_neg (by simp [hP]), if_pos hp]; rfl, HW.out.trans (B5.out.mono HW.out.size)⟩
        · go_wp2
          go_ret2
          exact ⟨by rw [HM.out, if_neg (by simp [hP]), if_neg (by simp [hQ])]; rfl, HW.out⟩
    · rw [Bool.not_eq_true] at hv
      rw [hv] at V
      have hM : matchesF t s.data.toList = (false, 0) := by unfold matchesF; rw [if_pos hc, if_neg (by simp [hv])]
      rw [hc] at CC
      rw [hM]
      clear hM hc hok hN hv HT HU b1
      go_enter Tryz.func7, Tryz.ntmps7
      go_wp2_with (first
        | (go_at_call 17; ((with_reducible refine CC.out.mono ?_); rintro e w2 ⟨rfl, h2⟩); go_must (have B2 := Lib.hid h2; clear h2))
        | (go_at_call 18; ((with_reducible refine (V.out _ (B1.out.trans (B2.out.mono B1.out.size))).mono ?_); rintro e w3 ⟨rfl, h3⟩); go_must (have B3 := Lib.hid (B2.out.trans (h3.mono B2.out.size)); clear h3))
        | fail)
      go_ret2
      exact ⟨rfl, B1.out.trans (B3.out.mono B1.out.size)⟩
  · have hM : matchesF t s.data.toList = (false, checkE t) := by unfold matchesF; rw [if_neg hc]
    rw [hM]
    have hce : (checkE t == 0) = false := by simpa using hc
    clear hM HT HU b1 hc
    generalize checkE t = E at *
    go_enter Tryz.func7, Tryz.ntmps7
    go_wp2_with (first
      | (go_at_call 17; ((with_reducible refine CC.out.mono ?_); rintro e w2 ⟨rfl, h2⟩); go_must (have B2 := Lib.hid h2; clear h2))
      | fail)
    go_ret2
    exact ⟨rfl, B1.out.trans (B2.out.mono B1.out.size)⟩

set_option maxRecDepth 100000 in
set_option maxHeartbeats 8000000 in
theorem nullable_any (hT : TreeAt w v t) :
    Calls Tryz.prog 9 #[v] w fun e w' => e = .returned (.bool (nullF t)) ∧ Below w.heap.size w w' := by
  have HT := Lib.hid hT
  obtain ⟨ao, cap, so, scap, rfl, _, _, _, _⟩ := hT.shape
  have b1 : Below w.heap.size w (w.alloc (.cells #[.slice ao t.ns.length cap, .slice so t.sets.length scap, .int .i64 t.root] 25)) := (Below.refl w.heap.size w).alloc (Nat.le_refl _) _
  have B1 := Lib.hid b1
  have CC := Lib.hid (check_any t _ _ (hT.next b1))
  have t0 : ∀ X, Below (w.alloc (.cells #[.slice ao t.ns.length cap, .slice so t.sets.length scap, .int .i64 t.root] 25)).heap.size (w.alloc (.cells #[.slice ao t.ns.length cap, .slice so t.sets.length scap, .int .i64 t.root] 25)) X → X.cell? ⟨w.heap.size, 0, none⟩ = some (.slice ao t.ns.length cap) ∧ X.cell? ⟨w.heap.size, 1, none⟩ = some (.slice so t.sets.length scap) ∧ X.cell? ⟨w.heap.size, 2, none⟩ = some (.int .i64 t.root) := fun X hX => ⟨cell_next (by simp) hX, cell_next (by simp) hX, cell_next (by simp) hX⟩
  have T0 := Lib.hid t0
  clear hT t0
  by_cases hc : checkE t = 0
  · obtain ⟨hok, hN, _⟩ := check_ok hc
    obtain ⟨m1, m2, m3, m4⟩ := mkF_out hok hN
    have MD := Lib.hid (fun W0 X bb M (hW : Below w.heap.size w W0) (hX : BookAt W0 bb M startB X) => made_any hok hN hX (HT.out.next hW))
    have hM : nullF t = bareAt (mkF t).1 (mkF t).2.2 := by unfold nullF; rw [if_pos hc]
    unfold MadeOut at MD
    rw [hc] at CC
    rw [hM]
    generalize (mkF t).2.2 = x0 at *
    generalize (mkF t).1 = B0 at *
    have HG := Lib.hid m1
    clear hM hc hok hN HT m1 m2 m4
    go_enter Tryz.func9, Tryz.ntmps9
    go_upto_region 1 with fail
    clear b1
    generalize w.alloc (.cells #[.slice ao t.ns.length cap, .slice so t.sets.length scap, .int .i64 t.root] 25) = W1 at *
    obtain ⟨s1, s2, s3⟩ := T0.out W1 (Below.refl _ _)
    have hs1 := cell_lt s1
    go_upto_region 5 with (first
      | (go_at_call 17; ((with_reducible refine CC.out.mono ?_); rintro e w2 ⟨rfl, h2⟩); go_must (have B2 := Lib.hid h2; clear h2))
      | (go_at_call 23; ((with_reducible refine (opened_any w2).mono ?_); rintro e w3 ⟨rfl, h3⟩); go_must (have H3 := Lib.hid h3; have B3 := Lib.hid (B2.out.trans (h3.below.mono B2.out.size)); obtain ⟨t1, t2, t3⟩ := T0.out w3 B3.out; clear h3))
      | (go_at_call 24; ((with_reducible refine (MD.out w2 _ _ _ (B1.out.trans (B2.out.mono B1.out.size)) H3.out).mono ?_); rintro e w4 ⟨rfl, h4, k4⟩); go_must (have H4 := Lib.hid h4; have B4 := Lib.hid (B2.out.trans (h4.below.mono B2.out.size)); clear h4 k4))
      | fail)
    obtain ⟨pv, sv, bv, xs, hb⟩ := H4.out
    have b2 := hb.cell2
    obtain ⟨gv, cp, rfl, hl, hcx⟩ := hb.bareAt HG.out m3
    have hxi : (x0 : Int) < (B0.parts.length : Int) := by omega
    clear hb MD CC
    go_wp2
    go_ret
    exact ⟨rfl, B1.out.trans (B4.out.mono B1.out.size)⟩
  · have hM : nullF t = false := by unfold nullF; rw [if_neg hc]
    rw [hM]
    have hce : (checkE t == 0) = false := by simpa using hc
    clear hM HT b1 hc
    generalize checkE t = E at *
    go_enter Tryz.func9, Tryz.ntmps9
    go_wp2_with (first
      | (go_at_call 17; ((with_reducible refine CC.out.mono ?_); rintro e w2 ⟨rfl, h2⟩); go_must (have B2 := Lib.hid h2; clear h2))
      | fail)
    go_ret
    exact ⟨rfl, B1.out.trans (B2.out.mono B1.out.size)⟩
end
end Go.Proofs.YtjmdlioakkibcaaGreatDoor.Dv

namespace Go.Proofs.YtjmdlioakkibcaaGreatDoor.Dv
open Go.Proofs.YtjmdlioakkibcaaGreatDoor.Ar (Nd nd nodeB nodeB_ways Tr Ok)
open Go.Proofs.YtjmdlioakkibcaaGreatDoor.Rg (R hasB inB)

abbrev Mx := Nat → Nat → Bool
/-- what stands between two places -/
def sub (l : List Int) (i m : Nat) : List Int := (l.drop i).take (m - i)
open Classical in
noncomputable def mat (A : L) (l : List Int) : Mx := fun i m => decide (i ≤ m ∧ A (sub l i m))
theorem mat_iff {A : L} {l : List Int} {i m : Nat} : mat A l i m = true ↔ i ≤ m ∧ A (sub l i m) := by simp [mat]
theorem sub_len {l : List Int} {i m : Nat} (hi : i ≤ m) (hm : m ≤ l.length) : (sub l i m).length = m - i := by simp [sub]; omega
theorem sub_app {l : List Int} {i k m : Nat} (h1 : i ≤ k) (h2 : k ≤ m) : sub l i m = sub l i k ++ sub l k m := by
  unfold sub
  have e : m - i = (k - i) + (m - k) := by omega
  rw [e, List.take_add, List.drop_drop]
  congr 3
  omega
theorem sub_self (l : List Int) (i : Nat) : sub l i i = [] := by simp [sub]
theorem sub_all (l : List Int) : sub l 0 l.length = l := by simp [sub]
theorem sub_one {l : List Int} {i : Nat} (h : i < l.length) : sub l i (i + 1) = [l.getD i 0] := by
  unfold sub
  rw [show i + 1 - i = 1 by omega, List.drop_eq_getElem_cons h, List.take_succ_cons, List.take_zero]
  simp [List.getD, h]
/-- parts of what stands between two places stand between places -/
theorem sub_split {l : List Int} {i m : Nat} (hi : i ≤ m) (hm : m ≤ l.length) {u v : List Int} (h : sub l i m = u ++ v) : u = sub l i (i + u.length) ∧ v = sub l (i + u.length) m ∧ i + u.length ≤ m := by
  have hl := sub_len hi hm
  rw [h, List.length_append] at hl
  have h1 := sub_app (l := l) (show i ≤ i + u.length by omega) (show i + u.length ≤ m by omega)
  rw [h] at h1
  have h2 : u.length = (sub l i (i + u.length)).length := by rw [sub_len (by omega) (by omega)]; omega
  obtain ⟨h3, h4⟩ := List.append_inj h1 h2
  exact ⟨h3, h4, by omega⟩

/-- the same, as far as there are places -/
def Eqm (n : Nat) (f g : Mx) : Prop := ∀ i m, i < n → m < n → f i m = g i m
theorem mat_eps (l : List Int) : Eqm (l.length + 1) (fun i m => decide (i = m)) (mat eps l) := fun i m hi hm => by
  rw [Bool.eq_iff_iff, mat_iff, decide_eq_true_iff]
  constructor
  · rintro rfl; exact ⟨Nat.le_refl _, sub_self l i⟩
  · rintro ⟨h1, h2⟩
    have := sub_len h1 (show m ≤ l.length by omega)
    rw [show sub l i m = [] from h2] at this
    simp at this
    omega
theorem mat_no (l : List Int) (n : Nat) : Eqm n (fun _ _ => false) (mat no l) := fun i m _ _ => by
  rw [eq_comm, ← Bool.not_eq_true, mat_iff]
  rintro ⟨_, h⟩; exact h
theorem mat_one (P : Int → Bool) (l : List Int) : Eqm (l.length + 1) (fun i m => decide (m = i + 1) && P (l.getD i 0)) (mat (one P) l) := fun i m hi hm => by
  rw [Bool.eq_iff_iff, mat_iff, Bool.and_eq_true, decide_eq_true_iff]
  constructor
  · rintro ⟨rfl, h⟩
    exact ⟨by omega, _, sub_one (by omega), h⟩
  · rintro ⟨h1, c, h2, h3⟩
    have := sub_len h1 (show m ≤ l.length by omega)
    rw [h2] at this
    simp at this
    have hm1 : m = i + 1 := by omega
    subst hm1
    rw [sub_one (by omega)] at h2
    obtain ⟨rfl, _⟩ := List.cons.inj h2
    exact ⟨rfl, h3⟩
theorem mat_alt {A B : L} {l : List Int} {n : Nat} : Eqm n (fun i m => mat A l i m || mat B l i m) (mat (alt A B) l) := fun i m _ _ => by
  rw [Bool.eq_iff_iff, mat_iff, Bool.or_eq_true, mat_iff, mat_iff]
  constructor
  · rintro (⟨h1, h2⟩ | ⟨h1, h2⟩)
    · exact ⟨h1, .inl h2⟩
    · exact ⟨h1, .inr h2⟩
  · rintro ⟨h1, h2 | h2⟩
    · exact .inl ⟨h1, h2⟩
    · exact .inr ⟨h1, h2⟩
open Classical in
/-- by one and then by another one -/
noncomputable def mulM (n : Nat) (f g : Mx) : Mx := fun i m => decide (∃ k, i ≤ k ∧ k ≤ m ∧ m < n ∧ f i k = true ∧ g k m = true)
theorem mul_iff {n : Nat} {f g : Mx} {i m : Nat} : mulM n f g i m = true ↔ ∃ k, i ≤ k ∧ k ≤ m ∧ m < n ∧ f i k = true ∧ g k m = true := by simp [mulM]
theorem mat_seq {A B : L} {l : List Int} : Eqm (l.length + 1) (mulM (l.length + 1) (mat A l) (mat B l)) (mat (seq A B) l) := fun i m hi hm => by
  rw [Bool.eq_iff_iff, mat_iff, mul_iff]
  constructor
  · rintro ⟨k, h1, h2, _, h3, h4⟩
    rw [mat_iff] at h3 h4
    exact ⟨by omega, _, _, sub_app h1 h2, h3.2, h4.2⟩
  · rintro ⟨h1, u, v, h2, h3, h4⟩
    obtain ⟨e1, e2, e3⟩ := sub_split h1 (show m ≤ l.length by omega) h2
    exact ⟨i + u.length, by omega, e3, hm, by rw [mat_iff, ← e1]; exact ⟨by omega, h3⟩, by rw [mat_iff, ← e2]; exact ⟨e3, h4⟩⟩
theorem mul_congr {n : Nat} {f f' g g' : Mx} (h : Eqm n f f') (k : Eqm n g g') : Eqm n (mulM n f g) (mulM n f' g') := fun i m hi hm => by
  rw [Bool.eq_iff_iff, mul_iff, mul_iff]
  constructor
  · rintro ⟨j, h1, h2, h3, h4, h5⟩
    exact ⟨j, h1, h2, h3, by rw [← h i j hi (by omega)]; exact h4, by rw [← k j m (by omega) hm]; exact h5⟩
  · rintro ⟨j, h1, h2, h3, h4, h5⟩
    exact ⟨j, h1, h2, h3, by rw [h i j hi (by omega)]; exact h4, by rw [k j m (by omega) hm]; exact h5⟩

/-! by how many times -/
/-- one or another number of times, up to k -/
def someL (A : L) (lo hi : Int) (k : Nat) : L := fun r => ∃ j : Nat, j < k ∧ lo ≤ j ∧ (0 ≤ hi → (j : Int) ≤ hi) ∧ pow A j r
theorem some_zero (A : L) (lo hi : Int) : someL A lo hi 0 = no := ext fun r => ⟨fun ⟨j, h, _⟩ => by omega, fun h => h.elim⟩
theorem some_yes {A : L} {lo hi : Int} {k : Nat} (h1 : lo ≤ k) (h2 : 0 ≤ hi → (k : Int) ≤ hi) : someL A lo hi (k + 1) = alt (someL A lo hi k) (pow A k) := ext fun r => by
  constructor
  · rintro ⟨j, a, b, c, d⟩
    rcases Nat.lt_or_ge j k with h | h
    · exact .inl ⟨j, h, b, c, d⟩
    · obtain rfl : j = k := by omega
      exact .inr d
  · rintro (⟨j, a, b, c, d⟩ | d)
    · exact ⟨j, by omega, b, c, d⟩
    · exact ⟨k, by omega, h1, h2, d⟩
theorem some_not {A : L} {lo hi : Int} {k : Nat} (h : (k : Int) < lo) : someL A lo hi (k + 1) = someL A lo hi k := ext fun r => by
  constructor
  · rintro ⟨j, a, b, c, d⟩; exact ⟨j, by omega, b, c, d⟩
  · rintro ⟨j, a, b, c, d⟩; exact ⟨j, by omega, b, c, d⟩
/-- enough times -/
theorem some_enough {A : L} {lo hi : Int} {l : List Int} {k : Nat} (hk : (lo.toNat + (l.length + 1) < k) ∨ (0 ≤ hi ∧ hi < k)) : Eqm (l.length + 1) (mat (someL A lo hi k) l) (mat (rep A lo hi) l) := fun i m hi' hm => by
  rw [Bool.eq_iff_iff, mat_iff, mat_iff]
  constructor
  · rintro ⟨h1, j, a, b, c, d⟩; exact ⟨h1, j, b, c, d⟩
  · rintro ⟨h1, h2⟩
    refine ⟨h1, ?_⟩
    obtain ⟨j, b, c, e, d⟩ := (rep_cap (m := l.length) (by rw [sub_len h1 (by omega)]; omega)).1 h2
    exact ⟨j, by omega, b, c, d⟩
theorem mat_congr {A B : L} (h : A = B) (l : List Int) (n : Nat) : Eqm n (mat A l) (mat B l) := fun i m _ _ => by rw [h]
theorem Eqm.trans {n : Nat} {f g h : Mx} (a : Eqm n f g) (b : Eqm n g h) : Eqm n f h := fun i m hi hm => (a i m hi hm).trans (b i m hi hm)
theorem Eqm.symm {n : Nat} {f g : Mx} (a : Eqm n f g) : Eqm n g f := fun i m hi hm => (a i m hi hm).symm
theorem Eqm.refl (n : Nat) (f : Mx) : Eqm n f f := fun _ _ _ _ => rfl

end Go.Proofs.YtjmdlioakkibcaaGreatDoor.Dv

namespace Go.Proofs.YtjmdlioakkibcaaGreatDoor.Dv
open Go Go.RowKit Go.Shelf
open Go.Proofs.YtjmdlioakkibcaaGreatDoor.Rg (add_zero own_next)

theorem infoBl : (Tryz.prog.info? 4).map (fun i => (i.zero, i.size, i.bytes)) = some (some (.bool false), 1, 1) := by kernel_rfl
theorem infoBs : (Tryz.prog.info? 40).map (fun i => (i.zero, i.size, i.bytes)) = some (some (.slice none 0 0), 1, 24) := by kernel_rfl
def blk (xs : List Value) (i : Nat) : Option Nat := (xs.getD i (.slice none 0 0)).ownBlock
/-- rows of places, each in a block of its own -/
structure Tab (w : World) (N n : Nat) (xs : List Value) (f : Mx) : Prop where
  row : ∀ i, i < xs.length → ∃ r cap ds, xs[i]? = some (.slice (some ⟨r, 0, none⟩) n cap) ∧ N ≤ r ∧ n ≤ cap ∧ w.heap[r]? = some (.cells ds 4 (0, 0)) ∧ ∀ m, m < n → ds[m]? = some (.bool (f i m))
  inj : ∀ i j, i < xs.length → j < xs.length → i ≠ j → blk xs i ≠ blk xs j
section
variable {w w' : World} {N n : Nat} {xs : List Value} {f g : Mx} {v : Value}
theorem Tab.keep (h : Tab w N n xs f) (hk : ∀ (k : Nat) (ds : Array Value), N ≤ k → w.heap[k]? = some (.cells ds 4 (0, 0)) → w'.heap[k]? = w.heap[k]?) : Tab w' N n xs f :=
  ⟨fun i hi => by
    obtain ⟨r, cap, ds, h1, h2, h3, h4, h5⟩ := h.row i hi
    exact ⟨r, cap, ds, h1, h2, h3, (hk r ds h2 h4).trans h4, h5⟩, h.inj⟩
theorem Tab.next (h : Tab w N n xs f) (hb : Below w.heap.size w w') : Tab w' N n xs f := h.keep fun k _ _ hk => hb.block k (Array.getElem?_eq_some_iff.1 hk).1
theorem Tab.nil (w : World) (N n : Nat) (f : Mx) : Tab w N n [] f := ⟨fun i hi => by simp at hi, fun i j hi => by simp at hi⟩
theorem Tab.congr (h : Tab w N n xs f) (e : ∀ i m, i < xs.length → m < n → f i m = g i m) : Tab w N n xs g :=
  ⟨fun i hi => by
    obtain ⟨r, cap, ds, h1, h2, h3, h4, h5⟩ := h.row i hi
    exact ⟨r, cap, ds, h1, h2, h3, h4, fun m hm => by rw [← e i m hi hm]; exact h5 m hm⟩, h.inj⟩
/-- a row more -/
theorem Tab.snoc {x : Value} (h : Tab w N n xs f) {b : Nat → Bool} (hx : w.ownsRow N 4 1 x n ((List.range n).map fun m => .bool (b m))) (h0 : 0 < n) (hnew : ∀ r, x.ownBlock = some r → ∀ i, i < xs.length → blk xs i ≠ some r) :
    Tab w N n (xs ++ [x]) (fun i m => if i = xs.length then b m else f i m) := by
  obtain ⟨r, cap, rfl, _, _⟩ := hx.form h0
  have hr := hx
  rcases hx.2 with ⟨h', _⟩ | ⟨g, cap', cur, he, hN, hg, hc, hm, hz, ht⟩
  · cases h'
  simp only [Value.slice.injEq, Option.some.injEq, Addr.mk.injEq] at he
  obtain ⟨⟨rfl, _⟩, _, rfl⟩ := he
  have hat : ∀ m, m < n → cur[m]? = some (.bool (b m)) := fun m hm => by
    have e : (cur.toList.take (n * 1))[m]? = some (.bool (b m)) := by rw [ht]; simp [hm]
    rw [List.getElem?_take_of_lt (by omega)] at e
    simpa using e
  have hb1 : ∀ i, i < xs.length → blk (xs ++ [.slice (some ⟨r, 0, none⟩) n cap]) i = blk xs i := fun i hi => by simp [blk, List.getD, List.getElem?_append_left hi]
  have hb2 : blk (xs ++ [.slice (some ⟨r, 0, none⟩) n cap]) xs.length = some r := by simp [blk, List.getD, Value.ownBlock]
  refine ⟨fun i hi => ?_, fun i j hi hj hij => ?_⟩
  · rw [List.length_append, List.length_singleton] at hi
    rcases Nat.lt_or_ge i xs.length with hl | hl
    · obtain ⟨r', cap', ds, h1, h2, h3, h4, h5⟩ := h.row i hl
      refine ⟨r', cap', ds, by rw [List.getElem?_append_left hl]; exact h1, h2, h3, h4, fun m hm => ?_⟩
      rw [if_neg (by omega)]; exact h5 m hm
    · obtain rfl : i = xs.length := by omega
      refine ⟨r, cap, cur, by simp, hN, hc, hg, fun m hm => ?_⟩
      rw [if_pos rfl]; exact hat m hm
  · rw [List.length_append, List.length_singleton] at hi hj
    rcases Nat.lt_or_ge i xs.length with hl | hl <;> rcases Nat.lt_or_ge j xs.length with hl' | hl'
    · rw [hb1 i hl, hb1 j hl']; exact h.inj i j hl hl' hij
    · obtain rfl : j = xs.length := by omega
      rw [hb1 i hl, hb2]; exact hnew r rfl i hl
    · obtain rfl : i = xs.length := by omega
      rw [hb1 j hl', hb2]; exact fun e => hnew r rfl j hl' e.symm
    · omega
/-- a table of places -/
def TabAt (w : World) (N : Nat) (v : Value) (n : Nat) (f : Mx) : Prop := ∃ xs, w.ownsRow N 40 1 v n xs ∧ Tab w N n xs f
theorem TabAt.next (h : TabAt w N v n f) (hb : Below w.heap.size w w') : TabAt w' N v n f := by
  obtain ⟨xs, h1, h2⟩ := h
  exact ⟨xs, own_next h1 hb, h2.next hb⟩
theorem TabAt.congr (h : TabAt w N v n f) (e : Eqm n f g) : TabAt w N v n g := by
  obtain ⟨xs, h1, h2⟩ := h
  have hl := h1.1
  exact ⟨xs, h1, h2.congr fun i m hi hm => e i m (by omega) hm⟩
theorem TabAt.mono {M : Nat} (h : TabAt w N v n f) (hM : M ≤ N) : TabAt w M v n f := by
  obtain ⟨xs, h1, h2⟩ := h
  refine ⟨xs, ⟨h1.1, ?_⟩, fun i hi => ?_, h2.inj⟩
  · rcases h1.2 with h | ⟨g, cap, cur, a, b, c⟩
    · exact .inl h
    · exact .inr ⟨g, cap, cur, a, by omega, c⟩
  · obtain ⟨r, cap, ds, a, b, c⟩ := h2.row i hi
    exact ⟨r, cap, ds, a, by omega, c⟩
/-- a table as a call reads it -/
theorem TabAt.at' (h : TabAt w N v n f) (h0 : 0 < n) : ∃ g cap, v = .slice (some ⟨g, 0, none⟩) n cap ∧ n ≤ cap ∧ cap ≤ maxLen ∧ N ≤ g ∧ (∀ ds, w.heap[g]? ≠ some (.cells ds 4 (0, 0))) ∧ ∀ i, i < n → ∃ r c ds, w.cell? ⟨g, i, none⟩ = some (.slice (some ⟨r, 0, none⟩) n c) ∧ N ≤ r ∧ n ≤ c ∧ w.heap[r]? = some (.cells ds 4 (0, 0)) ∧ ∀ m, m < n → w.cell? ⟨r, m, none⟩ = some (.bool (f i m)) := by
  obtain ⟨xs, h1, h2⟩ := h
  have hl := h1.1
  rcases h1.2 with ⟨_, h'⟩ | ⟨g, cap, cur, rfl, hN, hg, hc, hm, hz, ht⟩
  · omega
  refine ⟨g, cap, rfl, hc, hm, hN, fun ds e => by rw [hg] at e; simp only [Option.some.injEq, Obj.cells.injEq] at e; exact absurd e.2.1 (by decide), fun i hi => ?_⟩
  obtain ⟨r, c, ds, a, b, d, e, k⟩ := h2.row i (by omega)
  refine ⟨r, c, ds, by rw [h1.cellAt i (by omega), a], b, d, e, fun m hm => ?_⟩
  rw [Lib.cell_of_heap e, k m hm]
def upd (f : Mx) (x y : Nat) (b : Bool) : Mx := fun i m => if i = x ∧ m = y then b else f i m
/-- one place is turned -/
theorem TabAt.set (h : TabAt w N v n f) {g cap i r c : Nat} {ds : Array Value} (hv : v = .slice (some ⟨g, 0, none⟩) n cap) (hi : i < n) (hr : w.cell? ⟨g, i, none⟩ = some (.slice (some ⟨r, 0, none⟩) n c)) (hd : w.heap[r]? = some (.cells ds 4 (0, 0))) {m : Nat} (hm : m < n) (b : Bool) :
    w.frozen? ⟨r, m, none⟩ = false ∧ TabAt (w.setCell ⟨r, m, none⟩ (.bool b)) N v n (upd f i m b) ∧ Below N w (w.setCell ⟨r, m, none⟩ (.bool b)) := by
  obtain ⟨xs, h1, h2⟩ := h
  have hl := h1.1
  have hxi : xs[i]? = some (.slice (some ⟨r, 0, none⟩) n c) := by
    subst hv
    rw [h1.cellAt i (by omega)] at hr
    exact hr
  have hbi : blk xs i = some r := by simp [blk, List.getD, hxi, Value.ownBlock]
  obtain ⟨r', c', ds', a, bb, d, e, k⟩ := h2.row i (by omega)
  rw [hxi] at a
  simp only [Option.some.injEq, Value.slice.injEq, Addr.mk.injEq] at a
  obtain ⟨⟨rfl, _⟩, _, rfl⟩ := a
  rw [hd] at e
  simp only [Option.some.injEq, Obj.cells.injEq] at e
  obtain ⟨rfl, _⟩ := e
  have hset := heap_setCell_same w r m ds 4 (.bool b) hd
  have hoth : ∀ q, q ≠ r → (w.setCell ⟨r, m, none⟩ (.bool b)).heap[q]? = w.heap[q]? := fun q hq => Below.heap_setCell _ _ _ _ hq
  refine ⟨frozen_of_row w r m _ _ hd, ⟨xs, ?_, fun j hj => ?_, h2.inj⟩, ⟨rfl, rfl, rfl, by simp [World.setCell], fun q hq => hoth q (by omega)⟩⟩
  · refine ⟨hl, ?_⟩
    rcases h1.2 with h' | ⟨g', cp, cur, e1, e2, e3, e4⟩
    · exact .inl h'
    · refine .inr ⟨g', cp, cur, e1, e2, ?_, e4⟩
      rw [hoth g' (by rintro rfl; rw [hd] at e3; simp only [Option.some.injEq, Obj.cells.injEq] at e3; exact absurd e3.2.1 (by decide))]
      exact e3
  · obtain ⟨q, cq, dq, a1, a2, a3, a4, a5⟩ := h2.row j hj
    have hbj : blk xs j = some q := by simp [blk, List.getD, a1, Value.ownBlock]
    by_cases hji : j = i
    · subst hji
      rw [hxi] at a1
      simp only [Option.some.injEq, Value.slice.injEq, Addr.mk.injEq] at a1
      obtain ⟨⟨rfl, _⟩, _, rfl⟩ := a1
      refine ⟨r, c, _, hxi, a2, a3, hset, fun y hy => ?_⟩
      have hy' := k y hy
      have hsz : y < ds.size := (Array.getElem?_eq_some_iff.1 hy').1
      unfold upd
      by_cases hym : y = m
      · subst hym
        rw [if_pos ⟨rfl, rfl⟩]
        simp [hsz]
      · rw [if_neg (by simp [hym])]
        rw [Array.getElem?_setIfInBounds_ne (fun e => hym e.symm)]
        exact hy'
    · refine ⟨q, cq, dq, a1, a2, a3, ?_, fun y hy => ?_⟩
      · rw [hoth q (by rintro rfl; exact h2.inj j i hj (by omega) hji (hbj.trans hbi.symm))]
        exact a4
      · unfold upd
        rw [if_neg (by simp [hji])]
        exact a5 y hy
end
end Go.Proofs.YtjmdlioakkibcaaGreatDoor.Dv

namespace Go.Proofs.YtjmdlioakkibcaaGreatDoor.Dv
open Go Go.RowKit Go.Shelf
open Go.Proofs.YtjmdlioakkibcaaGreatDoor.Rg (add_zero own_next)

theorem own_base {w : World} {N M : Nat} {e : TypeId} {s n : Nat} {v : Value} {xs : List Value} (h : w.ownsRow N e s v n xs) (hM : M ≤ N) : w.ownsRow M e s v n xs := by
  refine ⟨h.1, ?_⟩
  rcases h.2 with h | ⟨g, cap, cur, a, b, c⟩
  · exact .inl h
  · exact .inr ⟨g, cap, cur, a, by omega, c⟩
theorem Tab.lt {w : World} {N n : Nat} {xs : List Value} {f : Mx} (h : Tab w N n xs f) {i r : Nat} (hi : i < xs.length) (e : blk xs i = some r) : r < w.heap.size := by
  obtain ⟨r', cap, ds, h1, _, _, h4, _⟩ := h.row i hi
  have : blk xs i = some r' := by simp [blk, List.getD, h1, Value.ownBlock]
  rw [this] at e
  simp only [Option.some.injEq] at e
  subst e
  exact (Array.getElem?_eq_some_iff.1 h4).1
def eyeV (is : Bool) (i m : Nat) : Bool := is && decide (i = m)
theorem eye_snoc (is : Bool) (i m : Nat) (b : Bool) (h : eyeV is i m = b) : (List.range (m + 1)).map (fun k => Value.bool (eyeV is i k)) = (List.range m).map (fun k => Value.bool (eyeV is i k)) ++ [Value.bool b] := by
  rw [List.range_succ, List.map_append, ← h]; rfl
theorem grown_own {w w1 w2 : World} {base : Nat} {e : TypeId} {s n : Nat} {v : Value} {xs : List Value} (hb : Below base w w1) (hown : w1.ownsRow base e s v n xs) (hg : w1.grownBy w2 v.ownBlock) (h : base ≤ w1.heap.size) : Below base w w2 :=
  hb.grown hg h (fun k hk => (hown.lt k hk).1)

theorem row_of {w : World} {e : TypeId} {s n N : Nat} {v : Value} {ys : List Value} (h : w.ownsRow N e s v n ys) {g : Nat} (hg : v.ownBlock = some g) : N ≤ g ∧ ∃ cs, w.heap[g]? = some (.cells cs e (0, 0)) := by
  rcases h.2 with ⟨rfl, _⟩ | ⟨g', cap, cur, rfl, hb, hh, _⟩
  · cases hg
  · simp only [Value.ownBlock, Option.some.injEq] at hg
    subst hg
    exact ⟨hb, _, hh⟩
theorem blank_step {w wr wq w2 : World} {n k : Nat} {is : Bool} {v v' x : Value} {xs : List Value} {o : Obj} (hO : wr.ownsRow w.heap.size 40 1 v k xs) (hT : Tab wr w.heap.size (n + 1) xs (fun i m => eyeV is i m)) (hX : xs.length = k) (hB : Below w.heap.size w wr)
    (hR : wq.ownsRow wr.heap.size 4 1 x (n + 1) ((List.range (n + 1)).map fun q => .bool (eyeV is k q))) (hQ : Below wr.heap.size wr wq) (_hown : w2.ownsRow w.heap.size 40 1 v' (k + 1) (xs ++ [x])) (hg : (wq.alloc o).grownBy w2 v.ownBlock) :
    Tab w2 w.heap.size (n + 1) (xs ++ [x]) (fun i m => eyeV is i m) ∧ Below w.heap.size w w2 := by
  have hsz := hB.size
  have hsq := hQ.size
  have ho2 : wq.ownsRow w.heap.size 40 1 v k xs := own_next hO hQ
  have hbA : Below w.heap.size w (wq.alloc o) := (hB.trans (hQ.mono hsz)).alloc (by omega) _
  have ht2 := (hT.next hQ).snoc (own_base hR hsz) (b := fun q => eyeV is k q) (by omega) (fun r hr i hi e => by
    have h1 := (hR.lt r hr).1
    have h2 := hT.lt hi e
    omega)
  have ht3 := (ht2.next ((Below.refl wq.heap.size wq).alloc (Nat.le_refl _) o)).keep (w' := w2) fun q _ _ hq => hg.block q (Array.getElem?_eq_some_iff.1 hq).1 (fun e => by
    obtain ⟨_, cs, hh⟩ := row_of (own_next ho2 ((Below.refl wq.heap.size wq).alloc (Nat.le_refl _) o)) e.symm
    rw [hq] at hh
    simp only [Option.some.injEq, Obj.cells.injEq] at hh
    exact absurd hh.2.1 (by decide))
  refine ⟨ht3.congr fun i m _ _ => ?_, hbA.grown hg (by simp; omega) (fun q hq => (ho2.lt q hq).1)⟩
  split
  · rename_i e; rw [e, hX]
  · rfl
set_option maxRecDepth 100000 in
set_option maxHeartbeats 8000000 in
theorem blank_any (n : Nat) (is : Bool) (w : World) (hn : n ≤ 100000) :
    Calls Tryz.prog 26 #[.int .i64 (n : Nat), .bool is] w fun e w' => ∃ v, e = .returned v ∧ TabAt w' w.heap.size v (n + 1) (fun i m => eyeV is i m) ∧ Below w.heap.size w w' := by
  obtain ⟨i0, hi, hz0, hz1, hz2⟩ := info_parts infoBl
  obtain ⟨j0, hj, hy0, hy1, hy2⟩ := info_parts infoBs
  go_enter Tryz.func26, Tryz.ntmps26
  go_wp2
  go_loopw [5, 6] (fun v i wr => ∃ (k : Nat) (xs : List Value), i = .int .i64 k ∧ k ≤ n + 1 ∧ wr.ownsRow w.heap.size 40 1 v k xs ∧ Tab wr w.heap.size (n + 1) xs (fun i m => eyeV is i m) ∧ Below w.heap.size w wr) (fun _ i _ => n + 1 - (intOf i).toNat)
  case atStart => exact ⟨0, [], rfl, by omega, World.ownsRow_nil _ _ _ _, Tab.nil _ _ _ _, Below.refl _ _⟩
  case round =>
    obtain ⟨k, xs, rfl, hk, hown, htab, hb⟩ := hrel
    have HO := Lib.hid hown
    have HT := Lib.hid htab
    have HB := Lib.hid hb
    have hsz := hb.size
    have hxl : xs.length = k := by have := hown.1; omega
    have HX := Lib.hid hxl
    clear hown htab hb hxl
    generalize wr = w1 at *
    by_cases hlt : k < n + 1
    · have n1 : (k : Int) ≤ n := by omega
      go_wp2
      go_loopw [7, 8] (fun v m wr => ∃ j : Nat, m = .int .i64 j ∧ j ≤ n + 1 ∧ wr.ownsRow w1.heap.size 4 1 v j ((List.range j).map fun q => .bool (eyeV is k q)) ∧ Below w1.heap.size w1 wr) (fun _ m _ => n + 1 - (intOf m).toNat)
      case atStart => exact ⟨0, rfl, by omega, World.ownsRow_nil _ _ _ _, Below.refl _ _⟩
      case round =>
        obtain ⟨j, rfl, hj2, hrow, hbq⟩ := hrel
        have HR := Lib.hid hrow
        have HQ := Lib.hid hbq
        have hsq := hbq.size
        clear hrow hbq
        by_cases hlj : j < n + 1
        · have n2 : (j : Int) ≤ n := by omega
          cases is
          · have E := Lib.hid (show eyeV false k j = false from rfl)
            go_wp2_with (at_builtin; refine wpList_append_own _ rfl _ _ 40 rfl w1.heap.size 4 i0 (.bool false) 1 1 Tryz.underlying40 hi hz0 hz1 hz2 rfl (by decide) _ j _ rfl (HR.out.alloc _) ⟨wr.heap.size, 0, none⟩ 1 1 [.bool false] rfl rfl (cell_one_new _ _ _) (by simp [Value.oneCell']) (by unfold maxLen; omega) (by omega) (by simp; omega) ?_; intro v' w2 hown' hgrow _; go_must (have RO := Lib.hid ((eye_snoc _ k j false E.out) ▸ hown'); have B2 := Lib.hid ((HQ.out.alloc hsq _).grown hgrow (by simp; omega) (fun q hq => (HR.out.lt q hq).1)); clear hown' hgrow))
            go_roundw
            case rel => exact ⟨j + 1, by go_num, by omega, RO.out, B2.out⟩
            case measure => simp [intOf]; omega
          · by_cases hkj : k = j
            · have e0 : ((k : Int) == (j : Int)) = true := by simp [hkj]
              have E := Lib.hid (show eyeV true k j = true from by unfold eyeV; simp [hkj])
              clear hkj
              go_wp2_with (at_builtin; refine wpList_append_own _ rfl _ _ 40 rfl w1.heap.size 4 i0 (.bool false) 1 1 Tryz.underlying40 hi hz0 hz1 hz2 rfl (by decide) _ j _ rfl (HR.out.alloc _) ⟨wr.heap.size, 0, none⟩ 1 1 [.bool true] rfl rfl (cell_one_new _ _ _) (by simp [Value.oneCell']) (by unfold maxLen; omega) (by omega) (by simp; omega) ?_; intro v' w2 hown' hgrow _; go_must (have RO := Lib.hid ((eye_snoc _ k j true E.out) ▸ hown'); have B2 := Lib.hid ((HQ.out.alloc hsq _).grown hgrow (by simp; omega) (fun q hq => (HR.out.lt q hq).1)); clear hown' hgrow))
              go_roundw
              case rel => exact ⟨j + 1, by go_num, by omega, RO.out, B2.out⟩
              case measure => simp [intOf]; omega
            · have e0 : ((k : Int) == (j : Int)) = false := by simp; omega
              have E := Lib.hid (show eyeV true k j = false from by unfold eyeV; simp [hkj])
              go_wp2_with (at_builtin; refine wpList_append_own _ rfl _ _ 40 rfl w1.heap.size 4 i0 (.bool false) 1 1 Tryz.underlying40 hi hz0 hz1 hz2 rfl (by decide) _ j _ rfl (HR.out.alloc _) ⟨wr.heap.size, 0, none⟩ 1 1 [.bool false] rfl rfl (cell_one_new _ _ _) (by simp [Value.oneCell']) (by unfold maxLen; omega) (by omega) (by simp; omega) ?_; intro v' w2 hown' hgrow _; go_must (have RO := Lib.hid ((eye_snoc _ k j false E.out) ▸ hown'); have B2 := Lib.hid ((HQ.out.alloc hsq _).grown hgrow (by simp; omega) (fun q hq => (HR.out.lt q hq).1)); clear hown' hgrow))
              go_roundw
              case rel => exact ⟨j + 1, by go_num, by omega, RO.out, B2.out⟩
              case measure => simp [intOf]; omega

        · have n2 : ¬ (j : Int) ≤ n := by omega
          have n3 : (n : Int) < j := by omega
          obtain rfl : j = n + 1 := by omega
          have hro := HR.out
          obtain ⟨gr, cr, rfl, _, _⟩ := hro.form (by omega)
          go_wp2_with (at_builtin; refine wpList_append_own _ rfl _ _ 38 rfl w.heap.size 40 j0 (.slice none 0 0) 1 24 Tryz.underlying38 hj hy0 hy1 hy2 rfl (by decide) _ k xs rfl ((own_next HO.out HQ.out).alloc _) ⟨wr.heap.size, 0, none⟩ 1 1 [.slice (some ⟨gr, 0, none⟩) (n + 1) cr] rfl rfl (cell_one_new _ _ _) (by simp [Value.oneCell']) (by unfold maxLen; omega) (by omega) (by simp; omega) ?_; intro v' w2 hown' hgrow _; go_must (have ST := Lib.hid (blank_step HO.out HT.out HX.out HB.out HR.out HQ.out hown' hgrow); have HO2 := Lib.hid hown'; clear hown' hgrow))
          go_roundw
          case rel => exact ⟨k + 1, _, by go_num, by omega, HO2.out, ST.out.1, ST.out.2⟩
          case measure => simp [intOf]; omega
    · obtain rfl : k = n + 1 := by omega
      have n1 : ¬ ((n + 1 : Nat) : Int) ≤ n := by omega
      go_wp2
      go_ret
      exact ⟨_, rfl, ⟨xs, HO.out, HT.out⟩, HB.out⟩
end Go.Proofs.YtjmdlioakkibcaaGreatDoor.Dv

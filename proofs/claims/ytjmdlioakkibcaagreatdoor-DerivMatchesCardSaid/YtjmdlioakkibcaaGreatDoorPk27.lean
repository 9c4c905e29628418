/- The document's Check. -/
import Derived.Test.YtjmdlioakkibcaaGreatDoorPk20
import Derived.Test.YtjmdlioakkibcaaGreatDoorPk04

namespace Go.Proofs.YtjmdlioakkibcaaGreatDoor.Ar
open Go Go.RowKit Go.Shelf
open Go.Proofs.YtjmdlioakkibcaaGreatDoor.Rg (R RngsAt RowsAt nthL add_zero own_next)

set_option maxRecDepth 100000 in
set_option maxHeartbeats 8000000 in
theorem rnode_any (t : Tr) (i : Nat) (hi : i < t.ns.length) (v : Value) (w : World) (h : TreeAt w v t) :
    Calls Tryz.prog 22 #[v, .int .i64 i] w fun e w' => e = .returned (.bool (nodeB (nd t.ns i) i t.sets.length)) ∧ Below w.heap.size w w' := by
  obtain ⟨ao, cap, so, scap, rfl, hm, hm2, hn, _⟩ := h.shape
  obtain ⟨g, rfl, hN⟩ := hn i hi
  obtain ⟨c0, c1, c2, c3, c4, c5⟩ := hN
  have hlt := cell_lt c0
  clear hn h
  generalize nd t.ns i = n at *
  rcases op_ways n with z1 | ⟨z1, z2⟩ | ⟨z1, z2, z3⟩ | ⟨z1, z2, z3, z4⟩ | ⟨z1, z2, z3, z4, z5⟩ | ⟨z1, z2, z3, z4, z5⟩
  · have E := Lib.hid (nodeB_1 (n := n) (i := i) (s := t.sets.length) (by simpa using z1))
    go_enter Tryz.func22, Tryz.ntmps22
    go_wp2
    all_goals (
      go_ret
      refine ⟨ret_b ?_, ((Below.refl w.heap.size w).alloc (Nat.le_refl _) _).alloc (by simp) _⟩
      rw [E.out, Bool.eq_iff_iff]
      simp
      omega)
  · have E := Lib.hid (nodeB_2 (n := n) (i := i) (s := t.sets.length) (by simpa using z2))
    go_enter Tryz.func22, Tryz.ntmps22
    go_wp2
    all_goals (
      go_ret
      refine ⟨ret_b ?_, ((Below.refl w.heap.size w).alloc (Nat.le_refl _) _).alloc (by simp) _⟩
      rw [E.out, Bool.eq_iff_iff]
      simp
      omega)
  · have E := Lib.hid (nodeB_3 (n := n) (i := i) (s := t.sets.length) (.inl (by simpa using z3)))
    go_enter Tryz.func22, Tryz.ntmps22
    go_wp2
    all_goals (
      go_ret
      refine ⟨ret_b ?_, ((Below.refl w.heap.size w).alloc (Nat.le_refl _) _).alloc (by simp) _⟩
      rw [E.out, Bool.eq_iff_iff]
      simp
      omega)
  · have E := Lib.hid (nodeB_3 (n := n) (i := i) (s := t.sets.length) (.inr (by simpa using z4)))
    go_enter Tryz.func22, Tryz.ntmps22
    go_wp2
    all_goals (
      go_ret
      refine ⟨ret_b ?_, ((Below.refl w.heap.size w).alloc (Nat.le_refl _) _).alloc (by simp) _⟩
      rw [E.out, Bool.eq_iff_iff]
      simp
      omega)
  · have E := Lib.hid (nodeB_5 (n := n) (i := i) (s := t.sets.length) (by simpa using z5))
    have ct := Lib.hid (fun w => rtimes_any n.lo n.hi w)
    generalize timesB n.lo n.hi = b at *
    go_enter Tryz.func22, Tryz.ntmps22
    go_wp2_with (go_at_call 44; (with_reducible refine (ct.out _).mono ?_); rintro e w1 ⟨rfl, rfl⟩)
    all_goals (
      go_ret
      refine ⟨ret_b ?_, ((Below.refl w.heap.size w).alloc (Nat.le_refl _) _).alloc (by simp) _⟩
      rw [E.out]
      cases b
      all_goals (rw [Bool.eq_iff_iff]; simp)
      all_goals omega)
  · have E := Lib.hid (nodeB_0 (n := n) (i := i) (s := t.sets.length) (by simpa using z1) (by simpa using z2) (by simp at z3 z4; omega) (by simpa using z5))
    go_enter Tryz.func22, Tryz.ntmps22
    go_wp2
    all_goals (
      go_ret
      refine ⟨ret_b ?_, ((Below.refl w.heap.size w).alloc (Nat.le_refl _) _).alloc (by simp) _⟩
      exact E.out.symm)

end Go.Proofs.YtjmdlioakkibcaaGreatDoor.Ar

namespace Go.Proofs.YtjmdlioakkibcaaGreatDoor.Ar
open Go Go.RowKit Go.Shelf
open Go.Proofs.YtjmdlioakkibcaaGreatDoor.Rg (R RngsAt RowsAt nthL add_zero own_next rightB rright_all)

set_option maxRecDepth 100000 in
set_option maxHeartbeats 8000000 in
theorem rcheck_any (t : Tr) (v : Value) (w : World) (h : TreeAt w v t) (hl : ∀ k, k < t.sets.length → (nthL t.sets k).length ≤ 40000) :
    Calls Tryz.prog 8 #[v] w fun e w' => e = .returned (.int .i64 (checkE t)) ∧ Below w.heap.size w w' := by
  have HV := Lib.hid h
  obtain ⟨ao, cap, so, scap, rfl, hm, hm2, hn, hs⟩ := h.shape
  have HN := Lib.hid hn
  have HS := Lib.hid hs
  clear hn hs h
  have b1 := (Below.refl w.heap.size w).alloc (Nat.le_refl _) (.cells #[.slice ao t.ns.length cap, .slice so t.sets.length scap, .int .i64 t.root] 25)
  have B1 := Lib.hid b1
  have T0 := Lib.hid (TBox.new w (.slice ao t.ns.length cap) (.slice so t.sets.length scap) t.root)
  by_cases hbig : 4096 < t.ns.length ∨ 4096 < t.sets.length
  · rw [check_big hbig]
    have hh : (4096 : Int) < t.ns.length ∨ (¬ (4096 : Int) < t.ns.length ∧ (4096 : Int) < t.sets.length) := by omega
    clear hbig
    rcases hh with h1 | ⟨h1, h2⟩
    all_goals (
      go_enter Tryz.func8, Tryz.ntmps8
      go_wp2
      go_ret
      exact ⟨rfl, b1⟩)
  · have n1 : ¬ (4096 : Int) < t.ns.length := by omega
    have n2 : ¬ (4096 : Int) < t.sets.length := by omega
    have CE := Lib.hid (show checkE t = if okB t = true then 0 else 3 by unfold checkE; rw [if_neg hbig])
    have hOK : okB t = (rootB t && setsB t.sets t.sets.length && allB t.ns t.sets.length t.ns.length) := rfl
    have OK := Lib.hid hOK
    have HR := Lib.hid (show rootB t = (decide (0 ≤ t.root) && decide (t.root < t.ns.length)) from rfl)
    have HL := Lib.hid hl
    generalize checkE t = E at *
    generalize okB t = ok at *
    have hrel0 : ∃ r, rootB t = r := ⟨_, rfl⟩
    obtain ⟨r, hr⟩ := hrel0
    rw [hr] at HR
    have RT := Lib.hid hr
    clear hbig hOK hr hl
    have HW := Lib.hid (show Below (w.heap.size + 1) (w.alloc (.cells #[.slice ao t.ns.length cap, .slice so t.sets.length scap, .int .i64 t.root] 25)) (w.alloc (.cells #[.slice ao t.ns.length cap, .slice so t.sets.length scap, .int .i64 t.root] 25)) from Below.refl _ _)
    have HSZ : (w.alloc (.cells #[.slice ao t.ns.length cap, .slice so t.sets.length scap, .int .i64 t.root] 25)).heap.size = w.heap.size + 1 := by simp
    obtain ⟨f0, f1, f2⟩ := T0.out
    have hrr : (r = true ∧ (0 : Int) ≤ t.root ∧ t.root < (t.ns.length : Int)) ∨ (r = false ∧ ¬ (0 : Int) ≤ t.root) ∨ (r = false ∧ (0 : Int) ≤ t.root ∧ ¬ t.root < (t.ns.length : Int)) := by
      have := HR.out
      by_cases h1 : 0 ≤ t.root
      · by_cases h2 : t.root < t.ns.length
        · left; refine ⟨?_, h1, h2⟩; rw [this]; simp [h1, h2]
        · right; right; refine ⟨?_, h1, h2⟩; rw [this]; simp [h2]
      · right; left; refine ⟨?_, h1⟩; rw [this]; simp [h1]
    have AN := Lib.hid (fun W (h : TreeAt W (.agg #[.slice ao t.ns.length cap, .slice so t.sets.length scap, .int .i64 t.root]) t) k (hk : k < t.ns.length) => rnode_any t k hk _ W h)
    rcases hrr with ⟨rfl, h1, h2⟩ | ⟨rfl, h1⟩ | ⟨rfl, h1, h2⟩
    all_goals (
      go_enter Tryz.func8, Tryz.ntmps8
      go_wp2
      generalize w.alloc (.cells #[.slice ao t.ns.length cap, .slice so t.sets.length scap, .int .i64 t.root] 25) = W1 at *
      clear f0 f1 f2
      go_loopw [3, 4] (fun o i wr => ∃ k : Nat, i = .int .i64 k ∧ k ≤ t.sets.length ∧ (∃ b, o = .bool b ∧ b = (rootB t && setsB t.sets k)) ∧ Below (w.heap.size + 1) W1 wr) (fun _ i _ => t.sets.length - (intOf i).toNat)
      case atStart => exact ⟨0, rfl, Nat.zero_le _, ⟨_, rfl, by rw [RT.out]; rfl⟩, HW.out⟩
      case round =>
        obtain ⟨k, rfl, hk, ⟨b, rfl, hb⟩, hbw⟩ := hrel
        obtain ⟨q0, q1, q2⟩ := T0.out.next (hbw.mono (by omega))
        have hsz := hbw.size
        have HBW := Lib.hid hbw
        clear hbw
        by_cases hlt : k < t.sets.length
        · obtain ⟨gs, x, rfl, x1, x2⟩ := HS.out k hlt
          have hB := B1.out.trans (HBW.out.mono (by omega))
          have y1 := cell_next x1 hB
          have HR := Lib.hid (rright_all (nthL t.sets k) x wr (x2.next hB) (HL.out k hlt))
          have hss : (rootB t && setsB t.sets (k + 1)) = (b && rightB (nthL t.sets k)) := by rw [setsB_succ hlt, hb, Bool.and_assoc]; rfl
          have HSS := Lib.hid hss
          clear hss hb x1 x2 hB
          generalize rightB (nthL t.sets k) = c at *
          cases b
          all_goals (
            go_wp2_with (go_at_call 21; (with_reducible refine HR.out.mono ?_); rintro e w2 ⟨rfl, hb2⟩; go_must (have B2 := Lib.hid (HBW.out.trans (hb2.mono (by omega))); clear hb2))
            go_roundw
            case rel => first | exact ⟨k + 1, by go_num, by omega, ⟨_, rfl, by rw [HSS.out]; simp⟩, B2.out⟩ | exact ⟨k + 1, by go_num, by omega, ⟨_, rfl, by rw [HSS.out]; simp⟩, HBW.out⟩
            case measure => simp [intOf]; omega)
        · obtain rfl : k = t.sets.length := by omega
          have HB0 := Lib.hid hb
          clear hb
          go_wp2
          go_loopw [3, 5] (fun o i wr => ∃ k : Nat, i = .int .i64 k ∧ k ≤ t.ns.length ∧ (∃ c, o = .bool c ∧ c = (b && allB t.ns t.sets.length k)) ∧ Below (w.heap.size + 1) W1 wr) (fun _ i _ => t.ns.length - (intOf i).toNat)
          case atStart => exact ⟨0, rfl, Nat.zero_le _, ⟨_, rfl, by cases b <;> rfl⟩, HBW.out⟩
          case round =>
            clear q0 q1 q2 hsz
            obtain ⟨k, rfl, hk, ⟨c, rfl, hc⟩, hbw⟩ := hrel
            obtain ⟨q0, q1, q2⟩ := T0.out.next (hbw.mono (by omega))
            have hsz := hbw.size
            have HBW2 := Lib.hid hbw
            clear hbw
            by_cases hlt : k < t.ns.length
            · have hB := B1.out.trans (HBW2.out.mono (by omega))
              have HM := Lib.hid (AN.out wr (HV.out.next hB) k hlt)
              have hss : (b && allB t.ns t.sets.length (k + 1)) = (c && nodeB (nd t.ns k) k t.sets.length) := by rw [allB_succ, hc, Bool.and_assoc]
              have HSS := Lib.hid hss
              clear hss hc hB
              generalize nodeB (nd t.ns k) k t.sets.length = d at *
              cases c
              all_goals (
                go_wp2_with (go_at_call 22; (with_reducible refine HM.out.mono ?_); rintro e w2 ⟨rfl, hb2⟩; go_must (have B2 := Lib.hid (HBW2.out.trans (hb2.mono (by omega))); clear hb2))
                go_roundw
                case rel => first | exact ⟨k + 1, by go_num, by omega, ⟨_, rfl, by rw [HSS.out]; simp⟩, B2.out⟩ | exact ⟨k + 1, by go_num, by omega, ⟨_, rfl, by rw [HSS.out]; simp⟩, HBW2.out⟩
                case measure => simp [intOf]; omega)
            · obtain rfl : k = t.ns.length := by omega
              have hok : ok = c := by rw [OK.out, hc, HB0.out]
              have HOK := Lib.hid hok
              clear hok hc
              cases c
              all_goals (
                go_wp2
                go_ret
                exact ⟨ret_e (by rw [CE.out, HOK.out]; rfl), B1.out.trans (HBW2.out.mono (by omega))⟩))

end Go.Proofs.YtjmdlioakkibcaaGreatDoor.Ar

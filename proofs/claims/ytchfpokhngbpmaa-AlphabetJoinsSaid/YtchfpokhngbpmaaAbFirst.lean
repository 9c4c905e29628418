/- The program's Right, First. -/
import Derived.Test.YtchfpokhngbpmaaAbJoin
import Derived.Test.YtchfpokhngbpmaaAbSm
import Derived.Test.YtchfpokhngbpmaaAbRef3
namespace Go.Proofs.Ytchfpokhngbpmaa.Ab
open Go.RowKit

theorem wfL_nil : WfL [] := fun i => by simp only [num, List.getD_nil]; exact WalkArith.wf_i64 (by omega)

set_option maxRecDepth 100000 in
set_option maxHeartbeats 2000000 in
theorem right_any (v : Value) (c : List Int) (w : World) (h : IntsAt w v c) (wc : WfL c) :
    Calls Try.prog 10 #[v] w fun e w' => e = .returned (.bool (rightB c)) ∧ Below w.heap.size w w' := by
  have hj := Lib.hid (join_any v (.slice none 0 0) c [] w h (nil_at w) wc wfL_nil)
  have he := Lib.hid (fun W (hb : Below w.heap.size w W) u (hu : IntsAt W u (clsL (eJ c []) 256)) => equal_any v u c (clsL (eJ c []) 256) W (h.next hb) hu)
  have hR : rightB c = decide (c = clsL (eJ c []) 256) := rfl
  rw [hR]
  clear h hR
  generalize clsL (eJ c []) 256 = L at *
  generalize cnt (eJ c []) 256 = n at *
  go_enter Try.func10, Try.ntmps10
  go_wp2_with (first
    | (go_at_call 17; refine hj.out.mono ?_; rintro e w1 ⟨v1, rfl, hv1, hb1⟩)
    | (go_at_call 19; refine (he.out w1 hb1 v1 hv1).mono ?_; rintro e w2 ⟨rfl, hb2⟩))
  go_ret
  exact ⟨rfl, hb1.trans (hb2.mono hb1.size)⟩

set_option maxRecDepth 100000 in
set_option maxHeartbeats 4000000 in
theorem first_any (v : Value) (c : List Int) (w : World) (h : IntsAt w v c) (wc : WfL c) :
    Calls Try.prog 13 #[v] w fun e w' => ∃ v', e = .returned v' ∧ IntsAt w' v' (firstL c) ∧ Below w.heap.size w w' := by
  obtain ⟨i0, hi, hz0, hz1, hz2⟩ := info_parts infoI
  have hj := Lib.hid (right_any v c w h wc)
  obtain ⟨ao, cap, rfl, hm, hc⟩ := h.shape
  have HC := Lib.hid hc
  clear hc h
  cases hR : rightB c
  · rw [hR] at hj
    have hF : firstL c = [] := by unfold firstL; rw [hR]; rfl
    rw [hF]
    clear hF hR
    go_enter Try.func13, Try.ntmps13
    go_wp2_with (go_at_call 10; refine hj.out.mono ?_; rintro e w1 ⟨rfl, hb1⟩)
    go_ret
    exact ⟨_, rfl, nil_at _, hb1⟩
  · rw [hR] at hj
    have hF : firstL c = frs (eJ c []) 256 := by unfold firstL; rw [hR]; rfl
    obtain ⟨hlen, hat⟩ := right_at hR
    have E := eqJ c []
    rw [hF]
    have hl1 : 256 ≤ c.length := by omega
    have hl2 : c.length ≤ 256 := by omega
    have HA := Lib.hid hat
    clear hF hR hlen hat
    generalize eJ c [] = e at *
    go_enter Try.func13, Try.ntmps13
    go_wp2_with (go_at_call 10; refine hj.out.mono ?_; rintro e w1 ⟨rfl, hb1⟩)
    go_loopw [3, 11] (fun x i wr => ∃ k : Nat, k ≤ 256 ∧ i = .int .i64 k ∧ Row wr w1.heap.size x (frs e k) ∧ Below w1.heap.size w1 wr) (fun _ i _ => 256 - (intOf i).toNat)
    case atStart => exact ⟨0, by omega, rfl, World.ownsRow_nil _ _ _ _, Below.refl _ _⟩
    case round =>
      obtain ⟨k, hk, rfl, hrow, hbw⟩ := hrel
      by_cases hlt : k < 256
      · have hpl : (frs e k).length ≤ k := by rw [frs_len]; exact cnt_le k
        obtain ⟨ad, rfl, hcell0⟩ := HC.out k (by omega)
        rw [HA.out k hlt] at hcell0
        have hcell := cell_next hcell0 (hb1.trans (hbw.mono hb1.size))
        clear hcell0
        have hf : ((cls e k : Int) == ((frs e k).length : Int)) = fresh e k := by
          rw [frs_len, Bool.eq_iff_iff, beq_iff_eq, ← cls_fresh E k]; omega
        have HS := Lib.hid (frs_succ (e := e) k)
        have hsz := hbw.size
        obtain ⟨ro, rcap, rfl, hm3, _⟩ := (ints_of_row hrow).shape
        generalize frs e k = pre at *
        generalize cls e k = q at *
        cases hfr : fresh e k
        · have hz := HS.out
          rw [hfr] at hf hz
          rw [if_neg (by simp)] at hz
          have hr : Row wr w1.heap.size (.slice ro pre.length rcap) (frs e (k + 1)) := by rw [hz]; exact hrow
          have HR := Lib.hid hr
          clear hr hz hfr hrow
          go_wp2
          go_roundw
          case rel => exact ⟨k + 1, by omega, by go_num, HR.out, hbw⟩
          case measure => simp [intOf]; omega
        · have hz := HS.out
          rw [hfr] at hf hz
          rw [if_pos rfl] at hz
          have HZ := Lib.hid hz
          clear hz hfr
          go_wp2_with (at_builtin; refine wpList_append_own _ rfl _ _ 24 rfl w1.heap.size 3 i0 (.int .i64 0) 1 8 Try.underlying24 hi hz0 hz1 hz2 rfl (by decide) _ _ _ rfl (hrow.alloc _) ⟨wr.heap.size, 0, none⟩ 1 1 [.int .i64 (k : Int)] rfl rfl (cell_one_new _ _ _) (by simp [Value.oneCell']) (by unfold maxLen; omega) (by omega) (by simp; omega) ?_; intro v' w2 hown' hgrow _)
          have hr := Row.app hrow hbw hown' hgrow
          rw [← HZ.out] at hr
          clear hown' hgrow hrow
          have HR := Lib.hid hr
          clear hr
          go_roundw
          case rel => exact ⟨k + 1, by omega, by go_num, HR.out.1, HR.out.2⟩
          case measure => simp [intOf]; omega
      · obtain rfl : k = 256 := by omega
        have HR := Lib.hid hrow
        clear hrow
        go_wp2
        go_ret
        exact ⟨_, rfl, ints_of_row HR.out, hb1.trans (hbw.mono hb1.size)⟩

end Go.Proofs.Ytchfpokhngbpmaa.Ab

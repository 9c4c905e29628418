/- The document's Right, First. -/
import Derived.Test.YtchfpokhngbpmaaAbRef2
namespace Go.Proofs.Ytchfpokhngbpmaa.Ab
open Go.RowKit

theorem right_flip (c : List Int) : rightB c = decide (clsL (eJ c []) 256 = c) := by
  unfold rightB
  rw [Bool.eq_iff_iff, decide_eq_true_eq, decide_eq_true_eq]
  exact ⟨Eq.symm, Eq.symm⟩
theorem nil_at (w : World) : IntsAt w (.slice none 0 0) [] := .inl ⟨rfl, rfl⟩

set_option maxRecDepth 100000 in
set_option maxHeartbeats 2000000 in
theorem rright_any (v : Value) (c : List Int) (w : World) (h : IntsAt w v c) :
    Calls Try.prog 12 #[v] w fun e w' => e = .returned (.bool (rightB c)) ∧ Below w.heap.size w w' := by
  have hj := Lib.hid (rjoin_any v (.slice none 0 0) c [] w h (nil_at w))
  obtain ⟨ao, cap, rfl, hm, hc⟩ := h.shape
  have HC := Lib.hid hc
  clear hc h
  by_cases hlen : c.length = 256
  · have hl1 : 256 ≤ c.length := by omega
    have hl2 : c.length ≤ 256 := by omega
    clear hlen
    have hlb : ((c.length : Int) == 256) = true := by simp; omega
    have hR := right_flip c
    have hll := clsL_len (e := eJ c []) 256
    have hcx : ∀ i, i < 256 → (clsL (eJ c []) 256).getD i 0 = (cls (eJ c []) i : Int) := fun i hi => clsL_at hi
    generalize cnt (eJ c []) 256 = N at *
    generalize clsL (eJ c []) 256 = L at *
    have h0 : decide (L.drop 0 = c.drop 0) = rightB c := by rw [hR]; simp
    have hk1 : 256 ≤ L.length := by omega
    have hk2 : L.length ≤ 256 := by omega
    clear hR hll hcx
    generalize rightB c = A at *
    have H0 := Lib.hid h0
    clear h0
    go_enter Try.func12, Try.ntmps12
    go_wp2_with (go_at_call 18; refine hj.out.mono ?_; rintro e w1 ⟨v1, rfl, hv1, hb1⟩)
    obtain ⟨bo, cap2, rfl, hm2, hc2⟩ := hv1.shape
    have HC2 := Lib.hid hc2
    clear hc2 hv1
    go_loopw [5] (fun i wr => ∃ k : Nat, k ≤ 256 ∧ decide (L.drop k = c.drop k) = A ∧ i = .int .i64 k ∧ Below w1.heap.size w1 wr) (fun i _ => 256 - (intOf i).toNat)
    case atStart => exact ⟨0, by omega, H0.out, rfl, Below.refl _ _⟩
    case round =>
      obtain ⟨k, hk, hx, rfl, hb⟩ := hrel
      by_cases hlt : k < 256
      · have hy := fun x d h1 h2 => (Ut.drop_same (xs := L) (ys := c) (k := k) (c := x) (d := d) (by omega) (by omega) h1 h2).symm.trans hx
        have HY := Lib.hid hy
        clear hx hy
        obtain ⟨ad, rfl, hcell0⟩ := HC.out k (by omega)
        obtain ⟨bd, rfl, hcell1⟩ := HC2.out k (by omega)
        have hcell := cell_next hcell0 (hb1.trans (hb.mono hb1.size))
        have hcell2 := cell_next hcell1 hb
        clear hcell0 hcell1
        generalize hc : L.getD k 0 = x at *
        generalize hd : c.getD k 0 = d at *
        go_wp2
        go_region
        all_goals go_wp2
        · have hne : (x != d) = true := by assumption
          have hz := HY.out x d rfl rfl
          rw [decide_eq_false (by simpa using hne), Bool.false_and] at hz
          have HZ := Lib.hid hz
          go_ret
          exact ⟨Ut.ret_bool HZ.out, hb1.trans (hb.drew.mono hb1.size)⟩
        · have hne : (x != d) = false := by assumption
          have hz := HY.out x d rfl rfl
          rw [decide_eq_true (by simpa using hne), Bool.true_and] at hz
          have HZ := Lib.hid hz
          clear hz
          go_roundw
          case rel => exact ⟨k + 1, by omega, HZ.out, by go_num, hb.drew⟩
          case measure => simp [intOf]; omega
      · have hx0 : A = true := by
          rw [← hx, List.drop_eq_nil_of_le (by omega), List.drop_eq_nil_of_le (by omega)]; rfl
        have HX := Lib.hid hx0
        clear hx hx0
        go_wp2
        go_ret
        exact ⟨Ut.ret_bool HX.out.symm, hb1.trans (hb.mono hb1.size)⟩
  · have hlb : ((c.length : Int) == 256) = false := beq_eq_false_iff_ne.2 (by omega)
    have hz : rightB c = false := decide_eq_false fun e => hlen (by rw [e, clsL_len])
    clear hlen
    rw [hz]
    clear hz hj
    go_enter Try.func12, Try.ntmps12
    go_wp2
    go_ret
    exact ⟨rfl, Below.refl _ _⟩

theorem frs_take {l : List Int} {k : Nat} {x : Int} (h : l[k]? = some x) : l.take (k + 1) = l.take k ++ [x] := by
  rw [List.take_add_one, h]; rfl
theorem frs_stop {l : List Int} {k : Nat} (h : l[k]? = none) : l.take (k + 1) = l.take k := by
  rw [List.take_add_one, h]; simp
/-- a slice that is not empty: its first number -/
theorem head_at {w : World} {v : Value} {x : Int} {t : List Int} (h : IntsAt w v (x :: t)) : ∃ (a : Addr) (cap : Nat), v = .slice (some a) (t.length + 1) cap ∧ t.length + 1 ≤ 9223372036854775807 ∧ w.cell? (a.add 0) = some (.int .i64 x) ∧ w.cell? a = some (.int .i64 x) := by
  rcases h with ⟨_, h⟩ | ⟨a, cap, hv, hm, hc⟩
  · cases h
  · have h0 := hc 0 (by simp)
    have e : a.add 0 = a := by unfold Addr.add; simp
    refine ⟨a, cap, hv, by unfold maxLen at hm; simp at hm; omega, by simpa using h0, ?_⟩
    rw [e] at h0
    simpa using h0

set_option maxRecDepth 100000 in
set_option maxHeartbeats 4000000 in
theorem rfirst_any (v : Value) (c : List Int) (w : World) (h : IntsAt w v c) :
    Calls Try.prog 14 #[v] w fun e w' => ∃ v', e = .returned v' ∧ IntsAt w' v' (firstL c) ∧ Below w.heap.size w w' := by
  obtain ⟨i0, hi, hz0, hz1, hz2⟩ := info_parts infoI
  have hj := Lib.hid (rright_any v c w h)
  have hby := Lib.hid (fun W (hb : Below w.heap.size w W) (k : Nat) => rbytes_any v c k W (h.next hb))
  clear h
  cases hR : rightB c
  · rw [hR] at hj
    have hF : firstL c = [] := by unfold firstL; rw [hR]; rfl
    rw [hF]
    clear hF hR
    go_enter Try.func14, Try.ntmps14
    go_wp2_with (go_at_call 12; refine hj.out.mono ?_; rintro e w1 ⟨rfl, hb1⟩)
    go_ret
    exact ⟨_, rfl, nil_at _, hb1⟩
  · rw [hR] at hj
    have hF : firstL c = frs (eJ c []) 256 := by unfold firstL; rw [hR]; rfl
    have hlen : (frs (eJ c []) 256).length ≤ 256 := by rw [frs_len]; exact cnt_le 256
    have HH := Lib.hid (fun k => class_head hR (k := k))
    rw [hF]
    clear hF hR
    generalize frs (eJ c []) 256 = F at *
    go_enter Try.func14, Try.ntmps14
    go_wp2_with (go_at_call 12; refine hj.out.mono ?_; rintro e w1 ⟨rfl, hb1⟩)
    go_loopw [3, 4] (fun x i wr => ∃ k : Nat, k ≤ 256 ∧ i = .int .i64 k ∧ Row wr w1.heap.size x (F.take k) ∧ Below w1.heap.size w1 wr) (fun _ i _ => 256 - (intOf i).toNat)
    case atStart => exact ⟨0, by omega, rfl, World.ownsRow_nil _ _ _ _, Below.refl _ _⟩
    case round =>
      obtain ⟨k, hk, rfl, hrow, hbw⟩ := hrel
      by_cases hlt : k < 256
      · have h256 : (k : Int) < 256 := by omega
        have hpl : (F.take k).length ≤ k := by rw [List.length_take]; omega
        have hbb := Lib.hid (hby.out wr (hb1.trans (hbw.mono hb1.size)) k)
        have hh := HH.out k
        have hsz := hbw.size
        cases hB : bytesA c k with
        | nil =>
          rw [hB] at hh hbb
          have hz := frs_stop (l := F) hh.symm
          rw [← hz] at hrow
          have HR := Lib.hid hrow
          clear hh hz hrow
          go_wp2_with (go_at_call 16; (with_reducible refine hbb.out.mono ?_); rintro e w2 ⟨v2, rfl, hv2, hb2⟩; obtain ⟨bo, cap2, rfl, hm2, hc2⟩ := hv2.shape; clear hc2)
          go_roundw
          case rel => exact ⟨k + 1, by omega, by go_num, row_next HR.out hb2, hbw.trans (hb2.mono hbw.size)⟩
          case measure => simp [intOf]; omega
        | cons x t =>
          rw [hB] at hh hbb
          have HZ := Lib.hid (frs_take (l := F) hh.symm)
          have HR := Lib.hid hrow
          have HBW := Lib.hid hbw
          clear hh hrow
          generalize F.take k = pre at *
          go_wp2_with (first
            | (go_at_call 16; (with_reducible refine hbb.out.mono ?_); rintro e w2 ⟨v2, rfl, hv2, hb2⟩; obtain ⟨ad, cap2, rfl, hq1, hq2, hq3⟩ := head_at hv2; have hsz2 := hb2.size)
            | (at_builtin; refine wpList_append_own _ rfl _ _ 24 rfl w1.heap.size 3 i0 (.int .i64 0) 1 8 Try.underlying24 hi hz0 hz1 hz2 rfl (by decide) _ _ _ rfl ((row_next HR.out hb2).alloc _) ⟨w2.heap.size, 0, none⟩ 1 1 [.int .i64 x] rfl rfl (cell_one_new _ _ _) (by simp [Value.oneCell']) (by unfold maxLen; omega) (by omega) (by simp; omega) ?_; intro v' w3 hown' hgrow _))
          have hr := Row.app (row_next HR.out hb2) (HBW.out.trans (hb2.mono hsz)) hown' hgrow
          rw [← HZ.out] at hr
          clear hown' hgrow
          have HR2 := Lib.hid hr
          clear hr
          go_roundw
          case rel => exact ⟨k + 1, by omega, by go_num, HR2.out.1, HR2.out.2⟩
          case measure => simp [intOf]; omega
      · obtain rfl : k = 256 := by omega
        rw [List.take_of_length_le hlen] at hrow
        have HR := Lib.hid hrow
        clear hrow
        go_wp2
        go_ret
        exact ⟨_, rfl, ints_of_row HR.out, hb1.trans (hbw.mono hb1.size)⟩

end Go.Proofs.Ytchfpokhngbpmaa.Ab

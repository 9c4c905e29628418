/- The document's All, Valid, Join; whether numbers are the same. -/
import Derived.Test.YtmcgfcnjeinbaaaDoorUtAll
namespace Go.Proofs.YtmcgfcnjeinbaaaDoor.Ut
open Go.RowKit

def szOf : Value → Nat
  | .string t => t.size
  | _ => 0
theorem cons_at {t : ByteArray} (h : 0 < t.size) : allL t.data.toList = (getL t.data.toList).1 :: allL (t.extract (getL t.data.toList).2 t.size).data.toList ∧ 1 ≤ (getL t.data.toList).2 ∧ (getL t.data.toList).2 ≤ t.size := by
  have hl : 0 < t.data.toList.length := by rw [← Lib.size_eq]; exact h
  have h1 := all_step hl
  have h2 := get_at hl
  rw [List.drop_zero, Nat.zero_add] at h1 h2
  rw [drop_extract, Lib.size_eq t]
  exact ⟨h1, by omega, by omega⟩

set_option maxRecDepth 100000 in
set_option maxHeartbeats 1000000 in
theorem rall_any (s : ByteArray) (w : World) (hs : s.size ≤ 17592186044000) :
    Calls Tryd.prog 16 #[.string s] w fun e W' => ∃ v, e = .returned v ∧ IntsAt W' v (allL s.data.toList) ∧ Below w.heap.size w W' := by
  obtain ⟨i0, hi, hz0, hz1, hz2⟩ := info_parts infoI
  go_enter Tryd.func16, Tryd.ntmps16
  go_wp2
  go_loopw [0, 3] (fun x v wr => ∃ (t : ByteArray) (pre : List Int), x = .string t ∧ pre.length + t.size ≤ s.size ∧ allL s.data.toList = pre ++ allL t.data.toList ∧ wr.ownsRow w.heap.size 3 1 v pre.length (pre.map (Value.int .i64)) ∧ Below w.heap.size w wr) (fun x _ _ => szOf x)
  case atStart => exact ⟨s, [], rfl, by simp, rfl, World.ownsRow_nil _ _ _ _, Below.refl _ _⟩
  case round =>
    obtain ⟨t, pre, rfl, hpl, ha, hrow, hb⟩ := hrel
    have HA := Lib.hid ha
    clear ha
    by_cases ht : 0 < t.size
    · obtain ⟨hc1, hc2, hc3⟩ := cons_at ht
      have hg := Lib.hid (fun w => rget_any t w (by unfold maxLen; omega))
      simp only [vGet] at hg
      have HC := Lib.hid hc1
      clear hc1
      generalize (getL t.data.toList).1 = c at *
      generalize (getL t.data.toList).2 = m at *
      go_wp2_with (first
        | (go_at_call 13; refine (hg.out _).mono ?_; rintro e W ⟨rfl, hbw⟩; have hrow1 := row_next hrow hbw; have hb1 := hb.trans (hbw.mono hb.size); have hsz1 := hb1.size)
        | (at_builtin; refine wpList_append_own _ rfl _ _ 30 rfl w.heap.size 3 i0 (.int .i64 0) 1 8 Tryd.underlying30 hi hz0 hz1 hz2 rfl (by decide) _ _ _ rfl (hrow1.alloc _) ⟨W.heap.size, 0, none⟩ 1 1 [.int .i64 c] rfl rfl (cell_one_new _ _ _) (by simp [Value.oneCell']) (by unfold maxLen; omega) (by omega) (by simp; omega) ?_; intro v' w2 hown' hgrow _))
      have hz : (t.extract m t.size).size = t.size - m := by rw [ByteArray.size_extract]; omega
      go_roundw
      case rel => exact ⟨t.extract m t.size, pre ++ [c], rfl, by simp; omega, by rw [HA.out, HC.out]; simp, by simpa using hown', (hb1.alloc hsz1 _).grown hgrow (by simp; omega) (fun k hk => ((World.ownsRowF_of hrow1).lt k hk).1)⟩
      case measure => simp only [szOf, hz]; omega
    · have h0 : t.data.toList = [] := List.eq_nil_of_length_eq_zero (by rw [← Lib.size_eq]; omega)
      have H0 := Lib.hid h0
      clear h0
      go_wp2
      go_ret
      exact ⟨_, rfl, by rw [HA.out, H0.out, allL_nil, List.append_nil]; exact ints_of_row hrow, hb⟩


theorem valid_drop {l : List Int} {k : Nat} (h : l.length ≤ k) : ((l.drop k).all fun c => decide (0 ≤ c)) = true := by
  rw [List.drop_eq_nil_of_le h]; rfl
theorem valid_at {l : List Int} {k : Nat} {c : Int} (h : k < l.length) (hc : l.getD k 0 = c) : ((l.drop k).all fun c => decide (0 ≤ c)) = (decide (0 ≤ c) && (l.drop (k + 1)).all fun c => decide (0 ≤ c)) := by
  have e : l.getD k 0 = l[k] := by simp [List.getD, h]
  rw [List.drop_eq_getElem_cons h, List.all_cons, ← e, hc]
theorem ret_bool {a b : Bool} (h : a = b) : Ending.returned (.bool a) = .returned (.bool b) := by rw [h]

set_option maxRecDepth 100000 in
set_option maxHeartbeats 1000000 in
theorem rvalid_any (s : ByteArray) (w : World) (hs : s.size ≤ 17592186044000) :
    Calls Tryd.prog 18 #[.string s] w fun e W' => e = .returned (.bool (validL s.data.toList)) ∧ Below w.heap.size w W' := by
  have hal := Lib.hid (rall_any s w hs)
  have hvl : ((allL s.data.toList).drop 0).all (fun c => decide (0 ≤ c)) = validL s.data.toList := rfl
  generalize allL s.data.toList = l at *
  generalize validL s.data.toList = V at *
  have HV := Lib.hid hvl
  clear hvl
  go_enter Tryd.func18, Tryd.ntmps18
  go_wp2_with (go_at_call 16; refine hal.out.mono ?_; rintro e w1 ⟨v, rfl, hv, hb⟩; obtain ⟨ao, cap, rfl, hm, hcl⟩ := hv.shape)
  have HC := Lib.hid hcl
  clear hcl hv
  go_loop [4] (fun i => ∃ k : Nat, k ≤ l.length ∧ ((l.drop k).all fun c => decide (0 ≤ c)) = V ∧ i = .int .i64 k) (fun i => l.length - (intOf i).toNat)
  case atStart => exact ⟨0, by omega, HV.out, rfl⟩
  case round =>
    obtain ⟨k, hk, hx, rfl⟩ := hrel
    by_cases hlt : k < l.length
    · have hy := fun c h => (valid_at (l := l) (k := k) (c := c) hlt h).symm.trans hx
      have HY := Lib.hid hy
      clear hx hy
      obtain ⟨ad, rfl, hcell⟩ := HC.out k hlt
      generalize hc : l.getD k 0 = c at *
      go_wp2
      · have h0 : c < 0 := by assumption
        have hz := HY.out c rfl
        rw [decide_eq_false (by omega), Bool.false_and] at hz
        go_ret
        exact ⟨ret_bool hz, hb⟩
      · have h0 : 0 ≤ c := by assumption
        have hz := HY.out c rfl
        rw [decide_eq_true h0, Bool.true_and] at hz
        go_round
        case rel => exact ⟨k + 1, by omega, hz, by go_num⟩
        case measure => simp [intOf]; omega
    · rw [valid_drop (by omega)] at hx
      have HX := Lib.hid hx
      clear hx
      go_wp2
      go_ret
      exact ⟨ret_bool HX.out, hb⟩

end Go.Proofs.YtmcgfcnjeinbaaaDoor.Ut

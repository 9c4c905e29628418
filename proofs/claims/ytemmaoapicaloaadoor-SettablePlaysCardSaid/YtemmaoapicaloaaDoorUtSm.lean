/- Whether two rows of numbers are the same. -/
import Derived.Test.YtemmaoapicaloaaDoorInts
import Derived.Lib.Hide
namespace Go.Proofs.YtemmaoapicaloaaDoor.Ut
open Go.RowKit

theorem drop_same {xs ys : List Int} {k : Nat} {c d : Int} (h : k < xs.length) (h2 : k < ys.length) (hc : xs.getD k 0 = c) (hd : ys.getD k 0 = d) :
    decide (xs.drop k = ys.drop k) = (decide (c = d) && decide (xs.drop (k + 1) = ys.drop (k + 1))) := by
  have e : xs[k] = c := by rw [← hc]; simp [List.getD, h]
  have e2 : ys[k] = d := by rw [← hd]; simp [List.getD, h2]
  rw [List.drop_eq_getElem_cons h, List.drop_eq_getElem_cons h2, e, e2, Bool.eq_iff_iff]
  simp

set_option maxRecDepth 100000 in
set_option maxHeartbeats 1000000 in
theorem same_any (a b : Value) (xs ys : List Int) (w : World) (ha : IntsAt w a xs) (hb : IntsAt w b ys) :
    Calls Tryd.prog 15 #[a, b] w fun e w' => e = .returned (.bool (decide (xs = ys))) ∧ Below w.heap.size w w' := by
  obtain ⟨ao, cap, rfl, hm, hc⟩ := ha.shape
  obtain ⟨bo, cap2, rfl, hm2, hc2⟩ := hb.shape
  have HC := Lib.hid hc
  have HC2 := Lib.hid hc2
  clear hc hc2 ha hb
  by_cases hlen : xs.length = ys.length
  · rw [hlen] at hm ⊢
    have hR : decide (xs.drop 0 = ys.drop 0) = decide (xs = ys) := by simp
    generalize decide (xs = ys) = R at *
    go_enter Tryd.func15, Tryd.ntmps15
    go_wp2
    go_loopw [5] (fun i wr => ∃ k : Nat, k ≤ ys.length ∧ decide (xs.drop k = ys.drop k) = R ∧ i = .int .i64 k ∧ Below w.heap.size w wr) (fun i _ => ys.length - (intOf i).toNat)
    case atStart => exact ⟨0, by omega, hR, rfl, Below.refl _ _⟩
    case round =>
      obtain ⟨k, hk, hx, rfl, hb⟩ := hrel
      by_cases hlt : k < ys.length
      · have hy := fun c d h1 h2 => (drop_same (xs := xs) (ys := ys) (c := c) (d := d) (by omega) hlt h1 h2).symm.trans hx
        have HY := Lib.hid hy
        clear hx hy hR
        obtain ⟨ad, rfl, hcell0⟩ := HC.out k (by omega)
        obtain ⟨bd, rfl, hcell1⟩ := HC2.out k hlt
        have hcell := cell_next hcell0 hb
        have hcell2 := cell_next hcell1 hb
        clear hcell0 hcell1
        generalize hc : xs.getD k 0 = c at *
        generalize hd : ys.getD k 0 = d at *
        go_wp2
        go_region
        all_goals go_wp2
        · have hne : (c != d) = true := by assumption
          have hz := HY.out c d rfl rfl
          rw [decide_eq_false (by simpa using hne), Bool.false_and] at hz
          go_ret
          exact ⟨ret_bool hz, hb.drew⟩
        · have hne : (c != d) = false := by assumption
          have hz := HY.out c d rfl rfl
          rw [decide_eq_true (by simpa using hne), Bool.true_and] at hz
          go_roundw
          case rel => exact ⟨k + 1, by omega, hz, by go_num, hb.drew⟩
          case measure => simp [intOf]; omega
      · have hx0 : R = true := by
          rw [← hx, List.drop_eq_nil_of_le (by omega), List.drop_eq_nil_of_le (by omega)]; rfl
        clear hx
        go_wp2
        go_ret
        exact ⟨ret_bool hx0.symm, hb⟩
  · have hn : ((xs.length : Int) == (ys.length : Int)) = false := beq_eq_false_iff_ne.2 (by omega)
    go_enter Tryd.func15, Tryd.ntmps15
    go_wp2
    go_ret
    exact ⟨ret_bool (decide_eq_false (fun e => hlen (by rw [e]))).symm, Below.refl _ _⟩

end Go.Proofs.YtemmaoapicaloaaDoor.Ut

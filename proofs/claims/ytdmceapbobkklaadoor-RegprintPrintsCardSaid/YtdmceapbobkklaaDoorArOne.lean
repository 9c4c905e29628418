/- One node: its parts, may it be; how many times. -/
import Derived.Test.YtdmceapbobkklaaDoorArBox
import Derived.Deep.RegionHeld3
namespace Go.Proofs.YtdmceapbobkklaaDoor.Ar
open Go Go.RowKit Go.Shelf
open Go.Proofs.YtdmceapbobkklaaDoor.Rg (R RngsAt RowsAt nthL add_zero own_next)

theorem ret_b {a b : Bool} (h : a = b) : Ending.returned (.bool a) = .returned (.bool b) := by rw [h]
/-- are numbers all from 0 on, and less than n -/
def belowB (n : Int) (l : List Int) : Bool := l.all fun i => decide (0 ≤ i) && decide (i < n)
theorem belowB_at {n : Int} {l : List Int} {k : Nat} (h : k < l.length) : belowB n (l.drop k) = (decide (0 ≤ l.getD k 0) && decide (l.getD k 0 < n) && belowB n (l.drop (k + 1))) := by
  have e : l.getD k 0 = l[k] := by simp [List.getD, h]
  rw [e]
  unfold belowB
  rw [List.drop_eq_getElem_cons h, List.all_cons]

set_option maxRecDepth 100000 in
set_option maxHeartbeats 1000000 in
theorem below_any (n : Int) (v : Value) (l : List Int) (w : World) (h : IntsAt w v l) :
    Calls Tryd.prog 28 #[.int .i64 n, v] w fun e w' => e = .returned (.bool (belowB n l)) ∧ w' = w := by
  obtain ⟨ao, cap, rfl, hm, hc⟩ := h.shape
  have HC := Lib.hid hc
  clear hc h
  obtain ⟨b, hb⟩ : ∃ b, belowB n l = b := ⟨_, rfl⟩
  have HB := Lib.hid hb
  rw [hb]
  clear hb
  go_enter Tryd.func28, Tryd.ntmps28
  go_wp2
  go_loop [9] (fun i => ∃ k : Nat, k ≤ l.length ∧ i = .int .i64 k ∧ b = belowB n (l.drop k)) (fun i => l.length - (intOf i).toNat)
  case atStart => exact ⟨0, Nat.zero_le _, rfl, by rw [← HB.out]; rfl⟩
  case round =>
    obtain ⟨k, hk, rfl, he⟩ := hrel
    by_cases hlt : k < l.length
    · obtain ⟨ad, rfl, hcell⟩ := HC.out k hlt
      rw [belowB_at hlt] at he
      have HE := Lib.hid he
      clear he
      generalize l.getD k 0 = x at *
      go_wp2
      all_goals first
        | (go_ret; refine ⟨ret_b ?_, rfl⟩; rw [HE.out]; simp; omega)
        | (go_round
           case rel => exact ⟨k + 1, by omega, by go_num, by rw [HE.out]; simp; omega⟩
           case measure => simp [intOf]; omega)
    · obtain rfl : k = l.length := by omega
      rw [List.drop_length] at he
      have HE := Lib.hid he
      clear he
      go_wp2
      go_ret
      exact ⟨ret_b (by rw [HE.out]; rfl), rfl⟩

theorem timesB_eq (lo hi : Int) : timesB lo hi = true ↔ 0 ≤ lo ∧ lo ≤ 255 ∧ (hi = -1 ∨ lo ≤ hi ∧ hi ≤ 255) := by
  unfold timesB; simp; omega
set_option maxRecDepth 100000 in
set_option maxHeartbeats 1000000 in
theorem times_any (lo hi : Int) (w : World) :
    Calls Tryd.prog 44 #[.int .i64 lo, .int .i64 hi] w fun e w' => e = .returned (.bool (timesB lo hi)) ∧ w' = w := by
  have HT := Lib.hid (timesB_eq lo hi)
  generalize timesB lo hi = b at *
  go_enter Tryd.func44, Tryd.ntmps44
  go_wp2
  all_goals (
    go_ret
    refine ⟨ret_b ?_, rfl⟩
    rw [Bool.eq_iff_iff, HT.out]
    simp
    omega)
set_option maxRecDepth 100000 in
set_option maxHeartbeats 1000000 in
theorem rtimes_any (lo hi : Int) (w : World) :
    Calls Tryd.prog 37 #[.int .i64 lo, .int .i64 hi] w fun e w' => e = .returned (.bool (timesB lo hi)) ∧ w' = w := by
  have HT := Lib.hid (timesB_eq lo hi)
  generalize timesB lo hi = b at *
  go_enter Tryd.func37, Tryd.ntmps37
  go_wp2
  all_goals (
    go_ret
    refine ⟨ret_b ?_, rfl⟩
    rw [Bool.eq_iff_iff, HT.out]
    simp
    omega)

/-- the numbers of a node's parts, in a slice of the call's own -/
def PartsOut (n : Nd) (w : World) (e : Ending) (w' : World) : Prop := ∃ v, e = .returned v ∧ w'.ownsRow w.heap.size 3 1 v (partsL n).length ((partsL n).map (Value.int .i64)) ∧ Below w.heap.size w w'

set_option maxRecDepth 100000 in
set_option maxHeartbeats 1000000 in
theorem parts_any (n : Nd) (w : World) : Calls Tryd.prog 43 #[aggN n] w fun e w' => PartsOut n w e w' := by
  unfold aggN
  by_cases h3 : n.op = 3 ∨ n.op = 4
  · have e : partsL n = [n.a, n.b] := by unfold partsL; rw [if_pos h3]
    have hop : (n.op == 3) = true ∨ ((n.op == 3) = false ∧ (n.op == 4) = true) := by
      rcases h3 with h | h
      · exact .inl (by simpa using h)
      · exact .inr ⟨by simp; omega, by simpa using h⟩
    unfold PartsOut
    rw [e]
    clear h3 e
    rcases hop with z3 | ⟨z3, z4⟩
    all_goals (
      go_enter Tryd.func43, Tryd.ntmps43
      go_wp2
      go_ret
      refine ⟨_, rfl, ?_, ((Below.refl w.heap.size w).alloc (Nat.le_refl _) _).alloc (by simp) _⟩
      have := World.ownsRow_lit (base := w.heap.size) (e := 3) (size := 1) (w.alloc (.cells #[.int .i64 n.op, .int .i64 n.a, .int .i64 n.b, .int .i64 n.lo, .int .i64 n.hi, .int .i64 n.set] 56)) #[.int .i64 n.a, .int .i64 n.b] 2 (by simp) (by decide) rfl
      simpa using this)
  · by_cases h5 : n.op = 5
    · have e : partsL n = [n.a] := by unfold partsL; rw [if_neg h3, if_pos h5]
      have z3 : (n.op == 3) = false := by simp; omega
      have z4 : (n.op == 4) = false := by simp; omega
      have z5 : (n.op == 5) = true := by simpa using h5
      unfold PartsOut
      rw [e]
      clear h3 h5 e
      go_enter Tryd.func43, Tryd.ntmps43
      go_wp2
      go_ret
      refine ⟨_, rfl, ?_, ((Below.refl w.heap.size w).alloc (Nat.le_refl _) _).alloc (by simp) _⟩
      have := World.ownsRow_lit (base := w.heap.size) (e := 3) (size := 1) (w.alloc (.cells #[.int .i64 n.op, .int .i64 n.a, .int .i64 n.b, .int .i64 n.lo, .int .i64 n.hi, .int .i64 n.set] 56)) #[.int .i64 n.a] 1 (by simp) (by decide) rfl
      simpa using this
    · have e : partsL n = [] := by unfold partsL; rw [if_neg h3, if_neg h5]
      have z3 : (n.op == 3) = false := by simp; omega
      have z4 : (n.op == 4) = false := by simp; omega
      have z5 : (n.op == 5) = false := by simpa using h5
      unfold PartsOut
      rw [e]
      clear h3 h5 e
      go_enter Tryd.func43, Tryd.ntmps43
      go_wp2
      go_ret
      exact ⟨_, rfl, World.ownsRow_nil _ _ _ _, (Below.refl w.heap.size w).alloc (Nat.le_refl _) _⟩

theorem nodeB_1 {n : Nd} {i s : Int} (h : n.op = 1) : nodeB n i s = decide (n.a = 0 ∧ n.b = 0 ∧ n.lo = 0 ∧ n.hi = 0 ∧ n.set = 0) := by unfold nodeB; rw [if_pos h]
theorem nodeB_2 {n : Nd} {i s : Int} (h : n.op = 2) : nodeB n i s = decide (n.a = 0 ∧ n.b = 0 ∧ n.lo = 0 ∧ n.hi = 0 ∧ 0 ≤ n.set ∧ n.set < s) := by unfold nodeB; rw [if_neg (by omega), if_pos h]
theorem nodeB_3 {n : Nd} {i s : Int} (h : n.op = 3 ∨ n.op = 4) : nodeB n i s = decide (0 ≤ n.a ∧ n.a < i ∧ 0 ≤ n.b ∧ n.b < i ∧ n.lo = 0 ∧ n.hi = 0 ∧ n.set = 0) := by unfold nodeB; rw [if_neg (by omega), if_neg (by omega), if_pos h]
theorem nodeB_5 {n : Nd} {i s : Int} (h : n.op = 5) : nodeB n i s = (decide (0 ≤ n.a ∧ n.a < i ∧ n.b = 0 ∧ n.set = 0) && timesB n.lo n.hi) := by unfold nodeB; rw [if_neg (by omega), if_neg (by omega), if_neg (by omega), if_pos h]
theorem nodeB_0 {n : Nd} {i s : Int} (h : n.op ≠ 1) (h2 : n.op ≠ 2) (h3 : ¬ (n.op = 3 ∨ n.op = 4)) (h5 : n.op ≠ 5) : nodeB n i s = false := by unfold nodeB; rw [if_neg h, if_neg h2, if_neg h3, if_neg h5]

/-- how a node's kind is told by tests -/
theorem op_ways (n : Nd) : (n.op == 1) = true ∨ ((n.op == 1) = false ∧ (n.op == 2) = true) ∨ ((n.op == 1) = false ∧ (n.op == 2) = false ∧ (n.op == 3) = true) ∨ ((n.op == 1) = false ∧ (n.op == 2) = false ∧ (n.op == 3) = false ∧ (n.op == 4) = true) ∨ ((n.op == 1) = false ∧ (n.op == 2) = false ∧ (n.op == 3) = false ∧ (n.op == 4) = false ∧ (n.op == 5) = true) ∨ ((n.op == 1) = false ∧ (n.op == 2) = false ∧ (n.op == 3) = false ∧ (n.op == 4) = false ∧ (n.op == 5) = false) := by
  simp only [beq_iff_eq, beq_eq_false_iff_ne, ne_eq]; omega

end Go.Proofs.YtdmceapbobkklaaDoor.Ar

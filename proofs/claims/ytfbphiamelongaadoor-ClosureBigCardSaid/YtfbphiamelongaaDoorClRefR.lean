/- The document's looks: whether a state, and an automaton, may be; whether one is too great. -/
import Derived.Test.YtfbphiamelongaaDoorClRight
import Derived.BigQuiet
import Derived.Deep.RegionHeld3
namespace Go.Proofs.YtfbphiamelongaaDoor.Cl
open Go Go.RowKit

theorem hasB_low {n : Nat} {x : Int} (h : x < 0) : hasB n x = false := Bool.eq_false_iff.2 fun k => by have := hasB_iff.1 k; omega
theorem hasB_high {n : Nat} {x : Int} (h : (n : Int) ≤ x) : hasB n x = false := Bool.eq_false_iff.2 fun k => by have := hasB_iff.1 k; omega
theorem stB_tag {n : Nat} {s : St} (h : s.tag < -1) : stB n s = false := by simp [stB, h]
theorem stB_goes {n : Nat} {s : St} (h : ¬ s.tag < -1) (k : ∀ j, j < s.eps.length → hasB n (s.eps.getD j 0) = true) : stB n s = goesB n s := by
  cases hg : goesB n s with
  | true => exact st_yes h hg k
  | false => simp [stB, hg]

set_option maxRecDepth 100000 in
set_option maxHeartbeats 4000000 in
theorem rstate_any (n : Nat) (s : St) (eo : Option Addr) (ec : Nat) (w : World) (h : IntsAt w (.slice eo s.eps.length ec) s.eps) :
    Calls Tryd.prog 37 #[stV s eo ec, .int .i64 (n : Nat)] w fun e w' => e = .returned (.bool (stB n s)) ∧ Below w.heap.size w w' := by
  obtain ⟨eo2, ec2, e2, he2, hc⟩ := h.shape
  simp only [Value.slice.injEq] at e2
  obtain ⟨rfl, _, rfl⟩ := e2
  have HC := Lib.hid hc
  have NO := Lib.hid (fun j (hj : j < s.eps.length) (h : hasB n (s.eps.getD j 0) = false) => st_no (n := n) hj h)
  have NT := Lib.hid (fun (h : s.tag < -1) => stB_tag (n := n) h)
  have YG : Hid (¬ s.tag < -1 → (∀ j, j < s.eps.length → hasB n (s.eps.getD j 0) = true) → stB n s = goesB n s) := Lib.hid (fun h k => stB_goes h k)
  have G : Hid (goesB n s = if s.lo = -1 then decide (s.hi = -1) && decide (s.to = -1) else decide (0 ≤ s.lo) && decide (s.lo ≤ s.hi) && decide (s.hi ≤ 255) && (decide (0 ≤ s.to) && decide (s.to < n))) := Lib.hid rfl
  have B1 := Lib.hid ((Below.refl w.heap.size w).alloc (Nat.le_refl _) (.cells #[.int .i64 s.lo, .int .i64 s.hi, .int .i64 s.to, .slice eo s.eps.length ec, .int .i64 s.tag] 56))
  have bx := at_new w (.cells #[.int .i64 s.lo, .int .i64 s.hi, .int .i64 s.to, .slice eo s.eps.length ec, .int .i64 s.tag] 56)
  have X := Lib.hid bx
  clear hc h bx
  generalize stB n s = R at *
  generalize goesB n s = GB at *
  unfold stV
  go_enter Tryd.func37, Tryd.ntmps37
  go_upto_region 1 with fail
  generalize w.alloc (.cells #[.int .i64 s.lo, .int .i64 s.hi, .int .i64 s.to, .slice eo s.eps.length ec, .int .i64 s.tag] 56) = W1 at *
  have c0 := at_cell X.out 0
  have c1 := at_cell X.out 1
  have c2 := at_cell X.out 2
  have c3 := at_cell X.out 3
  have c4 := at_cell X.out 4
  have hl := cell_lt c0
  go_wp2
  go_loop [5] (fun i => ∃ k : Nat, k ≤ s.eps.length ∧ i = .int .i64 k ∧ ∀ j, j < k → hasB n (s.eps.getD j 0) = true) (fun i => s.eps.length - (intOf i).toNat)
  case atStart => exact ⟨0, by omega, rfl, fun j hj => by omega⟩
  case round =>
    obtain ⟨k, hk, rfl, hz⟩ := hrel
    have HZ := Lib.hid hz
    clear hz
    by_cases hlt : k < s.eps.length
    · obtain ⟨ad, rfl, hcell0⟩ := HC.out k hlt
      have hcell := cell_next hcell0 B1.out
      have N1 := Lib.hid (NO.out k hlt)
      have Z1 : Hid (hasB n (s.eps.getD k 0) = true → ∀ j, j < k + 1 → hasB n (s.eps.getD j 0) = true) := Lib.hid (fun h j hj => by
        rcases Nat.lt_or_ge j k with h' | h'
        · exact HZ.out j h'
        · obtain rfl : j = k := by omega
          exact h)
      clear hcell0
      generalize s.eps.getD k 0 = x at *
      by_cases h0 : x < 0
      · have HR := Lib.hid (N1.out (hasB_low h0))
        go_wp2
        go_ret
        exact ⟨retB HR.out.symm, B1.out⟩
      · by_cases h1 : (n : Int) ≤ x
        · have HR := Lib.hid (N1.out (hasB_high h1))
          go_wp2
          go_ret
          exact ⟨retB HR.out.symm, B1.out⟩
        · have HR := Lib.hid (Z1.out (hasB_iff.2 ⟨by omega, by omega⟩))
          go_wp2
          go_round
          case rel => exact ⟨k + 1, by omega, by go_num, HR.out⟩
          case measure => simp [intOf]; omega
    · obtain rfl : k = s.eps.length := by omega
      by_cases ht : s.tag < -1
      · have HR := Lib.hid (NT.out ht)
        go_wp2
        go_ret
        exact ⟨retB HR.out.symm, B1.out⟩
      · have HR := Lib.hid (YG.out (by omega) HZ.out)
        have GG : Hid (∀ b, (if s.lo = -1 then decide (s.hi = -1) && decide (s.to = -1) else decide (0 ≤ s.lo) && decide (s.lo ≤ s.hi) && decide (s.hi ≤ 255) && (decide (0 ≤ s.to) && decide (s.to < n))) = b → Ending.returned (.bool b) = .returned (.bool R)) := Lib.hid (fun b hb => by rw [HR.out, G.out, hb])
        clear HZ NO NT YG G HC
        generalize s.lo = x0 at *
        generalize s.hi = x1 at *
        generalize s.to = x2 at *
        generalize s.tag = x4 at *
        generalize s.eps.length = en at *
        by_cases h : x0 = -1
        · subst h
          by_cases h1 : x1 = -1
          · subst h1
            go_wp2
            go_ret
            exact ⟨GG.out _ (by rw [Bool.eq_iff_iff]; simp), B1.out⟩
          · go_wp2
            go_ret
            exact ⟨GG.out _ (by simp [h1]), B1.out⟩
        · by_cases h1 : 0 ≤ x0
          · by_cases h2 : x0 ≤ x1
            · by_cases h3 : x1 < 256
              · by_cases h4 : 0 ≤ x2
                · go_wp2
                  go_ret
                  exact ⟨GG.out _ (by rw [Bool.eq_iff_iff]; simp [h, h1, h2, h4]; omega), B1.out⟩
                · go_wp2
                  go_ret
                  exact ⟨GG.out _ (by rw [Bool.eq_iff_iff]; simp [h]; omega), B1.out⟩
              · go_wp2
                go_ret
                exact ⟨GG.out _ (by rw [Bool.eq_iff_iff]; simp [h]; omega), B1.out⟩
            · go_wp2
              go_ret
              exact ⟨GG.out _ (by rw [Bool.eq_iff_iff]; simp [h]; omega), B1.out⟩
          · go_wp2
            go_ret
            exact ⟨GG.out _ (by rw [Bool.eq_iff_iff]; simp [h]; omega), B1.out⟩

end Go.Proofs.YtfbphiamelongaaDoor.Cl

/- The document's Has. -/
import Derived.Test.YtemmaoapicaloaaDoorBtMem
import Derived.Deep.RegionHeld3
namespace Go.Proofs.YtemmaoapicaloaaDoor.Bt
open Go Go.RowKit

theorem mem_drop_step {l : List Int} {k : Nat} {n : Int} (h : k < l.length) : decide (n ∈ l.drop k) = (decide (l.getD k 0 = n) || decide (n ∈ l.drop (k + 1))) := by
  have e : l.getD k 0 = l[k] := by simp [List.getD, h]
  rw [List.drop_eq_getElem_cons h, e, Bool.eq_iff_iff]
  generalize l[k] = c
  simp only [List.mem_cons, decide_eq_true_eq, Bool.or_eq_true]
  exact ⟨fun h => h.imp Eq.symm id, fun h => h.imp Eq.symm id⟩

set_option maxHeartbeats 1000000 in
theorem rhas_any (v : Value) (l : List Int) (n : Int) (w : World) (h : IntsAt w v l) : Calls Tryd.prog 33 #[v, .int .i64 n] w fun e w' => e = .returned (.bool (decide (n ∈ l))) ∧ w' = w := by
  obtain ⟨ao, cap, rfl, hm, hc⟩ := h.shape
  have HC := Lib.hid hc
  clear hc h
  have hR : decide (n ∈ l.drop 0) = decide (n ∈ l) := by rw [List.drop_zero]
  generalize decide (n ∈ l) = R at *
  go_enter Tryd.func33, Tryd.ntmps33
  go_wp2
  go_loop [5] (fun i => ∃ k : Nat, k ≤ l.length ∧ i = .int .i64 k ∧ decide (n ∈ l.drop k) = R) (fun i => l.length - (intOf i).toNat)
  case atStart => exact ⟨0, by omega, rfl, hR⟩
  case round =>
    obtain ⟨k, hk, rfl, hh⟩ := hrel
    by_cases hlt : k < l.length
    · obtain ⟨g, rfl, c1⟩ := HC.out k hlt
      rw [mem_drop_step hlt] at hh
      generalize l.getD k 0 = c at *
      by_cases hcn : c = n
      · subst hcn
        have e : R = true := by rw [← hh]; simp
        subst e
        clear hh
        go_wp2
        go_ret
        exact ⟨rfl, rfl⟩
      · have e : decide (n ∈ l.drop (k + 1)) = R := by rw [← hh]; simp [hcn]
        have HH := Lib.hid e
        clear hh e
        go_wp2
        go_round
        case rel => exact ⟨k + 1, by omega, by go_num, HH.out⟩
        case measure => simp [intOf]; omega
    · obtain rfl : k = l.length := by omega
      rw [List.drop_length] at hh
      have e : R = false := by rw [← hh]; simp
      subst e
      clear hh
      go_wp2
      go_ret
      exact ⟨rfl, rfl⟩

end Go.Proofs.YtemmaoapicaloaaDoor.Bt

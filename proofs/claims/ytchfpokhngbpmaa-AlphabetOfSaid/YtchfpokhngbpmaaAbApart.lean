/- Does one of some ranges tell two bytes apart: the document's answer. -/
import Derived.Test.YtchfpokhngbpmaaAbPlain
import Derived.Test.YtchfpokhngbpmaaRgMem
import Derived.Test.YtchfpokhngbpmaaUtSm
namespace Go.Proofs.Ytchfpokhngbpmaa.Ab
open Go.RowKit
open Go.Proofs.Ytchfpokhngbpmaa.Rg (RngsAt nth)

theorem apB_drop {l : List R} {k : Nat} {r : R} (i j : Nat) (h : k < l.length) (hr : nth l k = r) : apB (l.drop k) i j = ((inR r i != inR r j) || apB (l.drop (k + 1)) i j) := by
  have e : l[k] = r := by rw [← hr, Rg.nth_eq h]
  rw [List.drop_eq_getElem_cons h, e]; rfl
/-- the three ways of a test on a range -/
theorem in_ways (r : R) (i : Nat) : (inR r i = true ∧ r.1 ≤ (i : Int) ∧ (i : Int) ≤ r.2) ∨ (inR r i = false ∧ (i : Int) < r.1) ∨ (inR r i = false ∧ r.1 ≤ (i : Int) ∧ r.2 < (i : Int)) := by
  by_cases h1 : r.1 ≤ (i : Int)
  · by_cases h2 : (i : Int) ≤ r.2
    · exact .inl ⟨by simp [inR, h1, h2], h1, h2⟩
    · exact .inr (.inr ⟨by simp [inR, h2], h1, by omega⟩)
  · exact .inr (.inl ⟨by simp [inR, h1], by omega⟩)

set_option maxRecDepth 100000 in
set_option maxHeartbeats 4000000 in
theorem apart_any (v : Value) (l : List R) (i j : Nat) (w : World) (h : RngsAt w v l) :
    Calls Try.prog 11 #[v, .int .i64 i, .int .i64 j] w fun e w' => e = .returned (.bool (apB l i j)) ∧ w' = w := by
  obtain ⟨ao, cap, rfl, hm, hc⟩ := h.shape
  have HC := Lib.hid hc
  clear hc h
  have hR : apB (l.drop 0) i j = apB l i j := rfl
  generalize apB l i j = A at *
  generalize hI : (i : Int) = a
  generalize hJ : (j : Int) = b
  have HI := Lib.hid hI
  have HJ := Lib.hid hJ
  clear hI hJ
  go_enter Try.func11, Try.ntmps11
  go_wp2
  go_loop [7] (fun x => ∃ k : Nat, k ≤ l.length ∧ apB (l.drop k) i j = A ∧ x = .int .i64 k) (fun x => l.length - (intOf x).toNat)
  case atStart => exact ⟨0, by omega, hR, rfl⟩
  case round =>
    obtain ⟨k, hk, hx, rfl⟩ := hrel
    by_cases hlt : k < l.length
    · obtain ⟨ad, rfl, hcell, hcell2⟩ := HC.out k hlt
      obtain ⟨r, hr⟩ : ∃ r, nth l k = r := ⟨_, rfl⟩
      rw [apB_drop i j hlt hr] at hx
      have wi := in_ways r i
      have wj := in_ways r j
      rw [HI.out] at wi
      rw [HJ.out] at wj
      rw [hr] at hcell hcell2
      obtain ⟨lo, hi⟩ := r
      simp only at wi wj hcell hcell2
      clear hr
      generalize inR (lo, hi) i = x at *
      generalize inR (lo, hi) j = y at *
      rcases wi with ⟨rfl, h1, h2⟩ | ⟨rfl, h1⟩ | ⟨rfl, h1, h2⟩
      all_goals (rcases wj with ⟨rfl, h3, h4⟩ | ⟨rfl, h3⟩ | ⟨rfl, h3, h4⟩)
      all_goals simp only [bne_self_eq_false, Bool.false_or, Bool.bne_true, Bool.true_bne, Bool.not_false, Bool.true_or] at hx
      all_goals (have HX := Lib.hid hx; clear hx hR)
      all_goals (first | (have d1 : decide (a ≤ hi) = true := decide_eq_true (by omega)) | (have d1 : decide (a ≤ hi) = false := decide_eq_false (by omega)) | skip)
      all_goals (first | (have d2 : decide (b ≤ hi) = true := decide_eq_true (by omega)) | (have d2 : decide (b ≤ hi) = false := decide_eq_false (by omega)) | skip)
      all_goals go_wp2
      all_goals first
        | (go_ret; exact ⟨Ut.ret_bool HX.out, rfl⟩)
        | (go_round
           case rel => exact ⟨k + 1, by omega, HX.out, by go_num⟩
           case measure => simp [intOf]; omega)
    · rw [List.drop_eq_nil_of_le (by omega)] at hx
      have HX := Lib.hid hx
      clear hx hR
      go_wp2
      go_ret
      exact ⟨Ut.ret_bool HX.out, rfl⟩

end Go.Proofs.Ytchfpokhngbpmaa.Ab

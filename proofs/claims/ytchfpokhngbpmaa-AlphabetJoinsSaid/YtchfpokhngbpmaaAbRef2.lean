/- The document's Join. -/
import Derived.Test.YtchfpokhngbpmaaAbRef
namespace Go.Proofs.Ytchfpokhngbpmaa.Ab
open Go.RowKit

set_option maxRecDepth 100000 in
set_option maxHeartbeats 4000000 in
theorem rjoin_any (va vb : Value) (a b : List Int) (w : World) (ha : IntsAt w va a) (hb : IntsAt w vb b) : Calls Try.prog 18 #[va, vb] w (Told (cnt (eJ a b) 256) (clsL (eJ a b) 256) w) := by
  obtain ⟨i0, hi, hz0, hz1, hz2⟩ := info_parts infoI
  have hna := Lib.hid (fun W (h : Below w.heap.size w W) i => number_any va a i W (ha.next h))
  have hnb := Lib.hid (fun W (h : Below w.heap.size w W) i => number_any vb b i W (hb.next h))
  have HF := Lib.hid (eJ_flip a b)
  clear ha hb
  obtain ⟨e, he⟩ : ∃ e, e = eJ a b := ⟨_, rfl⟩
  have E : Eqv e := he ▸ eqJ a b
  rw [← he] at HF ⊢
  clear he
  go_enter Try.func18, Try.ntmps18
  go_wp2
  go_loopw [6, 7, 8] (fun x n i wr => ∃ k : Nat, k ≤ 256 ∧ i = .int .i64 k ∧ n = .int .i64 (cnt e k) ∧ Row wr w.heap.size x (clsL e k) ∧ Below w.heap.size w wr) (fun _ _ i _ => 256 - (intOf i).toNat)
  case atStart => exact ⟨0, by omega, rfl, rfl, World.ownsRow_nil _ _ _ _, Below.refl _ _⟩
  case round =>
    obtain ⟨k, hk, rfl, rfl, hrow, hbw⟩ := hrel
    by_cases hlt : k < 256
    · have hcn := cnt_le (e := e) k
      have hl1 : k ≤ (clsL e k).length := by rw [clsL_len]; exact Nat.le_refl _
      have hl2 : (clsL e k).length ≤ k := by rw [clsL_len]; exact Nat.le_refl _
      have hca : ∀ d, d < k → (clsL e k).getD d 0 = (cls e d : Int) := fun d hd => clsL_at hd
      have HS1 := Lib.hid (clsL_succ (e := e) k)
      obtain ⟨ro, rcap, rfl, hm3, hc3⟩ := (ints_of_row hrow).shape
      generalize clsL e k = L at *
      have HC3 := Lib.hid hc3
      have HCA := Lib.hid hca
      have HROW := Lib.hid hrow
      have hsz := hbw.size
      have HBW := Lib.hid hbw
      clear hc3 hrow hca
      have h256 : (k : Int) < 256 := by omega
      go_wp2
      go_loop [9, 10] (fun x d => ∃ j : Nat, j ≤ k ∧ x = .int .i64 (soFar e k j) ∧ d = .int .i64 j) (fun _ d => k - (intOf d).toNat)
      case atStart => exact ⟨0, by omega, by rw [soFar_zero], rfl⟩
      case round =>
        obtain ⟨j, hj, rfl, rfl⟩ := hrel
        by_cases hjk : j < k
        · obtain ⟨ad, rfl, hcell⟩ := HC3.out j (by omega)
          rw [HCA.out j hjk] at hcell
          have hf := HF.out k j
          by_cases h1 : num a k = num a j
          · by_cases h2 : num b k = num b j
            · rw [decide_eq_true h1, decide_eq_true h2] at hf
              have HS := Lib.hid (soFar_hit E hf)
              clear hf
              have hb1 : (num a k == num a j) = true := by simpa using h1
              have hb2 : (num b k == num b j) = true := by simpa using h2
              clear h1 h2
              go_wp2_with (go_at_call 21; (first | (with_reducible refine (hna.out _ HBW.out k).mono ?_) | (with_reducible refine (hna.out _ HBW.out j).mono ?_) | (with_reducible refine (hnb.out _ HBW.out k).mono ?_) | (with_reducible refine (hnb.out _ HBW.out j).mono ?_)); rintro e w' ⟨rfl, rfl⟩)
              go_round
              case rel => exact ⟨j + 1, by omega, by rw [HS.out], by go_num⟩
              case measure => simp [intOf]; omega
            · rw [decide_eq_true h1, decide_eq_false h2] at hf
              have HS := Lib.hid (soFar_miss (e := e) hf)
              clear hf
              have hb1 : (num a k == num a j) = true := by simpa using h1
              have hb2 : (num b k == num b j) = false := by simpa using h2
              clear h1 h2
              go_wp2_with (go_at_call 21; (first | (with_reducible refine (hna.out _ HBW.out k).mono ?_) | (with_reducible refine (hna.out _ HBW.out j).mono ?_) | (with_reducible refine (hnb.out _ HBW.out k).mono ?_) | (with_reducible refine (hnb.out _ HBW.out j).mono ?_)); rintro e w' ⟨rfl, rfl⟩)
              go_round
              case rel => exact ⟨j + 1, by omega, by rw [HS.out], by go_num⟩
              case measure => simp [intOf]; omega
          · rw [decide_eq_false h1] at hf
            have HS := Lib.hid (soFar_miss (e := e) hf)
            clear hf
            have hb1 : (num a k == num a j) = false := by simpa using h1
            clear h1
            go_wp2_with (go_at_call 21; (first | (with_reducible refine (hna.out _ HBW.out k).mono ?_) | (with_reducible refine (hna.out _ HBW.out j).mono ?_) | (with_reducible refine (hnb.out _ HBW.out k).mono ?_) | (with_reducible refine (hnb.out _ HBW.out j).mono ?_)); rintro e w' ⟨rfl, rfl⟩)
            go_round
            case rel => exact ⟨j + 1, by omega, by rw [HS.out], by go_num⟩
            case measure => simp [intOf]; omega
        · obtain rfl : j = k := by omega
          rw [soFar_all E]
          have HN := Lib.hid (cnt_next E j)
          have hcc := cls_lt E j
          have hcm := cnt_le (e := e) (j + 1)
          generalize hq : cls e j = q at *
          by_cases hqn : (q : Int) = cnt e j
          · have hz := HN.out
            rw [if_pos hqn] at hz
            have HZ := Lib.hid hz
            clear hz HN
            have hqb : ((q : Int) == (cnt e j : Int)) = true := by simpa using hqn
            clear hqn
            go_wp2_with (at_builtin; refine wpList_append_own _ rfl _ _ 24 rfl w.heap.size 3 i0 (.int .i64 0) 1 8 Try.underlying24 hi hz0 hz1 hz2 rfl (by decide) _ _ _ rfl (HROW.out.alloc _) ⟨wr.heap.size, 0, none⟩ 1 1 [.int .i64 (q : Int)] rfl rfl (cell_one_new _ _ _) (by simp [Value.oneCell']) (by unfold maxLen; omega) (by omega) (by simp; omega) ?_; intro v' w2 hown' hgrow _)
            have hr := Row.app HROW.out HBW.out hown' hgrow
            rw [← HS1.out] at hr
            clear hown' hgrow
            have HR := Lib.hid hr
            clear hr
            go_wp2
            go_roundw
            case rel => exact ⟨j + 1, by omega, by go_num, cnt_int HZ.out.symm (by simp) rfl, HR.out.1, HR.out.2⟩
            case measure => simp [intOf]; omega
          · have hz := HN.out
            rw [if_neg hqn] at hz
            have HZ := Lib.hid hz
            clear hz HN
            have hqb : ((q : Int) == (cnt e j : Int)) = false := by simpa using hqn
            clear hqn
            go_wp2_with (at_builtin; refine wpList_append_own _ rfl _ _ 24 rfl w.heap.size 3 i0 (.int .i64 0) 1 8 Try.underlying24 hi hz0 hz1 hz2 rfl (by decide) _ _ _ rfl (HROW.out.alloc _) ⟨wr.heap.size, 0, none⟩ 1 1 [.int .i64 (q : Int)] rfl rfl (cell_one_new _ _ _) (by simp [Value.oneCell']) (by unfold maxLen; omega) (by omega) (by simp; omega) ?_; intro v' w2 hown' hgrow _)
            have hr := Row.app HROW.out HBW.out hown' hgrow
            rw [← HS1.out] at hr
            clear hown' hgrow
            have HR := Lib.hid hr
            clear hr
            go_wp2
            go_roundw
            case rel => exact ⟨j + 1, by omega, by go_num, cnt_int HZ.out.symm (by simp) rfl, HR.out.1, HR.out.2⟩
            case measure => simp [intOf]; omega
    · obtain rfl : k = 256 := by omega
      have HROW := Lib.hid hrow
      have HBW := Lib.hid hbw
      clear hrow hbw
      go_wp2
      go_ret2
      exact ⟨_, rfl, ints_of_row HROW.out, HBW.out⟩

end Go.Proofs.Ytchfpokhngbpmaa.Ab

/- The document's Of. -/
import Derived.Test.YtchfpokhngbpmaaAbApart
import Derived.Test.YtchfpokhngbpmaaAbRow
namespace Go.Proofs.Ytchfpokhngbpmaa.Ab
open Go.RowKit
open Go.Proofs.Ytchfpokhngbpmaa.Rg (RngsAt nth)

theorem eR_flip (l : List R) (i j : Nat) : eR l j i = !apB l i j := by rw [(eqR l).symm]; rfl
theorem eJ_flip (a b : List Int) (i j : Nat) : eJ a b j i = (decide (num a i = num a j) && decide (num b i = num b j)) := by
  rw [(eqJ a b).symm]; simp [eJ]
/-- two values told at once: classes, and how many they are -/
def Told (n : Nat) (L : List Int) (w : World) (E : Ending) (w' : World) : Prop := ∃ v', E = .returned (.tuple #[v', .int .i64 n]) ∧ IntsAt w' v' L ∧ Below w.heap.size w w'
theorem cnt_int {a b : Nat} {c d : Int} (h : a = b) (hc : c = a) (hd : d = b) : Value.int .i64 c = .int .i64 d := by rw [hc, hd, h]

set_option maxRecDepth 100000 in
set_option maxHeartbeats 4000000 in
theorem rof_any (v : Value) (l : List R) (w : World) (h : RngsAt w v l) : Calls Try.prog 8 #[v] w (Told (cnt (eR l) 256) (clsL (eR l) 256) w) := by
  obtain ⟨i0, hi, hz0, hz1, hz2⟩ := info_parts infoI
  have hap := Lib.hid (fun W (hb : Below w.heap.size w W) i j => apart_any v l i j W (h.next hb))
  have HF := Lib.hid (eR_flip l)
  clear h
  obtain ⟨e, he⟩ : ∃ e, e = eR l := ⟨_, rfl⟩
  have E : Eqv e := he ▸ eqR l
  rw [← he] at HF ⊢
  clear he
  go_enter Try.func8, Try.ntmps8
  go_wp2
  go_loopw [4, 5, 6] (fun x n i wr => ∃ k : Nat, k ≤ 256 ∧ i = .int .i64 k ∧ n = .int .i64 (cnt e k) ∧ Row wr w.heap.size x (clsL e k) ∧ Below w.heap.size w wr) (fun _ _ i _ => 256 - (intOf i).toNat)
  case atStart => exact ⟨0, by omega, rfl, rfl, World.ownsRow_nil _ _ _ _, Below.refl _ _⟩
  case round =>
    obtain ⟨k, hk, rfl, rfl, hrow, hbw⟩ := hrel
    by_cases hlt : k < 256
    · have hcn := cnt_le (e := e) k
      have hl1 : k ≤ (clsL e k).length := by rw [clsL_len]; exact Nat.le_refl _
      have hl2 : (clsL e k).length ≤ k := by rw [clsL_len]; exact Nat.le_refl _
      have hca : ∀ d, d < k → (clsL e k).getD d 0 = (cls e d : Int) := fun d hd => clsL_at hd
      have HS1 := Lib.hid (clsL_succ (e := e) k)
      obtain ⟨ro, rcap, rfl, hm3, hc3⟩ := (ints_of_row hrow).shape
      generalize clsL e k = L at *
      have HC3 := Lib.hid hc3
      have HCA := Lib.hid hca
      have HROW := Lib.hid hrow
      have hsz := hbw.size
      have HBW := Lib.hid hbw
      clear hc3 hrow hca
      have h256 : (k : Int) < 256 := by omega
      go_wp2
      go_loop [7, 8] (fun x d => ∃ j : Nat, j ≤ k ∧ x = .int .i64 (soFar e k j) ∧ d = .int .i64 j) (fun _ d => k - (intOf d).toNat)
      case atStart => exact ⟨0, by omega, by rw [soFar_zero], rfl⟩
      case round =>
        obtain ⟨j, hj, rfl, rfl⟩ := hrel
        by_cases hjk : j < k
        · obtain ⟨ad, rfl, hcell⟩ := HC3.out j (by omega)
          rw [HCA.out j hjk] at hcell
          have hf := HF.out k j
          cases hb : apB l k j
          · rw [hb] at hf
            have HS := Lib.hid (soFar_hit E hf)
            clear hf
            go_wp2_with (go_at_call 11; refine (hap.out _ HBW.out k j).mono ?_; rintro e w' ⟨rfl, rfl⟩)
            go_round
            case rel => exact ⟨j + 1, by omega, by rw [HS.out], by go_num⟩
            case measure => simp [intOf]; omega
          · rw [hb] at hf
            have HS := Lib.hid (soFar_miss (e := e) hf)
            clear hf
            go_wp2_with (go_at_call 11; refine (hap.out _ HBW.out k j).mono ?_; rintro e w' ⟨rfl, rfl⟩)
            go_round
            case rel => exact ⟨j + 1, by omega, by rw [HS.out], by go_num⟩
            case measure => simp [intOf]; omega
        · obtain rfl : j = k := by omega
          rw [soFar_all E]
          have HN := Lib.hid (cnt_next E j)
          have hcc := cls_lt E j
          have hcm := cnt_le (e := e) (j + 1)
          generalize hq : cls e j = q at *
          by_cases hqn : (q : Int) = cnt e j
          · have hz := HN.out
            rw [if_pos hqn] at hz
            have HZ := Lib.hid hz
            clear hz HN
            have hqb : ((q : Int) == (cnt e j : Int)) = true := by simpa using hqn
            clear hqn
            go_wp2_with (at_builtin; refine wpList_append_own _ rfl _ _ 24 rfl w.heap.size 3 i0 (.int .i64 0) 1 8 Try.underlying24 hi hz0 hz1 hz2 rfl (by decide) _ _ _ rfl (HROW.out.alloc _) ⟨wr.heap.size, 0, none⟩ 1 1 [.int .i64 (q : Int)] rfl rfl (cell_one_new _ _ _) (by simp [Value.oneCell']) (by unfold maxLen; omega) (by omega) (by simp; omega) ?_; intro v' w2 hown' hgrow _)
            have hr := Row.app HROW.out HBW.out hown' hgrow
            rw [← HS1.out] at hr
            clear hown' hgrow
            have HR := Lib.hid hr
            clear hr
            go_wp2
            go_roundw
            case rel => exact ⟨j + 1, by omega, by go_num, cnt_int HZ.out.symm (by simp) rfl, HR.out.1, HR.out.2⟩
            case measure => simp [intOf]; omega
          · have hz := HN.out
            rw [if_neg hqn] at hz
            have HZ := Lib.hid hz
            clear hz HN
            have hqb : ((q : Int) == (cnt e j : Int)) = false := by simpa using hqn
            clear hqn
            go_wp2_with (at_builtin; refine wpList_append_own _ rfl _ _ 24 rfl w.heap.size 3 i0 (.int .i64 0) 1 8 Try.underlying24 hi hz0 hz1 hz2 rfl (by decide) _ _ _ rfl (HROW.out.alloc _) ⟨wr.heap.size, 0, none⟩ 1 1 [.int .i64 (q : Int)] rfl rfl (cell_one_new _ _ _) (by simp [Value.oneCell']) (by unfold maxLen; omega) (by omega) (by simp; omega) ?_; intro v' w2 hown' hgrow _)
            have hr := Row.app HROW.out HBW.out hown' hgrow
            rw [← HS1.out] at hr
            clear hown' hgrow
            have HR := Lib.hid hr
            clear hr
            go_wp2
            go_roundw
            case rel => exact ⟨j + 1, by omega, by go_num, cnt_int HZ.out.symm (by simp) rfl, HR.out.1, HR.out.2⟩
            case measure => simp [intOf]; omega
    · obtain rfl : k = 256 := by omega
      have HROW := Lib.hid hrow
      have HBW := Lib.hid hbw
      clear hrow hbw
      go_wp2
      go_ret2
      exact ⟨_, rfl, ints_of_row HROW.out, HBW.out⟩

end Go.Proofs.Ytchfpokhngbpmaa.Ab

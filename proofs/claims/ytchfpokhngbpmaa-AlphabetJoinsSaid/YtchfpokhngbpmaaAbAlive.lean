/- The document's example. -/
import Derived.Test.YtchfpokhngbpmaaAbOf
namespace Go.Proofs.Ytchfpokhngbpmaa.Ab
open Go.RowKit
open Go.Proofs.Ytchfpokhngbpmaa.Rg (RngsAt nth)

def exR : List R := [(97, 99)]
theorem ex_cnt : cnt (eR exR) 256 = 2 := by decide +kernel
theorem ex_96 : cls (eR exR) 96 = 0 := by decide +kernel
theorem ex_97 : cls (eR exR) 97 = 1 := by decide +kernel
theorem ex_100 : cls (eR exR) 100 = 0 := by decide +kernel
theorem ex_frs : frs (eR exR) 256 = [0, 97] := by decide +kernel
theorem frs_congr {e e' : Nat → Nat → Bool} {n : Nat} (h : ∀ a b, a < n → b < n → e a b = e' a b) : frs e n = frs e' n := by
  unfold frs
  refine congrArg _ (List.filter_congr fun i hi => ?_)
  exact fresh_congr h (List.mem_range.1 hi)
theorem first_clsL {e : Nat → Nat → Bool} (E : Eqv e) : firstL (clsL e 256) = frs e 256 := by
  unfold firstL
  rw [if_pos (right_clsL E)]
  refine frs_congr fun a b ha hb => ?_
  rw [Bool.eq_iff_iff, eJ_iff, keyJ, keyJ, num_clsL e ha, num_clsL e hb, ← cls_iff E]
  simp [num]
  omega
theorem one_rng (w : World) (a b : Int) : RngsAt (w.alloc (.cells #[.int .i64 a, .int .i64 b] 39)) (.slice (some ⟨w.heap.size, 0, none⟩) 1 1) [(a, b)] := by
  refine .inr ⟨_, 1, rfl, by unfold maxLen; simp, fun i hi => ?_⟩
  have : i = 0 := by simp at hi; omega
  subst this
  rw [Rg.add_zero]
  exact ⟨by rw [World.cell?_alloc_new]; rfl, by rw [World.cell?_alloc_new]; rfl⟩
theorem add_lit (a : Addr) (n : Nat) (h : n ≠ 0) : a.add n = ⟨a.block, a.off + n, none⟩ := by unfold Addr.add; rw [if_neg h]
theorem wf_clsL (e : Nat → Nat → Bool) : WfL (clsL e 256) := fun i => by
  refine WalkArith.wf_i64 ?_
  by_cases hi : i < 256
  · rw [num_clsL e hi]
    have h1 : root e i ≤ 256 := by
      unfold root
      cases h : (List.range i).find? fun d => e d i with
      | none => simp; omega
      | some r => have := List.mem_range.1 (List.mem_of_find?_eq_some h); simp; omega
    have h2 := cnt_le (e := e) (root e i)
    unfold cls
    omega
  · rw [num_out (by rw [clsL_len]; omega)]; omega

set_option maxRecDepth 100000 in
set_option maxHeartbeats 4000000 in
theorem alive_any (w : World) : Calls Try.prog 6 #[] w fun e w' => e = .returned (.bool true) ∧ Below w.heap.size w w' := by
  have h1 := (Below.refl w.heap.size w).alloc (Nat.le_refl _) (.cells #[.int .i64 97, .int .i64 99] 39)
  have c1 := of_any _ exR _ (one_rng w 97 99)
  have E := eqR exR
  have hR := right_clsL E
  have hF := first_clsL E
  rw [ex_frs] at hF
  have hW := wf_clsL (eR exR)
  have q1 : (clsL (eR exR) 256).getD 96 0 = 0 := by rw [clsL_at (by omega), ex_96]; rfl
  have q2 : (clsL (eR exR) 256).getD 97 0 = 1 := by rw [clsL_at (by omega), ex_97]; rfl
  have q3 : (clsL (eR exR) 256).getD 100 0 = 0 := by rw [clsL_at (by omega), ex_100]; rfl
  have hl1 : 256 ≤ (clsL (eR exR) 256).length := by rw [clsL_len]; exact Nat.le_refl _
  have hl2 : (clsL (eR exR) 256).length ≤ 256 := by rw [clsL_len]; exact Nat.le_refl _
  rw [ex_cnt] at c1
  clear E
  generalize clsL (eR exR) 256 = L at *
  have C1 := Lib.hid c1
  have H1 := Lib.hid h1
  have c2 := Lib.hid (fun W v (h : IntsAt W v L) => right_any v L W h hW)
  have c3 := Lib.hid (fun W v (h : IntsAt W v L) => first_any v L W h hW)
  have c4 := Lib.hid (fun W v (h : IntsAt W v [0, 97]) => Ut.same_any v _ [0, 97] [0, 97] (W.alloc (.cells #[.int .i64 0, .int .i64 97] 3)) (h.next ((Below.refl _ _).alloc (Nat.le_refl _) _)) (slice_two W 0 97))
  rw [hR] at c2
  rw [hF] at c3
  have Q := Lib.hid (And.intro q1 (And.intro q2 q3))
  have hlb : ((L.length : Int) == 256) = true := by simp; omega
  clear c1 h1 hR hF hW q1 q2 q3
  go_enter Try.func6, Try.ntmps6
  go_wp2_with (first
    | (go_at_call 7; (with_reducible refine C1.out.mono ?_); rintro e w1 ⟨v1, rfl, hv1, hb1⟩; have V1 := Lib.hid hv1; obtain ⟨ao, cap, rfl, hm, hc⟩ := hv1.shape; obtain ⟨a0, rfl, k0⟩ := hc 96 (by omega); rw [Q.out.1, add_lit a0 96 (by omega)] at k0; obtain ⟨a1, ha1, k1⟩ := hc 97 (by omega); rw [Q.out.2.1] at k1; obtain ⟨a2, ha2, k2⟩ := hc 100 (by omega); rw [Q.out.2.2] at k2; cases ha1; cases ha2; rw [add_lit a0 97 (by omega)] at k1; rw [add_lit a0 100 (by omega)] at k2; clear hc hv1)
    | (go_at_call 10; (with_reducible refine (c2.out _ _ V1.out).mono ?_); rintro e w2 ⟨rfl, hb2⟩; have V2 := Lib.hid (V1.out.next hb2))
    | (go_at_call 13; (with_reducible refine (c3.out _ _ V2.out).mono ?_); rintro e w3 ⟨v3, rfl, hv3, hb3⟩; have V3 := Lib.hid hv3; clear hv3)
    | (go_at_call 9; (with_reducible refine (c4.out _ _ V3.out).mono ?_); rintro e w4 ⟨rfl, hb4⟩)
    | fail)
  go_ret
  have g1 := H1.out.trans (hb1.mono H1.out.size)
  have g2 := g1.trans (hb2.mono g1.size)
  have g3 := g2.trans (hb3.mono g2.size)
  have g4 := g3.alloc g3.size (.cells #[.int .i64 0, .int .i64 97] 3)
  exact ⟨rfl, g4.trans (hb4.mono g4.size)⟩

end Go.Proofs.Ytchfpokhngbpmaa.Ab

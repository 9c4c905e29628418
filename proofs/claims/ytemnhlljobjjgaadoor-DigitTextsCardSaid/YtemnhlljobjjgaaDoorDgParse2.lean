/- The walk of the document's Parse. -/
import Derived.Test.YtemnhlljobjjgaaDoorDgParse
import Derived.Test.YtemnhlljobjjgaaDoorDgDec
namespace Go.Proofs.YtemnhlljobjjgaaDoor.Dg
open Go.RowKit

set_option maxRecDepth 100000 in
set_option maxHeartbeats 400000 in
theorem rparse_any (s : ByteArray) (w : World) (hs : s.size ≤ maxLen) :
    Calls Tryd.prog 8 #[.string s] w fun e w' => e = .returned (vOpt (parseR s.data.toList)) ∧ w = w' := by
  have hl := Lib.hid (fun w => rlead_any s w hs)
  have hb := goLead_le s.data.toList 0 0 (by omega)
  have hr := Lib.hid (parseR_eq s.data.toList)
  have hq := Lib.hid (fun a n b => parse_iff (l := s.data.toList) (n := n) a b)
  unfold maxLen at hs
  generalize goLead s.data.toList 0 0 = r at hl hb hr hq
  obtain ⟨n, k⟩ := r
  simp only at hb
  have hsz : s.data.toList.length = s.size := by simp
  rw [hsz] at hb hr hq
  clear hsz
  obtain ⟨N, hN⟩ : ∃ N : Int, (n : Int) = N := ⟨_, rfl⟩
  have hN0 : 0 ≤ N := by omega
  have hN1 : N ≤ 1000000000 := by omega
  have HN := Lib.hid hN
  have hk : k ≤ s.size := by omega
  have hl' : ∀ w, Calls Tryd.prog 12 #[.string s] w fun e w' => e = .returned (.tuple #[.int .i64 N, .int .i64 (k : Nat)]) ∧ w = w' := fun w => by rw [← hN]; exact hl.out w
  have HL := Lib.hid hl'
  clear hl hl' hN hb
  by_cases hbad : s.size = 0 ∨ k < s.size ∨ 999999999 < N
  · have hx := Lib.hid (hr.out.trans (if_pos (by have := HN.out; omega)))
    clear hr
    by_cases h0 : s.size = 0
    · go_enter Tryd.func8, Tryd.ntmps8
      go_wp2_with (go_at_call 12; refine (HL.out _).mono ?_; rintro e w' ⟨rfl, rfl⟩)
      go_ret2
      exact ⟨endOptn hx.out, rfl⟩
    · have h0' : ((s.size : Int) == 0) = false := beq_eq_false_iff_ne.2 (by omega)
      by_cases hk2 : k < s.size
      · have h4 : ((k : Int) != (s.size : Int)) = true := by rw [bne_iff_ne]; omega
        go_enter Tryd.func8, Tryd.ntmps8
        go_wp2_with (go_at_call 12; refine (HL.out _).mono ?_; rintro e w' ⟨rfl, rfl⟩)
        go_ret2
        exact ⟨endOptn hx.out, rfl⟩
      · have h4 : ((k : Int) != (s.size : Int)) = false := by rw [bne_eq_false_iff_eq]; omega
        have h5 : 999999999 < N := by omega
        go_enter Tryd.func8, Tryd.ntmps8
        go_wp2_with (go_at_call 12; refine (HL.out _).mono ?_; rintro e w' ⟨rfl, rfl⟩)
        go_ret2
        exact ⟨endOptn hx.out, rfl⟩
  · have h1 : 0 < s.size := by omega
    have hx := hr.out.trans (if_neg (by have := HN.out; omega))
    have h3 : ((s.size : Int) == 0) = false := beq_eq_false_iff_ne.2 (by omega)
    have h4 : ((k : Int) != (s.size : Int)) = false := by rw [bne_eq_false_iff_eq]; omega
    have h5 : N ≤ 999999999 := by omega
    have hq' := hq.out h1 n (by rw [show k = s.size by omega]) (by have := HN.out; omega)
    rw [show n = N.toNat by have := HN.out; omega] at hq'
    have HX := Lib.hid hx
    have HQ := Lib.hid hq'
    clear hr hx hbad hq hq'
    by_cases hd : (Lib.decDigits N.toNat == s.toList) = true
    · have e := HQ.out.1 (by rw [← ByteArray.toList_eq]; exact beq_iff_eq.1 hd)
      have hx := Lib.hid (HX.out.trans (if_neg e))
      clear e
      go_enter Tryd.func8, Tryd.ntmps8
      go_wp2_with (first
        | (go_at_call 12; refine (HL.out _).mono ?_; rintro e w' ⟨rfl, rfl⟩)
        | (go_at_call 17; refine (rtext _ _ hN0 (by omega)).mono ?_; rintro e w' ⟨rfl, rfl⟩))
      go_ret2
      exact ⟨endOpt hx.out HN.out.symm, rfl⟩
    · have e : s.data.toList.getD 0 0 = 48 ∧ 1 < s.size := by
        apply Classical.byContradiction
        intro h
        exact hd (beq_iff_eq.2 ((HQ.out.2 h).trans (ByteArray.toList_eq s).symm))
      have hx := Lib.hid (HX.out.trans (if_pos e))
      have hd' : (Lib.decDigits N.toNat == s.toList) = false := by simpa using hd
      clear e hd
      go_enter Tryd.func8, Tryd.ntmps8
      go_wp2_with (first
        | (go_at_call 12; refine (HL.out _).mono ?_; rintro e w' ⟨rfl, rfl⟩)
        | (go_at_call 17; refine (rtext _ _ hN0 (by omega)).mono ?_; rintro e w' ⟨rfl, rfl⟩))
      go_ret2
      exact ⟨endOptn hx.out, rfl⟩

end Go.Proofs.YtemnhlljobjjgaaDoor.Dg

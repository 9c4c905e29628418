/- How often: the program's. -/
import Derived.Test.YtdmceapbobkklaaDoorRpLet
import Derived.Test.YtdmceapbobkklaaDoorDgSt0
namespace Go.Proofs.YtdmceapbobkklaaDoor.Rp
open Go Go.RowKit

theorem dtext_any (n : Int) (w : World) (h0 : 0 ≤ n) (h1 : n ≤ 255) (hs : Dg.St w) :
    Calls Tryd.prog 58 #[.int .i64 n] w fun e w' => e = .returned (.string ⟨(decL n).toArray⟩) ∧ Below w.heap.size w w' := by
  have := Dg.text_any n w (by omega) (by omega) hs
  rw [Dg.itoa_pos h0] at this
  exact this

set_option maxRecDepth 100000 in
set_option maxHeartbeats 400000 in
theorem braced_any (lo hi : Int) (w : World) (h0 : 0 ≤ lo) (h1 : lo ≤ 255) (h3 : hi ≤ 255) (h4 : hi = -1 ∨ lo ≤ hi) (hs : Dg.St w) :
    Calls Tryd.prog 50 #[.int .i64 lo, .int .i64 hi] w fun e w' => e = .returned (.string ⟨(if hi = -1 then [123] ++ decL lo ++ [44, 125] else if hi = lo then [123] ++ decL lo ++ [125] else [123] ++ decL lo ++ [44] ++ decL hi ++ [125] : Tx).toArray⟩) ∧ Below w.heap.size w w' := by
  have l1 := dec_le h1
  have l2 := dec_le h3
  have CL := Lib.hid (fun W (hb : Below w.heap.size w W) => dtext_any lo W h0 h1 (hs.next hb))
  have CH := Lib.hid (fun h W (hb : Below w.heap.size w W) => dtext_any hi W h h3 (hs.next hb))
  have B0 := Lib.hid (Below.refl w.heap.size w)
  clear hs
  generalize decL lo = L at *
  by_cases c1 : hi = -1
  · subst c1
    rw [if_pos rfl]
    clear CH l2
    have n1 : ¬ lo < -1 := by omega
    go_enter Tryd.func50, Tryd.ntmps50
    go_wp2_with (go_at_call 58; (with_reducible refine (CL.out _ B0.out).mono ?_); rintro e w1 ⟨rfl, hb1⟩)
    go_ret
    exact ⟨ret_t (by simp [ByteArray.ext_iff]), hb1⟩
  · have CH' := Lib.hid (fun W hb => CH.out (by omega) W hb)
    clear CH
    rw [if_neg c1]
    have g0 : lo ≤ hi := by omega
    have b1 : (hi == -1) = false := by simpa using c1
    by_cases c3 : hi = lo
    · subst c3
      rw [if_pos rfl]
      clear CH' c1
      go_enter Tryd.func50, Tryd.ntmps50
      go_wp2_with (go_at_call 58; (with_reducible refine (CL.out _ B0.out).mono ?_); rintro e w1 ⟨rfl, hb1⟩)
      go_ret
      exact ⟨ret_t (by simp [ByteArray.ext_iff]), hb1⟩
    · rw [if_neg c3]
      have g1 : lo < hi := by omega
      clear c1 c3
      generalize decL hi = H at *
      go_enter Tryd.func50, Tryd.ntmps50
      go_wp2_with (first
        | (go_at_call 58; (with_reducible refine (CH'.out _ B0.out).mono ?_); rintro e w1 ⟨rfl, hb1⟩; go_must (have B1 := Lib.hid hb1; clear hb1))
        | (go_at_call 58; (with_reducible refine (CL.out _ B1.out).mono ?_); rintro e w2 ⟨rfl, hb2⟩)
        | fail)
      go_ret
      exact ⟨ret_t (by simp [ByteArray.ext_iff]), B1.out.trans (hb2.mono B1.out.size)⟩

set_option maxRecDepth 100000 in
set_option maxHeartbeats 400000 in
theorem often_any (lo hi : Int) (w : World) (h0 : 0 ≤ lo) (h1 : lo ≤ 255) (h3 : hi ≤ 255) (h4 : hi = -1 ∨ lo ≤ hi) (hs : Dg.St w) :
    Calls Tryd.prog 34 #[.int .i64 lo, .int .i64 hi] w fun e w' => e = .returned (.string ⟨(oftenL lo hi).toArray⟩) ∧ Below w.heap.size w w' := by
  have CB := Lib.hid (braced_any lo hi w h0 h1 h3 h4 hs)
  have HO := Lib.hid (show oftenL lo hi = if hi = -1 ∧ lo = 0 then [42] else if hi = -1 ∧ lo = 1 then [43] else if lo = 0 ∧ hi = 1 then [63]
    else if hi = -1 then [123] ++ decL lo ++ [44, 125] else if hi = lo then [123] ++ decL lo ++ [125] else [123] ++ decL lo ++ [44] ++ decL hi ++ [125] from rfl)
  have B0 := Lib.hid (Below.refl w.heap.size w)
  generalize oftenL lo hi = O at *
  generalize (if hi = -1 then [123] ++ decL lo ++ [44, 125] else if hi = lo then [123] ++ decL lo ++ [125] else [123] ++ decL lo ++ [44] ++ decL hi ++ [125] : Tx) = X at *
  clear hs
  by_cases a1 : hi = -1 ∧ lo = 0
  · have HE := Lib.hid (show O = [42] by rw [HO.out, if_pos a1])
    obtain ⟨rfl, rfl⟩ := a1
    clear HO CB
    go_enter Tryd.func34, Tryd.ntmps34
    go_wp2
    go_ret
    exact ⟨ret_t (by rw [HE.out]), B0.out⟩
  · by_cases a2 : hi = -1 ∧ lo = 1
    · have HE := Lib.hid (show O = [43] by rw [HO.out, if_neg a1, if_pos a2])
      obtain ⟨rfl, rfl⟩ := a2
      clear HO CB a1
      go_enter Tryd.func34, Tryd.ntmps34
      go_wp2
      go_ret
      exact ⟨ret_t (by rw [HE.out]), B0.out⟩
    · by_cases a3 : lo = 0 ∧ hi = 1
      · have HE := Lib.hid (show O = [63] by rw [HO.out, if_neg a1, if_neg a2, if_pos a3])
        obtain ⟨rfl, rfl⟩ := a3
        clear HO CB a1 a2
        go_enter Tryd.func34, Tryd.ntmps34
        go_wp2
        go_ret
        exact ⟨ret_t (by rw [HE.out]), B0.out⟩
      · have HE := Lib.hid (show O = X by rw [HO.out, if_neg a1, if_neg a2, if_neg a3])
        clear HO
        have b1 : (hi == -1) = false ∨ ((hi == -1) = true ∧ (lo == 0) = false ∧ (lo == 1) = false) := by
          by_cases h : hi = -1
          · exact .inr ⟨by simpa using h, by simpa using fun h' => a1 ⟨h, h'⟩, by simpa using fun h' => a2 ⟨h, h'⟩⟩
          · exact .inl (by simpa using h)
        have b2 : (lo == 0) = false ∨ ((lo == 0) = true ∧ (hi == 1) = false) := by
          by_cases h : lo = 0
          · exact .inr ⟨by simpa using h, by simpa using fun h' => a3 ⟨h, h'⟩⟩
          · exact .inl (by simpa using h)
        have b3 : ∃ z, z = (lo == 1) := ⟨_, rfl⟩
        obtain ⟨z, hz⟩ := b3
        have HZ := Lib.hid hz.symm
        clear a1 a2 a3 hz
        rcases b1 with b1 | ⟨b1, b4, b5⟩
        all_goals rcases b2 with b2 | ⟨b2, b6⟩
        all_goals cases z
        all_goals first
          | (exfalso; simp_all; done)
          | (have bz := HZ.out
             go_enter Tryd.func34, Tryd.ntmps34
             go_wp2_with (go_at_call 50; (with_reducible refine CB.out.mono ?_); rintro e w1 ⟨rfl, hb1⟩)
             go_ret
             exact ⟨ret_t (by rw [HE.out]), hb1⟩)

end Go.Proofs.YtdmceapbobkklaaDoor.Rp

/- Lead, Name, Trim, the program's and the document's; the document's Next. -/
import Derived.Test.YtleejfkononjgaaDoorWdOne
namespace Go.Proofs.YtleejfkononjgaaDoor.Wd
open Go.RowKit Go.Shelf

set_option maxHeartbeats 400000 in
theorem lead_any (s : ByteArray) (hs : s.size ≤ maxLen) (w : World) : Calls Tryd.prog 29 #[.string s] w fun e w' => e = .returned (.int .i64 (leadL s.data.toList : Nat)) ∧ w = w' := by
  have c1 := Lib.hid (fun w => span_digit s hs w)
  have c2 := Lib.hid (fun w => span_named s hs w)
  have h1 := spanL_le dig s.data.toList
  rw [len_size] at h1
  by_cases h : 0 < spanL dig s.data.toList
  · have hl : leadL s.data.toList = 0 := by unfold leadL; rw [if_pos h]
    have HL := Lib.hid hl
    clear hl
    generalize spanL dig s.data.toList = n at *
    unfold maxLen at hs
    go_enter Tryd.func29, Tryd.ntmps29
    go_wp2_with (go_at_call 36; refine (c1.out _).mono ?_; rintro e w' ⟨rfl, rfl⟩)
    go_ret
    exact ⟨retI (by rw [HL.out]; rfl), rfl⟩
  · have hl : leadL s.data.toList = spanL nmd s.data.toList := by unfold leadL; rw [if_neg h]
    have HL := Lib.hid hl
    clear hl
    have d0 : spanL dig s.data.toList = 0 := by omega
    rw [d0] at c1
    clear h d0 h1
    unfold maxLen at hs
    go_enter Tryd.func29, Tryd.ntmps29
    go_wp2_with (go_at_call 36; first | ((with_reducible refine (c1.out _).mono ?_); rintro e w' ⟨rfl, rfl⟩) | ((with_reducible refine (c2.out _).mono ?_); rintro e w' ⟨rfl, rfl⟩))
    go_ret
    exact ⟨retI (by rw [HL.out]), rfl⟩

set_option maxHeartbeats 800000 in
theorem rlead_any (s : ByteArray) (hs : s.size ≤ maxLen) (w : World) : Calls Tryd.prog 25 #[.string s] w fun e w' => e = .returned (.int .i64 (leadL s.data.toList : Nat)) ∧ w = w' := by
  unfold maxLen at hs
  go_enter Tryd.func25, Tryd.ntmps25
  go_wp2
  go_loop [3] (fun i => ∃ k : Nat, k ≤ s.size ∧ i = .int .i64 k ∧ (0 < k → leadL s.data.toList = k + spanL nmd (s.data.toList.drop k))) (fun i => s.size - (intOf i).toNat)
  case atStart => exact ⟨0, Nat.zero_le _, rfl, fun h => absurd h (by omega)⟩
  case round =>
    obtain ⟨k, hk, rfl, hp⟩ := hrel
    by_cases hlt : k < s.size
    · have c1 := Lib.hid (fun w => kind_any s[k] w)
      have e1 := kind_pos s[k]
      have e2 := kind_one s[k]
      rw [span_at hlt] at hp
      by_cases h0 : 0 < k
      · have hp' := hp h0
        clear hp e2
        have hi : (0 : Int) < (k : Int) := by omega
        cases hn : nmd s[k]
        · rw [spanL_no hn] at hp'
          rw [hn] at e1
          have HP := Lib.hid hp'
          clear hp' hn
          generalize kindL s[k] = x at *
          go_wp2_with (go_at_call 33; refine (c1.out _).mono ?_; rintro e w' ⟨rfl, rfl⟩)
          go_ret
          exact ⟨retI (by rw [HP.out]; rfl), rfl⟩
        · rw [spanL_yes hn] at hp'
          rw [hn] at e1
          have HP := Lib.hid hp'
          clear hp' hn
          generalize kindL s[k] = x at *
          go_wp2_with (go_at_call 33; refine (c1.out _).mono ?_; rintro e w' ⟨rfl, rfl⟩)
          go_round
          case rel => exact ⟨k + 1, by omega, by go_num, fun _ => by rw [HP.out]; omega⟩
          case measure => simp [intOf]; omega
      · obtain rfl : k = 0 := by omega
        clear hp
        have hd : s.data.toList = s[0] :: s.data.toList.drop 1 := span_at (k := 0) hlt
        cases hl : ltr s[0]
        · have hp := leadL_else (r := s.data.toList.drop 1) hl
          rw [← hd] at hp
          rw [hl] at e2
          have HP := Lib.hid hp
          clear hp hl hd
          cases hn : nmd s[0]
          all_goals
            rw [hn] at e1
            clear hn
            generalize kindL s[0] = x at *
            go_wp2_with (go_at_call 33; refine (c1.out _).mono ?_; rintro e w' ⟨rfl, rfl⟩)
            go_ret
            exact ⟨retI (by rw [HP.out]; rfl), rfl⟩
        · have hp := leadL_ltr (r := s.data.toList.drop 1) hl
          rw [← hd] at hp
          have hn : nmd s[0] = true := by unfold nmd; rw [hl]; rfl
          rw [hl] at e2
          rw [hn] at e1
          have HP := Lib.hid hp
          clear hp hl hd hn
          generalize kindL s[0] = x at *
          go_wp2_with (go_at_call 33; refine (c1.out _).mono ?_; rintro e w' ⟨rfl, rfl⟩)
          go_round
          case rel => exact ⟨1, by omega, by go_num, fun _ => by rw [HP.out]; omega⟩
          case measure => simp [intOf]; omega
    · obtain rfl : k = s.size := by omega
      rw [span_end (Nat.le_refl _), spanL_nil] at hp
      have hp' : leadL s.data.toList = s.size := by
        by_cases h0 : 0 < s.size
        · rw [hp h0]; rfl
        · have := leadL_le s.data.toList
          rw [len_size] at this; omega
      have HP := Lib.hid hp'
      clear hp hp'
      go_wp2
      go_ret
      exact ⟨retI (by rw [HP.out]), rfl⟩

theorem name_parts (s : ByteArray) : nameL s.data.toList = (decide (0 < s.size) && (decide (s.size ≤ 32) && decide (leadL s.data.toList = s.size))) := by unfold nameL; rw [len_size]

set_option maxHeartbeats 800000 in
theorem name_both (s : ByteArray) (hs : s.size ≤ maxLen) (w : World) : (Calls Tryd.prog 19 #[.string s] w fun e w' => e = .returned (.bool (nameL s.data.toList)) ∧ w = w') ∧ (Calls Tryd.prog 16 #[.string s] w fun e w' => e = .returned (.bool (nameL s.data.toList)) ∧ w = w') := by
  have c1 := Lib.hid (fun w => lead_any s hs w)
  have c2 := Lib.hid (fun w => rlead_any s hs w)
  have HN := Lib.hid (name_parts s)
  have hle := leadL_le s.data.toList
  rw [len_size] at hle
  generalize leadL s.data.toList = n at *
  unfold maxLen at hs
  by_cases h0 : 0 < s.size
  · by_cases h1 : s.size ≤ 32
    · have d1 : decide ((s.size : Int) ≤ 32) = true := by simp; omega
      by_cases h2 : n = s.size
      · subst h2
        have HB : Hid (nameL s.data.toList = true) := Lib.hid (by rw [HN.out, decide_eq_true h0, decide_eq_true h1, decide_eq_true rfl]; rfl)
        clear HN hle
        constructor
        · go_enter Tryd.func19, Tryd.ntmps19
          go_wp2_with (go_at_call 29; refine (c1.out _).mono ?_; rintro e w' ⟨rfl, rfl⟩)
          go_ret
          exact ⟨retB HB.out.symm, rfl⟩
        · go_enter Tryd.func16, Tryd.ntmps16
          go_wp2_with (go_at_call 25; refine (c2.out _).mono ?_; rintro e w' ⟨rfl, rfl⟩)
          go_ret
          exact ⟨retB HB.out.symm, rfl⟩
      · have HB : Hid (nameL s.data.toList = false) := Lib.hid (by rw [HN.out, decide_eq_false h2]; simp)
        have d2 : ((n : Int) == (s.size : Int)) = false := by simp; omega
        clear HN hle h2
        constructor
        · go_enter Tryd.func19, Tryd.ntmps19
          go_wp2_with (go_at_call 29; refine (c1.out _).mono ?_; rintro e w' ⟨rfl, rfl⟩)
          go_ret
          exact ⟨retB HB.out.symm, rfl⟩
        · go_enter Tryd.func16, Tryd.ntmps16
          go_wp2_with (go_at_call 25; refine (c2.out _).mono ?_; rintro e w' ⟨rfl, rfl⟩)
          go_ret
          exact ⟨retB HB.out.symm, rfl⟩
    · have d1 : decide ((s.size : Int) ≤ 32) = false := by simp; omega
      have HB : Hid (nameL s.data.toList = false) := Lib.hid (by rw [HN.out, decide_eq_false h1]; simp)
      clear HN hle
      constructor
      · go_enter Tryd.func19, Tryd.ntmps19
        go_wp2
        go_ret
        exact ⟨retB HB.out.symm, rfl⟩
      · go_enter Tryd.func16, Tryd.ntmps16
        go_wp2
        go_ret
        exact ⟨retB HB.out.symm, rfl⟩
  · have d1 : decide (0 < s.size) = false := decide_eq_false h0
    have HB : Hid (nameL s.data.toList = false) := Lib.hid (by rw [HN.out, decide_eq_false h0]; simp)
    clear HN hle
    constructor
    · go_enter Tryd.func19, Tryd.ntmps19
      go_wp2
      go_ret
      exact ⟨retB HB.out.symm, rfl⟩
    · go_enter Tryd.func16, Tryd.ntmps16
      go_wp2
      go_ret
      exact ⟨retB HB.out.symm, rfl⟩

end Go.Proofs.YtleejfkononjgaaDoor.Wd

/- Trim, the program's and the document's; the document's Next. -/
import Derived.Test.YtmdkpbmhldlicaaWdRef
namespace Go.Proofs.Ytmdkpbmhldlicaa.Wd
open Go.RowKit Go.Shelf

theorem ret2 {a b c d : Int} (h : a = c) (k : b = d) : Ending.returned (.tuple #[.int .i64 a, .int .i64 b]) = .returned (.tuple #[.int .i64 c, .int .i64 d]) := by rw [h, k]
def vTrim (l : List UInt8) : Value := .tuple #[.int .i64 (spanL blk l : Nat), .int .i64 (trimTo l (spanL blk l) l.length : Nat)]
def vNext (l : List UInt8) (k : Nat) : Value := .tuple #[.int .i64 ((nextL l k).1 : Nat), .int .i64 ((nextL l k).2 : Nat)]
theorem retTrim {s : ByteArray} {b k : Nat} (hb : spanL blk s.data.toList = b) (hk : trimTo s.data.toList b s.size = k) : Ending.returned (.tuple #[.int .i64 (b : Nat), .int .i64 (k : Nat)]) = .returned (vTrim s.data.toList) := by
  unfold vTrim; rw [hb, len_size, hk]
theorem trim_step {s : ByteArray} {f k : Nat} (h : k < s.size) : trimTo s.data.toList f (k + 1) = if f < k + 1 ∧ blk s[k] = true then trimTo s.data.toList f k else k + 1 := by
  rw [trimTo, show s.data.toList.getD k 0 = s[k] by rw [List.getD_eq_getElem?_getD, List.getElem?_eq_getElem (by rw [len_size]; exact h)]; rfl]

set_option maxHeartbeats 800000 in
theorem trim_any (s : ByteArray) (hs : s.size ≤ maxLen) (w : World) : Calls Try.prog 17 #[.string s] w fun e w' => e = .returned (vTrim s.data.toList) ∧ w = w' := by
  have c1 := Lib.hid (fun w => span_blank s hs w)
  have hle := spanL_le blk s.data.toList
  rw [len_size] at hle
  obtain ⟨b, hb⟩ : ∃ b, spanL blk s.data.toList = b := ⟨_, rfl⟩
  rw [hb] at c1 hle
  have HB := Lib.hid hb
  clear hb
  unfold maxLen at hs
  go_enter Try.func17, Try.ntmps17
  go_wp2_with (go_at_call 19; refine (c1.out _).mono ?_; rintro e w' ⟨rfl, rfl⟩)
  go_loop [5] (fun i => ∃ k : Nat, k ≤ s.size ∧ b ≤ k ∧ i = .int .i64 k ∧ trimTo s.data.toList b s.size = trimTo s.data.toList b k) (fun i => (intOf i).toNat)
  case atStart => exact ⟨s.size, Nat.le_refl _, hle, rfl, rfl⟩
  case round =>
    obtain ⟨k, hk, hbk, rfl, ht⟩ := hrel
    by_cases hlt : b < k
    · obtain ⟨j, rfl⟩ : ∃ j, k = j + 1 := ⟨k - 1, by omega⟩
      have hjs : j < s.size := by omega
      rw [trim_step hjs] at ht
      have c2 := Lib.hid (fun w => blank_any s[j] w)
      have q1 : ((j + 1 : Nat) : Int) - 1 = j := by omega
      cases hc : blk s[j]
      · rw [hc, if_neg (by simp)] at ht
        rw [hc] at c2
        have HT := Lib.hid ht
        clear ht hc
        go_wp2_with (go_at_call 7; refine (c2.out _).mono ?_; rintro e w' ⟨rfl, rfl⟩)
        go_ret2
        exact ⟨retTrim HB.out HT.out, rfl⟩
      · rw [hc, if_pos ⟨hlt, rfl⟩] at ht
        rw [hc] at c2
        have HT := Lib.hid ht
        clear ht hc
        go_wp2_with (go_at_call 7; refine (c2.out _).mono ?_; rintro e w' ⟨rfl, rfl⟩)
        go_round
        case rel => exact ⟨j, by omega, by omega, by go_num, HT.out⟩
        case measure => simp [intOf]
    · obtain rfl : k = b := by omega
      have ht2 : trimTo s.data.toList k k = k := by
        cases k with
        | zero => rfl
        | succ k => rw [trimTo, if_neg (by omega)]
      rw [ht2] at ht
      have HT := Lib.hid ht
      clear ht ht2
      go_wp2
      go_ret2
      exact ⟨retTrim HB.out HT.out, rfl⟩

set_option maxHeartbeats 1600000 in
theorem rtrim_any (s : ByteArray) (hs : s.size ≤ maxLen) (w : World) : Calls Try.prog 18 #[.string s] w fun e w' => e = .returned (vTrim s.data.toList) ∧ w = w' := by
  have hle := spanL_le blk s.data.toList
  rw [len_size] at hle
  unfold maxLen at hs
  go_enter Try.func18, Try.ntmps18
  go_wp2
  go_loop [4] (fun i => ∃ k : Nat, k ≤ s.size ∧ i = .int .i64 k ∧ spanL blk s.data.toList = k + spanL blk (s.data.toList.drop k)) (fun i => s.size - (intOf i).toNat)
  case atStart => exact ⟨0, Nat.zero_le _, rfl, by simp⟩
  case round =>
    obtain ⟨k, hk, rfl, hp⟩ := hrel
    have hgo : (∃ h : k < s.size, blk s[k] = true) ∨ (spanL blk s.data.toList = k ∧ ∀ h : k < s.size, blk s[k] = false) := by
      by_cases h : k < s.size
      · cases hc : blk s[k]
        · rw [span_at h, spanL_no hc] at hp
          exact .inr ⟨hp, fun _ => hc⟩
        · exact .inl ⟨h, hc⟩
      · rw [span_end (by omega), spanL_nil] at hp
        exact .inr ⟨hp, fun h' => absurd h' h⟩
    rcases hgo with ⟨hlt, hc⟩ | ⟨hb, hno⟩
    · rw [span_at hlt, spanL_yes hc] at hp
      have c2 := Lib.hid (fun w => rblank_any s[k] w)
      rw [hc] at c2
      have HP := Lib.hid hp
      clear hp hc
      go_wp2_with (go_at_call 8; refine (c2.out _).mono ?_; rintro e w' ⟨rfl, rfl⟩)
      go_round
      case rel => exact ⟨k + 1, by omega, by go_num, by rw [HP.out]; omega⟩
      case measure => simp [intOf]; omega
    · have HB := Lib.hid hb
      clear hb hp
      have HF : ∀ (h : k < s.size), Hid (∀ w, Calls Try.prog 8 #[.int .u8 (s[k].toNat : Int)] w fun e w' => e = .returned (.bool false) ∧ w = w') := fun h => Lib.hid (fun w => by rw [← hno h]; exact rblank_any s[k] w)
      have HF' := Lib.hid HF
      clear HF hno
      by_cases hlt : k < s.size
      · go_wp2_with (go_at_call 8; refine ((HF'.out hlt).out _).mono ?_; rintro e w' ⟨rfl, rfl⟩)
        go_loop [5] (fun i => ∃ m : Nat, m ≤ s.size ∧ k ≤ m ∧ i = .int .i64 m ∧ trimTo s.data.toList k s.size = trimTo s.data.toList k m) (fun i => (intOf i).toNat)
        case atStart => exact ⟨s.size, Nat.le_refl _, hk, rfl, rfl⟩
        case round =>
          obtain ⟨m, hm, hkm, rfl, ht⟩ := hrel
          by_cases hlt2 : k < m
          · obtain ⟨j, rfl⟩ : ∃ j, m = j + 1 := ⟨m - 1, by omega⟩
            have hjs : j < s.size := by omega
            rw [trim_step hjs] at ht
            have c2 := Lib.hid (fun w => rblank_any s[j] w)
            cases hc : blk s[j]
            · rw [hc, if_neg (by simp)] at ht
              rw [hc] at c2
              have HT := Lib.hid ht
              clear ht hc
              go_wp2_with (go_at_call 8; refine (c2.out _).mono ?_; rintro e w' ⟨rfl, rfl⟩)
              go_ret2
              exact ⟨retTrim HB.out HT.out, rfl⟩
            · rw [hc, if_pos ⟨hlt2, rfl⟩] at ht
              rw [hc] at c2
              have HT := Lib.hid ht
              clear ht hc
              go_wp2_with (go_at_call 8; refine (c2.out _).mono ?_; rintro e w' ⟨rfl, rfl⟩)
              go_round
              case rel => exact ⟨j, by omega, by omega, by go_num, HT.out⟩
              case measure => simp [intOf]
          · obtain rfl : m = k := by omega
            have ht2 : trimTo s.data.toList m m = m := by
              cases m with
              | zero => rfl
              | succ m => rw [trimTo, if_neg (by omega)]
            rw [ht2] at ht
            have HT := Lib.hid ht
            clear ht ht2
            go_wp2
            go_ret2
            exact ⟨retTrim HB.out HT.out, rfl⟩
      · go_wp2
        go_loop [5] (fun i => ∃ m : Nat, m ≤ s.size ∧ k ≤ m ∧ i = .int .i64 m ∧ trimTo s.data.toList k s.size = trimTo s.data.toList k m) (fun i => (intOf i).toNat)
        case atStart => exact ⟨s.size, Nat.le_refl _, hk, rfl, rfl⟩
        case round =>
          obtain ⟨m, hm, hkm, rfl, ht⟩ := hrel
          obtain rfl : m = k := by omega
          have ht2 : trimTo s.data.toList m m = m := by
            cases m with
            | zero => rfl
            | succ m => rw [trimTo, if_neg (by omega)]
          rw [ht2] at ht
          have HT := Lib.hid ht
          clear ht ht2
          go_wp2
          go_ret2
          exact ⟨retTrim HB.out HT.out, rfl⟩

end Go.Proofs.Ytmdkpbmhldlicaa.Wd

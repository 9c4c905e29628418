/- The document's Next. -/
import Derived.Test.YtmdkpbmhldlicaaWdTrim
namespace Go.Proofs.Ytmdkpbmhldlicaa.Wd
open Go.RowKit Go.Shelf

theorem retNext {l : List UInt8} {K a b : Nat} (ha : (nextL l K).1 = a) (hb : (nextL l K).2 = b) : Ending.returned (.tuple #[.int .i64 (a : Nat), .int .i64 (b : Nat)]) = .returned (vNext l K) := by unfold vNext; rw [ha, hb]
theorem go_or_stop (p : UInt8 → Bool) {s : ByteArray} {k t : Nat} (hp : t = k + spanL p (s.data.toList.drop k)) : (∃ h : k < s.size, p s[k] = true ∧ t = k + 1 + spanL p (s.data.toList.drop (k + 1))) ∨ (t = k ∧ ∀ h : k < s.size, p s[k] = false) := by
  by_cases h : k < s.size
  · cases hc : p s[k]
    · rw [span_at h, spanL_no hc] at hp
      exact .inr ⟨hp, fun _ => hc⟩
    · rw [span_at h, spanL_yes hc] at hp
      exact .inl ⟨h, hc, by omega⟩
  · rw [span_end (by omega), spanL_nil] at hp
    exact .inr ⟨hp, fun h' => absurd h' h⟩

set_option maxHeartbeats 1600000 in
theorem rnext_low (s : ByteArray) (hs : s.size ≤ maxLen) (at_ : Int) (ha : at_ < 0) (w : World) :
    Calls Try.prog 16 #[.string s, .int .i64 at_] w fun e w' => e = .returned (vNext s.data.toList 0) ∧ w = w' := by
  unfold maxLen at hs
  have d0 : decide (at_ < 0) = true := by simpa using ha
  go_enter Try.func16, Try.ntmps16
  go_wp2
  go_loop [1] (fun i => ∃ k : Nat, k ≤ s.size ∧ i = .int .i64 k ∧ (nextL s.data.toList 0).1 = k + spanL blk (s.data.toList.drop k)) (fun i => s.size - (intOf i).toNat)
  case atStart => exact ⟨0, by omega, by first | rfl | go_num, rfl⟩
  case round =>
    obtain ⟨k, hk, rfl, hp⟩ := hrel
    rcases go_or_stop blk hp with ⟨hlt, hc, hq⟩ | ⟨hb, hno⟩
    · have c2 := Lib.hid (fun w => rblank_any s[k] w)
      rw [hc] at c2
      have HP := Lib.hid hq
      clear hp hc hq
      go_wp2_with (go_at_call 8; refine (c2.out _).mono ?_; rintro e w' ⟨rfl, rfl⟩)
      go_round
      case rel => exact ⟨k + 1, by omega, by go_num, HP.out⟩
      case measure => simp [intOf]; omega
    · have hx : (nextL s.data.toList 0).2 = k + spanL flb (s.data.toList.drop k) := by
        rw [← hb]
        show _ = 0 + spanL blk (s.data.toList.drop 0) + spanL flb (s.data.toList.drop (0 + spanL blk (s.data.toList.drop 0)))
        rw [← List.drop_drop]
        rfl
      have HX := Lib.hid hx
      have HB := Lib.hid hb
      clear hb hp hx
      have HF : ∀ (h : k < s.size), Hid (∀ w, Calls Try.prog 8 #[.int .u8 (s[k].toNat : Int)] w fun e w' => e = .returned (.bool false) ∧ w = w') := fun h => Lib.hid (fun w => by rw [← hno h]; exact rblank_any s[k] w)
      have HF' := Lib.hid HF
      clear HF hno
      by_cases hlt : k < s.size
      · go_wp2_with (go_at_call 8; refine ((HF'.out hlt).out _).mono ?_; rintro e w' ⟨rfl, rfl⟩)
        go_loop [6] (fun i => ∃ m : Nat, m ≤ s.size ∧ k ≤ m ∧ i = .int .i64 m ∧ (nextL s.data.toList 0).2 = m + spanL flb (s.data.toList.drop m)) (fun i => s.size - (intOf i).toNat)
        case atStart => exact ⟨k, hk, Nat.le_refl _, rfl, HX.out⟩
        case round =>
          obtain ⟨m, hm, hkm, rfl, ht⟩ := hrel
          rcases go_or_stop flb ht with ⟨hlt2, hc, hq⟩ | ⟨hb2, hno2⟩
          · have c2 := Lib.hid (fun w => rblank_any s[m] w)
            have hc' : blk s[m] = false := by unfold flb at hc; simpa using hc
            rw [hc'] at c2
            have HP := Lib.hid hq
            clear ht hc hq hc'
            go_wp2_with (go_at_call 8; refine (c2.out _).mono ?_; rintro e w' ⟨rfl, rfl⟩)
            go_round
            case rel => exact ⟨m + 1, by omega, by omega, by go_num, HP.out⟩
            case measure => simp [intOf]; omega
          · have HT := Lib.hid hb2
            clear ht hb2
            by_cases hlt3 : m < s.size
            · have hc' : blk s[m] = true := by have := hno2 hlt3; unfold flb at this; simpa using this
              have c2 := Lib.hid (fun w => rblank_any s[m] w)
              rw [hc'] at c2
              clear hc' hno2
              go_wp2_with (go_at_call 8; refine (c2.out _).mono ?_; rintro e w' ⟨rfl, rfl⟩)
              go_ret2
              exact ⟨retNext HB.out HT.out, rfl⟩
            · clear hno2
              go_wp2
              go_ret2
              exact ⟨retNext HB.out HT.out, rfl⟩
      · go_wp2
        go_loop [6] (fun i => ∃ m : Nat, m ≤ s.size ∧ k ≤ m ∧ i = .int .i64 m ∧ (nextL s.data.toList 0).2 = m + spanL flb (s.data.toList.drop m)) (fun i => s.size - (intOf i).toNat)
        case atStart => exact ⟨k, hk, Nat.le_refl _, rfl, HX.out⟩
        case round =>
          obtain ⟨m, hm, hkm, rfl, ht⟩ := hrel
          rcases go_or_stop flb ht with ⟨hlt2, hc, hq⟩ | ⟨hb2, hno2⟩
          · have c2 := Lib.hid (fun w => rblank_any s[m] w)
            have hc' : blk s[m] = false := by unfold flb at hc; simpa using hc
            rw [hc'] at c2
            have HP := Lib.hid hq
            clear ht hc hq hc'
            go_wp2_with (go_at_call 8; refine (c2.out _).mono ?_; rintro e w' ⟨rfl, rfl⟩)
            go_round
            case rel => exact ⟨m + 1, by omega, by omega, by go_num, HP.out⟩
            case measure => simp [intOf]; omega
          · have HT := Lib.hid hb2
            clear ht hb2
            by_cases hlt3 : m < s.size
            · have hc' : blk s[m] = true := by have := hno2 hlt3; unfold flb at this; simpa using this
              have c2 := Lib.hid (fun w => rblank_any s[m] w)
              rw [hc'] at c2
              clear hc' hno2
              go_wp2_with (go_at_call 8; refine (c2.out _).mono ?_; rintro e w' ⟨rfl, rfl⟩)
              go_ret2
              exact ⟨retNext HB.out HT.out, rfl⟩
            · clear hno2
              go_wp2
              go_ret2
              exact ⟨retNext HB.out HT.out, rfl⟩

set_option maxHeartbeats 1600000 in
theorem rnext_far (s : ByteArray) (hs : s.size ≤ maxLen) (at_ : Int) (ha : (s.size : Int) < at_) (w : World) :
    Calls Try.prog 16 #[.string s, .int .i64 at_] w fun e w' => e = .returned (vNext s.data.toList s.size) ∧ w = w' := by
  unfold maxLen at hs
  have d0 : decide (at_ < 0) = false := by simp; omega
  go_enter Try.func16, Try.ntmps16
  go_wp2
  go_loop [1] (fun i => ∃ k : Nat, k ≤ s.size ∧ i = .int .i64 k ∧ (nextL s.data.toList s.size).1 = k + spanL blk (s.data.toList.drop k)) (fun i => s.size - (intOf i).toNat)
  case atStart => exact ⟨s.size, by omega, by first | rfl | go_num, rfl⟩
  case round =>
    obtain ⟨k, hk, rfl, hp⟩ := hrel
    rcases go_or_stop blk hp with ⟨hlt, hc, hq⟩ | ⟨hb, hno⟩
    · have c2 := Lib.hid (fun w => rblank_any s[k] w)
      rw [hc] at c2
      have HP := Lib.hid hq
      clear hp hc hq
      go_wp2_with (go_at_call 8; refine (c2.out _).mono ?_; rintro e w' ⟨rfl, rfl⟩)
      go_round
      case rel => exact ⟨k + 1, by omega, by go_num, HP.out⟩
      case measure => simp [intOf]; omega
    · have hx : (nextL s.data.toList s.size).2 = k + spanL flb (s.data.toList.drop k) := by
        rw [← hb]
        show _ = s.size + spanL blk (s.data.toList.drop s.size) + spanL flb (s.data.toList.drop (s.size + spanL blk (s.data.toList.drop s.size)))
        rw [← List.drop_drop]
        rfl
      have HX := Lib.hid hx
      have HB := Lib.hid hb
      clear hb hp hx
      have HF : ∀ (h : k < s.size), Hid (∀ w, Calls Try.prog 8 #[.int .u8 (s[k].toNat : Int)] w fun e w' => e = .returned (.bool false) ∧ w = w') := fun h => Lib.hid (fun w => by rw [← hno h]; exact rblank_any s[k] w)
      have HF' := Lib.hid HF
      clear HF hno
      by_cases hlt : k < s.size
      · go_wp2_with (go_at_call 8; refine ((HF'.out hlt).out _).mono ?_; rintro e w' ⟨rfl, rfl⟩)
        go_loop [6] (fun i => ∃ m : Nat, m ≤ s.size ∧ k ≤ m ∧ i = .int .i64 m ∧ (nextL s.data.toList s.size).2 = m + spanL flb (s.data.toList.drop m)) (fun i => s.size - (intOf i).toNat)
        case atStart => exact ⟨k, hk, Nat.le_refl _, rfl, HX.out⟩
        case round =>
          obtain ⟨m, hm, hkm, rfl, ht⟩ := hrel
          rcases go_or_stop flb ht with ⟨hlt2, hc, hq⟩ | ⟨hb2, hno2⟩
          · have c2 := Lib.hid (fun w => rblank_any s[m] w)
            have hc' : blk s[m] = false := by unfold flb at hc; simpa using hc
            rw [hc'] at c2
            have HP := Lib.hid hq
            clear ht hc hq hc'
            go_wp2_with (go_at_call 8; refine (c2.out _).mono ?_; rintro e w' ⟨rfl, rfl⟩)
            go_round
            case rel => exact ⟨m + 1, by omega, by omega, by go_num, HP.out⟩
            case measure => simp [intOf]; omega
          · have HT := Lib.hid hb2
            clear ht hb2
            by_cases hlt3 : m < s.size
            · have hc' : blk s[m] = true := by have := hno2 hlt3; unfold flb at this; simpa using this
              have c2 := Lib.hid (fun w => rblank_any s[m] w)
              rw [hc'] at c2
              clear hc' hno2
              go_wp2_with (go_at_call 8; refine (c2.out _).mono ?_; rintro e w' ⟨rfl, rfl⟩)
              go_ret2
              exact ⟨retNext HB.out HT.out, rfl⟩
            · clear hno2
              go_wp2
              go_ret2
              exact ⟨retNext HB.out HT.out, rfl⟩
      · go_wp2
        go_loop [6] (fun i => ∃ m : Nat, m ≤ s.size ∧ k ≤ m ∧ i = .int .i64 m ∧ (nextL s.data.toList s.size).2 = m + spanL flb (s.data.toList.drop m)) (fun i => s.size - (intOf i).toNat)
        case atStart => exact ⟨k, hk, Nat.le_refl _, rfl, HX.out⟩
        case round =>
          obtain ⟨m, hm, hkm, rfl, ht⟩ := hrel
          rcases go_or_stop flb ht with ⟨hlt2, hc, hq⟩ | ⟨hb2, hno2⟩
          · have c2 := Lib.hid (fun w => rblank_any s[m] w)
            have hc' : blk s[m] = false := by unfold flb at hc; simpa using hc
            rw [hc'] at c2
            have HP := Lib.hid hq
            clear ht hc hq hc'
            go_wp2_with (go_at_call 8; refine (c2.out _).mono ?_; rintro e w' ⟨rfl, rfl⟩)
            go_round
            case rel => exact ⟨m + 1, by omega, by omega, by go_num, HP.out⟩
            case measure => simp [intOf]; omega
          · have HT := Lib.hid hb2
            clear ht hb2
            by_cases hlt3 : m < s.size
            · have hc' : blk s[m] = true := by have := hno2 hlt3; unfold flb at this; simpa using this
              have c2 := Lib.hid (fun w => rblank_any s[m] w)
              rw [hc'] at c2
              clear hc' hno2
              go_wp2_with (go_at_call 8; refine (c2.out _).mono ?_; rintro e w' ⟨rfl, rfl⟩)
              go_ret2
              exact ⟨retNext HB.out HT.out, rfl⟩
            · clear hno2
              go_wp2
              go_ret2
              exact ⟨retNext HB.out HT.out, rfl⟩

set_option maxHeartbeats 1600000 in
theorem rnext_in (s : ByteArray) (hs : s.size ≤ maxLen) (at_ : Int) (K : Nat) (hK : K ≤ s.size) (ha : at_ = (K : Int)) (w : World) :
    Calls Try.prog 16 #[.string s, .int .i64 at_] w fun e w' => e = .returned (vNext s.data.toList K) ∧ w = w' := by
  unfold maxLen at hs
  subst ha
  have d0 : decide ((K : Int) < 0) = false := by simp
  have d1 : decide (s.size < K) = false := by simp; omega
  go_enter Try.func16, Try.ntmps16
  go_wp2
  go_loop [1] (fun i => ∃ k : Nat, k ≤ s.size ∧ i = .int .i64 k ∧ (nextL s.data.toList K).1 = k + spanL blk (s.data.toList.drop k)) (fun i => s.size - (intOf i).toNat)
  case atStart => exact ⟨K, by omega, by first | rfl | go_num, rfl⟩
  case round =>
    obtain ⟨k, hk, rfl, hp⟩ := hrel
    rcases go_or_stop blk hp with ⟨hlt, hc, hq⟩ | ⟨hb, hno⟩
    · have c2 := Lib.hid (fun w => rblank_any s[k] w)
      rw [hc] at c2
      have HP := Lib.hid hq
      clear hp hc hq
      go_wp2_with (go_at_call 8; refine (c2.out _).mono ?_; rintro e w' ⟨rfl, rfl⟩)
      go_round
      case rel => exact ⟨k + 1, by omega, by go_num, HP.out⟩
      case measure => simp [intOf]; omega
    · have hx : (nextL s.data.toList K).2 = k + spanL flb (s.data.toList.drop k) := by
        rw [← hb]
        show _ = K + spanL blk (s.data.toList.drop K) + spanL flb (s.data.toList.drop (K + spanL blk (s.data.toList.drop K)))
        rw [← List.drop_drop]
        rfl
      have HX := Lib.hid hx
      have HB := Lib.hid hb
      clear hb hp hx
      have HF : ∀ (h : k < s.size), Hid (∀ w, Calls Try.prog 8 #[.int .u8 (s[k].toNat : Int)] w fun e w' => e = .returned (.bool false) ∧ w = w') := fun h => Lib.hid (fun w => by rw [← hno h]; exact rblank_any s[k] w)
      have HF' := Lib.hid HF
      clear HF hno
      by_cases hlt : k < s.size
      · go_wp2_with (go_at_call 8; refine ((HF'.out hlt).out _).mono ?_; rintro e w' ⟨rfl, rfl⟩)
        go_loop [6] (fun i => ∃ m : Nat, m ≤ s.size ∧ k ≤ m ∧ i = .int .i64 m ∧ (nextL s.data.toList K).2 = m + spanL flb (s.data.toList.drop m)) (fun i => s.size - (intOf i).toNat)
        case atStart => exact ⟨k, hk, Nat.le_refl _, rfl, HX.out⟩
        case round =>
          obtain ⟨m, hm, hkm, rfl, ht⟩ := hrel
          rcases go_or_stop flb ht with ⟨hlt2, hc, hq⟩ | ⟨hb2, hno2⟩
          · have c2 := Lib.hid (fun w => rblank_any s[m] w)
            have hc' : blk s[m] = false := by unfold flb at hc; simpa using hc
            rw [hc'] at c2
            have HP := Lib.hid hq
            clear ht hc hq hc'
            go_wp2_with (go_at_call 8; refine (c2.out _).mono ?_; rintro e w' ⟨rfl, rfl⟩)
            go_round
            case rel => exact ⟨m + 1, by omega, by omega, by go_num, HP.out⟩
            case measure => simp [intOf]; omega
          · have HT := Lib.hid hb2
            clear ht hb2
            by_cases hlt3 : m < s.size
            · have hc' : blk s[m] = true := by have := hno2 hlt3; unfold flb at this; simpa using this
              have c2 := Lib.hid (fun w => rblank_any s[m] w)
              rw [hc'] at c2
              clear hc' hno2
              go_wp2_with (go_at_call 8; refine (c2.out _).mono ?_; rintro e w' ⟨rfl, rfl⟩)
              go_ret2
              exact ⟨retNext HB.out HT.out, rfl⟩
            · clear hno2
              go_wp2
              go_ret2
              exact ⟨retNext HB.out HT.out, rfl⟩
      · go_wp2
        go_loop [6] (fun i => ∃ m : Nat, m ≤ s.size ∧ k ≤ m ∧ i = .int .i64 m ∧ (nextL s.data.toList K).2 = m + spanL flb (s.data.toList.drop m)) (fun i => s.size - (intOf i).toNat)
        case atStart => exact ⟨k, hk, Nat.le_refl _, rfl, HX.out⟩
        case round =>
          obtain ⟨m, hm, hkm, rfl, ht⟩ := hrel
          rcases go_or_stop flb ht with ⟨hlt2, hc, hq⟩ | ⟨hb2, hno2⟩
          · have c2 := Lib.hid (fun w => rblank_any s[m] w)
            have hc' : blk s[m] = false := by unfold flb at hc; simpa using hc
            rw [hc'] at c2
            have HP := Lib.hid hq
            clear ht hc hq hc'
            go_wp2_with (go_at_call 8; refine (c2.out _).mono ?_; rintro e w' ⟨rfl, rfl⟩)
            go_round
            case rel => exact ⟨m + 1, by omega, by omega, by go_num, HP.out⟩
            case measure => simp [intOf]; omega
          · have HT := Lib.hid hb2
            clear ht hb2
            by_cases hlt3 : m < s.size
            · have hc' : blk s[m] = true := by have := hno2 hlt3; unfold flb at this; simpa using this
              have c2 := Lib.hid (fun w => rblank_any s[m] w)
              rw [hc'] at c2
              clear hc' hno2
              go_wp2_with (go_at_call 8; refine (c2.out _).mono ?_; rintro e w' ⟨rfl, rfl⟩)
              go_ret2
              exact ⟨retNext HB.out HT.out, rfl⟩
            · clear hno2
              go_wp2
              go_ret2
              exact ⟨retNext HB.out HT.out, rfl⟩

theorem rnext_any (s : ByteArray) (hs : s.size ≤ maxLen) (at_ : Int) (w : World) :
    Calls Try.prog 16 #[.string s, .int .i64 at_] w fun e w' => e = .returned (vNext s.data.toList (cl at_ s.size)) ∧ w = w' := by
  have hcl := cl_eq at_ s.size
  have hle := cl_le at_ s.size
  generalize cl at_ s.size = K at *
  have hat : (at_ < 0 ∧ K = 0) ∨ ((s.size : Int) < at_ ∧ K = s.size) ∨ (at_ = (K : Int)) := by omega
  rcases hat with ⟨ha, rfl⟩ | ⟨ha, rfl⟩ | ha
  · exact rnext_low s hs at_ ha w
  · exact rnext_far s hs at_ ha w
  · exact rnext_in s hs at_ K hle ha w

end Go.Proofs.Ytmdkpbmhldlicaa.Wd

/- Kinds of bytes, and how many a text begins with. -/
import Derived.Test.YtleejfkononjgaaDoorWdPlain
import Derived.Test.YtleejfkononjgaaDoorChecked
import Derived.WalkKit
import Derived.Lib.Hide
import Derived.WalkSpells
import Derived.Shelf.Abstract
namespace Go.Proofs.YtleejfkononjgaaDoor.Wd
open Go.RowKit Go.Shelf

theorem retB {a b : Bool} (h : a = b) : Ending.returned (.bool a) = .returned (.bool b) := by rw [h]
theorem retI {a b : Int} (h : a = b) : Ending.returned (.int .i64 a) = .returned (.int .i64 b) := by rw [h]
set_option maxHeartbeats 400000 in
theorem blank_any (c : UInt8) (w : World) : Calls Tryd.prog 41 #[.int .u8 (c.toNat : Int)] w fun e w' => e = .returned (.bool (blk c)) ∧ w = w' := by
  by_cases h0 : c.toNat = 32
  · have d0 : ((c.toNat : Int) == 32) = true := by simp; omega
    have hb : Hid (blk c = true) := Lib.hid (by unfold blk; simp; omega)
    clear h0
    go_enter Tryd.func41, Tryd.ntmps41
    go_wp2
    go_ret
    exact ⟨retB hb.out.symm, rfl⟩
  · have d0 : ((c.toNat : Int) == 32) = false := by simp; omega
    by_cases h1 : c.toNat = 9
    · have d1 : ((c.toNat : Int) == 9) = true := by simp; omega
      have hb : Hid (blk c = true) := Lib.hid (by unfold blk; simp; omega)
      clear h0 h1
      go_enter Tryd.func41, Tryd.ntmps41
      go_wp2
      go_ret
      exact ⟨retB hb.out.symm, rfl⟩
    · have d1 : ((c.toNat : Int) == 9) = false := by simp; omega
      have hb : Hid (blk c = false) := Lib.hid (by unfold blk; simp; omega)
      clear h0 h1
      go_enter Tryd.func41, Tryd.ntmps41
      go_wp2
      go_ret
      exact ⟨retB hb.out.symm, rfl⟩
set_option maxHeartbeats 400000 in
theorem rblank_any (c : UInt8) (w : World) : Calls Tryd.prog 24 #[.int .u8 (c.toNat : Int)] w fun e w' => e = .returned (.bool (blk c)) ∧ w = w' := by
  by_cases h0 : c.toNat = 32
  · have d0 : ((c.toNat : Int) == 32) = true := by simp; omega
    have hb : Hid (blk c = true) := Lib.hid (by unfold blk; simp; omega)
    clear h0
    go_enter Tryd.func24, Tryd.ntmps24
    go_wp2
    go_ret
    exact ⟨retB hb.out.symm, rfl⟩
  · have d0 : ((c.toNat : Int) == 32) = false := by simp; omega
    by_cases h1 : c.toNat = 9
    · have d1 : ((c.toNat : Int) == 9) = true := by simp; omega
      have hb : Hid (blk c = true) := Lib.hid (by unfold blk; simp; omega)
      clear h0 h1
      go_enter Tryd.func24, Tryd.ntmps24
      go_wp2
      go_ret
      exact ⟨retB hb.out.symm, rfl⟩
    · have d1 : ((c.toNat : Int) == 9) = false := by simp; omega
      have hb : Hid (blk c = false) := Lib.hid (by unfold blk; simp; omega)
      clear h0 h1
      go_enter Tryd.func24, Tryd.ntmps24
      go_wp2
      go_ret
      exact ⟨retB hb.out.symm, rfl⟩
set_option maxHeartbeats 400000 in
theorem digit_any (c : UInt8) (w : World) : Calls Tryd.prog 37 #[.int .u8 (c.toNat : Int)] w fun e w' => e = .returned (.bool (dig c)) ∧ w = w' := by
  by_cases h0 : 48 ≤ c.toNat
  · have d0 : decide (48 ≤ (c.toNat : Int)) = true := by simp; omega
    by_cases h1 : c.toNat ≤ 57
    · have d1 : decide ((c.toNat : Int) ≤ 57) = true := by simp; omega
      have hb : Hid (dig c = true) := Lib.hid (by unfold dig; simp; omega)
      clear h0 h1
      go_enter Tryd.func37, Tryd.ntmps37
      go_wp2
      go_ret
      exact ⟨retB hb.out.symm, rfl⟩
    · have d1 : decide ((c.toNat : Int) ≤ 57) = false := by simp; omega
      have hb : Hid (dig c = false) := Lib.hid (by unfold dig; simp; omega)
      clear h0 h1
      go_enter Tryd.func37, Tryd.ntmps37
      go_wp2
      go_ret
      exact ⟨retB hb.out.symm, rfl⟩
  · have d0 : decide (48 ≤ (c.toNat : Int)) = false := by simp; omega
    have hb : Hid (dig c = false) := Lib.hid (by unfold dig; simp; omega)
    clear h0
    go_enter Tryd.func37, Tryd.ntmps37
    go_wp2
    go_ret
    exact ⟨retB hb.out.symm, rfl⟩
set_option maxHeartbeats 400000 in
theorem filled_any (c : UInt8) (w : World) : Calls Tryd.prog 42 #[.int .u8 (c.toNat : Int)] w fun e w' => e = .returned (.bool (flb c)) ∧ w = w' := by
  unfold flb
  go_enter Tryd.func42, Tryd.ntmps42
  go_wp2_with (go_at_call 41; refine (blank_any c _).mono ?_; rintro e w' ⟨rfl, rfl⟩)
  go_ret
  exact ⟨rfl, rfl⟩
set_option maxHeartbeats 400000 in
theorem named_any (c : UInt8) (w : World) : Calls Tryd.prog 38 #[.int .u8 (c.toNat : Int)] w fun e w' => e = .returned (.bool (nmd c)) ∧ w = w' := by
  cases hl : ltr c
  · have hb : Hid (nmd c = dig c) := Lib.hid (by unfold nmd; rw [hl]; rfl)
    have h3 : ¬ c.toNat = 95 := by unfold ltr at hl; simp at hl; omega
    have d3 : ((c.toNat : Int) == 95) = false := by simp; omega
    have e1 : (c.toNat < 97 ∨ 122 < c.toNat) ∧ (c.toNat < 65 ∨ 90 < c.toNat) := by unfold ltr at hl; simp at hl; omega
    obtain ⟨e1, e2⟩ := e1
    clear hl
    by_cases h0 : 97 ≤ c.toNat
    · have d0 : decide (97 ≤ (c.toNat : Int)) = true := by simp; omega
      have d1 : decide ((c.toNat : Int) ≤ 122) = false := by simp; omega
      have d2 : decide (65 ≤ (c.toNat : Int)) = true := by simp; omega
      have d4 : decide ((c.toNat : Int) ≤ 90) = false := by simp; omega
      clear h0 h3 e1 e2
      go_enter Tryd.func38, Tryd.ntmps38
      go_wp2_with (go_at_call 37; refine (digit_any c _).mono ?_; rintro e w' ⟨rfl, rfl⟩)
      go_ret
      exact ⟨retB hb.out.symm, rfl⟩
    · have d0 : decide (97 ≤ (c.toNat : Int)) = false := by simp; omega
      by_cases h1 : 65 ≤ c.toNat
      · have d2 : decide (65 ≤ (c.toNat : Int)) = true := by simp; omega
        have d4 : decide ((c.toNat : Int) ≤ 90) = false := by simp; omega
        clear h0 h1 h3 e1 e2
        go_enter Tryd.func38, Tryd.ntmps38
        go_wp2_with (go_at_call 37; refine (digit_any c _).mono ?_; rintro e w' ⟨rfl, rfl⟩)
        go_ret
        exact ⟨retB hb.out.symm, rfl⟩
      · have d2 : decide (65 ≤ (c.toNat : Int)) = false := by simp; omega
        clear h0 h1 h3 e1 e2
        go_enter Tryd.func38, Tryd.ntmps38
        go_wp2_with (go_at_call 37; refine (digit_any c _).mono ?_; rintro e w' ⟨rfl, rfl⟩)
        go_ret
        exact ⟨retB hb.out.symm, rfl⟩
  · have hb : Hid (nmd c = true) := Lib.hid (by unfold nmd; rw [hl]; rfl)
    by_cases h0 : 97 ≤ c.toNat ∧ c.toNat ≤ 122
    · have d0 : decide (97 ≤ (c.toNat : Int)) = true := by simp; omega
      have d1 : decide ((c.toNat : Int) ≤ 122) = true := by simp; omega
      clear h0 hl
      go_enter Tryd.func38, Tryd.ntmps38
      go_wp2
      go_ret
      exact ⟨retB hb.out.symm, rfl⟩
    · by_cases h1 : 65 ≤ c.toNat ∧ c.toNat ≤ 90
      · have d2 : decide (65 ≤ (c.toNat : Int)) = true := by simp; omega
        have d4 : decide ((c.toNat : Int) ≤ 90) = true := by simp; omega
        have d0 : decide (97 ≤ (c.toNat : Int)) = false := by simp; omega
        clear h0 h1 hl
        go_enter Tryd.func38, Tryd.ntmps38
        go_wp2
        go_ret
        exact ⟨retB hb.out.symm, rfl⟩
      · have h5 : c.toNat = 95 := by unfold ltr at hl; simp at hl; omega
        have d0 : decide (97 ≤ (c.toNat : Int)) = false := by simp; omega
        have d2 : decide (65 ≤ (c.toNat : Int)) = true := by simp; omega
        have d4 : decide ((c.toNat : Int) ≤ 90) = false := by simp; omega
        have d5 : ((c.toNat : Int) == 95) = true := by simp; omega
        clear h0 h1 h5 hl
        go_enter Tryd.func38, Tryd.ntmps38
        go_wp2
        go_ret
        exact ⟨retB hb.out.symm, rfl⟩

/-- the document's kinds -/
def kindL (c : UInt8) : Int := if ltr c then 1 else if dig c then 2 else 0
theorem kind_pos (c : UInt8) : decide (0 < kindL c) = nmd c := by unfold kindL nmd; cases ltr c <;> cases dig c <;> rfl
theorem kind_one (c : UInt8) : (kindL c == 1) = ltr c := by unfold kindL; cases ltr c <;> cases dig c <;> rfl
set_option maxHeartbeats 800000 in
theorem kind_any (c : UInt8) (w : World) : Calls Tryd.prog 33 #[.int .u8 (c.toNat : Int)] w fun e w' => e = .returned (.int .i64 (kindL c)) ∧ w = w' := by
  have hc : c.toNat < 256 := c.toNat_lt
  have hx : c.toNat < 48 ∨ (48 ≤ c.toNat ∧ c.toNat < 58) ∨ (58 ≤ c.toNat ∧ c.toNat < 65) ∨ (65 ≤ c.toNat ∧ c.toNat < 91) ∨ (91 ≤ c.toNat ∧ c.toNat < 95) ∨ c.toNat = 95 ∨ c.toNat = 96 ∨ (97 ≤ c.toNat ∧ c.toNat < 123) ∨ 123 ≤ c.toNat := by omega
  rcases hx with h0 | h0 | h0 | h0 | h0 | h0 | h0 | h0 | h0
  · have d0 : decide (97 ≤ (c.toNat : Int)) = false := by simp; omega
    have d1 : decide ((c.toNat : Int) ≤ 122) = true := by simp; omega
    have d2 : decide (65 ≤ (c.toNat : Int)) = false := by simp; omega
    have d3 : decide ((c.toNat : Int) ≤ 90) = true := by simp; omega
    have d4 : ((c.toNat : Int) == 95) = false := by simp; omega
    have d5 : decide (48 ≤ (c.toNat : Int)) = false := by simp; omega
    have d6 : decide ((c.toNat : Int) ≤ 57) = true := by simp; omega
    have hb : Hid (kindL c = 0) := Lib.hid (by unfold kindL ltr dig; rw [if_neg (by simp; omega), if_neg (by simp; omega)])
    clear h0 hc
    go_enter Tryd.func33, Tryd.ntmps33
    go_wp2
    go_ret
    exact ⟨retI hb.out.symm, rfl⟩
  · have d0 : decide (97 ≤ (c.toNat : Int)) = false := by simp; omega
    have d1 : decide ((c.toNat : Int) ≤ 122) = true := by simp; omega
    have d2 : decide (65 ≤ (c.toNat : Int)) = false := by simp; omega
    have d3 : decide ((c.toNat : Int) ≤ 90) = true := by simp; omega
    have d4 : ((c.toNat : Int) == 95) = false := by simp; omega
    have d5 : decide (48 ≤ (c.toNat : Int)) = true := by simp; omega
    have d6 : decide ((c.toNat : Int) ≤ 57) = true := by simp; omega
    have hb : Hid (kindL c = 2) := Lib.hid (by unfold kindL ltr dig; rw [if_neg (by simp; omega), if_pos (by simp; omega)])
    clear h0 hc
    go_enter Tryd.func33, Tryd.ntmps33
    go_wp2
    go_ret
    exact ⟨retI hb.out.symm, rfl⟩
  · have d0 : decide (97 ≤ (c.toNat : Int)) = false := by simp; omega
    have d1 : decide ((c.toNat : Int) ≤ 122) = true := by simp; omega
    have d2 : decide (65 ≤ (c.toNat : Int)) = false := by simp; omega
    have d3 : decide ((c.toNat : Int) ≤ 90) = true := by simp; omega
    have d4 : ((c.toNat : Int) == 95) = false := by simp; omega
    have d5 : decide (48 ≤ (c.toNat : Int)) = true := by simp; omega
    have d6 : decide ((c.toNat : Int) ≤ 57) = false := by simp; omega
    have hb : Hid (kindL c = 0) := Lib.hid (by unfold kindL ltr dig; rw [if_neg (by simp; omega), if_neg (by simp; omega)])
    clear h0 hc
    go_enter Tryd.func33, Tryd.ntmps33
    go_wp2
    go_ret
    exact ⟨retI hb.out.symm, rfl⟩
  · have d0 : decide (97 ≤ (c.toNat : Int)) = false := by simp; omega
    have d1 : decide ((c.toNat : Int) ≤ 122) = true := by simp; omega
    have d2 : decide (65 ≤ (c.toNat : Int)) = true := by simp; omega
    have d3 : decide ((c.toNat : Int) ≤ 90) = true := by simp; omega
    have d4 : ((c.toNat : Int) == 95) = false := by simp; omega
    have d5 : decide (48 ≤ (c.toNat : Int)) = true := by simp; omega
    have d6 : decide ((c.toNat : Int) ≤ 57) = false := by simp; omega
    have hb : Hid (kindL c = 1) := Lib.hid (by unfold kindL ltr dig; rw [if_pos (by simp; omega)])
    clear h0 hc
    go_enter Tryd.func33, Tryd.ntmps33
    go_wp2
    go_ret
    exact ⟨retI hb.out.symm, rfl⟩
  · have d0 : decide (97 ≤ (c.toNat : Int)) = false := by simp; omega
    have d1 : decide ((c.toNat : Int) ≤ 122) = true := by simp; omega
    have d2 : decide (65 ≤ (c.toNat : Int)) = true := by simp; omega
    have d3 : decide ((c.toNat : Int) ≤ 90) = false := by simp; omega
    have d4 : ((c.toNat : Int) == 95) = false := by simp; omega
    have d5 : decide (48 ≤ (c.toNat : Int)) = true := by simp; omega
    have d6 : decide ((c.toNat : Int) ≤ 57) = false := by simp; omega
    have hb : Hid (kindL c = 0) := Lib.hid (by unfold kindL ltr dig; rw [if_neg (by simp; omega), if_neg (by simp; omega)])
    clear h0 hc
    go_enter Tryd.func33, Tryd.ntmps33
    go_wp2
    go_ret
    exact ⟨retI hb.out.symm, rfl⟩
  · have d0 : decide (97 ≤ (c.toNat : Int)) = false := by simp; omega
    have d1 : decide ((c.toNat : Int) ≤ 122) = true := by simp; omega
    have d2 : decide (65 ≤ (c.toNat : Int)) = true := by simp; omega
    have d3 : decide ((c.toNat : Int) ≤ 90) = false := by simp; omega
    have d4 : ((c.toNat : Int) == 95) = true := by simp; omega
    have d5 : decide (48 ≤ (c.toNat : Int)) = true := by simp; omega
    have d6 : decide ((c.toNat : Int) ≤ 57) = false := by simp; omega
    have hb : Hid (kindL c = 1) := Lib.hid (by unfold kindL ltr dig; rw [if_pos (by simp; omega)])
    clear h0 hc
    go_enter Tryd.func33, Tryd.ntmps33
    go_wp2
    go_ret
    exact ⟨retI hb.out.symm, rfl⟩
  · have d0 : decide (97 ≤ (c.toNat : Int)) = false := by simp; omega
    have d1 : decide ((c.toNat : Int) ≤ 122) = true := by simp; omega
    have d2 : decide (65 ≤ (c.toNat : Int)) = true := by simp; omega
    have d3 : decide ((c.toNat : Int) ≤ 90) = false := by simp; omega
    have d4 : ((c.toNat : Int) == 95) = false := by simp; omega
    have d5 : decide (48 ≤ (c.toNat : Int)) = true := by simp; omega
    have d6 : decide ((c.toNat : Int) ≤ 57) = false := by simp; omega
    have hb : Hid (kindL c = 0) := Lib.hid (by unfold kindL ltr dig; rw [if_neg (by simp; omega), if_neg (by simp; omega)])
    clear h0 hc
    go_enter Tryd.func33, Tryd.ntmps33
    go_wp2
    go_ret
    exact ⟨retI hb.out.symm, rfl⟩
  · have d0 : decide (97 ≤ (c.toNat : Int)) = true := by simp; omega
    have d1 : decide ((c.toNat : Int) ≤ 122) = true := by simp; omega
    have d2 : decide (65 ≤ (c.toNat : Int)) = true := by simp; omega
    have d3 : decide ((c.toNat : Int) ≤ 90) = false := by simp; omega
    have d4 : ((c.toNat : Int) == 95) = false := by simp; omega
    have d5 : decide (48 ≤ (c.toNat : Int)) = true := by simp; omega
    have d6 : decide ((c.toNat : Int) ≤ 57) = false := by simp; omega
    have hb : Hid (kindL c = 1) := Lib.hid (by unfold kindL ltr dig; rw [if_pos (by simp; omega)])
    clear h0 hc
    go_enter Tryd.func33, Tryd.ntmps33
    go_wp2
    go_ret
    exact ⟨retI hb.out.symm, rfl⟩
  · have d0 : decide (97 ≤ (c.toNat : Int)) = true := by simp; omega
    have d1 : decide ((c.toNat : Int) ≤ 122) = false := by simp; omega
    have d2 : decide (65 ≤ (c.toNat : Int)) = true := by simp; omega
    have d3 : decide ((c.toNat : Int) ≤ 90) = false := by simp; omega
    have d4 : ((c.toNat : Int) == 95) = false := by simp; omega
    have d5 : decide (48 ≤ (c.toNat : Int)) = true := by simp; omega
    have d6 : decide ((c.toNat : Int) ≤ 57) = false := by simp; omega
    have hb : Hid (kindL c = 0) := Lib.hid (by unfold kindL ltr dig; rw [if_neg (by simp; omega), if_neg (by simp; omega)])
    clear h0 hc
    go_enter Tryd.func33, Tryd.ntmps33
    go_wp2
    go_ret
    exact ⟨retI hb.out.symm, rfl⟩

set_option maxHeartbeats 400000 in
theorem span_any (K : FuncId) (p : UInt8 → Bool) (hE : Enters Tryd.prog K) (hK : ∀ (c : UInt8) (w : World), Calls Tryd.prog K #[.int .u8 (c.toNat : Int)] w fun e w' => e = .returned (.bool (p c)) ∧ w = w') (s : ByteArray) (hs : s.size ≤ maxLen) (w : World) :
    Calls Tryd.prog 36 #[.string s, .func (.func K) #[] #[]] w fun e w' => e = .returned (.int .i64 (spanL p s.data.toList : Nat)) ∧ w = w' := by
  unfold maxLen at hs
  have HK := Lib.hid hK
  have hE' : ∀ (args : Array Value) (w : World), (callFunc K args).run Tryd.prog w = .ok (.enter K args) w := hE
  clear hK hE
  go_enter Tryd.func36, Tryd.ntmps36
  go_wp2
  go_loop [5, 8] (fun _ i => ∃ k : Nat, k ≤ s.size ∧ i = .int .i64 k ∧ spanL p s.data.toList = k + spanL p (s.data.toList.drop k)) (fun _ i => s.size - (intOf i).toNat)
  case atStart => exact ⟨0, Nat.zero_le _, rfl, by simp⟩
  case round =>
    obtain ⟨k, hk, rfl, hp⟩ := hrel
    by_cases hlt : k < s.size
    · rw [span_at hlt] at hp
      cases hc : p s[k]
      · rw [spanL_no hc] at hp
        have HP := Lib.hid hp
        have c1 := Lib.hid (fun w => (HK.out s[k] w))
        rw [hc] at c1
        clear hp hc
        go_wp2_with (go_at_fn K; refine (c1.out _).mono ?_; rintro e w' ⟨rfl, rfl⟩)
        go_ret
        exact ⟨retI (by rw [HP.out]; rfl), rfl⟩
      · rw [spanL_yes hc] at hp
        have HP := Lib.hid hp
        have c1 := Lib.hid (fun w => (HK.out s[k] w))
        rw [hc] at c1
        clear hp hc
        go_wp2_with (go_at_fn K; refine (c1.out _).mono ?_; rintro e w' ⟨rfl, rfl⟩)
        go_round
        case rel => exact ⟨k + 1, by omega, by go_num, by rw [HP.out]; omega⟩
        case measure => simp [intOf]; omega
    · obtain rfl : k = s.size := by omega
      rw [span_end (Nat.le_refl _), spanL_nil] at hp
      have HP := Lib.hid hp
      clear hp
      go_wp2
      go_ret
      exact ⟨retI (by rw [HP.out]; rfl), rfl⟩

theorem span_blank (s : ByteArray) (hs : s.size ≤ maxLen) (w : World) : Calls Tryd.prog 36 #[.string s, .func (.func 41) #[] #[]] w fun e w' => e = .returned (.int .i64 (spanL blk s.data.toList : Nat)) ∧ w = w' := span_any _ blk (enters_of Tryd.func41 (by kernel_rfl) rfl) blank_any s hs w
theorem span_filled (s : ByteArray) (hs : s.size ≤ maxLen) (w : World) : Calls Tryd.prog 36 #[.string s, .func (.func 42) #[] #[]] w fun e w' => e = .returned (.int .i64 (spanL flb s.data.toList : Nat)) ∧ w = w' := span_any _ flb (enters_of Tryd.func42 (by kernel_rfl) rfl) filled_any s hs w
theorem span_digit (s : ByteArray) (hs : s.size ≤ maxLen) (w : World) : Calls Tryd.prog 36 #[.string s, .func (.func 37) #[] #[]] w fun e w' => e = .returned (.int .i64 (spanL dig s.data.toList : Nat)) ∧ w = w' := span_any _ dig (enters_of Tryd.func37 (by kernel_rfl) rfl) digit_any s hs w
theorem span_named (s : ByteArray) (hs : s.size ≤ maxLen) (w : World) : Calls Tryd.prog 36 #[.string s, .func (.func 38) #[] #[]] w fun e w' => e = .returned (.int .i64 (spanL nmd s.data.toList : Nat)) ∧ w = w' := span_any _ nmd (enters_of Tryd.func38 (by kernel_rfl) rfl) named_any s hs w

end Go.Proofs.YtleejfkononjgaaDoor.Wd

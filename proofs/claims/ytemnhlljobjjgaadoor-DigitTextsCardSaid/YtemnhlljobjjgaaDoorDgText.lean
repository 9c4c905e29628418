/- Walks of the document's Text and Signed. -/
import Derived.Test.YtemnhlljobjjgaaDoorDgPlain
import Derived.Test.YtemnhlljobjjgaaDoorChecked
import Derived.Lib.Hide
import Derived.WalkLawsBesides
import Derived.WalkSpells
namespace Go.Proofs.YtemnhlljobjjgaaDoor.Dg
open Go.RowKit

theorem rets {a b : ByteArray} (h : a = b) : Ending.returned (.string a) = .returned (.string b) := by rw [h]

set_option maxRecDepth 100000 in
set_option maxHeartbeats 400000 in
theorem rtext_any (f : Nat) : ∀ (n : Int) (w : World), 0 ≤ n → n ≤ 9223372036854775807 → n.toNat < f →
    Calls Tryd.prog 17 #[.int .i64 n] w fun e w' => e = .returned (.string ⟨(Lib.decDigits n.toNat).toArray⟩) ∧ w = w' := by
  induction f with
  | zero => intro n w h0 h1 hf; omega
  | succ f ih =>
    intro n w h0 h1 hf
    have IH := Lib.hid ih
    clear ih
    by_cases h10 : n < 10
    · obtain ⟨k, rfl⟩ := Int.eq_ofNat_of_zero_le h0
      have ht := Lib.hid (digit_text ⟨k, by omega⟩)
      go_enter Tryd.func17, Tryd.ntmps17
      go_wp2_with fail
      go_ret
      exact ⟨rets ht.out, rfl⟩
    · have hs := Lib.hid (dec_split (u := n.toNat) (by omega))
      have l1 : (Lib.decDigits (n / 10).toNat).length ≤ 20 := dec_len20 (by omega)
      have l2 : (Lib.decDigits (n % 10).toNat).length ≤ 20 := dec_len20 (by omega)
      go_enter Tryd.func17, Tryd.ntmps17
      go_wp2_with (go_at_call 17; refine (IH.out _ _ (by omega) (by omega) (by omega)).mono ?_; rintro e w' ⟨rfl, rfl⟩)
      go_ret
      exact ⟨rets (by rw [hs.out, show n.toNat / 10 = (n / 10).toNat by omega, show n.toNat % 10 = (n % 10).toNat by omega]; simp [ByteArray.ext_iff]), rfl⟩

theorem rtext (n : Int) (w : World) (h0 : 0 ≤ n) (h1 : n ≤ 9223372036854775807) :
    Calls Tryd.prog 17 #[.int .i64 n] w fun e w' => e = .returned (.string ⟨(Lib.decDigits n.toNat).toArray⟩) ∧ w = w' :=
  rtext_any (n.toNat + 1) n w h0 h1 (Nat.lt_succ_self _)

set_option maxRecDepth 100000 in
set_option maxHeartbeats 400000 in
theorem rsigned_any (f : Nat) : ∀ (n : Int) (w : World), -9223372036854775808 ≤ n → n ≤ 9223372036854775807 → n.natAbs < f →
    Calls Tryd.prog 14 #[.int .i64 n] w fun e w' => e = .returned (.string ⟨(Lib.itoa n).toArray⟩) ∧ w = w' := by
  induction f with
  | zero => intro n w h0 h1 hf; omega
  | succ f ih =>
    intro n w h0 h1 hf
    have IH := Lib.hid ih
    clear ih
    by_cases h10 : 0 ≤ n
    · go_enter Tryd.func14, Tryd.ntmps14
      go_wp2_with (go_at_call 17; refine (rtext _ _ (by omega) (by omega)).mono ?_; rintro e w' ⟨rfl, rfl⟩)
      go_ret
      exact ⟨rets (by rw [itoa_pos h10]), rfl⟩
    · by_cases h9 : -10 < n
      · have l1 : (Lib.decDigits (-n).toNat).length ≤ 20 := dec_len20 (by omega)
        go_enter Tryd.func14, Tryd.ntmps14
        go_wp2_with (go_at_call 17; refine (rtext _ _ (by omega) (by omega)).mono ?_; rintro e w' ⟨rfl, rfl⟩)
        go_ret
        exact ⟨rets (by rw [itoa_neg (by omega), show (-n).toNat = n.natAbs by omega]; simp [ByteArray.ext_iff]), rfl⟩
      · have hd := Lib.hid (tdiv10 (n := n) (by omega))
        have hm := Lib.hid (tmod10 (n := n) (by omega))
        have b1 : -9 ≤ n.tmod 10 := by rw [hm.out]; omega
        have b2 : n.tmod 10 ≤ 0 := by rw [hm.out]; omega
        have l1 : (Lib.itoa (n.tdiv 10)).length ≤ 21 := by rw [itoa_neg (by rw [hd.out]; omega), hd.out]; simp; exact dec_len20 (by omega)
        have l2 : (Lib.decDigits (-n.tmod 10).toNat).length ≤ 20 := dec_len20 (by omega)
        go_enter Tryd.func14, Tryd.ntmps14
        go_wp2_with (first
          | (go_at_call 14; refine (IH.out _ _ (by rw [hd.out]; omega) (by rw [hd.out]; omega) (by rw [hd.out]; omega)).mono ?_; rintro e w' ⟨rfl, rfl⟩)
          | (go_at_call 17; refine (rtext _ _ (by omega) (by omega)).mono ?_; rintro e w' ⟨rfl, rfl⟩))
        go_ret
        exact ⟨rets (by rw [itoa_neg (n := n) (by omega), itoa_neg (n := n.tdiv 10) (by rw [hd.out]; omega), dec_split (u := n.natAbs) (by omega), show (n.tdiv 10).natAbs = n.natAbs / 10 by rw [hd.out]; omega, show (-n.tmod 10).toNat = n.natAbs % 10 by rw [hm.out]; omega]; simp [ByteArray.ext_iff]), rfl⟩

theorem rsigned (n : Int) (w : World) (h0 : -9223372036854775808 ≤ n) (h1 : n ≤ 9223372036854775807) :
    Calls Tryd.prog 14 #[.int .i64 n] w fun e w' => e = .returned (.string ⟨(Lib.itoa n).toArray⟩) ∧ w = w' :=
  rsigned_any (n.natAbs + 1) n w h0 h1 (Nat.lt_succ_self _)

end Go.Proofs.YtemnhlljobjjgaaDoor.Dg

/- A walk of the document's Text. -/
import Derived.Test.YtdmceapbobkklaaDoorDgPlain
import Derived.Test.YtdmceapbobkklaaDoorChecked
import Derived.Lib.Hide
import Derived.WalkLawsBesides
import Derived.WalkSpells
namespace Go.Proofs.YtdmceapbobkklaaDoor.Dg
open Go.RowKit

theorem rets {a b : ByteArray} (h : a = b) : Ending.returned (.string a) = .returned (.string b) := by rw [h]

set_option maxRecDepth 100000 in
set_option maxHeartbeats 400000 in
theorem rtext_any (f : Nat) : ∀ (n : Int) (w : World), 0 ≤ n → n ≤ 9223372036854775807 → n.toNat < f →
    Calls Tryd.prog 42 #[.int .i64 n] w fun e w' => e = .returned (.string ⟨(Lib.decDigits n.toNat).toArray⟩) ∧ w = w' := by
  induction f with
  | zero => intro n w h0 h1 hf; omega
  | succ f ih =>
    intro n w h0 h1 hf
    have IH := Lib.hid ih
    clear ih
    by_cases h10 : n < 10
    · obtain ⟨k, rfl⟩ := Int.eq_ofNat_of_zero_le h0
      have ht := Lib.hid (digit_text ⟨k, by omega⟩)
      go_enter Tryd.func42, Tryd.ntmps42
      go_wp2_with fail
      go_ret
      exact ⟨rets ht.out, rfl⟩
    · have hs := Lib.hid (dec_split (u := n.toNat) (by omega))
      have l1 : (Lib.decDigits (n / 10).toNat).length ≤ 20 := dec_len20 (by omega)
      have l2 : (Lib.decDigits (n % 10).toNat).length ≤ 20 := dec_len20 (by omega)
      go_enter Tryd.func42, Tryd.ntmps42
      go_wp2_with (go_at_call 42; refine (IH.out _ _ (by omega) (by omega) (by omega)).mono ?_; rintro e w' ⟨rfl, rfl⟩)
      go_ret
      exact ⟨rets (by rw [hs.out, show n.toNat / 10 = (n / 10).toNat by omega, show n.toNat % 10 = (n % 10).toNat by omega]; simp [ByteArray.ext_iff]), rfl⟩

theorem rtext (n : Int) (w : World) (h0 : 0 ≤ n) (h1 : n ≤ 9223372036854775807) :
    Calls Tryd.prog 42 #[.int .i64 n] w fun e w' => e = .returned (.string ⟨(Lib.decDigits n.toNat).toArray⟩) ∧ w = w' :=
  rtext_any (n.toNat + 1) n w h0 h1 (Nat.lt_succ_self _)

end Go.Proofs.YtdmceapbobkklaaDoor.Dg

/- stirred. -/
import Derived.Test.YtemmaoapicaloaaDoorBtOnes0
namespace Go.Proofs.YtemmaoapicaloaaDoor.Bt
open Go Go.RowKit

def stir (x : Nat) : Nat :=
  let a := (x ^^^ x / 1073741824) * 13787848793156543929 % 18446744073709551616
  let b := (a ^^^ a / 134217728) * 10723151780598845931 % 18446744073709551616
  b ^^^ b / 2147483648
theorem xor_lt {x y : Nat} (hx : x < 18446744073709551616) (hy : y < 18446744073709551616) : x ^^^ y < 18446744073709551616 := Nat.xor_lt_two_pow (n := 64) hx hy
theorem stir_lt (x : Nat) : stir x < 18446744073709551616 := xor_lt (Nat.mod_lt _ (by omega)) (by omega)
theorem stirred_any (x : Nat) (hx : x < 18446744073709551616) (w : World) : Calls Tryd.prog 47 #[.int .u64 (x : Nat)] w fun e w' => e = .returned (.int .u64 (stir x : Nat)) ∧ w' = w := by
  obtain ⟨A, hA⟩ : ∃ A, A = x ^^^ x / 1073741824 := ⟨_, rfl⟩
  have q1 : bits .xor .u64 (x : Int) ((x : Int) / 1073741824) = (A : Int) := by rw [hA]; exact bits_xor_u64_nat x (x / 1073741824) hx (by omega)
  have h1 : A < 18446744073709551616 := by rw [hA]; exact xor_lt hx (by omega)
  obtain ⟨a, ea⟩ : ∃ a, a = A * 13787848793156543929 % 18446744073709551616 := ⟨_, rfl⟩
  have ha : a < 18446744073709551616 := by omega
  have q2 : IntKind.u64.wrap ((A : Int) * 13787848793156543929) = (a : Int) := by rw [IntKind.wrap_u64, ea]; omega
  obtain ⟨C, hC⟩ : ∃ C, C = a ^^^ a / 134217728 := ⟨_, rfl⟩
  have q3 : bits .xor .u64 (a : Int) ((a : Int) / 134217728) = (C : Int) := by rw [hC]; exact bits_xor_u64_nat a (a / 134217728) ha (by omega)
  obtain ⟨b, eb⟩ : ∃ b, b = C * 10723151780598845931 % 18446744073709551616 := ⟨_, rfl⟩
  have hb : b < 18446744073709551616 := by omega
  have q4 : IntKind.u64.wrap ((C : Int) * 10723151780598845931) = (b : Int) := by rw [IntKind.wrap_u64, eb]; omega
  have hs : stir x = b ^^^ b / 2147483648 := by rw [eb, hC, ea, hA]; rfl
  have q5 : bits .xor .u64 (b : Int) ((b : Int) / 2147483648) = (stir x : Int) := by rw [hs]; exact bits_xor_u64_nat b (b / 2147483648) hb (by omega)
  have Q := Lib.hid (And.intro q1 (And.intro q2 (And.intro q3 (And.intro q4 q5))))
  clear q1 q2 q3 q4 q5 hs ea eb h1 hA hC
  generalize stir x = S at *
  go_enter Tryd.func47, Tryd.ntmps47
  go_wp2
  obtain ⟨q1, q2, q3, q4, q5⟩ := Q.out
  simp only [q1, q2, q3, q4, q5]
  go_ret
  exact ⟨rfl, rfl⟩

end Go.Proofs.YtemmaoapicaloaaDoor.Bt

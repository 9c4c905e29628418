/- OnesCount64 and stirred. -/
import Derived.Test.YtfbphiamelongaaDoorBtMem
import Derived.Test.YtfbphiamelongaaDoorBtSwar
import Derived.Laws.Bits64b
import Derived.Laws.Bits128
import Derived.Laws.BitsAll
import Derived.Laws.ShiftsVar
import Derived.Laws.Shifts
namespace Go.Proofs.YtfbphiamelongaaDoor.Bt
open Go Go.RowKit

theorem retB {a b : Bool} (h : a = b) : Ending.returned (.bool a) = .returned (.bool b) := by rw [h]
theorem retU {a b : Int} (h : a = b) : Ending.returned (.int .u64 a) = .returned (.int .u64 b) := by rw [h]
theorem retI {a b : Int} (h : a = b) : Ending.returned (.int .i64 a) = .returned (.int .i64 b) := by rw [h]

theorem w127 (y : Nat) : wrap64 (y : Int) % 128 = ((y % 128 : Nat) : Int) := by unfold wrap64; omega
set_option maxRecDepth 100000 in
theorem ones_any (x : Nat) (hx : x < 18446744073709551616) (w : World) : Calls Tryd.prog 39 #[.int .u64 (x : Nat)] w fun e w' => e = .returned (.int .i64 ((bitsOf x).length : Nat)) ∧ w' = w := by
  obtain ⟨A, hA⟩ : ∃ A, A = x / 2 &&& 6148914691236517205 := ⟨_, rfl⟩
  obtain ⟨B, hB⟩ : ∃ B, B = x &&& 6148914691236517205 := ⟨_, rfl⟩
  have lA : A < 2 ^ 63 := by rw [hA]; exact Nat.and_lt_two_pow _ (by decide)
  have lB : B < 2 ^ 63 := by rw [hB]; exact Nat.and_lt_two_pow _ (by decide)
  have q1 : bits .and .u64 ((x : Int) / 2) 6148914691236517205 = (A : Int) := by rw [hA]; exact bits_and_u64_nat (x / 2) 6148914691236517205 (by omega) (by omega)
  have q2 : bits .and .u64 (x : Int) 6148914691236517205 = (B : Int) := by rw [hB]; exact bits_and_u64_nat x 6148914691236517205 (by omega) (by omega)
  have e1 : A + B = f1 8 x := by rw [hA, hB]; rfl
  clear hA hB
  generalize hy1 : A + B = y1 at e1
  have q3 : IntKind.u64.wrap ((A : Int) + (B : Int)) = (y1 : Int) := by rw [IntKind.wrap_u64]; omega
  have ly1 : y1 < 18446744073709551616 := by omega
  obtain ⟨C, hC⟩ : ∃ C, C = y1 / 4 &&& 3689348814741910323 := ⟨_, rfl⟩
  obtain ⟨D, hD⟩ : ∃ D, D = y1 &&& 3689348814741910323 := ⟨_, rfl⟩
  have lC : C < 2 ^ 62 := by rw [hC]; exact Nat.and_lt_two_pow _ (by decide)
  have lD : D < 2 ^ 62 := by rw [hD]; exact Nat.and_lt_two_pow _ (by decide)
  have q4 : bits .and .u64 ((y1 : Int) / 4) 3689348814741910323 = (C : Int) := by rw [hC]; exact bits_and_u64_nat (y1 / 4) 3689348814741910323 (by omega) (by omega)
  have q5 : bits .and .u64 (y1 : Int) 3689348814741910323 = (D : Int) := by rw [hD]; exact bits_and_u64_nat y1 3689348814741910323 (by omega) (by omega)
  have e2 : C + D = f2 8 y1 := by rw [hC, hD]; rfl
  clear hC hD
  generalize hy2 : C + D = y2 at e2
  have q6 : IntKind.u64.wrap ((C : Int) + (D : Int)) = (y2 : Int) := by rw [IntKind.wrap_u64]; omega
  have ly2 : y2 < 9223372036854775808 := by omega
  obtain ⟨z, hz⟩ : ∃ z, z = y2 / 16 + y2 := ⟨_, rfl⟩
  have q7 : IntKind.u64.wrap ((y2 : Int) / 16 + (y2 : Int)) = (z : Int) := by rw [IntKind.wrap_u64]; omega
  obtain ⟨y3, hy3⟩ : ∃ y3, y3 = z &&& 1085102592571150095 := ⟨_, rfl⟩
  have q8 : bits .and .u64 (z : Int) 1085102592571150095 = (y3 : Int) := by rw [hy3]; exact bits_and_u64_nat z 1085102592571150095 (by omega) (by omega)
  have e3 : y3 = f3 8 y2 := by rw [hy3, hz]; rfl
  clear hy3
  obtain ⟨y4, e4⟩ : ∃ y, y = y3 + y3 / 256 := ⟨_, rfl⟩
  obtain ⟨y5, e5⟩ : ∃ y, y = y4 + y4 / 65536 := ⟨_, rfl⟩
  obtain ⟨y6, e6⟩ : ∃ y, y = y5 + y5 / 4294967296 := ⟨_, rfl⟩
  obtain ⟨b4, b5, b6, hend⟩ := pop_all x hx y3 y4 y5 y6 (by rw [e3, e2, e1]) e4 e5 e6
  generalize (bitsOf x).length = N at *
  have q9 : IntKind.u64.wrap ((y3 : Int) + (y3 : Int) / 256) = (y4 : Int) := by rw [IntKind.wrap_u64]; omega
  have q10 : IntKind.u64.wrap ((y4 : Int) + (y4 : Int) / 65536) = (y5 : Int) := by rw [IntKind.wrap_u64]; omega
  have q11 : IntKind.u64.wrap ((y5 : Int) + (y5 : Int) / 4294967296) = (y6 : Int) := by rw [IntKind.wrap_u64]; omega
  have q12 : bits .and .i64 (wrap64 (y6 : Int)) 127 = (N : Int) := by
    rw [i64_and127, ← hend, w127]
  have Q := Lib.hid (And.intro q1 (And.intro q2 (And.intro q3 (And.intro q4 (And.intro q5 (And.intro q6 (And.intro q7 (And.intro q8 (And.intro q9 (And.intro q10 (And.intro q11 q12)))))))))))
  clear q1 q2 q3 q4 q5 q6 q7 q8 q9 q10 q11 q12 hend lA lB lC lD hy1 hy2 hz e1 e2 e3 e4 e5 e6
  go_enter Tryd.func39, Tryd.ntmps39
  go_wp2
  obtain ⟨q1, q2, q3, q4, q5, q6, q7, q8, q9, q10, q11, q12⟩ := Q.out
  simp only [q1, q2, q3, q4, q5, q6, q7, q8, q9, q10, q11, q12]
  go_ret
  exact ⟨rfl, rfl⟩

end Go.Proofs.YtfbphiamelongaaDoor.Bt

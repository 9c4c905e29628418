/- Numbers as rows of bits: which bits are set, how many, the lowest (no program's). -/
import Derived.Lib.BitFns
import Derived.Lib.TrailingZeros
namespace Go.Proofs.YtemmaoapicaloaaDoor.Bt
open Go

/-- the places of the bits that are set, rising -/
def bitsOf (x : Nat) : List Nat := (List.range 64).filter x.testBit

/-- two rising lists of the same numbers are one -/
theorem rise_ext : ∀ {l m : List Nat}, l.Pairwise (· < ·) → m.Pairwise (· < ·) → (∀ n, n ∈ l ↔ n ∈ m) → l = m
  | [], [], _, _, _ => rfl
  | [], b :: m, _, _, h => absurd ((h b).2 (List.mem_cons_self ..)) (by simp)
  | a :: l, [], _, _, h => absurd ((h a).1 (List.mem_cons_self ..)) (by simp)
  | a :: l, b :: m, hl, hm, h => by
    rw [List.pairwise_cons] at hl hm
    have hab : a = b := by
      rcases List.mem_cons.1 ((h a).1 (List.mem_cons_self ..)) with e | e
      · exact e
      · rcases List.mem_cons.1 ((h b).2 (List.mem_cons_self ..)) with e' | e'
        · exact e'.symm
        · have := hm.1 a e; have := hl.1 b e'; omega
    subst hab
    refine congrArg _ (rise_ext hl.2 hm.2 fun n => ⟨fun hn => ?_, fun hn => ?_⟩)
    · rcases List.mem_cons.1 ((h n).1 (List.mem_cons_of_mem _ hn)) with e | e
      · have := hl.1 n hn; omega
      · exact e
    · rcases List.mem_cons.1 ((h n).2 (List.mem_cons_of_mem _ hn)) with e | e
      · have := hm.1 n hn; omega
      · exact e

theorem bits_rise (x : Nat) : (bitsOf x).Pairwise (· < ·) := List.Pairwise.filter _ List.pairwise_lt_range
theorem mem_bits {x j : Nat} : j ∈ bitsOf x ↔ j < 64 ∧ x.testBit j = true := by simp [bitsOf]
theorem bits_zero : bitsOf 0 = [] := by simp [bitsOf]

/-- the lowest bit that is set, and what is left without it -/
theorem low_bits {x : Nat} (h0 : x ≠ 0) (h : x < 2 ^ 64) : bitsOf x = Lib.ctz 64 x :: bitsOf (x &&& (x - 1)) ∧ Lib.ctz 64 x < 64 := by
  obtain ⟨m, hm, hk⟩ := Lib.ctzFrom_spec 64 x (by omega) h
  have e : Lib.ctz 64 x = Lib.ctzFrom 64 x := by simp [Lib.ctz, h0]
  rw [e]
  generalize Lib.ctzFrom 64 x = k at *
  have hp : 0 < 2 ^ k := Nat.two_pow_pos k
  have e1 : ∀ j, x.testBit j = if j < k then false else (2 * m + 1).testBit (j - k) := by
    intro j
    have := Nat.testBit_two_pow_mul_add (2 * m + 1) (i := k) (b := 0) hp j
    rw [Nat.add_zero, ← hm] at this
    rw [this]; simp
  have e2 : ∀ j, (x - 1).testBit j = if j < k then true else (2 * m).testBit (j - k) := by
    intro j
    have hx : x - 1 = 2 ^ k * (2 * m) + (2 ^ k - 1) := by
      rw [hm, Nat.mul_add, Nat.mul_one]; omega
    rw [hx, Nat.testBit_two_pow_mul_add (2 * m) (by omega) j]
    split
    · rename_i hj; rw [Nat.testBit_two_pow_sub_one]; simpa using hj
    · rfl
  have e3 : ∀ j, (x &&& (x - 1)).testBit j = (x.testBit j && decide (j ≠ k)) := by
    intro j
    rw [Nat.testBit_and, e1, e2]
    by_cases hj : j < k
    · simp [hj]
    · simp only [if_neg hj]
      by_cases hjk : j = k
      · subst hjk
        simp
      · obtain ⟨d, hd⟩ : ∃ d, j - k = d + 1 := ⟨j - k - 1, by omega⟩
        rw [hd, Nat.testBit_succ, Nat.testBit_succ]
        rw [show (2 * m + 1) / 2 = m by omega, show 2 * m / 2 = m by omega]
        simp [hjk]
  have ek : x.testBit k = true := by rw [e1, if_neg (by omega), Nat.sub_self, Nat.testBit_zero]; simp
  refine ⟨rise_ext (bits_rise x) ?_ ?_, hk⟩
  · rw [List.pairwise_cons]
    refine ⟨fun j hj => ?_, bits_rise _⟩
    rw [mem_bits, e3] at hj
    have h1 := e1 j
    by_cases hjk : j < k
    · rw [if_pos hjk] at h1; rw [h1] at hj; simp at hj
    · have : j ≠ k := by intro e; subst e; simp at hj
      omega
  · intro j
    rw [List.mem_cons, mem_bits, mem_bits, e3]
    by_cases hjk : j = k
    · subst hjk; simp [hk, ek]
    · simp [hjk]

theorem and_lt {x y : Nat} (h : x < 2 ^ 64) : x &&& y < 2 ^ 64 := Nat.lt_of_le_of_lt Nat.and_le_left h

theorem pop_bits : ∀ (f x : Nat), Lib.popAux f x = ((List.range f).filter x.testBit).length
  | 0, _ => rfl
  | f + 1, x => by
    rw [Lib.popAux, List.range_succ_eq_map, List.filter_cons, pop_bits f (x / 2)]
    have e : ((List.range f).map Nat.succ).filter x.testBit = ((List.range f).filter (x / 2).testBit).map Nat.succ := by
      rw [List.filter_map]
      congr 1
      apply List.filter_congr
      intro j _
      simp [Nat.testBit_succ]
    rw [e]
    rw [Nat.testBit_zero]
    by_cases h : x % 2 = 1
    · simp [h, Nat.add_comm]
    · have : x % 2 = 0 := by omega
      simp [this]
theorem ones_bits (x : Nat) : Lib.onesCount x = (bitsOf x).length := pop_bits 64 x
theorem ones_le (x : Nat) : (bitsOf x).length ≤ 64 := by
  unfold bitsOf
  exact Nat.le_trans (List.length_filter_le _ _) (by simp)

end Go.Proofs.YtemmaoapicaloaaDoor.Bt

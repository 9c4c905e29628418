/- Same, by numbers. -/
import Derived.Test.YtemmaoapicaloaaDoorBtFacts0
import Derived.Test.YtemmaoapicaloaaDoorBtSame
namespace Go.Proofs.YtemmaoapicaloaaDoor.Bt
open Go Go.RowKit

theorem sub_all (L M : List Nat) (hL : ∀ i, L.getD i 0 < 18446744073709551616) (hM : ∀ i, M.getD i 0 < 18446744073709551616) : subX (fromL 0 L) M = true ↔ ∀ n, memL L n = true → memL M n = true := by
  have bit : ∀ (x y : Nat), x < 18446744073709551616 → y < 18446744073709551616 → (x &&& (18446744073709551615 - y) = 0 ↔ ∀ j, x.testBit j = true → y.testBit j = true) := fun x y hx hy => by
    have e : 18446744073709551615 - y = 2 ^ 64 - (y + 1) := by omega
    have hb : ∀ j, (x &&& (18446744073709551615 - y)).testBit j = (x.testBit j && !y.testBit j) := fun j => by
      rw [Nat.testBit_and, e, Nat.testBit_two_pow_sub_succ (by omega)]
      by_cases hj : j < 64
      · simp [hj]
      · have : x.testBit j = false := Nat.testBit_lt_two_pow (Nat.lt_of_lt_of_le (show x < 2 ^ 64 by omega) (Nat.pow_le_pow_right (by omega) (by omega)))
        simp [this]
    constructor
    · intro h j hj
      have := hb j
      rw [h, Nat.zero_testBit, hj] at this
      simpa using this.symm
    · intro h
      exact zero_bits fun j => by
        rw [hb]
        cases hxj : x.testBit j
        · rfl
        · rw [h j hxj]; rfl
  unfold subX
  rw [List.all_eq_true]
  constructor
  · intro h n hn
    have hp := memP_all L n
    rw [hn] at hp
    unfold memP at hp
    rw [List.any_eq_true] at hp
    obtain ⟨y, hy, hb⟩ := hp
    simp only [Bool.and_eq_true, decide_eq_true_eq] at hb
    obtain ⟨_, _, h3, _⟩ := from_word 0 L y hy
    have hz := h y hy
    simp only [decide_eq_true_eq] at hz
    rw [Nat.sub_zero] at h3
    have := (bit y.2 (M.getD y.1 0) (by rw [h3]; exact hL _) (hM _)).1 hz (n % 64) hb.2
    unfold memL
    rw [← hb.1]; exact this
  · intro h y hy
    obtain ⟨_, _, h3, _⟩ := from_word 0 L y hy
    rw [Nat.sub_zero] at h3
    simp only [decide_eq_true_eq]
    refine (bit y.2 (M.getD y.1 0) (by rw [h3]; exact hL _) (hM _)).2 fun j hj => ?_
    have hj64 : j < 64 := by
      apply Nat.lt_of_not_le
      intro hle
      have hlt : y.2 < 2 ^ 64 := by rw [h3]; exact hL _
      have : y.2.testBit j = false := Nat.testBit_lt_two_pow (Nat.lt_of_lt_of_le hlt (Nat.pow_le_pow_right (by omega) hle))
      rw [this] at hj; cases hj
    have := h (64 * y.1 + j) (by unfold memL; rw [show (64 * y.1 + j) / 64 = y.1 by omega, show (64 * y.1 + j) % 64 = j by omega, ← h3]; exact hj)
    unfold memL at this
    rwa [show (64 * y.1 + j) / 64 = y.1 by omega, show (64 * y.1 + j) % 64 = j by omega] at this
theorem same_nums (L M : List Nat) (hL : ∀ i, L.getD i 0 < 18446744073709551616) (hM : ∀ i, M.getD i 0 < 18446744073709551616) : (subX (fromL 0 L) M && subX (fromL 0 M) L) = decide (nums L = nums M) := by
  rw [Bool.eq_iff_iff, Bool.and_eq_true, sub_all L M hL hM, sub_all M L hM hL, decide_eq_true_eq]
  constructor
  · rintro ⟨h1, h2⟩
    refine nums_eq fun m => ?_
    rw [Bool.eq_iff_iff]
    exact ⟨h1 m, h2 m⟩
  · intro h
    exact ⟨fun n hn => by rwa [← mem_of_nums h], fun n hn => by rwa [mem_of_nums h]⟩

end Go.Proofs.YtemmaoapicaloaaDoor.Bt

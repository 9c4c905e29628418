/- Sets of bits as rising numbers: plain facts. -/
import Derived.Test.YtemmaoapicaloaaDoorBtAllX
import Derived.Test.YtemmaoapicaloaaDoorBtJoin
namespace Go.Proofs.YtemmaoapicaloaaDoor.Bt
open Go Go.RowKit

/-- two rising lists of the same numbers are one -/
theorem rise_extI : ∀ {l m : List Int}, l.Pairwise (· < ·) → m.Pairwise (· < ·) → (∀ n, n ∈ l ↔ n ∈ m) → l = m
  | [], [], _, _, _ => rfl
  | [], b :: m, _, _, h => absurd ((h b).2 (List.mem_cons_self ..)) (by simp)
  | a :: l, [], _, _, h => absurd ((h a).1 (List.mem_cons_self ..)) (by simp)
  | a :: l, b :: m, hl, hm, h => by
    rw [List.pairwise_cons] at hl hm
    have hab : a = b := by
      rcases List.mem_cons.1 ((h a).1 (List.mem_cons_self ..)) with e | e
      · exact e
      · rcases List.mem_cons.1 ((h b).2 (List.mem_cons_self ..)) with e' | e'
        · exact e'.symm
        · have := hm.1 a e; have := hl.1 b e'; omega
    subst hab
    refine congrArg _ (rise_extI hl.2 hm.2 fun n => ⟨fun hn => ?_, fun hn => ?_⟩)
    · rcases List.mem_cons.1 ((h n).1 (List.mem_cons_of_mem _ hn)) with e | e
      · have := hl.1 n hn; omega
      · exact e
    · rcases List.mem_cons.1 ((h n).2 (List.mem_cons_of_mem _ hn)) with e | e
      · have := hm.1 n hn; omega
      · exact e

theorem memL_cons (x : Nat) (t : List Nat) (m : Nat) : memL (x :: t) m = if m < 64 then x.testBit m else memL t (m - 64) := by
  unfold memL
  by_cases h : m < 64
  · rw [if_pos h, show m / 64 = 0 by omega, Nat.mod_eq_of_lt h]; rfl
  · rw [if_neg h, show m / 64 = (m - 64) / 64 + 1 by omega, show m % 64 = (m - 64) % 64 by omega]
    simp
theorem memL_nil (m : Nat) : memL [] m = false := by unfold memL; simp

theorem allX_cons (x : Nat × Nat) (X : List (Nat × Nat)) : allX (x :: X) = ((bitsOf x.2).map fun j : Nat => (x.1 : Int) * 64 + (j : Int)) ++ allX X := by simp [allX]
theorem all_from : ∀ (k : Nat) (L : List Nat), (allX (fromL k L)).Pairwise (· < ·) ∧ ∀ n : Int, n ∈ allX (fromL k L) ↔ ∃ m : Nat, n = ((64 * k + m : Nat) : Int) ∧ memL L m = true
  | k, [] => by
    refine ⟨by simp [fromL, allX], fun n => ?_⟩
    simp [fromL, allX, memL_nil]
  | k, x :: t => by
    obtain ⟨h1, h2⟩ := all_from (k + 1) t
    have hm : ∀ n : Int, n ∈ ((bitsOf x).map fun j : Nat => (k : Int) * 64 + (j : Int)) ↔ ∃ m : Nat, n = ((64 * k + m : Nat) : Int) ∧ m < 64 ∧ x.testBit m = true := fun n => by
      simp only [List.mem_map, mem_bits]
      exact ⟨fun ⟨j, ⟨a, b⟩, e⟩ => ⟨j, by omega, a, b⟩, fun ⟨j, e, a, b⟩ => ⟨j, ⟨a, b⟩, by omega⟩⟩
    have hr : ((bitsOf x).map fun j : Nat => (k : Int) * 64 + (j : Int)).Pairwise (· < ·) := by
      rw [List.pairwise_map]
      exact (bits_rise x).imp fun h => by omega
    have key : allX (fromL k (x :: t)) = ((bitsOf x).map fun j : Nat => (k : Int) * 64 + (j : Int)) ++ allX (fromL (k + 1) t) := by
      rw [show fromL k (x :: t) = if x = 0 then fromL (k + 1) t else (k, x) :: fromL (k + 1) t from rfl]
      split
      · rename_i h0; subst h0; rw [bits_zero]; rfl
      · rw [allX_cons]
    rw [key]
    refine ⟨List.pairwise_append.2 ⟨hr, h1, fun a ha b hb => ?_⟩, fun n => ?_⟩
    · obtain ⟨m, rfl, hm64, _⟩ := (hm a).1 ha
      obtain ⟨m2, rfl, _⟩ := (h2 b).1 hb
      omega
    · rw [List.mem_append, hm, h2]
      constructor
      · rintro (⟨m, e, h64, hb⟩ | ⟨m, e, hb⟩)
        · exact ⟨m, e, by rw [memL_cons, if_pos h64]; exact hb⟩
        · exact ⟨m + 64, by omega, by rw [memL_cons, if_neg (by omega), Nat.add_sub_cancel]; exact hb⟩
      · rintro ⟨m, e, hb⟩
        rw [memL_cons] at hb
        by_cases h64 : m < 64
        · rw [if_pos h64] at hb; exact .inl ⟨m, e, h64, hb⟩
        · rw [if_neg h64] at hb; exact .inr ⟨m - 64, by omega, hb⟩

/-- the numbers of a set -/
def nums (L : List Nat) : List Int := allX (fromL 0 L)
theorem nums_rise (L : List Nat) : (nums L).Pairwise (· < ·) := (all_from 0 L).1
theorem mem_nums (L : List Nat) (n : Int) : n ∈ nums L ↔ hasI L n = true := by
  unfold nums
  rw [(all_from 0 L).2 n]
  constructor
  · rintro ⟨m, e, h⟩
    have : n = (m : Int) := by omega
    subst this
    simpa [hasI] using h
  · intro h
    have h2 : 0 ≤ n ∧ memL L n.toNat = true := by simpa [hasI] using h
    exact ⟨n.toNat, by omega, h2.2⟩
theorem nums_nat (L : List Nat) (m : Nat) : (m : Int) ∈ nums L ↔ memL L m = true := by
  rw [mem_nums]; simp [hasI]
/-- a rising list of a set's numbers is the set's list -/
theorem nums_is {L : List Nat} {l : List Int} (hr : l.Pairwise (· < ·)) (h : ∀ n, n ∈ l ↔ hasI L n = true) : l = nums L :=
  rise_extI hr (nums_rise L) fun n => (h n).trans (mem_nums L n).symm
theorem nums_eq {L M : List Nat} (h : ∀ m, memL L m = memL M m) : nums L = nums M :=
  rise_extI (nums_rise L) (nums_rise M) fun n => by rw [mem_nums, mem_nums]; unfold hasI; rw [h]
theorem mem_of_nums {L M : List Nat} (h : nums L = nums M) (m : Nat) : memL L m = memL M m := by
  rw [Bool.eq_iff_iff, ← nums_nat, ← nums_nat, h]

theorem memP_from : ∀ (k : Nat) (L : List Nat) (n : Nat), memP (fromL k L) (64 * k + n) = memL L n
  | k, [], n => by simp [fromL, memP, memL_nil]
  | k, x :: t, n => by
    have far : ∀ m, m < 64 → memP (fromL (k + 1) t) (64 * k + m) = false := fun m hm => by
      rw [Bool.eq_false_iff]
      intro h
      unfold memP at h
      rw [List.any_eq_true] at h
      obtain ⟨y, hy, hb⟩ := h
      obtain ⟨h1, _⟩ := from_word (k + 1) t y hy
      simp only [Bool.and_eq_true, decide_eq_true_eq] at hb
      omega
    have ih := memP_from (k + 1) t
    rw [memL_cons]
    have key : memP (fromL k (x :: t)) (64 * k + n) = ((decide (k = (64 * k + n) / 64) && x.testBit ((64 * k + n) % 64)) || memP (fromL (k + 1) t) (64 * k + n)) := by
      rw [show fromL k (x :: t) = if x = 0 then fromL (k + 1) t else (k, x) :: fromL (k + 1) t from rfl]
      split
      · rename_i h0; subst h0; simp
      · simp [memP]
    rw [key]
    by_cases h : n < 64
    · rw [if_pos h, far n h, show (64 * k + n) / 64 = k by omega, show (64 * k + n) % 64 = n by omega]
      simp
    · rw [if_neg h]
      have : ¬ k = (64 * k + n) / 64 := by omega
      have := ih (n - 64)
      rw [show 64 * (k + 1) + (n - 64) = 64 * k + n by omega] at this
      rw [this]
      simp [*]
theorem memP_all (L : List Nat) (n : Nat) : memP (fromL 0 L) n = memL L n := by
  have := memP_from 0 L n
  simpa using this

/-- sets of one room with the same numbers have the same words -/
theorem words_eq {L M : List Nat} (hl : L.length = M.length) (hL : ∀ i, L.getD i 0 < 18446744073709551616) (hM : ∀ i, M.getD i 0 < 18446744073709551616) (h : nums L = nums M) : L = M := by
  apply List.ext_getElem hl
  intro i h1 h2
  have e1 : L.getD i 0 = L[i] := by simp [List.getD, h1]
  have e2 : M.getD i 0 = M[i] := by simp [List.getD, h2]
  rw [← e1, ← e2]
  apply Nat.eq_of_testBit_eq
  intro j
  by_cases hj : j < 64
  · have := mem_of_nums h (64 * i + j)
    unfold memL at this
    rwa [show (64 * i + j) / 64 = i by omega, show (64 * i + j) % 64 = j by omega] at this
  · have f : ∀ x, x < 18446744073709551616 → x.testBit j = false := fun x hx => Nat.testBit_lt_two_pow (Nat.lt_of_lt_of_le (show x < 2 ^ 64 by omega) (Nat.pow_le_pow_right (by omega) (by omega)))
    rw [f _ (hL i), f _ (hM i)]

end Go.Proofs.YtemmaoapicaloaaDoor.Bt

/- Has. -/
import Derived.Test.YtemmaoapicaloaaDoorBtSmall
import Derived.BigQuiet
import Derived.Deep.RegionHeld3
namespace Go.Proofs.YtemmaoapicaloaaDoor.Bt
open Go Go.RowKit

/-- is a number in a set -/
def hasI (L : List Nat) (n : Int) : Bool := decide (0 ≤ n) && memL L n.toNat

theorem and_bit (x k : Nat) (hx : x < 18446744073709551616) (hk : k < 64) : bits .and .u64 (x : Int) ((2 ^ k : Nat) : Int) = ((x &&& 2 ^ k : Nat) : Int) ∧ decide (x &&& 2 ^ k ≠ 0) = x.testBit k := by
  have h1 : 2 ^ k ≤ 2 ^ 63 := Nat.pow_le_pow_right (by omega) (by omega)
  have h2 : 0 < 2 ^ k := Nat.two_pow_pos k
  refine ⟨bits_and_u64_nat x (2 ^ k) hx (by omega), ?_⟩
  have e : ∀ j, (x &&& 2 ^ k).testBit j = (x.testBit j && decide (k = j)) := fun j => by rw [Nat.testBit_and, Nat.testBit_two_pow]
  cases hb : x.testBit k
  · have : x &&& 2 ^ k = 0 := by
      apply Nat.eq_of_testBit_eq
      intro j
      rw [e, Nat.zero_testBit]
      by_cases hj : k = j
      · subst hj; simp [hb]
      · simp [hj]
    simp [this]
  · have : x &&& 2 ^ k ≠ 0 := by
      intro h0
      have := e k
      rw [h0, hb] at this
      simp at this
    simp [this]

set_option maxHeartbeats 1000000 in
theorem has_any (B room : Nat) (v : Value) (L : List Nat) (n : Int) (w : World) (h : SetAt w B room v L) : Calls Tryd.prog 31 #[setV room v, .int .i64 n] w fun e w' => e = .returned (.bool (hasI L n)) ∧ Below w.heap.size w w' := by
  obtain ⟨ao, cap, rfl, hL, hcap, hc⟩ := h.shape
  have hlen := h.len
  have F := Lib.hid (fun w => fits_any room (.slice ao L.length cap) n w)
  by_cases hf : 0 ≤ n ∧ n < room
  · obtain ⟨m, rfl⟩ : ∃ m : Nat, n = m := ⟨n.toNat, by omega⟩
    have hi : m / 64 < L.length := by omega
    obtain ⟨g, rfl, hcell⟩ := hc (m / 64) hi
    have hg : g < w.heap.size := cell_lt hcell
    obtain ⟨q1, q2⟩ := and_bit (L.getD (m / 64) 0) (m % 64) (h.word _) (by omega)
    have e : hasI L (m : Int) = (L.getD (m / 64) 0).testBit (m % 64) := by simp [hasI, memL]
    rw [e, ← q2]
    have C := Lib.hid (fun w => bit_any m w)
    clear q2 e
    generalize L.getD (m / 64) 0 = x at *
    generalize x &&& 2 ^ (m % 64) = y at *
    generalize 2 ^ (m % 64) = p at *
    have hd : (decide (0 ≤ (m : Int)) && decide ((m : Int) < room)) = true := by simp; omega
    rw [hd] at F
    obtain ⟨i, hq⟩ : ∃ i : Nat, i = m / 64 := ⟨_, rfl⟩
    have hq2 : (m : Int) / 64 = (i : Int) := by omega
    rw [← hq] at hi hcell
    have hw : IntKind.i64.wrap (i : Int) = (i : Int) := by
      rw [IntKind.wrap_i64]
      omega
    have hi0 : (0 : Int) ≤ (i : Int) := by omega
    have hi1 : (i : Int) < (L.length : Int) := by omega
    clear hq
    clear hd hlen hc h
    unfold setV at *
    go_enter Tryd.func31, Tryd.ntmps31
    go_wp2
    go_region_held3 (fun W => W.cell? ⟨w.heap.size, 0, none⟩ = some (.int .i64 (room : Nat)) ∧ W.cell? ⟨w.heap.size, 1, none⟩ = some (.slice (some ⟨g, 0, none⟩) L.length cap) ∧ W.cell? ⟨g, i, none⟩ = some (.int .u64 (x : Nat))) (go_keep)
      (first
      | (go_at_call 30; (with_reducible refine (F.out _).mono ?_); rintro e w' ⟨rfl, hw⟩; subst hw)
      | (go_at_call 32; (with_reducible refine (C.out _).mono ?_); rintro e w' ⟨rfl, hw⟩; subst hw))
    go_wp2
    go_ret
    refine ⟨retB ?_, (((Below.refl _ w).alloc (Nat.le_refl _) _).alloc (by simp) _).drew⟩
    rw [Bool.eq_iff_iff]
    simp
  · have e : hasI L n = false := by
      unfold hasI
      by_cases h0 : 0 ≤ n
      · have : memL L n.toNat = false := by
          rw [Bool.eq_false_iff]; intro hm; have := h.inn _ hm; omega
        simp [this]
      · simp [h0]
    rw [e]
    have hd : (decide (0 ≤ n) && decide (n < room)) = false := by simp; omega
    rw [hd] at F
    clear hd e hf hlen hc h
    unfold setV at *
    go_enter Tryd.func31, Tryd.ntmps31
    go_wp2
    have c0 : (w.alloc (.cells #[.int .i64 (room : Nat), .slice ao L.length cap] 34)).cell? ⟨w.heap.size, 0, none⟩ = some (.int .i64 (room : Nat)) := by rw [World.cell?_alloc_new]; rfl
    have c1 : (w.alloc (.cells #[.int .i64 (room : Nat), .slice ao L.length cap] 34)).cell? ⟨w.heap.size, 1, none⟩ = some (.slice ao L.length cap) := by rw [World.cell?_alloc_new]; rfl
    refine wp_region_noPanic ?_
    refine wp_region_held_drew (S := (fun W => W.cell? ⟨w.heap.size, 0, none⟩ = some (.int .i64 (room : Nat)) ∧ W.cell? ⟨w.heap.size, 1, none⟩ = some (.slice ao L.length cap))) (by kernel_rfl) ⟨c0, c1⟩ (fun hS => ?_)
    refine wpAnyH_take (i := 0) (v := ?_) rfl (by kernel_rfl) (by kernel_rfl) (by kernel_rfl) (fun _ _ _ h => h) (Or.inl ⟨by rfl, ?_⟩) hS ?_
    rotate_left
    · (intro W hSw; (try dsimp only at hSw); go_simp <;> with_reducible rfl)
    simp only [Act.put, List.getElem_toArray, List.getElem_cons_zero, List.setIfInBounds_toArray, List.set_cons_zero, List.set_cons_succ]
    refine wpAnyH_take (i := 1) (v := ?_) rfl (by kernel_rfl) (by kernel_rfl) (by kernel_rfl) (fun _ _ _ h => h) (Or.inl ⟨by rfl, ?_⟩) hS ?_
    rotate_left
    · (intro W hSw; (try dsimp only at hSw); go_simp <;> with_reducible rfl)
    simp only [Act.put, List.getElem_toArray, List.getElem_cons_succ, List.getElem_cons_zero, List.setIfInBounds_toArray, List.set_cons_zero, List.set_cons_succ]
    refine wpAnyH_ready (rs := [2]) (by kernel_rfl) (by simp) ?_
    refine AllReadyH.cons rfl (fun K hK => ?_) AllReadyH.nil
    simp only [List.getElem_toArray, List.getElem_cons_succ, List.getElem_cons_zero]
    go_simp
    go_at_call 30
    (with_reducible refine (F.out _).mono ?_)
    rintro e w' ⟨rfl, hw⟩
    subst hw
    refine hK.out _ _ (by go_keep) (fun hS => ?_)
    clear hK K
    try simp only [Act.put, List.getElem_toArray, List.getElem_cons_succ, List.getElem_cons_zero, List.setIfInBounds_toArray, List.set_cons_zero, List.set_cons_succ]
    refine wpAnyH_take (i := 3) (v := ?_) rfl (by kernel_rfl) (by kernel_rfl) (by kernel_rfl) (fun _ _ _ h => h) (Or.inl ⟨by rfl, ?_⟩) hS ?_
    rotate_left
    · (intro W hSw; (try dsimp only at hSw); go_simp <;> with_reducible rfl)
    simp only [Act.put, List.getElem_toArray, List.getElem_cons_succ, List.getElem_cons_zero, List.setIfInBounds_toArray, List.set_cons_zero, List.set_cons_succ]
    refine wpAnyH_take (i := 4) (v := undef) rfl (by kernel_rfl) (by kernel_rfl) (by kernel_rfl) (fun _ _ _ h => h) (Or.inr ⟨by rfl, rfl⟩) hS ?_
    simp only [Act.put, List.getElem_toArray, List.getElem_cons_succ, List.getElem_cons_zero, List.setIfInBounds_toArray, List.set_cons_zero, List.set_cons_succ]
    refine wpAnyH_take (i := 5) (v := undef) rfl (by kernel_rfl) (by kernel_rfl) (by kernel_rfl) (fun _ _ _ h => h) (Or.inr ⟨by rfl, rfl⟩) hS ?_
    simp only [Act.put, List.getElem_toArray, List.getElem_cons_succ, List.getElem_cons_zero, List.setIfInBounds_toArray, List.set_cons_zero, List.set_cons_succ]
    refine wpAnyH_take (i := 6) (v := undef) rfl (by kernel_rfl) (by kernel_rfl) (by kernel_rfl) (fun _ _ _ h => h) (Or.inr ⟨by rfl, rfl⟩) hS ?_
    simp only [Act.put, List.getElem_toArray, List.getElem_cons_succ, List.getElem_cons_zero, List.setIfInBounds_toArray, List.set_cons_zero, List.set_cons_succ]
    refine wpAnyH_take (i := 7) (v := undef) rfl (by kernel_rfl) (by kernel_rfl) (by kernel_rfl) (fun _ _ _ h => h) (Or.inr ⟨by rfl, rfl⟩) hS ?_
    simp only [Act.put, List.getElem_toArray, List.getElem_cons_succ, List.getElem_cons_zero, List.setIfInBounds_toArray, List.set_cons_zero, List.set_cons_succ]
    refine wpAnyH_take (i := 8) (v := undef) rfl (by kernel_rfl) (by kernel_rfl) (by kernel_rfl) (fun _ _ _ h => h) (Or.inr ⟨by rfl, rfl⟩) hS ?_
    simp only [Act.put, List.getElem_toArray, List.getElem_cons_succ, List.getElem_cons_zero, List.setIfInBounds_toArray, List.set_cons_zero, List.set_cons_succ]
    refine wpAnyH_take (i := 9) (v := undef) rfl (by kernel_rfl) (by kernel_rfl) (by kernel_rfl) (fun _ _ _ h => h) (Or.inr ⟨by rfl, rfl⟩) hS ?_
    simp only [Act.put, List.getElem_toArray, List.getElem_cons_succ, List.getElem_cons_zero, List.setIfInBounds_toArray, List.set_cons_zero, List.set_cons_succ]
    refine wpAnyH_take (i := 10) (v := undef) rfl (by kernel_rfl) (by kernel_rfl) (by kernel_rfl) (fun _ _ _ h => h) (Or.inr ⟨by rfl, rfl⟩) hS ?_
    simp only [Act.put, List.getElem_toArray, List.getElem_cons_succ, List.getElem_cons_zero, List.setIfInBounds_toArray, List.set_cons_zero, List.set_cons_succ]
    refine wpAnyH_take (i := 11) (v := undef) rfl (by kernel_rfl) (by kernel_rfl) (by kernel_rfl) (fun _ _ _ h => h) (Or.inr ⟨by rfl, rfl⟩) hS ?_
    simp only [Act.put, List.getElem_toArray, List.getElem_cons_succ, List.getElem_cons_zero, List.setIfInBounds_toArray, List.set_cons_zero, List.set_cons_succ]
    refine wpAnyH_take (i := 12) (v := undef) rfl (by kernel_rfl) (by kernel_rfl) (by kernel_rfl) (fun _ _ _ h => h) (Or.inr ⟨by rfl, rfl⟩) hS ?_
    simp only [Act.put, List.getElem_toArray, List.getElem_cons_succ, List.getElem_cons_zero, List.setIfInBounds_toArray, List.set_cons_zero, List.set_cons_succ]
    refine wpAnyH_take (i := 13) (v := undef) rfl (by kernel_rfl) (by kernel_rfl) (by kernel_rfl) (fun _ _ _ h => h) (Or.inr ⟨by rfl, rfl⟩) hS ?_
    simp only [Act.put, List.getElem_toArray, List.getElem_cons_succ, List.getElem_cons_zero, List.setIfInBounds_toArray, List.set_cons_zero, List.set_cons_succ]
    refine wpAnyH_take (i := 14) (v := ?_) rfl (by kernel_rfl) (by kernel_rfl) (by kernel_rfl) (fun _ _ _ h => h) (Or.inl ⟨by rfl, ?_⟩) hS ?_
    rotate_left
    · (intro W hSw; (try dsimp only at hSw); go_simp <;> with_reducible rfl)
    simp only [Act.put, List.getElem_toArray, List.getElem_cons_succ, List.getElem_cons_zero, List.setIfInBounds_toArray, List.set_cons_zero, List.set_cons_succ]
    refine wpAnyH_take (i := 15) (v := ?_) rfl (by kernel_rfl) (by kernel_rfl) (by kernel_rfl) (fun _ _ _ h => h) (Or.inl ⟨by rfl, ?_⟩) hS ?_
    rotate_left
    · (intro W hSw; (try dsimp only at hSw); go_simp <;> with_reducible rfl)
    simp only [Act.put, List.getElem_toArray, List.getElem_cons_succ, List.getElem_cons_zero, List.setIfInBounds_toArray, List.set_cons_zero, List.set_cons_succ]
    refine wpAnyH_done (by kernel_rfl) ?_ _
    refine NoPanic.normal ?_
    go_wp2
    go_ret
    exact ⟨rfl, (((Below.refl _ w).alloc (Nat.le_refl _) _).drew).alloc (by simp) _⟩

end Go.Proofs.YtemmaoapicaloaaDoor.Bt

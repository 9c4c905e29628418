/- Add. -/
import Derived.Test.YtemmaoapicaloaaDoorBtHas
namespace Go.Proofs.YtemmaoapicaloaaDoor.Bt
open Go Go.RowKit

/-- is there room for a number -/
def fitB (room : Nat) (n : Int) : Bool := decide (0 ≤ n) && decide (n < room)
/-- what Add tells -/
def AddOut (w : World) (B room : Nat) (v : Value) (L : List Nat) (n : Int) (e : Ending) (w' : World) : Prop :=
  ∃ L', e = .returned (.bool (fitB room n && !hasI L n)) ∧ SetAt w' B room v L' ∧ (∀ m : Nat, memL L' m = (memL L m || (fitB room n && decide ((m : Int) = n)))) ∧ w.grownBy w' v.ownBlock

theorem or_bit (x k : Nat) (hx : x < 18446744073709551616) (hk : k < 64) : bits .or .u64 (x : Int) ((2 ^ k : Nat) : Int) = ((x ||| 2 ^ k : Nat) : Int) ∧ x ||| 2 ^ k < 18446744073709551616 ∧ ∀ j, (x ||| 2 ^ k).testBit j = (x.testBit j || decide (j = k)) := by
  have h1 : 2 ^ k ≤ 2 ^ 63 := Nat.pow_le_pow_right (by omega) (by omega)
  refine ⟨bits_or_u64_nat x (2 ^ k) hx (by omega), Nat.or_lt_two_pow (n := 64) hx (by omega), fun j => ?_⟩
  rw [Nat.testBit_or, Nat.testBit_two_pow]
  by_cases h : k = j
  · simp [h]
  · have : ¬ j = k := fun e => h e.symm
    simp [h, this]

theorem grown_row {w W : World} {row : Option Nat} (h : Below w.heap.size w W) : w.grownBy W row :=
  ⟨h.os, h.tape, h.output, h.size, fun k hk _ => h.block k hk⟩

set_option maxHeartbeats 2000000 in
theorem add_new (B room : Nat) (v : Value) (L : List Nat) (m : Nat) (w : World) (h : SetAt w B room v L) (hm : m < room) (hno : memL L m = false) : Calls Tryd.prog 18 #[setV room v, .int .i64 (m : Nat)] w fun e w' => AddOut w B room v L m e w' := by
  obtain ⟨ao, cap, rfl, hL, hcap, hc⟩ := h.shape
  have hlen := h.len
  have F := Lib.hid (fun w => fits_any room (.slice ao L.length cap) m w)
  obtain ⟨i, hi⟩ : ∃ i : Nat, i = m / 64 := ⟨_, rfl⟩
  have hlt : i < L.length := by omega
  obtain ⟨g, rfl, hcell⟩ := hc i hlt
  have hg : g < w.heap.size := cell_lt hcell
  have HH := Lib.hid (fun W hW => has_any B room _ L m W (h.next (w' := W) hW))
  have e1 : hasI L (m : Int) = false := by simp [hasI, hno]
  have e2 : fitB room (m : Int) = true := by simp [fitB]; omega
  have e3 : (decide (0 ≤ (m : Int)) && decide ((m : Int) < room)) = true := e2
  rw [e1] at HH
  rw [e3] at F
  obtain ⟨q1, q2, q3⟩ := or_bit (L.getD i 0) (m % 64) (h.word _) (by omega)
  have C := Lib.hid (fun w => bit_any m w)
  have hq2 : (m : Int) / 64 = (i : Int) := by omega
  have hw : IntKind.i64.wrap (i : Int) = (i : Int) := by
    rw [IntKind.wrap_i64]
    omega
  have hi0 : (0 : Int) ≤ (i : Int) := by omega
  have hi1 : (i : Int) < (L.length : Int) := by omega
  have FIN := Lib.hid (fun (W : World) (hW : Below w.heap.size w W) => (h.next hW).store i (L.getD i 0 ||| 2 ^ (m % 64)) hlt q2 (fun j hj hjb => by
    rw [q3] at hjb
    rcases Bool.or_eq_true_iff.1 hjb with h1 | h1
    · have := h.inn (64 * i + j) (by unfold memL; rw [show (64 * i + j) / 64 = i by omega, show (64 * i + j) % 64 = j by omega]; exact h1)
      exact this
    · simp at h1; omega))
  have MEM := Lib.hid (fun k : Nat => show memL (L.set i (L.getD i 0 ||| 2 ^ (m % 64))) k = (memL L k || (fitB room (m : Int) && decide ((k : Int) = (m : Int)))) by
    rw [memL_set hlt, e2, Bool.true_and]
    by_cases hk : k / 64 = i
    · rw [if_pos hk, q3]
      unfold memL
      rw [hk]
      congr 1
      rw [decide_eq_decide]
      omega
    · rw [if_neg hk]
      have : ¬ (k : Int) = (m : Int) := fun e => hk (by omega)
      simp [this])
  have FZ := Lib.hid (fun (W : World) (hW : Below w.heap.size w W) => ((h.next hW).row.frozenAt i))
  have E := Lib.hid (And.intro e1 e2)
  clear e1 e2 e3 q2 q3 hlen hc h hno hm hi
  generalize hy : L.getD i 0 ||| 2 ^ (m % 64) = y at *
  generalize 2 ^ (m % 64) = p at *
  have HX := Lib.hid hy
  clear hy
  generalize L.getD i 0 = x at *
  unfold setV at *
  go_enter Tryd.func18, Tryd.ntmps18
  go_wp2_with (first
    | (go_at_call 30; (with_reducible refine (F.out _).mono ?_); rintro e w' ⟨rfl, hw⟩; subst hw)
    | (go_at_call 31; (refine (HH.out _ (((Below.refl _ w).alloc (Nat.le_refl _) _).alloc (by simp) _)).mono ?_); rintro e w2 ⟨rfl, hb2⟩))
  have hb1 := ((Below.refl w.heap.size w).alloc (Nat.le_refl _) (.cells #[.int .i64 (room : Nat), .slice (some ⟨g, 0, none⟩) L.length cap] 34)).alloc (by simp) (.cells #[.int .i64 (room : Nat), .slice (some ⟨g, 0, none⟩) L.length cap] 34)
  have hB := hb1.trans (hb2.mono hb1.size)
  have bx : BoxS w2 w.heap.size room (.slice (some ⟨g, 0, none⟩) L.length cap) := (hb2.block w.heap.size (by simp; omega)).trans ((Below.heap_alloc _ _ _ (by simp)).trans (World.alloc_heap_new w _))
  obtain ⟨c0, c1⟩ := bx.cells
  have c2 := cell_next hcell hB
  have fz := FZ.out w2 hB
  obtain ⟨z1, z2⟩ := FIN.out w2 hB
  have Z := Lib.hid (And.intro z1 (grown_trans (grown_row (row := some g) hB) z2))
  clear z1 z2 hb1 hb2 bx hB hcell
  have hg2 : g < w2.heap.size := cell_lt c2
  have hg3 : w.heap.size < w2.heap.size := cell_lt c0
  go_region_with (go_at_call 32; (with_reducible refine (C.out _).mono ?_); rintro e w' ⟨rfl, hw⟩; subst hw)
  all_goals
    go_wp2
    go_ret
    exact ⟨L.set i y, by rw [E.out.1, E.out.2]; rfl, Z.out.1.next ((Below.refl _ _).drew), MEM.out, grown_trans Z.out.2 (grown_row ((Below.refl _ _).drew))⟩

set_option maxHeartbeats 1000000 in
theorem add_out (B room : Nat) (v : Value) (L : List Nat) (n : Int) (w : World) (h : SetAt w B room v L) (hf : fitB room n = false) : Calls Tryd.prog 18 #[setV room v, .int .i64 n] w fun e w' => AddOut w B room v L n e w' := by
  obtain ⟨ao, cap, rfl, hL, hcap, hc⟩ := h.shape
  have F := Lib.hid (fun w => fits_any room (.slice ao L.length cap) n w)
  have e3 : (decide (0 ≤ n) && decide (n < room)) = false := hf
  rw [e3] at F
  have H := Lib.hid (And.intro h hf)
  clear e3 hf hc h
  unfold setV at *
  go_enter Tryd.func18, Tryd.ntmps18
  go_wp2_with (go_at_call 30; (with_reducible refine (F.out _).mono ?_); rintro e w' ⟨rfl, hw⟩; subst hw)
  go_ret
  have hB := ((Below.refl w.heap.size w).alloc (Nat.le_refl _) (.cells #[.int .i64 (room : Nat), .slice ao L.length cap] 34)).alloc (by simp) (.cells #[.int .i64 (room : Nat), .slice ao L.length cap] 34)
  exact ⟨L, by rw [H.out.2]; rfl, H.out.1.next hB, fun m => by rw [H.out.2]; simp, grown_row hB⟩
set_option maxHeartbeats 1000000 in
theorem add_old (B room : Nat) (v : Value) (L : List Nat) (n : Int) (w : World) (h : SetAt w B room v L) (hf : fitB room n = true) (hi : hasI L n = true) : Calls Tryd.prog 18 #[setV room v, .int .i64 n] w fun e w' => AddOut w B room v L n e w' := by
  obtain ⟨ao, cap, rfl, hL, hcap, hc⟩ := h.shape
  have F := Lib.hid (fun w => fits_any room (.slice ao L.length cap) n w)
  have e3 : (decide (0 ≤ n) && decide (n < room)) = true := hf
  have HH := Lib.hid (fun W hW => has_any B room _ L n W (h.next (w' := W) hW))
  rw [e3] at F
  rw [hi] at HH
  have H := Lib.hid (And.intro h (And.intro hf hi))
  clear e3 hf hc h hi
  unfold setV at *
  go_enter Tryd.func18, Tryd.ntmps18
  go_wp2_with (first
    | (go_at_call 30; (with_reducible refine (F.out _).mono ?_); rintro e w' ⟨rfl, hw⟩; subst hw)
    | (go_at_call 31; (refine (HH.out _ (((Below.refl _ w).alloc (Nat.le_refl _) _).alloc (by simp) _)).mono ?_); rintro e w2 ⟨rfl, hb2⟩))
  go_ret
  have hb1 := ((Below.refl w.heap.size w).alloc (Nat.le_refl _) (.cells #[.int .i64 (room : Nat), .slice ao L.length cap] 34)).alloc (by simp) (.cells #[.int .i64 (room : Nat), .slice ao L.length cap] 34)
  have hB := hb1.trans (hb2.mono hb1.size)
  obtain ⟨h, hf, hi⟩ := H.out
  refine ⟨L, by rw [hf, hi]; rfl, h.next hB, fun m => ?_, grown_row hB⟩
  rw [hf, Bool.true_and]
  by_cases hm : (m : Int) = n
  · subst hm
    have : memL L m = true := by simpa [hasI] using hi
    simp [this]
  · simp [hm]
theorem add_any (B room : Nat) (v : Value) (L : List Nat) (n : Int) (w : World) (h : SetAt w B room v L) : Calls Tryd.prog 18 #[setV room v, .int .i64 n] w fun e w' => AddOut w B room v L n e w' := by
  by_cases hf : fitB room n = true
  · by_cases hi : hasI L n = true
    · exact add_old B room v L n w h hf hi
    · have hf2 : 0 ≤ n ∧ n < room := by simpa [fitB] using hf
      obtain ⟨m, rfl⟩ : ∃ m : Nat, n = m := ⟨n.toNat, by omega⟩
      exact add_new B room v L m w h (by omega) (by simpa [hasI] using hi)
  · exact add_out B room v L n w h (by simpa using hf)

end Go.Proofs.YtemmaoapicaloaaDoor.Bt

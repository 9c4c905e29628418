/- The small functions: fits, bit, New, word, open. -/
import Derived.Test.YtemmaoapicaloaaDoorBtMem
import Derived.Test.YtemmaoapicaloaaDoorBtOnes0
import Derived.Laws.Bits64b
import Derived.Laws.Bits128
import Derived.Laws.BitsAll
import Derived.Laws.ShiftsVar
import Derived.Laws.Shifts
namespace Go.Proofs.YtemmaoapicaloaaDoor.Bt
open Go Go.RowKit

theorem bit_any (n : Nat) (w : World) : Calls Tryd.prog 32 #[.int .i64 (n : Nat)] w fun e w' => e = .returned (.int .u64 ((2 ^ (n % 64) : Nat) : Int)) ∧ w' = w := by
  go_enter Tryd.func32, Tryd.ntmps32
  go_wp2
  go_ret
  refine ⟨retU ?_, rfl⟩
  have h1 : 2 ^ (n % 64) ≤ 2 ^ 63 := Nat.pow_le_pow_right (by omega) (by omega)
  rw [IntKind.wrap_u64]
  have e2 : ((2 : Int) ^ (n % 64)) = ((2 ^ (n % 64) : Nat) : Int) := by simp
  rw [e2]
  generalize 2 ^ (n % 64) = p at *
  omega

theorem fits_any (room : Nat) (v : Value) (n : Int) (w : World) : Calls Tryd.prog 30 #[setV room v, .int .i64 n] w fun e w' => e = .returned (.bool (decide (0 ≤ n) && decide (n < room))) ∧ w' = w.alloc (.cells #[.int .i64 (room : Nat), v] 34) := by
  unfold setV
  go_enter Tryd.func30, Tryd.ntmps30
  go_wp2
  all_goals (go_ret; refine ⟨retB ?_, rfl⟩; simp; omega)

theorem pow_lim (d : Nat) : 2 ^ min 64 d ≤ 18446744073709551616 := Nat.pow_le_pow_right (n := 2) (j := 64) (by omega) (by omega)
theorem open_val (d : Nat) : IntKind.u64.wrap (((2 ^ min 64 d % 18446744073709551616 : Nat) : Int) - 1) = ((2 ^ min 64 d - 1 : Nat) : Int) := by
  have h1 := pow_lim d
  have h2 : 0 < 2 ^ min 64 d := Nat.two_pow_pos _
  rw [IntKind.wrap_u64]
  generalize 2 ^ min 64 d = p at *
  omega
theorem shift_one (e : Int) (d : Nat) (he : e = d) : Op.shift .shl .u64 1 .i64 e = pure (.int .u64 ((2 ^ min 64 d % 18446744073709551616 : Nat) : Int)) := by
  subst he
  rw [shift_shl_any .u64 .i64 1 (d : Int) (by omega)]
  have e1 : min (d : Int).toNat IntKind.u64.bits = min 64 d := by
    rw [Int.toNat_natCast, Nat.min_comm]; rfl
  rw [e1, Int.one_mul, show ((2 : Int) ^ min 64 d) = ((2 ^ min 64 d : Nat) : Int) by simp, IntKind.wrap_u64]
  generalize 2 ^ min 64 d = p at *
  congr 2

theorem open_any (room : Nat) (hr : room ≤ 65536) (v : Value) (i : Nat) (hi : i ≤ 1024) (w : World) : Calls Tryd.prog 45 #[setV room v, .int .i64 (i : Nat)] w fun e w' => e = .returned (.int .u64 ((2 ^ min 64 (room - 64 * i) - 1 : Nat) : Int)) ∧ w' = w.alloc (.cells #[.int .i64 (room : Nat), v] 34) := by
  unfold setV
  by_cases hd : (room : Int) - i * 64 < 0
  · have e : room - 64 * i = 0 := by omega
    rw [e]
    clear e
    go_enter Tryd.func45, Tryd.ntmps45
    go_wp2
    go_ret
    exact ⟨rfl, rfl⟩
  · obtain ⟨p, hp⟩ : ∃ p, p = 2 ^ min 64 (room - 64 * i) % 18446744073709551616 := ⟨_, rfl⟩
    obtain ⟨q, hq⟩ : ∃ q, q = 2 ^ min 64 (room - 64 * i) - 1 := ⟨_, rfl⟩
    have s1 := shift_one ((room : Int) - i * 64) (room - 64 * i) (by omega)
    have s2 := open_val (room - 64 * i)
    rw [← hp] at s1 s2
    rw [← hq] at s2 ⊢
    have S1 := Lib.hid s1
    have S2 := Lib.hid s2
    clear s1 s2 hp hq
    go_enter Tryd.func45, Tryd.ntmps45
    go_wp2_with (simp only [S1.out])
    simp only [S2.out]
    go_ret
    exact ⟨rfl, rfl⟩

theorem word_any (room i : Nat) (v : Value) (L : List Nat) (w : World) (ao : Option Addr) (cap : Nat) (hv : v = .slice ao L.length cap) (hc : ∀ i, i < L.length → ∃ g, ao = some ⟨g, 0, none⟩ ∧ w.cell? ⟨g, i, none⟩ = some (.int .u64 (L.getD i 0 : Nat))) :
    Calls Tryd.prog 46 #[setV room v, .int .i64 (i : Nat)] w fun e w' => e = .returned (.int .u64 (L.getD i 0 : Nat)) ∧ w' = w.alloc (.cells #[.int .i64 (room : Nat), v] 34) := by
  subst hv
  unfold setV
  have HC := Lib.hid hc
  clear hc
  by_cases hlt : i < L.length
  · obtain ⟨g, rfl, hcell⟩ := HC.out i hlt
    have hg : g < w.heap.size := cell_lt hcell
    generalize L.getD i 0 = x at *
    go_enter Tryd.func46, Tryd.ntmps46
    go_wp2
    go_ret
    exact ⟨rfl, rfl⟩
  · have e : L.getD i 0 = 0 := by simp [List.getD, Nat.le_of_not_lt hlt]
    rw [e]
    clear e
    go_enter Tryd.func46, Tryd.ntmps46
    go_wp2
    go_ret
    exact ⟨rfl, rfl⟩

theorem make_row (k : Nat) (hk : k ≤ 1024) (B : Nat) (w : World) (hB : B ≤ w.heap.size) : ∃ w', (Instr.makeSlice 32 (.int .i64 (k : Nat)) (.int .i64 (k : Nat))).run Tryd.prog w = .ok (.slice (some ⟨w.heap.size, 0, none⟩) k k) w' ∧
    w'.ownsRow B 55 1 (.slice (some ⟨w.heap.size, 0, none⟩) k k) k (wV (List.replicate k 0)) ∧ w.grownBy w' none := by
  obtain ⟨i0, hi, hz0, hz1, hz2⟩ := info_parts infoU
  obtain ⟨w', h1, h2, h3⟩ := run_makeSlice_full (P := Tryd.prog) w B 32 55 i0 (.int .u64 0) 1 Tryd.underlying32 hi hz0 hz1 .i64 .i64 k (by omega) (by rw [hz2]; omega) (by unfold maxLen; omega) hB
  refine ⟨w', h1, ?_, h3⟩
  have e : (madeCells (Value.int .u64 0).cells (k * 1)).toList = wV (List.replicate k 0) := by
    rw [show (Value.int .u64 0).cells = #[.int .u64 0] from rfl, toList_madeCells_one]
    simp [wV]
  rwa [e] at h2

theorem grown_cell (W : World) (b i : Nat) (x : Value) : W.grownBy (W.setCell ⟨b, i, none⟩ x) (some b) := ⟨rfl, rfl, rfl, by simp, fun k _ hne => heap_setCell_other W ⟨b, i, none⟩ k x (fun e => hne (by rw [e]))⟩
theorem grown_trans {A B C : World} {row : Option Nat} (h : A.grownBy B row) (k : B.grownBy C row) : A.grownBy C row := ⟨k.os.trans h.os, k.tape.trans h.tape, k.output.trans h.output, Nat.le_trans h.size k.size, fun j hj hne => (k.block j (Nat.lt_of_lt_of_le hj h.size) hne).trans (h.block j hj hne)⟩
theorem two_stores {W : World} {b : Nat} {t : TypeId} {a c x y : Value} (h : W.heap[b]? = some (.cells #[a, c] t (0, 0))) :
    ((W.setCell ⟨b, 0, none⟩ x).setCell ⟨b, 1, none⟩ y).heap[b]? = some (.cells #[x, y] t (0, 0)) ∧ W.grownBy ((W.setCell ⟨b, 0, none⟩ x).setCell ⟨b, 1, none⟩ y) (some b) := by
  have h1 := heap_setCell_same W b 0 _ t x h
  have h2 := heap_setCell_same _ b 1 _ t y h1
  exact ⟨h2, grown_trans (grown_cell W b 0 x) (grown_cell _ b 1 y)⟩

theorem zeros_mem (k n : Nat) : memL (List.replicate k 0) n = false := by
  unfold memL
  have : (List.replicate k 0).getD (n / 64) 0 = 0 := by
    simp only [List.getD_eq_getElem?_getD, List.getElem?_replicate]
    split <;> rfl
  rw [this, Nat.zero_testBit]
theorem zeros_at {w : World} {B room : Nat} {v : Value} (hr : room ≤ 65536) (h : w.ownsRow B 55 1 v ((room + 63) / 64) (wV (List.replicate ((room + 63) / 64) 0))) : SetAt w B room v (List.replicate ((room + 63) / 64) 0) := by
  refine ⟨by rw [List.length_replicate]; exact h, by simp, hr, fun i => ?_, fun n hn => by rw [zeros_mem] at hn; cases hn⟩
  simp only [List.getD_eq_getElem?_getD, List.getElem?_replicate]
  split <;> simp

/-- what New tells -/
def NewOut (w : World) (room : Nat) (e : Ending) (w' : World) : Prop :=
  ∃ v, e = .returned (setV room v) ∧ SetAt w' w.heap.size room v (List.replicate ((room + 63) / 64) 0) ∧ Below w.heap.size w w'
theorem new_mid (room : Nat) (hr : room ≤ 65536) (w : World) : Calls Tryd.prog 25 #[.int .i64 (room : Nat)] w fun e w' => NewOut w room e w' := by
  obtain ⟨w1, h1, h2, h3⟩ := make_row ((room + 63) / 64) (by omega) w.heap.size (w.alloc (.cells #[.int .i64 0, .slice none 0 0] 34)) (by simp)
  have e1 : ((room : Int) + 64 - 1) / 64 = (((room + 63) / 64 : Nat) : Int) := by omega
  have E1 := Lib.hid e1
  clear e1
  have b0 := (h3.block w.heap.size (by simp) (by simp)).trans (World.alloc_heap_new w (.cells #[.int .i64 0, .slice none 0 0] 34))
  have c0 : w1.cell? ⟨w.heap.size, 0, none⟩ = some (.int .i64 0) := by simp [World.cell?, b0]
  have c1 : w1.cell? ⟨w.heap.size, 1, none⟩ = some (.slice none 0 0) := by simp [World.cell?, b0]
  have f0 : w1.frozen? ⟨w.heap.size, 0, none⟩ = false := by simp [World.frozen?, b0]
  have f1 : w1.frozen? ⟨w.heap.size, 1, none⟩ = false := by simp [World.frozen?, b0]
  have hb : Below w.heap.size w w1 := ((Below.refl _ w).alloc (Nat.le_refl _) _).grown h3 (by simp) (fun k e => by cases e)
  simp only [World.size_alloc] at h1 h2
  obtain ⟨m1, m2⟩ := two_stores (x := .int .i64 ((room : Nat) : Int)) (y := .slice (some ⟨w.heap.size + 1, 0, none⟩) ((room + 63) / 64) ((room + 63) / 64)) b0
  have H2 := Lib.hid (And.intro (h2.kept m2 (.inr (by simp [Value.ownBlock]))) (hb.grown m2 (by have := hb.size; omega) (fun k e => by cases e; exact Nat.le_refl _)))
  have H1 := Lib.hid (And.intro h1 m1)
  clear h1 h2 h3 m1 m2 b0 hb
  go_enter Tryd.func25, Tryd.ntmps25
  go_wp2
  obtain ⟨h1, m1⟩ := H1.out
  rw [E1.out, h1]
  clear h1
  go_wp2
  refine bodyPost_ret (results_cell_row rfl _ _ w.heap.size 34 #[.int .i64 ((room : Nat) : Int), .slice (some ⟨w.heap.size + 1, 0, none⟩) ((room + 63) / 64) ((room + 63) / 64)] (0, 0) _ rfl m1 Tryd.underlying34 rfl (by kernel_rfl)) rfl ?_
  exact ⟨_, rfl, zeros_at (by omega) H2.out.1, H2.out.2⟩
theorem new_low (n : Int) (hn : n < 0) (w : World) : Calls Tryd.prog 25 #[.int .i64 n] w fun e w' => NewOut w 0 e w' := by
  obtain ⟨w1, h1, h2, h3⟩ := make_row ((0 + 63) / 64) (by omega) w.heap.size (w.alloc (.cells #[.int .i64 0, .slice none 0 0] 34)) (by simp)
  have b0 := (h3.block w.heap.size (by simp) (by simp)).trans (World.alloc_heap_new w (.cells #[.int .i64 0, .slice none 0 0] 34))
  have c0 : w1.cell? ⟨w.heap.size, 0, none⟩ = some (.int .i64 0) := by simp [World.cell?, b0]
  have c1 : w1.cell? ⟨w.heap.size, 1, none⟩ = some (.slice none 0 0) := by simp [World.cell?, b0]
  have f0 : w1.frozen? ⟨w.heap.size, 0, none⟩ = false := by simp [World.frozen?, b0]
  have f1 : w1.frozen? ⟨w.heap.size, 1, none⟩ = false := by simp [World.frozen?, b0]
  have hb : Below w.heap.size w w1 := ((Below.refl _ w).alloc (Nat.le_refl _) _).grown h3 (by simp) (fun k e => by cases e)
  simp only [World.size_alloc] at h1 h2
  obtain ⟨m1, m2⟩ := two_stores (x := .int .i64 ((0 : Nat) : Int)) (y := .slice (some ⟨w.heap.size + 1, 0, none⟩) ((0 + 63) / 64) ((0 + 63) / 64)) b0
  have H2 := Lib.hid (And.intro (h2.kept m2 (.inr (by simp [Value.ownBlock]))) (hb.grown m2 (by have := hb.size; omega) (fun k e => by cases e; exact Nat.le_refl _)))
  have H1 := Lib.hid (And.intro h1 m1)
  clear h1 h2 h3 m1 m2 b0 hb
  go_enter Tryd.func25, Tryd.ntmps25
  go_wp2
  obtain ⟨h1, m1⟩ := H1.out
  rw [show (Instr.makeSlice 32 (.int .i64 0) (.int .i64 0)) = (Instr.makeSlice 32 (.int .i64 (((0 + 63) / 64 : Nat) : Int)) (.int .i64 (((0 + 63) / 64 : Nat) : Int))) from rfl, h1]
  clear h1
  go_wp2
  refine bodyPost_ret (results_cell_row rfl _ _ w.heap.size 34 #[.int .i64 ((0 : Nat) : Int), .slice (some ⟨w.heap.size + 1, 0, none⟩) ((0 + 63) / 64) ((0 + 63) / 64)] (0, 0) _ rfl m1 Tryd.underlying34 rfl (by kernel_rfl)) rfl ?_
  exact ⟨_, rfl, zeros_at (by omega) H2.out.1, H2.out.2⟩
theorem new_far (n : Int) (hn : 65536 < n) (w : World) : Calls Tryd.prog 25 #[.int .i64 n] w fun e w' => NewOut w 65536 e w' := by
  obtain ⟨w1, h1, h2, h3⟩ := make_row ((65536 + 63) / 64) (by omega) w.heap.size (w.alloc (.cells #[.int .i64 0, .slice none 0 0] 34)) (by simp)
  have b0 := (h3.block w.heap.size (by simp) (by simp)).trans (World.alloc_heap_new w (.cells #[.int .i64 0, .slice none 0 0] 34))
  have c0 : w1.cell? ⟨w.heap.size, 0, none⟩ = some (.int .i64 0) := by simp [World.cell?, b0]
  have c1 : w1.cell? ⟨w.heap.size, 1, none⟩ = some (.slice none 0 0) := by simp [World.cell?, b0]
  have f0 : w1.frozen? ⟨w.heap.size, 0, none⟩ = false := by simp [World.frozen?, b0]
  have f1 : w1.frozen? ⟨w.heap.size, 1, none⟩ = false := by simp [World.frozen?, b0]
  have hb : Below w.heap.size w w1 := ((Below.refl _ w).alloc (Nat.le_refl _) _).grown h3 (by simp) (fun k e => by cases e)
  simp only [World.size_alloc] at h1 h2
  obtain ⟨m1, m2⟩ := two_stores (x := .int .i64 ((65536 : Nat) : Int)) (y := .slice (some ⟨w.heap.size + 1, 0, none⟩) ((65536 + 63) / 64) ((65536 + 63) / 64)) b0
  have H2 := Lib.hid (And.intro (h2.kept m2 (.inr (by simp [Value.ownBlock]))) (hb.grown m2 (by have := hb.size; omega) (fun k e => by cases e; exact Nat.le_refl _)))
  have H1 := Lib.hid (And.intro h1 m1)
  clear h1 h2 h3 m1 m2 b0 hb
  go_enter Tryd.func25, Tryd.ntmps25
  go_wp2
  obtain ⟨h1, m1⟩ := H1.out
  rw [show (Instr.makeSlice 32 (.int .i64 1024) (.int .i64 1024)) = (Instr.makeSlice 32 (.int .i64 (((65536 + 63) / 64 : Nat) : Int)) (.int .i64 (((65536 + 63) / 64 : Nat) : Int))) from rfl, h1]
  clear h1
  go_wp2
  refine bodyPost_ret (results_cell_row rfl _ _ w.heap.size 34 #[.int .i64 ((65536 : Nat) : Int), .slice (some ⟨w.heap.size + 1, 0, none⟩) ((65536 + 63) / 64) ((65536 + 63) / 64)] (0, 0) _ rfl m1 Tryd.underlying34 rfl (by kernel_rfl)) rfl ?_
  exact ⟨_, rfl, zeros_at (by omega) H2.out.1, H2.out.2⟩
/-- the room that a set gets -/
def roomF (n : Int) : Nat := if n < 0 then 0 else if 65536 < n then 65536 else n.toNat
theorem room_le (n : Int) : roomF n ≤ 65536 := by unfold roomF; split; omega; split <;> omega
theorem new_any (n : Int) (w : World) : Calls Tryd.prog 25 #[.int .i64 n] w fun e w' => NewOut w (roomF n) e w' := by
  unfold roomF
  by_cases h0 : n < 0
  · rw [if_pos h0]; exact new_low n h0 w
  · by_cases h1 : 65536 < n
    · rw [if_neg h0, if_pos h1]; exact new_far n h1 w
    · rw [if_neg h0, if_neg h1]
      obtain ⟨m, rfl⟩ : ∃ m : Nat, n = m := ⟨n.toNat, by omega⟩
      rw [Int.toNat_natCast]
      exact new_mid m (by omega) w

end Go.Proofs.YtemmaoapicaloaaDoor.Bt

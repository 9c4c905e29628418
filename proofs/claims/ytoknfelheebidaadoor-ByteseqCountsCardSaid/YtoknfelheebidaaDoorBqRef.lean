/- Does a text match a row, how many, any. -/
import Derived.Test.YtoknfelheebidaaDoorBqMem
import Derived.Test.YtoknfelheebidaaDoorUtGuess
import Derived.BigQuiet
import Derived.Deep.QuietTactic
namespace Go.Proofs.YtoknfelheebidaaDoor.Bq
open Go Go.RowKit Go.Shelf Go.Proofs.YtoknfelheebidaaDoor.Ut Go.Proofs.YtoknfelheebidaaDoor.Rg

/-- a slice that reads as these rows -/
def RowsAt (w : World) (v : Value) (L : List (List R)) : Prop :=
  (v = .slice none 0 0 ∧ L = []) ∨ ∃ (a : Addr) (cap : Nat), v = .slice (some a) L.length cap ∧ L.length ≤ maxLen ∧ ∀ i, i < L.length → ∃ x, w.cell? (a.add i) = some x ∧ RngsAt w x (nthL L i)
theorem RowsAt.next {w w' : World} {v : Value} {L : List (List R)} (h : RowsAt w v L) (hb : Below w.heap.size w w') : RowsAt w' v L := by
  rcases h with h | ⟨a, cap, hv, hm, hc⟩
  · exact .inl h
  · exact .inr ⟨a, cap, hv, hm, fun i hi => by obtain ⟨x, h1, h2⟩ := hc i hi; exact ⟨x, cell_next h1 hb, h2.next hb⟩⟩
theorem RowsAt.shape {w : World} {v : Value} {L : List (List R)} (h : RowsAt w v L) :
    ∃ (ao : Option Addr) (cap : Nat), v = .slice ao L.length cap ∧ L.length ≤ 9223372036854775807 ∧ ∀ i, i < L.length → ∃ g x, ao = some g ∧ w.cell? (g.add i) = some x ∧ RngsAt w x (nthL L i) := by
  rcases h with ⟨rfl, rfl⟩ | ⟨a, cap, hv, hm, hc⟩
  · exact ⟨none, 0, rfl, by simp, fun i hi => by simp at hi⟩
  · exact ⟨some a, cap, hv, by unfold maxLen at hm; omega, fun i hi => by obtain ⟨x, h1, h2⟩ := hc i hi; exact ⟨a, x, rfl, h1, h2⟩⟩
theorem RowsOwn.at' {B : Nat} {w : World} {v : Value} {L : List (List R)} {xs : List Value} (h : RowsOwn B w v L xs) : RowsAt w v L := by
  have hl : xs.length = L.length := by have := h.own.1; omega
  rcases h.own.2 with ⟨rfl, h0⟩ | ⟨g, cap, cur, rfl, _, hg, hn, hm, _, ht⟩
  · exact .inl ⟨rfl, List.eq_nil_of_length_eq_zero h0⟩
  · refine .inr ⟨⟨g, 0, none⟩, cap, rfl, by omega, fun i hi => ?_⟩
    obtain ⟨x, h1, h2⟩ := h.row i hi
    refine ⟨x, ?_, rngs_of_row h2⟩
    rw [add_zero]
    rw [← ht, List.getElem?_take] at h1
    split at h1
    · simp [World.cell?, hg]; simpa using h1
    · cases h1

theorem bdN' (w : World) (k : Nat) : Below w.heap.size w (w.drewN k) := ⟨rfl, rfl, rfl, Nat.le_refl _, fun _ _ => rfl⟩
theorem int_at {s : ByteArray} {k : Nat} (h : k < s.size) : (ints s.data.toList).drop k = (s[k].toNat : Int) :: (ints s.data.toList).drop (k + 1) := by
  have h1 : k < (ints s.data.toList).length := by simp [ints]; exact h
  rw [List.drop_eq_getElem_cons h1]
  simp [ints]
  rfl
theorem inZ_at {row : List R} {s : ByteArray} {k : Nat} (h1 : k < row.length) (h2 : k < s.size) : inZ (row.drop k) ((ints s.data.toList).drop k) = (decide ((Rg.nth row k).1 ≤ (s[k].toNat : Int)) && decide ((s[k].toNat : Int) ≤ (Rg.nth row k).2) && inZ (row.drop (k + 1)) ((ints s.data.toList).drop (k + 1))) := by
  rw [List.drop_eq_getElem_cons h1, int_at h2, inZ, nth_eq h1]
theorem inZ_end {row : List R} {s : ByteArray} (h : row.length = s.size) : inZ (row.drop s.size) ((ints s.data.toList).drop s.size) = true := by
  rw [List.drop_of_length_le (by omega), List.drop_of_length_le (by simp [ints])]; rfl
theorem match_len {row : List R} {s : ByteArray} (h : row.length ≠ s.size) : matchB row s.data.toList = false := by
  unfold matchB
  rw [Bool.and_eq_false_iff]; right
  rw [← Bool.not_eq_true]
  intro h2
  have := inZ_len h2
  rw [ints_len] at this
  exact h (by simpa using this)
theorem match_nil {row : List R} {s : ByteArray} (h : s.size = 0) : matchB row s.data.toList = false := by
  unfold matchB
  rw [Lib.size_eq s] at h
  rw [h]; rfl
theorem match_in {row : List R} {s : ByteArray} (h : 0 < s.size) : matchB row s.data.toList = inZ (row.drop 0) ((ints s.data.toList).drop 0) := by
  unfold matchB
  rw [Lib.size_eq s] at h
  rw [decide_eq_true h, Bool.true_and]; rfl

set_option maxHeartbeats 2000000 in
theorem rmatch_any (row : List R) (s : ByteArray) (v : Value) (w : World) (hv : RngsAt w v row) (hs : s.size ≤ maxLen) :
    Calls Tryd.prog 22 #[v, .string s] w fun e w' => e = .returned (.bool (matchB row s.data.toList)) ∧ Below w.heap.size w w' := by
  unfold maxLen at hs
  obtain ⟨ao, cap, rfl, hm, hcs⟩ := hv.shape
  have HC := Lib.hid hcs
  clear hcs hv
  by_cases h0 : 0 < s.size
  · by_cases hlen : row.length = s.size
    · rw [match_in h0]
      have t0 : ((s.size : Int) == 0) = false := by rw [beq_eq_false_iff_ne]; omega
      have t1 : ((row.length : Int) != (s.size : Int)) = false := by rw [hlen]; simp
      have HLEN := Lib.hid hlen
      have hle : row.length ≤ s.size ∧ s.size ≤ row.length := by omega
      obtain ⟨l1, l2⟩ := hle
      clear hlen
      go_enter Tryd.func22, Tryd.ntmps22
      go_wp2
      go_loopw [5] (fun i wr => ∃ k : Nat, i = .int .i64 k ∧ k ≤ s.size ∧ inZ (row.drop 0) ((ints s.data.toList).drop 0) = inZ (row.drop k) ((ints s.data.toList).drop k) ∧ Below w.heap.size w wr) (fun i _ => s.size - (intOf i).toNat)
      case atStart => exact ⟨0, rfl, Nat.zero_le _, rfl, Below.refl _ _⟩
      case round =>
        obtain ⟨k, rfl, hk, he, hb⟩ := hrel
        by_cases hlt : k < s.size
        · obtain ⟨g, rfl, c1, c2⟩ := HC.out k (by omega)
          replace c1 := cell_next c1 hb
          replace c2 := cell_next c2 hb
          rw [inZ_at (by omega) hlt] at he
          have HE := Lib.hid he
          have HB := Lib.hid hb
          have n1 : (k : Int) < row.length := by omega
          have n2 : (k : Int) < s.size := by omega
          have z1 : IntKind.i64.wrap (s[k].toNat : Int) = (s[k].toNat : Int) := by have := s[k].toNat_lt; rw [IntKind.wrap_i64]; omega
          clear he hb
          by_cases g1 : (s[k].toNat : Int) < (Rg.nth row k).1
          · have hr : inZ (row.drop 0) ((ints s.data.toList).drop 0) = false := by rw [HE.out, show decide ((Rg.nth row k).1 ≤ (s[k].toNat : Int)) = false by simp; omega]; rfl
            have HR := Lib.hid hr
            clear hr
            go_wp2
            go_quiet (fail)
            go_wp2
            go_ret
            exact ⟨retB HR.out.symm, HB.out.trans ((bdN' _ _).mono HB.out.size)⟩
          · by_cases g2 : (Rg.nth row k).2 < (s[k].toNat : Int)
            · have hr : inZ (row.drop 0) ((ints s.data.toList).drop 0) = false := by rw [HE.out, show decide ((s[k].toNat : Int) ≤ (Rg.nth row k).2) = false by simp; omega]; simp
              have HR := Lib.hid hr
              clear hr
              go_wp2
              go_quiet (fail)
              go_wp2
              go_ret
              exact ⟨retB HR.out.symm, HB.out.trans ((bdN' _ _).mono HB.out.size)⟩
            · have hr := HE.out
              rw [show decide ((Rg.nth row k).1 ≤ (s[k].toNat : Int)) = true by simp; omega, show decide ((s[k].toNat : Int) ≤ (Rg.nth row k).2) = true by simp; omega, Bool.true_and, Bool.true_and] at hr
              have HR := Lib.hid hr
              clear hr
              go_wp2
              go_quiet (fail)
              go_wp2
              go_roundw
              case rel => exact ⟨k + 1, by go_num, by omega, HR.out, HB.out.trans ((bdN' _ _).mono HB.out.size)⟩
              case measure => simp [intOf]; omega
        · obtain rfl : k = s.size := by omega
          rw [inZ_end HLEN.out] at he
          have HE := Lib.hid he
          clear he
          go_wp2
          go_ret
          exact ⟨retB HE.out.symm, hb⟩
    · have HL := Lib.hid (match_len hlen)
      have t0 : ((s.size : Int) == 0) = false := by rw [beq_eq_false_iff_ne]; omega
      have t1 : ((row.length : Int) != (s.size : Int)) = true := by rw [bne_iff_ne]; omega
      clear hlen
      go_enter Tryd.func22, Tryd.ntmps22
      go_wp2
      go_ret
      exact ⟨retB HL.out.symm, Below.refl _ _⟩
  · have HL := Lib.hid (match_nil (row := row) (s := s) (by omega))
    have t0 : ((s.size : Int) == 0) = true := by rw [beq_iff_eq]; omega
    clear h0
    go_enter Tryd.func22, Tryd.ntmps22
    go_wp2
    go_ret
    exact ⟨retB HL.out.symm, Below.refl _ _⟩

end Go.Proofs.YtoknfelheebidaaDoor.Bq

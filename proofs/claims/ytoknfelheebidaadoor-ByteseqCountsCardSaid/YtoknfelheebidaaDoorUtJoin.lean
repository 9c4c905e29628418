/- Walks of Join and Put; slices of numbers as a call meets them. -/
import Derived.Test.YtoknfelheebidaaDoorUtBuild
import Derived.Test.YtoknfelheebidaaDoorInts
namespace Go.Proofs.YtoknfelheebidaaDoor.Ut
open Go.RowKit

theorem join_take (l : List Int) {k : Nat} (h : k < l.length) : joinL (l.take (k + 1)) = joinL (l.take k) ++ putL (l.getD k 0) := by
  have e : l.getD k 0 = l[k] := by simp [List.getD, h]
  rw [List.take_succ_eq_append_getElem h, joinL_snoc, e]
theorem cells_bad {l : List Int} {k : Nat} (h : k < l.length) (hs : scalar (l.getD k 0) = false) : Lib.byteCells (joinL (l.take (k + 1))) = Lib.byteCells (joinL (l.take k)) := by
  rw [join_take l h, put_bad hs, List.append_nil]
theorem cells_good {l : List Int} {k : Nat} (h : k < l.length) (hs : scalar (l.getD k 0) = true) : Lib.byteCells (joinL (l.take (k + 1))) = Lib.byteCells (joinL (l.take k)) ++ Lib.runeCells (l.getD k 0) := by
  rw [join_take l h, put_good hs, ← Lib.byteCells_encodeRune]
  simp [Lib.byteCells]
theorem cells_len (l : List Int) (k : Nat) (hk : k ≤ l.length) : (Lib.byteCells (joinL (l.take k))).length ≤ 4 * l.length := by
  have := join_len (l.take k)
  simp only [Lib.byteCells, List.length_map, List.length_take] at this ⊢
  omega

set_option maxRecDepth 100000 in
set_option maxHeartbeats 800000 in
theorem join_any (v : Value) (l : List Int) (w : World) (h : IntsAt w v l) (hl : l.length ≤ 35184372088000) :
    Calls Tryd.prog 34 #[v] w fun e w' => e = .returned (.string ⟨(joinL l).toArray⟩) ∧ Below w.heap.size w w' := by
  rcases h with ⟨rfl, rfl⟩ | ⟨a, cap, rfl, hm, hc⟩
  · have hf := Lib.IsBuilderF.of (Lib.fresh_isBuilder 65 5 w)
    have HF := Lib.hid (Tryd.Builder_String_any_f w.heap.size w.heap.size [] _ hf (by simp))
    clear hf
    go_enter Tryd.func34, Tryd.ntmps34
    go_wp2
    go_loopw [8] (fun i wr => i = .int .i64 0 ∧ wr = w.alloc (.cells #[.pointer none, .slice none 0 0] 65)) (fun i _ => 1)
    case atStart => exact ⟨rfl, rfl⟩
    case round =>
      obtain ⟨rfl, rfl⟩ := hrel
      go_wp2_with (go_at_call 39; refine HF.out.mono ?_; rintro e w' ⟨rfl, _, hb2⟩)
      go_ret
      exact ⟨rfl, ((Below.refl _ w).alloc (Nat.le_refl _) _).trans hb2⟩
  · have hf := Lib.IsBuilderF.of (Lib.fresh_isBuilder 65 5 w)
    unfold maxLen at hm
    have HC := Lib.hid hc
    clear hc
    go_enter Tryd.func34, Tryd.ntmps34
    go_wp2
    go_loopw [8] (fun i wr => ∃ k : Nat, k ≤ l.length ∧ Lib.IsBuilderF 65 5 w.heap.size w.heap.size (Lib.byteCells (joinL (l.take k))) wr ∧ Below w.heap.size w wr ∧ i = .int .i64 k) (fun i _ => l.length - (intOf i).toNat)
    case atStart => exact ⟨0, by omega, hf, (Below.refl _ w).alloc (Nat.le_refl _) _, rfl⟩
    case round =>
      obtain ⟨k, hk, hI, hb, rfl⟩ := hrel
      have hsz := hb.size
      by_cases hlt : k < l.length
      · have hcell : wr.cell? (a.add k) = some (.int .i64 (l.getD k 0)) := cell_next (HC.out k hlt) hb
        have hclen := cells_len l k hk
        have cb := Lib.hid (fun h => cells_bad (l := l) hlt h)
        have cg := Lib.hid (fun h => cells_good (l := l) hlt h)
        generalize l.getD k 0 = c at *
        have s1 := Lib.hid (fun w => scalar_any c w)
        cases hsc : scalar c with
        | false =>
          rw [hsc] at s1
          go_wp2_with (go_at_call 32; refine (s1.out _).mono ?_; rintro e w' ⟨rfl, rfl⟩)
          go_roundw
          case rel => exact ⟨k + 1, by omega, by rw [cb.out hsc]; exact hI, hb, by go_num⟩
          case measure => simp [intOf]; omega
        | true =>
          rw [hsc] at s1
          have hr := (scalar_iff c).1 hsc
          have hr0 : 0 ≤ c := by omega
          have hr1 : c ≤ 1114111 := by omega
          clear hr
          have w1 := Lib.hid (write_rune w.heap.size w.heap.size _ c (by omega) (by omega) wr hI (by omega) hsz)
          go_wp2_with (first
            | (go_at_call 32; refine (s1.out _).mono ?_; rintro e w' ⟨rfl, rfl⟩)
            | (go_at_call 38; refine w1.out.mono ?_; rintro e w' ⟨rfl, hI2, hb2⟩))
          go_roundw
          case rel => exact ⟨k + 1, by omega, by rw [cg.out hsc]; exact hI2, hb.trans hb2, by go_num⟩
          case measure => simp [intOf]; omega
      · obtain rfl : k = l.length := by omega
        rw [List.take_length] at hI
        have HF := Lib.hid (Tryd.Builder_String_any_f w.heap.size w.heap.size (joinL l) _ hI hsz)
        go_wp2_with (go_at_call 39; refine HF.out.mono ?_; rintro e w' ⟨rfl, _, hb2⟩)
        go_ret
        exact ⟨rfl, hb.trans hb2⟩

set_option maxRecDepth 100000 in
set_option maxHeartbeats 400000 in
theorem put_any (c : Int) (w : World) :
    Calls Tryd.prog 27 #[.int .i64 c] w fun e w' => e = .returned (.string ⟨(putL c).toArray⟩) ∧ Below w.heap.size w w' := by
  have hj : Calls Tryd.prog 34 #[.slice (some ⟨w.heap.size, 0, none⟩) 1 1] (w.alloc (.cells #[.int .i64 c] 3)) fun e w' => e = .returned (.string ⟨(putL c).toArray⟩) ∧ Below w.heap.size w w' := by
    refine (join_any _ [c] _ (.inr ⟨_, 1, rfl, by unfold maxLen; simp, fun i hi => ?_⟩) (by simp)).mono ?_
    · obtain rfl : i = 0 := by simpa using hi
      rw [show (⟨w.heap.size, 0, none⟩ : Addr).add 0 = ⟨w.heap.size, 0, none⟩ from rfl, World.cell?_alloc_new]
      rfl
    · rintro e w' ⟨rfl, hb⟩
      exact ⟨by simp [joinL], ((Below.refl _ w).alloc (Nat.le_refl _) _).trans (hb.mono (by simp))⟩
  have HJ := Lib.hid hj
  clear hj
  go_enter Tryd.func27, Tryd.ntmps27
  go_wp2_with (go_at_call 34; refine HJ.out.mono ?_; rintro e w' ⟨rfl, hb⟩)
  go_ret
  exact ⟨rfl, hb⟩

end Go.Proofs.YtoknfelheebidaaDoor.Ut

/- The heap's Push and Pop. -/
import Derived.Test.YtdmceapbobkklaaDoorRgDown
namespace Go.Proofs.YtdmceapbobkklaaDoor.Rg
open Go.RowKit Go.Shelf

theorem key_snoc {l : List R} {r : R} {i : Nat} (h : i < l.length) : key (l ++ [r]) i = key l i := by
  unfold key
  rw [nth_eq h, nth_eq (by simp; omega), List.getElem_append_left h]
/-- a range as it lies in an interface -/
abbrev boxR (r : R) : Value := .iface 75 (.agg #[.int .i64 r.1, .int .i64 r.2])

set_option maxHeartbeats 1600000 in
theorem hpush_any (B pb : Nat) (v : Value) (xs : List R) (r : R) (w : World) (hp : Pile B pb v xs w) (hh : Heap (key xs) xs.length) (hM : xs.length < 1000000) :
    Calls Tryd.prog 66 #[ifc pb, boxR r] w fun e w' => e = .returned (.tuple #[]) ∧ ∃ v' ys, ys.Perm (xs ++ [r]) ∧ Heap (key ys) ys.length ∧ Pile B pb v' ys w' ∧ Below B w w' := by
  have e1 := ePush
  have e2 := eLen
  have e3 := fun N => byRef w pb _ _ N fPush
  have c1 := push_any B pb v xs r w hp (by omega)
  have hup : HeapUp (key (xs ++ [r])) (xs.length + 1) xs.length := Heap.pushed (hh.congr fun i hi => key_snoc hi)
  have c2 : ∀ w1 g cap, Pile B pb (.slice (some ⟨g, 0, none⟩) (xs.length + 1) cap) (xs ++ [r]) w1 → Below B w w1 → Calls Tryd.prog 70 #[ifc pb, .int .i64 xs.length] w1 fun e w' => e = .returned (.tuple #[]) ∧ ∃ v' ys, ys.Perm (xs ++ [r]) ∧ Heap (key ys) ys.length ∧ Pile B pb v' ys w' ∧ Below B w w' := by
    intro w1 g cap hp1 hb
    have hl : (xs ++ [r]).length = xs.length + 1 := by simp
    refine (up_any B pb g cap (xs ++ [r]) xs.length w1 (by rw [hl]; exact hp1) (by omega) (by rw [hl]; exact hup)).mono ?_
    rintro e w' ⟨rfl, ys, h1, h2, h3, h4⟩
    exact ⟨rfl, _, ys, h1, h2, h3, hb.trans (hp1.below h4)⟩
  have C1 := Lib.hid c1
  have C2 := Lib.hid c2
  clear hp hh c1 c2 hup
  go_enter Tryd.func66, Tryd.ntmps66
  go_wp2_with (first
    | (go_at_fn 105; refine C1.out.mono ?_; rintro e w1 ⟨rfl, v', hp1, hb1⟩; obtain ⟨g, cap, rfl, _, _⟩ := hp1.row.form (by simp); rw [show (xs ++ [r]).length = xs.length + 1 by simp] at hp1; have e4 := fun N => byVal w1 pb _ hp1.cell _ _ N fLen; have HP1 := Lib.hid hp1; have HB1 := Lib.hid hb1; clear hp1 hb1)
    | (go_at_fn 101; refine (len_any _ _ _ _).mono ?_; rintro e w2 ⟨rfl, rfl⟩)
    | (go_at_call 70; refine (C2.out _ _ _ HP1.out HB1.out).mono ?_; rintro e w2 ⟨rfl, h⟩))
  go_end0
  exact ⟨rfl, h⟩

set_option maxHeartbeats 1600000 in
theorem hpop_any (B pb g cap : Nat) (xs : List R) (w : World) (hp : Pile B pb (.slice (some ⟨g, 0, none⟩) xs.length cap) xs w) (hh : Heap (key xs) xs.length) (h0 : 0 < xs.length) (hM : xs.length ≤ 1000000) :
    Calls Tryd.prog 67 #[ifc pb] w fun e w' => ∃ (r : R) (ys : List R), e = .returned (boxR r) ∧ (ys ++ [r]).Perm xs ∧ Heap (key ys) ys.length ∧ (∀ q ∈ ys, r.1 ≤ q.1) ∧ Pile B pb (.slice (some ⟨g, 0, none⟩) ys.length cap) ys w' ∧ Fr pb (some g) w w' := by
  have e1 := ePop
  have e2 := eLen
  have e3 := eSwap
  have e4 := fun N => byVal w pb _ hp.cell _ _ N fLen
  have e5 := fun N => byVal w pb _ hp.cell _ _ N fSwap
  obtain ⟨m, hm⟩ : ∃ m, xs.length = m + 1 := ⟨xs.length - 1, by omega⟩
  have hroot := hh.root
  rw [hm] at hh hp hroot
  have c1 := swap_pile B pb g cap xs 0 m w (by rw [hm]; exact hp) (by omega) (by omega)
  have hs1 : (swapL xs 0 m).length = m + 1 := by rw [swapL_len, hm]
  have c2 : ∀ w1, Pile B pb (.slice (some ⟨g, 0, none⟩) (m + 1) cap) (swapL xs 0 m) w1 → Fr pb (some g) w w1 → Calls Tryd.prog 71 #[ifc pb, .int .i64 0, .int .i64 m] w1 fun e w' => (∃ b, e = .returned b) ∧ ∃ (r : R) (ys : List R), ys.length = m ∧ (ys ++ [r]).Perm xs ∧ Heap (key ys) ys.length ∧ (∀ q ∈ ys, r.1 ≤ q.1) ∧ Pile B pb (.slice (some ⟨g, 0, none⟩) (m + 1) cap) (ys ++ [r]) w' ∧ Fr pb (some g) w w' := by
    intro w1 hp1 hf1
    refine (down_any B pb g cap m (swapL xs 0 m) w1 (by rw [hs1]; exact hp1) (by omega) (by omega) ?_).mono ?_
    · exact hh.popped.congr fun i hi => key_swap i (by omega)
    · rintro e w' ⟨he, zs, hperm, hheap, hfix, hp2, hf2⟩
      have hzl : zs.length = m + 1 := by rw [hperm.length_eq, hs1]
      rcases snoc_cases zs with rfl | ⟨ys, r, rfl⟩
      · simp at hzl
      · have hyl : ys.length = m := by simpa using hzl
        have hr : r = nth xs 0 := by
          have := hfix m (Nat.le_refl _)
          rw [swapL_nth m (by omega)] at this
          rw [← hyl, nth_last] at this
          rw [this]
          by_cases h : ys.length = 0
          · rw [if_pos h, h]
          · rw [if_neg h, if_pos rfl]
        refine ⟨he, r, ys, hyl, hperm.trans (swapL_perm (by omega) (by omega)), ?_, ?_, by rw [hs1] at hp2; exact hp2, hf1.trans hf2⟩
        · rw [hyl]
          exact hheap.congr fun i hi => (key_snoc (by omega)).symm
        · intro q hq
          have hqx : q ∈ xs := ((swapL_perm (l := xs) (i := 0) (j := m) (by omega) (by omega)).mem_iff.1 (hperm.mem_iff.1 (List.mem_append_left _ hq)))
          obtain ⟨i, hi, rfl⟩ := List.mem_iff_getElem.1 hqx
          have := hroot i (by omega)
          unfold key at this
          rw [nth_eq hi] at this
          rw [hr]; exact this
  rw [hm] at c1
  have C1 := Lib.hid c1
  have C2 := Lib.hid c2
  have E4 := e4
  have E5 := e5
  rw [hm] at E4 E5
  clear hp hh hroot c1 c2 e4 e5
  go_enter Tryd.func67, Tryd.ntmps67
  go_wp2_with (first
    | (go_at_fn 101; refine (len_any _ _ _ _).mono ?_; rintro e w2 ⟨rfl, rfl⟩)
    | (go_at_fn 103; refine C1.out.mono ?_; rintro e w1 ⟨rfl, hp1, hf1⟩; have HP1 := Lib.hid hp1; have HF1 := Lib.hid hf1; clear hp1 hf1)
    | (go_at_call 71; refine (C2.out _ HP1.out HF1.out).mono ?_; rintro e w2 ⟨⟨b, rfl⟩, r, ys, hyl, h1, h2, h3, hp2, hf2⟩; have e6 := fun N => byRef w2 pb _ _ N fPop; have hp3 : Pile B pb (.slice (some ⟨g, 0, none⟩) (ys ++ [r]).length cap) (ys ++ [r]) w2 := (by rw [show (ys ++ [r]).length = m + 1 by simp [hyl]]; exact hp2); have C3 := Lib.hid (pop_any B pb g cap ys r w2 hp3); clear hp3 hp2)
    | (go_at_fn 104; refine C3.out.mono ?_; rintro e w3 ⟨rfl, hp4, hf4⟩))
  go_ret
  exact ⟨r, ys, rfl, h1, h2, h3, hp4, hf2.trans hf4⟩

end Go.Proofs.YtdmceapbobkklaaDoor.Rg

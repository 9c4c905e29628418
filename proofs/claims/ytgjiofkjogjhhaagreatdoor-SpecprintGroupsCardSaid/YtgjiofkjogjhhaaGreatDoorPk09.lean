/- The heap's down. The heap's Push and Pop. put: ranges onto the pile. joined: the set that leaves the pile. -/
import Derived.Test.YtgjiofkjogjhhaaGreatDoorPk08

namespace Go.Proofs.YtgjiofkjogjhhaaGreatDoor.Rg
open Go.RowKit Go.Shelf

theorem HeapDn.last {f : Nat → Int} {n k : Nat} (h : HeapDn f n k) (hn : ¬ 2 * k + 1 < n) : Heap f n := h.done fun i h0 hi hk => by omega
/-- the lesser child of k, and what is known of it -/
structure Child (f : Nat → Int) (n k c : Nat) : Prop where
  par : (c - 1) / 2 = k
  pos : 0 < c
  lt : c < n
  least : ∀ i, 0 < i → i < n → (i - 1) / 2 = k → f c ≤ f i
theorem child_two {f : Nat → Int} {n k : Nat} (h2 : 2 * k + 2 < n) (hl : f (2 * k + 2) < f (2 * k + 1)) : Child f n k (2 * k + 2) := ⟨by omega, by omega, h2, fun i h0 hi hk => by
  rcases (show i = 2 * k + 1 ∨ i = 2 * k + 2 by omega) with rfl | rfl
  · omega
  · exact Int.le_refl _⟩
theorem child_one {f : Nat → Int} {n k : Nat} (h1 : 2 * k + 1 < n) (hl : ¬ (2 * k + 2 < n ∧ f (2 * k + 2) < f (2 * k + 1))) : Child f n k (2 * k + 1) := ⟨by omega, by omega, h1, fun i h0 hi hk => by
  rcases (show i = 2 * k + 1 ∨ i = 2 * k + 2 by omega) with rfl | rfl
  · exact Int.le_refl _
  · rcases Int.lt_or_le (f (2 * k + 2)) (f (2 * k + 1)) with h | h
    · exact absurd ⟨hi, h⟩ hl
    · exact h⟩

set_option maxHeartbeats 4000000 in
theorem down_any (B pb g cap n : Nat) (xs : List R) (w : World) (hp : Pile B pb (.slice (some ⟨g, 0, none⟩) xs.length cap) xs w) (hn : n ≤ xs.length) (hM : xs.length ≤ 1000000) (hh : HeapDn (key xs) n 0) :
    Calls Tryz.prog 141 #[ifc pb, .int .i64 0, .int .i64 n] w fun e w' => (∃ b, e = .returned b) ∧ ∃ ys, ys.Perm xs ∧ Heap (key ys) n ∧ (∀ i, n ≤ i → nth ys i = nth xs i) ∧ Pile B pb (.slice (some ⟨g, 0, none⟩) xs.length cap) ys w' ∧ Fr pb (some g) w w' := by
  have e1 := eLess
  have e2 := eSwap
  generalize hL : xs.length = L at *
  go_enter Tryz.func141, Tryz.ntmps141
  go_wp2
  go_loopw [7] (fun s wr => ∃ (k : Nat) (ys : List R), s = .int .i64 k ∧ k ≤ n ∧ ys.length = L ∧ ys.Perm xs ∧ HeapDn (key ys) n k ∧ (∀ i, n ≤ i → nth ys i = nth xs i) ∧ Pile B pb (.slice (some ⟨g, 0, none⟩) L cap) ys wr ∧ Fr pb (some g) w wr) (fun s _ => n - (intOf s).toNat)
  case atStart => exact ⟨0, xs, rfl, Nat.zero_le _, hL, List.Perm.refl _, hh, fun _ _ => rfl, hp, Fr.refl _ _ _⟩
  case round =>
    clear hp hh
    obtain ⟨k, ys, rfl, hk, hyl, hperm, hh, hfix, hp, hf⟩ := hrel
    have fin : Heap (key ys) n → ∀ W, Below wr.heap.size wr W → ∃ ys, ys.Perm xs ∧ Heap (key ys) n ∧ (∀ i, n ≤ i → nth ys i = nth xs i) ∧ Pile B pb (.slice (some ⟨g, 0, none⟩) L cap) ys W ∧ Fr pb (some g) w W := fun h W hb =>
      ⟨ys, hperm, h, hfix, hp.next hb, hf.trans (Fr.of_below hb)⟩
    have FIN := Lib.hid fin
    by_cases hk1 : 2 * k + 1 < n
    · have e3 := fun N => byVal wr pb _ hp.cell _ _ N fLess
      have e4 := fun q N => byVal (wr.drewN q) pb _ (hp.drewN q).cell _ _ N fLess
      have e5 := fun q N => byVal (wr.drewN q) pb _ (hp.drewN q).cell _ _ N fSwap
      have e6 := fun q p N => byVal ((wr.drewN q).drewN p) pb _ ((hp.drewN q).drewN p).cell _ _ N fSwap
      have less : ∀ (i j : Nat) W, i < n → j < n → Below wr.heap.size wr W → Calls Tryz.prog 174 #[.slice (some ⟨g, 0, none⟩) L cap, .int .i64 i, .int .i64 j] W fun e w' => e = .returned (.bool (decide (key ys i < key ys j))) ∧ ∃ q, w' = W.drewN q :=
        fun i j W hi hj hb => less_any ys _ i j W (hp.next hb).rngs (by omega) (by omega)
      have swap : ∀ (i j : Nat) W, i < n → j < n → Below wr.heap.size wr W → Calls Tryz.prog 175 #[.slice (some ⟨g, 0, none⟩) L cap, .int .i64 i, .int .i64 j] W fun e w' => e = .returned (.tuple #[]) ∧ Pile B pb (.slice (some ⟨g, 0, none⟩) L cap) (swapL ys i j) w' ∧ Fr pb (some g) w w' := by
        intro i j W hi hj hb
        have := swap_pile B pb g cap ys i j W (by rw [hyl]; exact hp.next hb) (by omega) (by omega)
        rw [hyl] at this
        refine this.mono ?_
        rintro e w' ⟨h1, h2, h3⟩
        exact ⟨h1, h2, (hf.trans (Fr.of_below hb)).trans h3⟩
      have b1 : ∀ q, Below wr.heap.size wr (wr.drewN q) := fun q => below_drewN wr q
      have b2 : ∀ q p, Below wr.heap.size wr ((wr.drewN q).drewN p) := fun q p => (below_drewN wr q).trans ⟨rfl, rfl, rfl, Nat.le_refl _, fun _ _ => rfl⟩
      have next : ∀ c, Child (key ys) n k c → key ys c < key ys k → HeapDn (key (swapL ys k c)) n c ∧ (swapL ys k c).length = L ∧ (swapL ys k c).Perm xs ∧ (∀ i, n ≤ i → nth (swapL ys k c) i = nth xs i) := fun c hc hlt =>
        ⟨(hh.step hc.par hc.pos hc.lt hlt hc.least).congr fun i hi => key_swap i (by omega), by rw [swapL_len]; exact hyl, (swapL_perm (by omega) (by have := hc.lt; omega)).trans hperm, fun i hi => by
          rcases Nat.lt_or_ge i ys.length with h | h
          · rw [swapL_nth i h, if_neg (by omega), if_neg (by have := hc.lt; omega)]; exact hfix i hi
          · rw [← hfix i hi]; simp [nth, List.getD, swapL_len, h]⟩
      have stay : ∀ c, Child (key ys) n k c → ¬ key ys c < key ys k → Heap (key ys) n := fun c hc hle => hh.done fun i h0 hi hk => by have := hc.least i h0 hi hk; omega
      have k1 := less (2 * k + 2) (2 * k + 1)
      have k2 := less (2 * k + 2) k
      have k3 := less (2 * k + 1) k
      have s2 := swap k (2 * k + 2)
      have s1 := swap k (2 * k + 1)
      rw [show ((2 * k + 2 : Nat) : Int) = 2 * (k : Int) + 2 by omega] at k1 k2 s2
      rw [show ((2 * k + 1 : Nat) : Int) = 2 * (k : Int) + 1 by omega] at k1 k3 s1
      have K1 := Lib.hid k1
      have K2 := Lib.hid k2
      have K3 := Lib.hid k3
      have S1 := Lib.hid s1
      have S2 := Lib.hid s2
      have B1 := Lib.hid b1
      have B2 := Lib.hid b2
      have NX := Lib.hid next
      have ST := Lib.hid stay
      clear hp hf hperm hyl hh hfix fin less swap k1 k2 k3 s1 s2 b1 b2 next stay
      have q1 : (2 * (k : Int) + 1 < 0) = False := by simp; omega
      have q3 : 2 * (k : Int) + 1 + 1 = 2 * (k : Int) + 2 := by omega
      by_cases hk2 : 2 * k + 2 < n
      · by_cases hl : key ys (2 * k + 2) < key ys (2 * k + 1)
        · have HC := Lib.hid (child_two (f := key ys) hk2 hl)
          have c0 := K1.out wr hk2 hk1 (Below.refl _ _)
          rw [decide_eq_true hl] at c0
          have C0 := Lib.hid c0
          clear c0
          by_cases hlt : key ys (2 * k + 2) < key ys k
          · have KK := K2.out
            rw [decide_eq_true hlt] at KK
            have KH := Lib.hid KK
            have NX2 := Lib.hid (NX.out _ HC.out hlt)
            clear KK
            go_wp2_with (first
              | (go_at_fn 174; ((with_reducible refine (C0.out).mono ?_); rintro e w' ⟨rfl, q, rfl⟩))
              | (go_at_fn 174; ((with_reducible refine (KH.out _ (by omega) (by omega) (by first | exact B1.out _ | exact B2.out _ _ | exact Below.refl _ _)).mono ?_); rintro e w' ⟨rfl, p, rfl⟩))
              | (go_at_fn 175; ((with_reducible refine (S2.out _ (by omega) (by omega) (by first | exact B1.out _ | exact B2.out _ _ | exact Below.refl _ _)).mono ?_); rintro e w2 ⟨rfl, hp2, hf2⟩)))
            go_roundw
            case rel => exact ⟨2 * k + 2, swapL ys k (2 * k + 2), by go_num, by omega, NX2.out.2.1, NX2.out.2.2.1, NX2.out.1, NX2.out.2.2.2, hp2, hf2⟩
            case measure => simp [intOf]; omega
          · have KK := K2.out
            rw [decide_eq_false hlt] at KK
            have KH := Lib.hid KK
            have ST2 := Lib.hid (ST.out _ HC.out hlt)
            clear KK
            go_wp2_with (first
              | (go_at_fn 174; ((with_reducible refine (C0.out).mono ?_); rintro e w' ⟨rfl, q, rfl⟩))
              | (go_at_fn 174; ((with_reducible refine (KH.out _ (by omega) (by omega) (by first | exact B1.out _ | exact B2.out _ _ | exact Below.refl _ _)).mono ?_); rintro e w' ⟨rfl, p, rfl⟩)))
            go_ret
            exact ⟨⟨_, rfl⟩, FIN.out ST2.out _ (by first | exact B1.out _ | exact B2.out _ _ | exact Below.refl _ _)⟩
        · have HC := Lib.hid (child_one (f := key ys) hk1 fun h => hl h.2)
          have c0 := K1.out wr hk2 hk1 (Below.refl _ _)
          rw [decide_eq_false hl] at c0
          have C0 := Lib.hid c0
          clear c0
          by_cases hlt : key ys (2 * k + 1) < key ys k
          · have KK := K3.out
            rw [decide_eq_true hlt] at KK
            have KH := Lib.hid KK
            have NX2 := Lib.hid (NX.out _ HC.out hlt)
            clear KK
            go_wp2_with (first
              | (go_at_fn 174; ((with_reducible refine (C0.out).mono ?_); rintro e w' ⟨rfl, q, rfl⟩))
              | (go_at_fn 174; ((with_reducible refine (KH.out _ (by omega) (by omega) (by first | exact B1.out _ | exact B2.out _ _ | exact Below.refl _ _)).mono ?_); rintro e w' ⟨rfl, p, rfl⟩))
              | (go_at_fn 175; ((with_reducible refine (S1.out _ (by omega) (by omega) (by first | exact B1.out _ | exact B2.out _ _ | exact Below.refl _ _)).mono ?_); rintro e w2 ⟨rfl, hp2, hf2⟩)))
            go_roundw
            case rel => exact ⟨2 * k + 1, swapL ys k (2 * k + 1), by go_num, by omega, NX2.out.2.1, NX2.out.2.2.1, NX2.out.1, NX2.out.2.2.2, hp2, hf2⟩
            case measure => simp [intOf]; omega
          · have KK := K3.out
            rw [decide_eq_false hlt] at KK
            have KH := Lib.hid KK
            have ST2 := Lib.hid (ST.out _ HC.out hlt)
            clear KK
            go_wp2_with (first
              | (go_at_fn 174; ((with_reducible refine (C0.out).mono ?_); rintro e w' ⟨rfl, q, rfl⟩))
              | (go_at_fn 174; ((with_reducible refine (KH.out _ (by omega) (by omega) (by first | exact B1.out _ | exact B2.out _ _ | exact Below.refl _ _)).mono ?_); rintro e w' ⟨rfl, p, rfl⟩)))
            go_ret
            exact ⟨⟨_, rfl⟩, FIN.out ST2.out _ (by first | exact B1.out _ | exact B2.out _ _ | exact Below.refl _ _)⟩
      · have HC := Lib.hid (child_one (f := key ys) hk1 fun h => hk2 h.1)
        by_cases hlt : key ys (2 * k + 1) < key ys k
        · have KK := K3.out
          rw [decide_eq_true hlt] at KK
          have KH := Lib.hid KK
          have NX2 := Lib.hid (NX.out _ HC.out hlt)
          clear KK
          go_wp2_with (first
            | (go_at_fn 174; ((with_reducible refine (KH.out _ (by omega) (by omega) (by first | exact B1.out _ | exact B2.out _ _ | exact Below.refl _ _)).mono ?_); rintro e w' ⟨rfl, p, rfl⟩))
            | (go_at_fn 175; ((with_reducible refine (S1.out _ (by omega) (by omega) (by first | exact B1.out _ | exact B2.out _ _ | exact Below.refl _ _)).mono ?_); rintro e w2 ⟨rfl, hp2, hf2⟩)))
          go_roundw
          case rel => exact ⟨2 * k + 1, swapL ys k (2 * k + 1), by go_num, by omega, NX2.out.2.1, NX2.out.2.2.1, NX2.out.1, NX2.out.2.2.2, hp2, hf2⟩
          case measure => simp [intOf]; omega
        · have KK := K3.out
          rw [decide_eq_false hlt] at KK
          have KH := Lib.hid KK
          have ST2 := Lib.hid (ST.out _ HC.out hlt)
          clear KK
          go_wp2_with (first
            | (go_at_fn 174; ((with_reducible refine (KH.out _ (by omega) (by omega) (by first | exact B1.out _ | exact B2.out _ _ | exact Below.refl _ _)).mono ?_); rintro e w' ⟨rfl, p, rfl⟩)))
          go_ret
          exact ⟨⟨_, rfl⟩, FIN.out ST2.out _ (by first | exact B1.out _ | exact B2.out _ _ | exact Below.refl _ _)⟩
    · have hd := Lib.hid (hh.last hk1)
      clear hp hf hperm hyl hh hfix fin
      go_wp2
      go_ret
      exact ⟨⟨_, rfl⟩, FIN.out hd.out _ (Below.refl _ _)⟩

end Go.Proofs.YtgjiofkjogjhhaaGreatDoor.Rg

namespace Go.Proofs.YtgjiofkjogjhhaaGreatDoor.Rg
open Go.RowKit Go.Shelf

theorem key_snoc {l : List R} {r : R} {i : Nat} (h : i < l.length) : key (l ++ [r]) i = key l i := by
  unfold key
  rw [nth_eq h, nth_eq (by simp; omega), List.getElem_append_left h]
/-- a range as it lies in an interface -/
abbrev boxR (r : R) : Value := .iface 75 (.agg #[.int .i64 r.1, .int .i64 r.2])

set_option maxHeartbeats 1600000 in
theorem hpush_any (B pb : Nat) (v : Value) (xs : List R) (r : R) (w : World) (hp : Pile B pb v xs w) (hh : Heap (key xs) xs.length) (hM : xs.length < 1000000) :
    Calls Tryz.prog 133 #[ifc pb, boxR r] w fun e w' => e = .returned (.tuple #[]) ∧ ∃ v' ys, ys.Perm (xs ++ [r]) ∧ Heap (key ys) ys.length ∧ Pile B pb v' ys w' ∧ Below B w w' := by
  have e1 := ePush
  have e2 := eLen
  have e3 := fun N => byRef w pb _ _ N fPush
  have c1 := push_any B pb v xs r w hp (by omega)
  have hup : HeapUp (key (xs ++ [r])) (xs.length + 1) xs.length := Heap.pushed (hh.congr fun i hi => key_snoc hi)
  have c2 : ∀ w1 g cap, Pile B pb (.slice (some ⟨g, 0, none⟩) (xs.length + 1) cap) (xs ++ [r]) w1 → Below B w w1 → Calls Tryz.prog 140 #[ifc pb, .int .i64 xs.length] w1 fun e w' => e = .returned (.tuple #[]) ∧ ∃ v' ys, ys.Perm (xs ++ [r]) ∧ Heap (key ys) ys.length ∧ Pile B pb v' ys w' ∧ Below B w w' := by
    intro w1 g cap hp1 hb
    have hl : (xs ++ [r]).length = xs.length + 1 := by simp
    refine (up_any B pb g cap (xs ++ [r]) xs.length w1 (by rw [hl]; exact hp1) (by omega) (by rw [hl]; exact hup)).mono ?_
    rintro e w' ⟨rfl, ys, h1, h2, h3, h4⟩
    exact ⟨rfl, _, ys, h1, h2, h3, hb.trans (hp1.below h4)⟩
  have C1 := Lib.hid c1
  have C2 := Lib.hid c2
  clear hp hh c1 c2 hup
  go_enter Tryz.func133, Tryz.ntmps133
  go_wp2_with (first
    | (go_at_fn 177; refine C1.out.mono ?_; rintro e w1 ⟨rfl, v', hp1, hb1⟩; obtain ⟨g, cap, rfl, _, _⟩ := hp1.row.form (by simp); rw [show (xs ++ [r]).length = xs.length + 1 by simp] at hp1; have e4 := fun N => byVal w1 pb _ hp1.cell _ _ N fLen; have HP1 := Lib.hid hp1; have HB1 := Lib.hid hb1; clear hp1 hb1)
    | (go_at_fn 173; refine (len_any _ _ _ _).mono ?_; rintro e w2 ⟨rfl, rfl⟩)
    | (go_at_call 140; refine (C2.out _ _ _ HP1.out HB1.out).mono ?_; rintro e w2 ⟨rfl, h⟩))
  go_end0
  exact ⟨rfl, h⟩

set_option maxHeartbeats 1600000 in
theorem hpop_any (B pb g cap : Nat) (xs : List R) (w : World) (hp : Pile B pb (.slice (some ⟨g, 0, none⟩) xs.length cap) xs w) (hh : Heap (key xs) xs.length) (h0 : 0 < xs.length) (hM : xs.length ≤ 1000000) :
    Calls Tryz.prog 134 #[ifc pb] w fun e w' => ∃ (r : R) (ys : List R), e = .returned (boxR r) ∧ (ys ++ [r]).Perm xs ∧ Heap (key ys) ys.length ∧ (∀ q ∈ ys, r.1 ≤ q.1) ∧ Pile B pb (.slice (some ⟨g, 0, none⟩) ys.length cap) ys w' ∧ Fr pb (some g) w w' := by
  have e1 := ePop
  have e2 := eLen
  have e3 := eSwap
  have e4 := fun N => byVal w pb _ hp.cell _ _ N fLen
  have e5 := fun N => byVal w pb _ hp.cell _ _ N fSwap
  obtain ⟨m, hm⟩ : ∃ m, xs.length = m + 1 := ⟨xs.length - 1, by omega⟩
  have hroot := hh.root
  rw [hm] at hh hp hroot
  have c1 := swap_pile B pb g cap xs 0 m w (by rw [hm]; exact hp) (by omega) (by omega)
  have hs1 : (swapL xs 0 m).length = m + 1 := by rw [swapL_len, hm]
  have c2 : ∀ w1, Pile B pb (.slice (some ⟨g, 0, none⟩) (m + 1) cap) (swapL xs 0 m) w1 → Fr pb (some g) w w1 → Calls Tryz.prog 141 #[ifc pb, .int .i64 0, .int .i64 m] w1 fun e w' => (∃ b, e = .returned b) ∧ ∃ (r : R) (ys : List R), ys.length = m ∧ (ys ++ [r]).Perm xs ∧ Heap (key ys) ys.length ∧ (∀ q ∈ ys, r.1 ≤ q.1) ∧ Pile B pb (.slice (some ⟨g, 0, none⟩) (m + 1) cap) (ys ++ [r]) w' ∧ Fr pb (some g) w w' := by
    intro w1 hp1 hf1
    refine (down_any B pb g cap m (swapL xs 0 m) w1 (by rw [hs1]; exact hp1) (by omega) (by omega) ?_).mono ?_
    · exact hh.popped.congr fun i hi => key_swap i (by omega)
    · rintro e w' ⟨he, zs, hperm, hheap, hfix, hp2, hf2⟩
      have hzl : zs.length = m + 1 := by rw [hperm.length_eq, hs1]
      rcases snoc_cases zs with rfl | ⟨ys, r, rfl⟩
      · simp at hzl
      · have hyl : ys.length = m := by simpa using hzl
        have hr : r = nth xs 0 := by
          have := hfix m (Nat.le_refl _)
          rw [swapL_nth m (by omega)] at this
          rw [← hyl, nth_last] at this
          rw [this]
          by_cases h : ys.length = 0
          · rw [if_pos h, h]
          · rw [if_neg h, if_pos rfl]
        refine ⟨he, r, ys, hyl, hperm.trans (swapL_perm (by omega) (by omega)), ?_, ?_, by rw [hs1] at hp2; exact hp2, hf1.trans hf2⟩
        · rw [hyl]
          exact hheap.congr fun i hi => (key_snoc (by omega)).symm
        · intro q hq
          have hqx : q ∈ xs := ((swapL_perm (l := xs) (i := 0) (j := m) (by omega) (by omega)).mem_iff.1 (hperm.mem_iff.1 (List.mem_append_left _ hq)))
          obtain ⟨i, hi, rfl⟩ := List.mem_iff_getElem.1 hqx
          have := hroot i (by omega)
          unfold key at this
          rw [nth_eq hi] at this
          rw [hr]; exact this
  rw [hm] at c1
  have C1 := Lib.hid c1
  have C2 := Lib.hid c2
  have E4 := e4
  have E5 := e5
  rw [hm] at E4 E5
  clear hp hh hroot c1 c2 e4 e5
  go_enter Tryz.func134, Tryz.ntmps134
  go_wp2_with (first
    | (go_at_fn 173; refine (len_any _ _ _ _).mono ?_; rintro e w2 ⟨rfl, rfl⟩)
    | (go_at_fn 175; refine C1.out.mono ?_; rintro e w1 ⟨rfl, hp1, hf1⟩; have HP1 := Lib.hid hp1; have HF1 := Lib.hid hf1; clear hp1 hf1)
    | (go_at_call 141; refine (C2.out _ HP1.out HF1.out).mono ?_; rintro e w2 ⟨⟨b, rfl⟩, r, ys, hyl, h1, h2, h3, hp2, hf2⟩; have e6 := fun N => byRef w2 pb _ _ N fPop; have hp3 : Pile B pb (.slice (some ⟨g, 0, none⟩) (ys ++ [r]).length cap) (ys ++ [r]) w2 := (by rw [show (ys ++ [r]).length = m + 1 by simp [hyl]]; exact hp2); have C3 := Lib.hid (pop_any B pb g cap ys r w2 hp3); clear hp3 hp2)
    | (go_at_fn 176; refine C3.out.mono ?_; rintro e w3 ⟨rfl, hp4, hf4⟩))
  go_ret
  exact ⟨r, ys, rfl, h1, h2, h3, hp4, hf2.trans hf4⟩

end Go.Proofs.YtgjiofkjogjhhaaGreatDoor.Rg

namespace Go.Proofs.YtgjiofkjogjhhaaGreatDoor.Rg
open Go.RowKit Go.Shelf

/-- ranges that count -/
def okL (l : List R) : Prop := ∀ r ∈ l, 0 ≤ r.1 ∧ r.1 ≤ r.2 ∧ r.2 ≤ 1114111
def PutRel (B pb : Nat) (xs l : List R) (w : World) (i : Value) (wr : World) : Prop :=
  ∃ (k : Nat) (v : Value) (ys : List R), i = .int .i64 k ∧ k ≤ l.length ∧ Pile B pb v ys wr ∧ Heap (key ys) ys.length ∧ ys.length ≤ xs.length + k ∧ okL ys ∧ (∀ c, hasB ys c = (hasB xs c || inB (l.take k) c)) ∧ Below B w wr
theorem inB_take {l : List R} {k : Nat} (h : k < l.length) (c : Int) : inB (l.take (k + 1)) c = (inB (l.take k) c || (decide (0 ≤ c) && decide (c ≤ 1114111) && (decide ((nth l k).1 ≤ c) && decide (c ≤ (nth l k).2)))) := by
  unfold inB
  rw [List.take_succ_eq_append_getElem h, hasB_append, hasB_one, nth_eq h]
  grind

set_option maxHeartbeats 1600000 in
theorem put_any (pb : Nat) (v vl : Value) (xs l : List R) (w0 w : World) (hl : RngsAt w0 vl l) (h0 : Below w0.heap.size w0 w) (hp : Pile w0.heap.size pb v xs w) (hh : Heap (key xs) xs.length) (ho : okL xs) (hM : xs.length + l.length < 1000000) :
    Calls Tryz.prog 126 #[.pointer (some ⟨pb, 0, none⟩), vl] w fun e w' => e = .returned (.tuple #[]) ∧ ∃ v' ys, Pile w0.heap.size pb v' ys w' ∧ Heap (key ys) ys.length ∧ ys.length ≤ xs.length + l.length ∧ okL ys ∧ (∀ c, hasB ys c = (hasB xs c || inB l c)) ∧ Below w0.heap.size w w' := by
  obtain ⟨ao, cap, rfl, hm, hcs⟩ := hl.shape
  have HC := Lib.hid hcs
  have H0 := Lib.hid h0
  clear hcs hl h0
  go_enter Tryz.func126, Tryz.ntmps126
  go_wp2
  go_loopw [8] (fun i wr => PutRel w0.heap.size pb xs l w i wr) (fun i _ => l.length - (intOf i).toNat)
  case atStart => exact ⟨0, v, xs, rfl, Nat.zero_le _, hp, hh, Nat.le_refl _, ho, fun c => by simp [inB, hasB], Below.refl _ _⟩
  case round =>
    clear hp hh ho
    obtain ⟨k, v2, ys, rfl, hk, hp, hh, hlen, ho, hhas, hb⟩ := hrel
    have HP := Lib.hid hp
    have HH := Lib.hid hh
    have HO := Lib.hid ho
    have HS := Lib.hid hhas
    have HB := Lib.hid hb
    by_cases hlt : k < l.length
    · obtain ⟨g, rfl, c1, c2⟩ := HC.out k hlt
      replace c1 := cell_next c1 (H0.out.trans hb)
      replace c2 := cell_next c2 (H0.out.trans hb)
      have hsz := hp.base
      have hsz2 := hp.lt
      have push : ∀ (a b : Int) W, Below wr.heap.size wr W → Calls Tryz.prog 133 #[ifc pb, .iface 75 (.agg #[.int .i64 a, .int .i64 b])] W fun e w' => e = .returned (.tuple #[]) ∧ ∃ v' zs, zs.Perm (ys ++ [(a, b)]) ∧ Heap (key zs) zs.length ∧ Pile w0.heap.size pb v' zs w' ∧ Below w0.heap.size wr w' := by
        intro a b W hW
        refine (hpush_any w0.heap.size pb v2 ys (a, b) W (hp.next hW) hh (by omega)).mono ?_
        rintro e w' ⟨rfl, v', zs, h1, h2, h3, h4⟩
        exact ⟨rfl, v', zs, h1, h2, h3, (hW.mono (by omega)).trans h4⟩
      have skip : (min (nth l k).2 1114111 < max (nth l k).1 0) → ∀ W, Below wr.heap.size wr W → PutRel w0.heap.size pb xs l w (.int .i64 ((k : Int) + 1)) W := fun h W hW =>
        ⟨k + 1, v2, ys, by go_num, by omega, hp.next hW, hh, by omega, ho, fun c => by
          rw [hhas, inB_take hlt]
          congr 1
          rw [eq_comm, Bool.or_eq_left_iff_imp]
          intro hc
          simp at hc
          omega, hb.trans (hW.mono (by omega))⟩
      have nxt : ∀ a b : Int, a = max (nth l k).1 0 → b = min (nth l k).2 1114111 → a ≤ b → ∀ v' zs W, zs.Perm (ys ++ [(a, b)]) → Heap (key zs) zs.length → Pile w0.heap.size pb v' zs W → Below w0.heap.size wr W → PutRel w0.heap.size pb xs l w (.int .i64 ((k : Int) + 1)) W := by
        intro a b ha hb' hab v' zs W h1 h2 h3 h4
        refine ⟨k + 1, v', zs, by go_num, by omega, h3, h2, by rw [h1.length_eq]; simp; omega, ?_, ?_, hb.trans h4⟩
        · intro r hr
          have := h1.mem_iff.1 hr
          rw [List.mem_append, List.mem_singleton] at this
          rcases this with h | rfl
          · exact ho r h
          · exact ⟨by omega, hab, by omega⟩
        · intro c
          rw [hasB_perm h1, hasB_append, hasB_one, hhas, inB_take hlt, Bool.or_assoc]
          congr 1
          congr 1
          rw [Bool.eq_iff_iff]
          simp
          omega
      have HPU := Lib.hid push
      have HSK := Lib.hid skip
      have HNX := Lib.hid nxt
      clear hp hh ho hhas hb push skip nxt hsz
      go_wp2_with (go_at_call 133; refine (HPU.out _ _ _ ((Below.refl _ _).alloc (Nat.le_refl _) _)).mono ?_; rintro e w2 ⟨rfl, v', zs, z1, z2, z3, z4⟩; have Z2 := Lib.hid z2; have Z3 := Lib.hid z3; have Z4 := Lib.hid z4; have Z1 := Lib.hid z1; clear z1 z2 z3 z4)
      all_goals first
        | (go_roundw
           case rel => exact HNX.out _ _ (by omega) (by omega) (by omega) _ _ _ Z1.out Z2.out Z3.out Z4.out
           case measure => simp [intOf]; omega)
        | (go_roundw
           case rel => exact HSK.out (by omega) _ ((Below.refl _ _).alloc (Nat.le_refl _) _)
           case measure => simp [intOf]; omega)
    · obtain rfl : k = l.length := by omega
      clear hp hh ho hhas hb
      go_wp2
      go_end0
      exact ⟨rfl, v2, ys, HP.out, HH.out, hlen, HO.out, fun c => by rw [HS.out, List.take_length], HB.out⟩

end Go.Proofs.YtgjiofkjogjhhaaGreatDoor.Rg

namespace Go.Proofs.YtgjiofkjogjhhaaGreatDoor.Rg
open Go.RowKit Go.Shelf

/-- what joined has told, and what is still on the pile -/
structure Joined (l xs : List R) (P : Int → Bool) : Prop where
  set : setFrom 0 l
  has : ∀ c, (hasB l c || hasB xs c) = P c
  ok : okL xs
  least : ∀ c a b, l = c ++ [(a, b)] → ∀ q ∈ xs, a ≤ q.1

theorem Joined.apart {l xs ys : List R} {P : Int → Bool} {r : R} (h : Joined l xs P) (hp : (ys ++ [r]).Perm xs) (hl : ∀ q ∈ ys, r.1 ≤ q.1) (hn : ∀ c a b, l = c ++ [(a, b)] → b + 1 < r.1) : Joined (l ++ [r]) ys P := by
  have hr := h.ok r (hp.mem_iff.1 (by simp))
  refine ⟨set_snoc h.set (fun q hq => ?_) hr.1 hr.2.1 hr.2.2, fun c => ?_, fun q hq => h.ok q (hp.mem_iff.1 (by simp [hq])), fun c a b e q hq => ?_⟩
  · rcases snoc_cases l with rfl | ⟨c, ⟨a, b⟩, rfl⟩
    · simp at hq
    · have h2 := hn c a b rfl
      have h3 := set_parts h.set
      rcases List.mem_append.1 hq with h4 | h4
      · have := h3.2.1 q h4; have := h3.2.2.2.1; simp only at *; omega
      · simp at h4; subst h4; simp only; omega
  · rw [← h.has c, ← hasB_perm hp, hasB_snoc, hasB_snoc]
    grind
  · have := List.append_inj' e rfl
    have h2 : r = (a, b) := by simpa using this.2
    have h3 := hl q hq
    rw [h2] at h3
    exact h3
theorem Joined.touch {c xs ys : List R} {a b b' : Int} {P : Int → Bool} {r : R} (h : Joined (c ++ [(a, b)]) xs P) (hp : (ys ++ [r]).Perm xs) (hn : ¬ b + 1 < r.1) (hb : b' = max b r.2) : Joined (c ++ [(a, b')]) ys P := by
  have hm := hp.mem_iff (a := r) |>.1 (by simp)
  have hr := h.ok r hm
  have hla := h.least c a b rfl r hm
  obtain ⟨p1, p2, p3, p4, p5⟩ := set_parts h.set
  simp only at p3 p4 p5
  have hr3 := hr.2.2
  subst hb
  refine ⟨set_last h.set (Int.le_trans p4 (Int.le_max_left _ _)) (Int.max_le.2 ⟨p5, hr3⟩), fun x => ?_, fun q hq => h.ok q (hp.mem_iff.1 (by simp [hq])), fun c' a' b2 e q hq => ?_⟩
  · rw [← h.has x, ← hasB_perm hp, hasB_snoc, hasB_snoc, hasB_snoc]
    have e : (decide (a ≤ x) && decide (x ≤ max b r.2)) = ((decide (a ≤ x) && decide (x ≤ b)) || (decide (r.1 ≤ x) && decide (x ≤ r.2))) := by
      rcases Int.le_total b r.2 with h | h
      · rw [Int.max_eq_right h, Bool.eq_iff_iff]; simp; omega
      · rw [Int.max_eq_left h, Bool.eq_iff_iff]; simp; omega
    simp only at e ⊢
    rw [e]
    grind
  · have := List.append_inj' e rfl
    simp at this
    rw [← this.2.1]
    exact h.least c a b rfl q (hp.mem_iff.1 (by simp [hq]))


theorem Pile.grown {B pb g n cap : Nat} {ys : List R} {W w3 : World} {row : Option Nat} (h : Pile B pb (.slice (some ⟨g, 0, none⟩) n cap) ys W) (hg : W.grownBy w3 row) (h1 : some pb ≠ row) (h2 : some g ≠ row) : Pile B pb (.slice (some ⟨g, 0, none⟩) n cap) ys w3 :=
  ⟨h.base, (hg.block pb h.lt h1).trans h.box, h.row.kept hg (.inr (by simpa [Value.ownBlock] using h2))⟩
/-- how many lie on the pile -/
def pileLen (pb : Nat) (w : World) : Nat := match w.cell? ⟨pb, 0, none⟩ with | some (.slice _ n _) => n | _ => 0
theorem Pile.len {B pb n cap : Nat} {ao : Option Addr} {ys : List R} {w : World} (h : Pile B pb (.slice ao n cap) ys w) : pileLen pb w = n := by simp [pileLen, h.cell]

def JoinRel (B pb g cap : Nat) (xs : List R) (w : World) (s : Value) (wr : World) : Prop :=
  ∃ (l ys : List R), wr.ownsRow w.heap.size 75 2 s l.length (flatR l) ∧ (l = [] → s = .slice none 0 0) ∧ Joined l ys (hasB xs) ∧ Heap (key ys) ys.length ∧ Pile B pb (.slice (some ⟨g, 0, none⟩) ys.length cap) ys wr ∧ l.length + ys.length ≤ xs.length ∧ Below B w wr ∧ w.heap.size ≤ wr.heap.size

theorem join_on {B pb g cap : Nat} {xs l l' ys zs : List R} {w w2 W w3 : World} {s v' : Value} {r : R} (hj : Joined l' zs (hasB xs)) (hn : l' ≠ []) (hll : l'.length ≤ l.length + 1) (hpm : (zs ++ [r]).Perm ys) (hh : Heap (key zs) zs.length) (hp : Pile B pb (.slice (some ⟨g, 0, none⟩) zs.length cap) zs w2) (hb : Below B w w2) (hsz : w.heap.size ≤ w2.heap.size)
    (hlen : l.length + ys.length ≤ xs.length) (hpb : pb < w.heap.size) (hg : g < w.heap.size) (hrow : W.ownsRow w.heap.size 75 2 s l.length (flatR l)) (hW : Below w2.heap.size w2 W)
    (hown : w3.ownsRow w.heap.size 75 2 v' l'.length (flatR l')) (hgrow : W.grownBy w3 s.ownBlock) : JoinRel B pb g cap xs w v' w3 ∧ pileLen pb w3 < ys.length := by
  have hB := hp.base
  have h1 := hpm.length_eq
  simp only [List.length_append, List.length_cons, List.length_nil] at h1
  have hs : ∀ k, some k = s.ownBlock → w.heap.size ≤ k := fun k hk => (hrow.lt k hk.symm).1
  have hp3 := (hp.next hW).grown hgrow (fun e => by have := hs _ e; omega) (fun e => by have := hs _ e; omega)
  have hw3 : Below B w w3 := by
    refine (hb.trans (hW.mono (by have := hp.lt; omega))).trans ⟨hgrow.os, hgrow.tape, hgrow.output, hgrow.size, fun k hk => hgrow.block k ?_ fun e => ?_⟩
    · have := hW.size; have := hp.lt; omega
    · have := hs _ e; omega
  refine ⟨⟨l', zs, hown, fun h => absurd h hn, hj, hh, hp3, by omega, hw3, ?_⟩, by rw [hp3.len]; omega⟩
  have := hgrow.size
  have := hW.size
  omega

set_option maxRecDepth 100000 in
set_option maxHeartbeats 4000000 in
theorem joined_any (B pb g cap : Nat) (xs : List R) (w : World) (hp : Pile B pb (.slice (some ⟨g, 0, none⟩) xs.length cap) xs w) (hg : g < w.heap.size) (hh : Heap (key xs) xs.length) (ho : okL xs) (hM : xs.length ≤ 1000000) :
    Calls Tryz.prog 127 #[ifc pb] w fun e w' => ∃ v l, e = .returned v ∧ w'.ownsRow w.heap.size 75 2 v l.length (flatR l) ∧ setFrom 0 l ∧ (∀ c, hasB l c = hasB xs c) ∧ l.length ≤ xs.length ∧ Below B w w' := by
  obtain ⟨i0, hi, hz0, hz1, hz2⟩ := info_parts infoR
  have e1 := eLen
  have ta := assertR
  have hpb := hp.lt
  have hB := hp.base
  go_enter Tryz.func127, Tryz.ntmps127
  go_wp2
  go_loopw [3] (fun s wr => JoinRel B pb g cap xs w s wr) (fun _ wr => pileLen pb wr)
  case atStart => exact ⟨[], xs, World.ownsRow_nil _ _ _ _, fun _ => rfl, ⟨trivial, fun c => by simp [hasB], ho, fun c a b e => by simp at e⟩, hh, hp, by simp, Below.refl _ _, Nat.le_refl _⟩
  case round =>
    clear hp hh ho
    obtain ⟨l, ys, hrow, hnil, hj, hh, hp, hlen, hb, hsz⟩ := hrel
    have e2 := fun N => byVal wr pb _ hp.cell _ _ N fLen
    have HJ := Lib.hid hj
    have hpl := hp.len
    have HPL := Lib.hid hpl
    have hgs : ∀ W, Fr pb (some g) wr W → W.ownsRow w.heap.size 75 2 u3 l.length (flatR l) ∧ Below B w W ∧ w.heap.size ≤ W.heap.size := fun W h =>
      ⟨h.row hrow (by omega) (fun k hk => by simp at hk; omega), hb.trans (hp.below h), by have := h.size; omega⟩
    by_cases h0 : 0 < ys.length
    · have pop := hpop_any B pb g cap ys wr hp hh h0 (by omega)
      have PO := Lib.hid pop
      have HS := Lib.hid hpb
      rcases snoc_cases l with rfl | ⟨c, ⟨a, b⟩, rfl⟩
      · obtain rfl := hnil rfl
        have app : ∀ r zs w2, (zs ++ [r]).Perm ys → Heap (key zs) zs.length → (∀ q ∈ zs, r.1 ≤ q.1) → Pile B pb (.slice (some ⟨g, 0, none⟩) zs.length cap) zs w2 → Fr pb (some g) wr w2 → ∀ W v' w3, Below w2.heap.size w2 W →
            w3.ownsRow w.heap.size 75 2 v' (0 + 1) ([] ++ [.int .i64 r.1, .int .i64 r.2]) → W.grownBy w3 (Value.slice none 0 0).ownBlock → JoinRel B pb g cap xs w v' w3 ∧ pileLen pb w3 < ys.length := by
          intro r zs w2 h1 h2 h3 h4 h5 W v' w3 hW hown hgr
          obtain ⟨k1, k2, k3⟩ := hgs _ h5
          exact join_on (l := []) (l' := [r]) (hj.apart h1 h3 fun c a b e => by simp at e) (by simp) (by simp) h1 h2 h4 k2 k3 hlen hpb hg (rowR_next k1 hW) hW (by simpa [flatR] using hown) hgr
        have APP := Lib.hid app
        simp only [List.length_nil] at *
        clear hp hh hj hb hrow pop hgs app hpl hlen
        go_wp2_with (first
          | (go_at_fn 173; refine (len_any _ _ _ _).mono ?_; rintro e w2 ⟨rfl, hw⟩; subst hw)
          | (go_at_call 134; refine PO.out.mono ?_; rintro e w2 ⟨r, zs, rfl, h1, h2, h3, h4, h5⟩; have hz5 : w.heap.size ≤ w2.heap.size := Nat.le_trans hsz h5.size; have AP := Lib.hid (APP.out r zs w2 h1 h2 h3 h4 h5); clear h1 h2 h3 h4 h5))
        go_quiet (fail)
        go_wp2_with (at_builtin; refine wpList_append_own _ rfl _ _ 71 rfl w.heap.size 75 i0 (.agg #[.int .i64 0, .int .i64 0]) 2 16 Tryz.underlying71 hi hz0 hz1 hz2 rfl (by decide) (.slice none 0 0) 0 [] rfl (World.ownsRow_nil _ _ _ _) ⟨w2.heap.size + 1, 0, none⟩ 1 1 [.int .i64 r.1, .int .i64 r.2] rfl rfl (two_new _ _ _ _ _ (by simp)) (by simp [Value.oneCell']) (by decide) (by decide) (by simp; omega) ?_; intro v' w3 hown hgrow _; obtain ⟨z1, z2⟩ := AP.out _ v' w3 ((((Below.refl _ _).alloc (Nat.le_refl _) _).trans ((below_drewN _ _).mono (by simp))).alloc (by simp) _) hown hgrow; clear hown hgrow; have Z1 := Lib.hid z1; have Z2 := Lib.hid z2; clear z1 z2)
        go_roundw
        case rel => exact Z1.out
        case measure => rw [HPL.out]; exact Z2.out
      · have hcl : (c ++ [(a, b)]).length = c.length + 1 := by simp
        obtain ⟨p1, p2, p3, p4, p5⟩ := set_parts hj.set
        simp only at p3 p4 p5
        rw [hcl] at hrow
        obtain ⟨g2, cap2, rfl⟩ := ownsRow_succ hrow
        have app : ∀ r zs w2, (zs ++ [r]).Perm ys → Heap (key zs) zs.length → (∀ q ∈ zs, r.1 ≤ q.1) → Pile B pb (.slice (some ⟨g, 0, none⟩) zs.length cap) zs w2 → Fr pb (some g) wr w2 → b + 1 < r.1 → ∀ W v' w3, Below w2.heap.size w2 W →
            w3.ownsRow w.heap.size 75 2 v' (c.length + 1 + 1) (flatR (c ++ [(a, b)]) ++ [.int .i64 r.1, .int .i64 r.2]) → W.grownBy w3 (Value.slice (some ⟨g2, 0, none⟩) (c.length + 1) cap2).ownBlock → JoinRel B pb g cap xs w v' w3 ∧ pileLen pb w3 < ys.length := by
          intro r zs w2 h1 h2 h3 h4 h5 hgt W v' w3 hW hown hgr
          obtain ⟨k1, k2, k3⟩ := hgs _ h5
          exact join_on (l := c ++ [(a, b)]) (l' := (c ++ [(a, b)]) ++ [r]) (hj.apart h1 h3 fun c' a' b' e => by
            have := (List.append_inj' e rfl).2
            simp at this
            rw [← this.2]; exact hgt) (by simp) (by simp) h1 h2 h4 k2 k3 hlen hpb hg (rowR_next k1 hW) hW (by rw [flatR_snoc]; simpa using hown) hgr
        have tou : ∀ r zs w2, (zs ++ [r]).Perm ys → Heap (key zs) zs.length → (∀ q ∈ zs, r.1 ≤ q.1) → Pile B pb (.slice (some ⟨g, 0, none⟩) zs.length cap) zs w2 → Fr pb (some g) wr w2 → ¬ b + 1 < r.1 → ∀ W b', Below w2.heap.size w2 W → b' = max b r.2 →
            JoinRel B pb g cap xs w (Value.slice (some ⟨g2, 0, none⟩) (c.length + 1) cap2) (W.setCell ⟨g2, c.length * 2 + 1, none⟩ (.int .i64 b')) ∧ pileLen pb (W.setCell ⟨g2, c.length * 2 + 1, none⟩ (.int .i64 b')) < ys.length := by
          intro r zs w2 h1 h2 h3 h4 h5 hgt W b' hW hb'
          obtain ⟨k1, k2, k3⟩ := hgs _ h5
          have k4 := rowR_next k1 hW
          rw [hcl] at k4
          obtain ⟨k5, k6⟩ := rowR_setHi (b' := b') k4
          exact join_on (l := c ++ [(a, b)]) (l' := c ++ [(a, b')]) (hj.touch h1 hgt hb') (by simp) (by simp) h1 h2 h4 k2 k3 hlen hpb hg (rowR_next k1 hW) hW (by simpa using k5) k6
        have APP := Lib.hid app
        have TOU := Lib.hid tou
        have hm : c.length + 1 ≤ 1000000 := by simp at hlen; omega
        clear hp hh hj hb hrow pop app tou hpl hlen hnil p1 p2
        rw [hcl] at hgs
        have GS := Lib.hid hgs
        clear hgs
        have HCL := Lib.hid hcl
        clear hcl
        have last : ∀ W : World, W.ownsRow w.heap.size 75 2 (.slice (some ⟨g2, 0, none⟩) (c.length + 1) cap2) (c.length + 1) (flatR (c ++ [(a, b)])) → W.cell? ⟨g2, c.length * 2, none⟩ = some (.int .i64 a) ∧ W.cell? ⟨g2, c.length * 2 + 1, none⟩ = some (.int .i64 b) := fun W h => rowR_last h
        have LA := Lib.hid last
        clear last
        generalize hmm : c.length = m at *
        clear hmm
        go_wp2_with (first
          | (go_at_fn 173; refine (len_any _ _ _ _).mono ?_; rintro e w2 ⟨rfl, hw⟩; subst hw)
          | (go_at_call 134; refine PO.out.mono ?_; rintro e w2 ⟨r, zs, rfl, h1, h2, h3, h4, h5⟩; have hr2 := (GS.out _ h5).1; have hr3 := rowR_next hr2 ((Below.refl w2.heap.size w2).alloc (Nat.le_refl _) (.cells #[.int .i64 r.1, .int .i64 r.2] 75)); obtain ⟨d1, d2⟩ := LA.out _ hr3; have fz := hr3.frozenAt; clear hr3; have HR2 := Lib.hid hr2; have hz5 : w.heap.size ≤ w2.heap.size := Nat.le_trans hsz h5.size; have AP := Lib.hid (APP.out r zs w2 h1 h2 h3 h4 h5); have TO := Lib.hid (TOU.out r zs w2 h1 h2 h3 h4 h5); clear h1 h2 h3 h4 h5 hr2))
        have n0 : ¬ ((m : Int) < 0) := by omega
        have n1 : (m : Int) < (m : Int) + 1 := by omega
        by_cases hgt : b + 1 < r.1
        · go_quiet (fail)
          go_wp2_with (at_builtin; refine wpList_append_own _ rfl _ _ 71 rfl w.heap.size 75 i0 (.agg #[.int .i64 0, .int .i64 0]) 2 16 Tryz.underlying71 hi hz0 hz1 hz2 rfl (by decide) (.slice (some ⟨g2, 0, none⟩) (m + 1) cap2) (m + 1) (flatR (c ++ [(a, b)])) rfl (rowR_next HR2.out ((((Below.refl _ _).alloc (Nat.le_refl _) _).trans ((below_drewN _ _).mono (by simp))).alloc (by simp) _)) ⟨w2.heap.size + 1, 0, none⟩ 1 1 [.int .i64 r.1, .int .i64 r.2] rfl rfl (two_new _ _ _ _ _ (by simp)) (by simp [Value.oneCell']) (by unfold maxLen; omega) (by omega) (by simp; omega) ?_; intro v' w3 hown hgrow _; obtain ⟨z1, z2⟩ := AP.out hgt _ v' w3 ((((Below.refl _ _).alloc (Nat.le_refl _) _).trans ((below_drewN _ _).mono (by simp))).alloc (by simp) _) hown hgrow; clear hown hgrow; have Z1 := Lib.hid z1; have Z2 := Lib.hid z2; clear z1 z2)
          go_roundw
          case rel => exact Z1.out
          case measure => rw [HPL.out]; exact Z2.out
        · go_quiet (fail)
          go_wp2
          go_region
          all_goals (
            go_wp2
            go_roundw
            case rel =>
              refine (TO.out hgt _ _ (((Below.refl _ _).alloc (Nat.le_refl _) _).trans ((below_drewN _ _).mono (by simp))) ?_).1
              split <;> omega
            case measure =>
              rw [HPL.out]
              refine (TO.out hgt _ _ (((Below.refl _ _).alloc (Nat.le_refl _) _).trans ((below_drewN _ _).mono (by simp))) ?_).2
              split <;> omega)
    · obtain rfl : ys = [] := List.eq_nil_of_length_eq_zero (by omega)
      have hset := hj.set
      have hhas := hj.has
      have HR := Lib.hid hrow
      have fin : ∀ c, hasB l c = hasB xs c := fun c => by rw [← hhas c]; simp [hasB]
      have HF := Lib.hid fin
      have HT := Lib.hid hset
      have HB := Lib.hid hb
      have hle : l.length ≤ xs.length := by simp at hlen; omega
      clear hp hh hj hb hrow hgs fin hpl hlen hset hhas hnil
      go_wp2_with (go_at_fn 173; refine (len_any _ _ _ _).mono ?_; rintro e w2 ⟨rfl, hw⟩; subst hw)
      go_ret
      exact ⟨_, l, rfl, HR.out, HT.out, HF.out, hle, HB.out⟩

end Go.Proofs.YtgjiofkjogjhhaaGreatDoor.Rg

/- The heap's down. -/
import Derived.Test.YtdmceapbobkklaaDoorRgUp
namespace Go.Proofs.YtdmceapbobkklaaDoor.Rg
open Go.RowKit Go.Shelf

theorem HeapDn.last {f : Nat → Int} {n k : Nat} (h : HeapDn f n k) (hn : ¬ 2 * k + 1 < n) : Heap f n := h.done fun i h0 hi hk => by omega
/-- the lesser child of k, and what is known of it -/
structure Child (f : Nat → Int) (n k c : Nat) : Prop where
  par : (c - 1) / 2 = k
  pos : 0 < c
  lt : c < n
  least : ∀ i, 0 < i → i < n → (i - 1) / 2 = k → f c ≤ f i
theorem child_two {f : Nat → Int} {n k : Nat} (h2 : 2 * k + 2 < n) (hl : f (2 * k + 2) < f (2 * k + 1)) : Child f n k (2 * k + 2) := ⟨by omega, by omega, h2, fun i h0 hi hk => by
  rcases (show i = 2 * k + 1 ∨ i = 2 * k + 2 by omega) with rfl | rfl
  · omega
  · exact Int.le_refl _⟩
theorem child_one {f : Nat → Int} {n k : Nat} (h1 : 2 * k + 1 < n) (hl : ¬ (2 * k + 2 < n ∧ f (2 * k + 2) < f (2 * k + 1))) : Child f n k (2 * k + 1) := ⟨by omega, by omega, h1, fun i h0 hi hk => by
  rcases (show i = 2 * k + 1 ∨ i = 2 * k + 2 by omega) with rfl | rfl
  · exact Int.le_refl _
  · rcases Int.lt_or_le (f (2 * k + 2)) (f (2 * k + 1)) with h | h
    · exact absurd ⟨hi, h⟩ hl
    · exact h⟩

set_option maxHeartbeats 4000000 in
theorem down_any (B pb g cap n : Nat) (xs : List R) (w : World) (hp : Pile B pb (.slice (some ⟨g, 0, none⟩) xs.length cap) xs w) (hn : n ≤ xs.length) (hM : xs.length ≤ 1000000) (hh : HeapDn (key xs) n 0) :
    Calls Tryd.prog 71 #[ifc pb, .int .i64 0, .int .i64 n] w fun e w' => (∃ b, e = .returned b) ∧ ∃ ys, ys.Perm xs ∧ Heap (key ys) n ∧ (∀ i, n ≤ i → nth ys i = nth xs i) ∧ Pile B pb (.slice (some ⟨g, 0, none⟩) xs.length cap) ys w' ∧ Fr pb (some g) w w' := by
  have e1 := eLess
  have e2 := eSwap
  generalize hL : xs.length = L at *
  go_enter Tryd.func71, Tryd.ntmps71
  go_wp2
  go_loopw [7] (fun s wr => ∃ (k : Nat) (ys : List R), s = .int .i64 k ∧ k ≤ n ∧ ys.length = L ∧ ys.Perm xs ∧ HeapDn (key ys) n k ∧ (∀ i, n ≤ i → nth ys i = nth xs i) ∧ Pile B pb (.slice (some ⟨g, 0, none⟩) L cap) ys wr ∧ Fr pb (some g) w wr) (fun s _ => n - (intOf s).toNat)
  case atStart => exact ⟨0, xs, rfl, Nat.zero_le _, hL, List.Perm.refl _, hh, fun _ _ => rfl, hp, Fr.refl _ _ _⟩
  case round =>
    clear hp hh
    obtain ⟨k, ys, rfl, hk, hyl, hperm, hh, hfix, hp, hf⟩ := hrel
    have fin : Heap (key ys) n → ∀ W, Below wr.heap.size wr W → ∃ ys, ys.Perm xs ∧ Heap (key ys) n ∧ (∀ i, n ≤ i → nth ys i = nth xs i) ∧ Pile B pb (.slice (some ⟨g, 0, none⟩) L cap) ys W ∧ Fr pb (some g) w W := fun h W hb =>
      ⟨ys, hperm, h, hfix, hp.next hb, hf.trans (Fr.of_below hb)⟩
    have FIN := Lib.hid fin
    by_cases hk1 : 2 * k + 1 < n
    · have e3 := fun N => byVal wr pb _ hp.cell _ _ N fLess
      have e4 := fun q N => byVal (wr.drewN q) pb _ (hp.drewN q).cell _ _ N fLess
      have e5 := fun q N => byVal (wr.drewN q) pb _ (hp.drewN q).cell _ _ N fSwap
      have e6 := fun q p N => byVal ((wr.drewN q).drewN p) pb _ ((hp.drewN q).drewN p).cell _ _ N fSwap
      have less : ∀ (i j : Nat) W, i < n → j < n → Below wr.heap.size wr W → Calls Tryd.prog 102 #[.slice (some ⟨g, 0, none⟩) L cap, .int .i64 i, .int .i64 j] W fun e w' => e = .returned (.bool (decide (key ys i < key ys j))) ∧ ∃ q, w' = W.drewN q :=
        fun i j W hi hj hb => less_any ys _ i j W (hp.next hb).rngs (by omega) (by omega)
      have swap : ∀ (i j : Nat) W, i < n → j < n → Below wr.heap.size wr W → Calls Tryd.prog 103 #[.slice (some ⟨g, 0, none⟩) L cap, .int .i64 i, .int .i64 j] W fun e w' => e = .returned (.tuple #[]) ∧ Pile B pb (.slice (some ⟨g, 0, none⟩) L cap) (swapL ys i j) w' ∧ Fr pb (some g) w w' := by
        intro i j W hi hj hb
        have := swap_pile B pb g cap ys i j W (by rw [hyl]; exact hp.next hb) (by omega) (by omega)
        rw [hyl] at this
        refine this.mono ?_
        rintro e w' ⟨h1, h2, h3⟩
        exact ⟨h1, h2, (hf.trans (Fr.of_below hb)).trans h3⟩
      have b1 : ∀ q, Below wr.heap.size wr (wr.drewN q) := fun q => below_drewN wr q
      have b2 : ∀ q p, Below wr.heap.size wr ((wr.drewN q).drewN p) := fun q p => (below_drewN wr q).trans ⟨rfl, rfl, rfl, Nat.le_refl _, fun _ _ => rfl⟩
      have next : ∀ c, Child (key ys) n k c → key ys c < key ys k → HeapDn (key (swapL ys k c)) n c ∧ (swapL ys k c).length = L ∧ (swapL ys k c).Perm xs ∧ (∀ i, n ≤ i → nth (swapL ys k c) i = nth xs i) := fun c hc hlt =>
        ⟨(hh.step hc.par hc.pos hc.lt hlt hc.least).congr fun i hi => key_swap i (by omega), by rw [swapL_len]; exact hyl, (swapL_perm (by omega) (by have := hc.lt; omega)).trans hperm, fun i hi => by
          rcases Nat.lt_or_ge i ys.length with h | h
          · rw [swapL_nth i h, if_neg (by omega), if_neg (by have := hc.lt; omega)]; exact hfix i hi
          · rw [← hfix i hi]; simp [nth, List.getD, swapL_len, h]⟩
      have stay : ∀ c, Child (key ys) n k c → ¬ key ys c < key ys k → Heap (key ys) n := fun c hc hle => hh.done fun i h0 hi hk => by have := hc.least i h0 hi hk; omega
      have k1 := less (2 * k + 2) (2 * k + 1)
      have k2 := less (2 * k + 2) k
      have k3 := less (2 * k + 1) k
      have s2 := swap k (2 * k + 2)
      have s1 := swap k (2 * k + 1)
      rw [show ((2 * k + 2 : Nat) : Int) = 2 * (k : Int) + 2 by omega] at k1 k2 s2
      rw [show ((2 * k + 1 : Nat) : Int) = 2 * (k : Int) + 1 by omega] at k1 k3 s1
      have K1 := Lib.hid k1
      have K2 := Lib.hid k2
      have K3 := Lib.hid k3
      have S1 := Lib.hid s1
      have S2 := Lib.hid s2
      have B1 := Lib.hid b1
      have B2 := Lib.hid b2
      have NX := Lib.hid next
      have ST := Lib.hid stay
      clear hp hf hperm hyl hh hfix fin less swap k1 k2 k3 s1 s2 b1 b2 next stay
      have q1 : (2 * (k : Int) + 1 < 0) = False := by simp; omega
      have q3 : 2 * (k : Int) + 1 + 1 = 2 * (k : Int) + 2 := by omega
      by_cases hk2 : 2 * k + 2 < n
      · by_cases hl : key ys (2 * k + 2) < key ys (2 * k + 1)
        · have HC := Lib.hid (child_two (f := key ys) hk2 hl)
          have c0 := K1.out wr hk2 hk1 (Below.refl _ _)
          rw [decide_eq_true hl] at c0
          have C0 := Lib.hid c0
          clear c0
          by_cases hlt : key ys (2 * k + 2) < key ys k
          · have KK := K2.out
            rw [decide_eq_true hlt] at KK
            have KH := Lib.hid KK
            have NX2 := Lib.hid (NX.out _ HC.out hlt)
            clear KK
            go_wp2_with (first
              | (go_at_fn 102; ((with_reducible refine (C0.out).mono ?_); rintro e w' ⟨rfl, q, rfl⟩))
              | (go_at_fn 102; ((with_reducible refine (KH.out _ (by omega) (by omega) (by first | exact B1.out _ | exact B2.out _ _ | exact Below.refl _ _)).mono ?_); rintro e w' ⟨rfl, p, rfl⟩))
              | (go_at_fn 103; ((with_reducible refine (S2.out _ (by omega) (by omega) (by first | exact B1.out _ | exact B2.out _ _ | exact Below.refl _ _)).mono ?_); rintro e w2 ⟨rfl, hp2, hf2⟩)))
            go_roundw
            case rel => exact ⟨2 * k + 2, swapL ys k (2 * k + 2), by go_num, by omega, NX2.out.2.1, NX2.out.2.2.1, NX2.out.1, NX2.out.2.2.2, hp2, hf2⟩
            case measure => simp [intOf]; omega
          · have KK := K2.out
            rw [decide_eq_false hlt] at KK
            have KH := Lib.hid KK
            have ST2 := Lib.hid (ST.out _ HC.out hlt)
            clear KK
            go_wp2_with (first
              | (go_at_fn 102; ((with_reducible refine (C0.out).mono ?_); rintro e w' ⟨rfl, q, rfl⟩))
              | (go_at_fn 102; ((with_reducible refine (KH.out _ (by omega) (by omega) (by first | exact B1.out _ | exact B2.out _ _ | exact Below.refl _ _)).mono ?_); rintro e w' ⟨rfl, p, rfl⟩)))
            go_ret
            exact ⟨⟨_, rfl⟩, FIN.out ST2.out _ (by first | exact B1.out _ | exact B2.out _ _ | exact Below.refl _ _)⟩
        · have HC := Lib.hid (child_one (f := key ys) hk1 fun h => hl h.2)
          have c0 := K1.out wr hk2 hk1 (Below.refl _ _)
          rw [decide_eq_false hl] at c0
          have C0 := Lib.hid c0
          clear c0
          by_cases hlt : key ys (2 * k + 1) < key ys k
          · have KK := K3.out
            rw [decide_eq_true hlt] at KK
            have KH := Lib.hid KK
            have NX2 := Lib.hid (NX.out _ HC.out hlt)
            clear KK
            go_wp2_with (first
              | (go_at_fn 102; ((with_reducible refine (C0.out).mono ?_); rintro e w' ⟨rfl, q, rfl⟩))
              | (go_at_fn 102; ((with_reducible refine (KH.out _ (by omega) (by omega) (by first | exact B1.out _ | exact B2.out _ _ | exact Below.refl _ _)).mono ?_); rintro e w' ⟨rfl, p, rfl⟩))
              | (go_at_fn 103; ((with_reducible refine (S1.out _ (by omega) (by omega) (by first | exact B1.out _ | exact B2.out _ _ | exact Below.refl _ _)).mono ?_); rintro e w2 ⟨rfl, hp2, hf2⟩)))
            go_roundw
            case rel => exact ⟨2 * k + 1, swapL ys k (2 * k + 1), by go_num, by omega, NX2.out.2.1, NX2.out.2.2.1, NX2.out.1, NX2.out.2.2.2, hp2, hf2⟩
            case measure => simp [intOf]; omega
          · have KK := K3.out
            rw [decide_eq_false hlt] at KK
            have KH := Lib.hid KK
            have ST2 := Lib.hid (ST.out _ HC.out hlt)
            clear KK
            go_wp2_with (first
              | (go_at_fn 102; ((with_reducible refine (C0.out).mono ?_); rintro e w' ⟨rfl, q, rfl⟩))
              | (go_at_fn 102; ((with_reducible refine (KH.out _ (by omega) (by omega) (by first | exact B1.out _ | exact B2.out _ _ | exact Below.refl _ _)).mono ?_); rintro e w' ⟨rfl, p, rfl⟩)))
            go_ret
            exact ⟨⟨_, rfl⟩, FIN.out ST2.out _ (by first | exact B1.out _ | exact B2.out _ _ | exact Below.refl _ _)⟩
      · have HC := Lib.hid (child_one (f := key ys) hk1 fun h => hk2 h.1)
        by_cases hlt : key ys (2 * k + 1) < key ys k
        · have KK := K3.out
          rw [decide_eq_true hlt] at KK
          have KH := Lib.hid KK
          have NX2 := Lib.hid (NX.out _ HC.out hlt)
          clear KK
          go_wp2_with (first
            | (go_at_fn 102; ((with_reducible refine (KH.out _ (by omega) (by omega) (by first | exact B1.out _ | exact B2.out _ _ | exact Below.refl _ _)).mono ?_); rintro e w' ⟨rfl, p, rfl⟩))
            | (go_at_fn 103; ((with_reducible refine (S1.out _ (by omega) (by omega) (by first | exact B1.out _ | exact B2.out _ _ | exact Below.refl _ _)).mono ?_); rintro e w2 ⟨rfl, hp2, hf2⟩)))
          go_roundw
          case rel => exact ⟨2 * k + 1, swapL ys k (2 * k + 1), by go_num, by omega, NX2.out.2.1, NX2.out.2.2.1, NX2.out.1, NX2.out.2.2.2, hp2, hf2⟩
          case measure => simp [intOf]; omega
        · have KK := K3.out
          rw [decide_eq_false hlt] at KK
          have KH := Lib.hid KK
          have ST2 := Lib.hid (ST.out _ HC.out hlt)
          clear KK
          go_wp2_with (first
            | (go_at_fn 102; ((with_reducible refine (KH.out _ (by omega) (by omega) (by first | exact B1.out _ | exact B2.out _ _ | exact Below.refl _ _)).mono ?_); rintro e w' ⟨rfl, p, rfl⟩)))
          go_ret
          exact ⟨⟨_, rfl⟩, FIN.out ST2.out _ (by first | exact B1.out _ | exact B2.out _ _ | exact Below.refl _ _)⟩
    · have hd := Lib.hid (hh.last hk1)
      clear hp hf hperm hyl hh hfix fin
      go_wp2
      go_ret
      exact ⟨⟨_, rfl⟩, FIN.out hd.out _ (Below.refl _ _)⟩

end Go.Proofs.YtdmceapbobkklaaDoor.Rg

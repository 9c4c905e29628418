/- The example; the laws FoldPairs and FoldTexts. -/
import Derived.Test.YtdkiahelnomjpaaDoorFdSet
import Derived.Test.YtdkiahelnomjpaaDoorFdText
namespace Go.Proofs.YtdkiahelnomjpaaDoor.Fd
open Go.RowKit Go.Shelf Go.Proofs.YtdkiahelnomjpaaDoor.Rg

/-- W came out of w by calls that made memory alone -/
def Up (w W : World) : Prop := Below w.heap.size w W
theorem Up.on {w W W' : World} (h : Up w W) (hb : Below W.heap.size W W') : Up w W' := Below.trans h (hb.mono (Below.size h))
theorem ex_f (c : Int) : hasB [((89 : Int), (90 : Int)), (121, 122)] c = foldB (inB [(89, 90)]) c := by
  unfold foldB othB
  cases h : othF c with
  | none =>
    have n1 : c ≠ 121 := by rintro rfl; exact absurd h (by decide)
    have n2 : c ≠ 122 := by rintro rfl; exact absurd h (by decide)
    rw [Bool.eq_iff_iff]; simp [hasB, inB]; omega
  | some o =>
    have := othF_pair h
    unfold Pair at this
    rw [Bool.eq_iff_iff]; simp [hasB, inB]; omega
theorem ex_s : setFrom 0 [((89 : Int), (90 : Int)), (121, 122)] := ⟨by decide, by decide, by decide, by decide, by decide, by decide, trivial⟩

set_option maxRecDepth 100000 in
set_option maxHeartbeats 1600000 in
theorem alive_any (w : World) (hT : Tab w) : Calls Tryd.prog 10 #[] w fun e w' => e = .returned (.bool true) ∧ Below w.heap.size w w' := by
  have HT := Lib.hid (fun W (h : Up w W) => hT.next h)
  have q1 : othN 65 = 97 ∧ (othF 65).isSome = true := by decide +kernel
  have q2 : othN 215 = 0 ∧ (othF 215).isSome = false := by decide +kernel
  have q3 : smallF 1024 = 1104 := by decide +kernel
  have c1 := Lib.hid (fun W (h : Up w W) => other_any 65 W (HT.out W h))
  have c2 := Lib.hid (fun W (h : Up w W) => other_any 215 W (HT.out W h))
  have c3 := Lib.hid (fun W (h : Up w W) => small_any 1024 W (HT.out W h))
  rw [q1.1, q1.2] at c1
  rw [q2.1, q2.2] at c2
  rw [q3] at c3
  have hal : ∀ W, Up w W → Up w (W.alloc (.cells #[.int .i64 89, .int .i64 90] 33)) := fun W h => h.on ((Below.refl _ _).alloc (Nat.le_refl _) _)
  have HAL := Lib.hid hal
  have cs := Lib.hid (fun W (h : Up w W) => set_f [(89, 90)] _ _ (one_at W 89 90) (HT.out _ (HAL.out W h)) (by decide))
  have EQ := Lib.hid (fun L' (k0 : setFrom 0 L') (k1 : ∀ c, hasB L' c = foldB (inB [(89, 90)]) c) => uniq k0 ex_s fun c => by rw [k1, ex_f])
  have h0 : Up w w := Below.refl _ _
  clear hT q1 q2 q3 hal
  go_enter Tryd.func10, Tryd.ntmps10
  go_wp2_with (first
    | (go_at_call 6; (with_reducible refine (c1.out w h0).mono ?_); rintro e w1 ⟨rfl, hb⟩; go_must (have h1 := h0.on hb; clear hb))
    | (go_at_call 6; (with_reducible refine (c2.out w1 h1).mono ?_); rintro e w2 ⟨rfl, hb⟩; go_must (have h2 := h1.on hb; clear hb))
    | (go_at_call 11; (with_reducible refine (cs.out w2 h2).mono ?_); rintro e w3 ⟨v3, L, rfl, hr, k1, k2, k3, k4⟩; go_must (obtain rfl := EQ.out L k1 k2; obtain ⟨g, cap, rfl⟩ := ownsRow_succ (k := 1) hr; obtain ⟨d1, d2⟩ := rowR_last (c := [(89, 90)]) (r := (121, 122)) hr; simp only [List.length_cons, List.length_nil, Nat.zero_add, Nat.one_mul] at d1 d2; have h3 := (HAL.out w2 h2).on k4; clear k1 k2 k3 k4 hr))
    | (go_at_call 8; (with_reducible refine (c3.out w3 h3).mono ?_); rintro e w4 ⟨rfl, hb⟩; go_must (have h4 := h3.on hb; clear hb)))
  go_ret
  exact ⟨rfl, h4⟩

set_option maxRecDepth 100000 in
set_option maxHeartbeats 1600000 in
theorem lawTexts_any (a b : ByteArray) (w : World) (hT : Tab w) : Calls Tryd.prog 5 #[.string a, .string b] w fun e w' => e = .returned (.bool true) ∧ Below w.heap.size w w' := by
  have AL := Lib.hid (fun W (h : Up w W) => alive_any W (hT.next h))
  have h0 : Up w w := Below.refl _ _
  by_cases ha : 300 < a.size
  · have d1 : decide (300 < (a.size : Int)) = true := by simp; omega
    clear hT ha
    go_enter Tryd.func5, Tryd.ntmps5
    go_wp2_with (go_at_call 10; (with_reducible refine (AL.out w h0).mono ?_); rintro e w1 ⟨rfl, hb⟩)
    go_ret
    exact ⟨rfl, hb⟩
  · have d1 : decide (300 < (a.size : Int)) = false := by simp; omega
    by_cases hb : 300 < b.size
    · have d2 : decide (300 < (b.size : Int)) = true := by simp; omega
      clear hT ha hb
      go_enter Tryd.func5, Tryd.ntmps5
      go_wp2_with (go_at_call 10; (with_reducible refine (AL.out w h0).mono ?_); rintro e w1 ⟨rfl, hb⟩)
      go_ret
      exact ⟨rfl, hb⟩
    · have d2 : decide (300 < (b.size : Int)) = false := by simp; omega
      have c1 := Lib.hid (fun W => same_t a b (by unfold maxLen; omega) W)
      have c2 := Lib.hid (fun W => same_r a b (by unfold maxLen; omega) W)
      have c3 := Lib.hid (fun W => same_t a a (by unfold maxLen; omega) W)
      obtain ⟨y, hy⟩ : ∃ y, eqL a.data.toList b.data.toList = y := ⟨_, rfl⟩
      rw [hy] at c1 c2
      rw [eqL_self] at c3
      clear hT ha hb hy
      go_enter Tryd.func5, Tryd.ntmps5
      go_wp2_with (first
        | (go_at_call 15; (with_reducible refine (c1.out w).mono ?_); rintro e w1 ⟨rfl, hb⟩; go_must (have h1 := h0.on hb; clear hb))
        | (go_at_call 16; (with_reducible refine (c2.out w1).mono ?_); rintro e w2 ⟨rfl, hb⟩; go_must (have h2 := h1.on hb; clear hb))
        | (go_at_call 15; (with_reducible refine (c3.out w2).mono ?_); rintro e w3 ⟨rfl, hb⟩; go_must (have h3 := h2.on hb; clear hb))
        | (go_at_call 10; (with_reducible refine (AL.out w3 h3).mono ?_); rintro e w4 ⟨rfl, hb⟩; go_must (have h4 := h3.on hb; clear hb)))
      go_ret
      exact ⟨rfl, h4⟩

set_option maxRecDepth 100000 in
set_option maxHeartbeats 3200000 in
theorem lawPairs_any (c : Int) (w : World) (hT : Tab w) : Calls Tryd.prog 3 #[.int .i64 c] w fun e w' => e = .returned (.bool true) ∧ Below w.heap.size w w' := by
  have AL := Lib.hid (fun W (h : Up w W) => alive_any W (hT.next h))
  have c1 := Lib.hid (fun W (h : Up w W) => other_any c W (hT.next h))
  have c2 := Lib.hid (fun W => roth_any c W)
  have c3 := Lib.hid (fun W (h : Up w W) => small_any c W (hT.next h))
  have c4 := Lib.hid (fun W => rsmall_any c W)
  have h0 : Up w w := Below.refl _ _
  obtain ⟨x, hx⟩ : ∃ x, othF c = x := ⟨_, rfl⟩
  cases x with
  | none =>
    rw [othN, hx] at c1 c2
    simp only [Option.isSome_none, Option.getD_none] at c1 c2
    clear hT hx
    generalize smallF c = y at *
    go_enter Tryd.func3, Tryd.ntmps3
    go_wp2_with (first
      | (go_at_call 6; (with_reducible refine (c1.out w h0).mono ?_); rintro e w1 ⟨rfl, hb⟩; go_must (have h1 := h0.on hb; clear hb))
      | (go_at_call 7; (with_reducible refine (c2.out w1).mono ?_); rintro e w2 ⟨rfl, hw⟩; subst hw)
      | (go_at_call 8; (with_reducible refine (c3.out _ h1).mono ?_); rintro e w3 ⟨rfl, hb⟩; go_must (have h3 := h1.on hb; clear hb))
      | (go_at_call 9; (with_reducible refine (c4.out w3).mono ?_); rintro e w4 ⟨rfl, hw⟩; subst hw)
      | (go_at_call 10; (with_reducible refine (AL.out _ h3).mono ?_); rintro e w5 ⟨rfl, hb⟩; go_must (have h5 := h3.on hb; clear hb)))
    go_ret
    exact ⟨rfl, h5⟩
  | some o =>
    have k1 := Lib.hid (fun W (h : Up w W) => other_any o W (hT.next h))
    have k2 := Lib.hid (fun W (h : Up w W) => small_any o W (hT.next h))
    rw [othN, oth_back hx] at k1
    rw [small_back hx] at k2
    rw [othN, hx] at c1 c2
    simp only [Option.isSome_some, Option.getD_some] at c1 c2 k1
    clear hT hx
    generalize smallF c = y at *
    go_enter Tryd.func3, Tryd.ntmps3
    go_wp2_with (first
      | (go_at_call 6; (with_reducible refine (c1.out w h0).mono ?_); rintro e w1 ⟨rfl, hb⟩; go_must (have h1 := h0.on hb; clear hb))
      | (go_at_call 7; (with_reducible refine (c2.out w1).mono ?_); rintro e w2 ⟨rfl, hw⟩; subst hw)
      | (go_at_call 8; (with_reducible refine (c3.out _ h1).mono ?_); rintro e w3 ⟨rfl, hb⟩; go_must (have h3 := h1.on hb; clear hb))
      | (go_at_call 9; (with_reducible refine (c4.out w3).mono ?_); rintro e w4 ⟨rfl, hw⟩; subst hw)
      | (go_at_call 6; (with_reducible refine (k1.out _ h3).mono ?_); rintro e w5 ⟨rfl, hb⟩; go_must (have h5 := h3.on hb; clear hb))
      | (go_at_call 8; (with_reducible refine (k2.out _ h5).mono ?_); rintro e w6 ⟨rfl, hb⟩; go_must (have h6 := h5.on hb; clear hb))
      | (go_at_call 8; (with_reducible refine (c3.out _ h6).mono ?_); rintro e w7 ⟨rfl, hb⟩; go_must (have h7 := h6.on hb; clear hb))
      | (go_at_call 10; (with_reducible refine (AL.out _ h7).mono ?_); rintro e w8 ⟨rfl, hb⟩; go_must (have h8 := h7.on hb; clear hb)))
    go_ret
    exact ⟨rfl, h8⟩

end Go.Proofs.YtdkiahelnomjpaaDoor.Fd

/- The law FoldSets. -/
import Derived.Test.YtdkiahelnomjpaaDoorFdLaws
import Derived.Test.YtdkiahelnomjpaaDoorFdRSet
namespace Go.Proofs.YtdkiahelnomjpaaDoor.Fd
open Go.RowKit Go.Shelf Go.Proofs.YtdkiahelnomjpaaDoor.Rg

theorem made_up {w W : World} {v : Value} {L : List R} {P : Int → Bool} {n : Nat} (h : MadeAt w W v L P n) : Up w W := h.below
theorem made_in {w W : World} {v : Value} {L l : List R} {n : Nat} (h : MadeAt w W v L (foldB (inB l)) n) (c : Int) : inB L c = foldB (inB l) c := by rw [inB_set h.set, h.has]
theorem made_again {w W : World} {v : Value} {L l : List R} {n : Nat} (h : MadeAt w W v L (foldB (inB l)) n) (c : Int) : foldB (inB L) c = foldB (inB l) c := by
  rw [show inB L = foldB (inB l) from funext (made_in h), foldB_again]

set_option maxRecDepth 100000 in
set_option maxHeartbeats 6400000 in
theorem lawSets_any (l : List R) (v : Value) (c : Int) (w : World) (hv : RngsAt w v l) (hT : Tab w) : Calls Tryd.prog 4 #[v, .int .i64 c] w fun e w' => e = .returned (.bool true) ∧ Below w.heap.size w w' := by
  have AL := Lib.hid (fun W (h : Up w W) => alive_any W (hT.next h))
  have h0 : Up w w := Below.refl _ _
  by_cases hM : 30 < l.length
  · obtain ⟨ao, cap, rfl, hm, _⟩ := hv.shape
    have d1 : decide (30 < (l.length : Int)) = true := by simp; omega
    clear hv hT hM
    go_enter Tryd.func4, Tryd.ntmps4
    go_wp2_with (go_at_call 10; (with_reducible refine (AL.out w h0).mono ?_); rintro e w1 ⟨rfl, hb⟩)
    go_ret
    exact ⟨rfl, hb⟩
  · have d1 : decide (30 < (l.length : Int)) = false := by simp; omega
    have cF := Lib.hid (set_f l v w hv hT (by omega))
    have cG := Lib.hid (fun L u W (h : RngsAt W u L) (hl : L.length ≤ 900) (hu : Up w W) => set_f L u W h (hT.next hu) (by omega))
    have cR := Lib.hid (fun W (h : Up w W) => set_r l v W (hv.next h) (by omega))
    have cO := Lib.hid (fun W => roth_any c W)
    have cH := Lib.hid (fun W (h : Up w W) => rhas_any l c v W (hv.next h))
    have HM := Lib.hid hM
    obtain ⟨ao, cap, rfl, hm, _⟩ := hv.shape
    obtain ⟨y, hy⟩ : ∃ y, foldB (inB l) c = y := ⟨_, rfl⟩
    obtain ⟨z, hz⟩ : ∃ z, inB l c = z := ⟨_, rfl⟩
    have hzy : z = true → y = true := fun h => by rw [← hy, foldB, hz, h]; rfl
    rw [hz] at cH
    have QY := Lib.hid (fun (W : World) (u : Value) (L : List R) (m : MadeAt w W u L (foldB (inB l)) (30 * l.length)) => (made_in m c).trans hy)
    obtain ⟨x, hx⟩ : ∃ x, othF c = x := ⟨_, rfl⟩
    rw [othN, hx] at cO
    clear hv hT hM
    cases x with
    | none =>
      simp only [Option.isSome_none, Option.getD_none] at cO
      clear hx hz hy
      cases z
      · clear hzy
        go_enter Tryd.func4, Tryd.ntmps4
        go_wp2_with (first
          | (go_at_call 11; (with_reducible refine cF.out.mono ?_); intro e w1 ho; go_must (obtain ⟨v1, L1, rfl, m1, b1⟩ := ho.made (w := w) (Below.refl _ _); obtain ⟨o1, p1, rfl, _, _⟩ := m1.at'.shape; have M1 := Lib.hid m1; have n1 : L1.length ≤ 900 := (by have := m1.len; have := HM.out; omega); clear ho m1 b1))
          | (go_at_call 13; (with_reducible refine (cR.out w1 (made_up M1.out)).mono ?_); intro e w2 ho; go_must (obtain ⟨v2, L2, rfl, m2, b2⟩ := ho.made (w := w) M1.out.below; have C2 := Lib.hid (cmp_any M1.out b2 m2 (fun _ => rfl)); have MA2 := Lib.hid (M1.out.next b2); clear ho m2 b2))
          | (go_at_call 12; (with_reducible refine C2.out.mono ?_); rintro e w3 ⟨rfl, hb⟩; go_must (have MA3 := Lib.hid (MA2.out.next hb); clear hb))
          | (go_at_call 11; (with_reducible refine (cG.out L1 _ w3 MA3.out.at' n1 (made_up MA3.out)).mono ?_); intro e w4 ho; go_must (obtain ⟨v4, L4, rfl, m4, b4⟩ := ho.made (w := w) MA3.out.below; have MA4 := Lib.hid (MA3.out.next b4); have C4 := Lib.hid (cmp_any m4 (Below.refl _ _) MA4.out (made_again MA4.out)); clear ho m4 b4))
          | (go_at_call 12; (with_reducible refine C4.out.mono ?_); rintro e w5 ⟨rfl, hb⟩; go_must (have MA5 := Lib.hid (MA4.out.next hb); clear hb))
          | (go_at_call 7; (with_reducible refine (cO.out _).mono ?_); rintro e w6 ⟨rfl, hw⟩; subst hw)
          | (go_at_call 14; (with_reducible refine (cH.out _ (made_up MA5.out)).mono ?_); rintro e w6 ⟨rfl, hw⟩; subst hw)
          | (go_at_call 10; (with_reducible refine (AL.out _ (made_up MA5.out)).mono ?_); rintro e w8 ⟨rfl, hb⟩; go_must (have h8 := Up.on (made_up MA5.out) hb; clear hb)))
        go_ret
        exact ⟨rfl, h8⟩
      · obtain rfl := hzy rfl
        clear hzy
        go_enter Tryd.func4, Tryd.ntmps4
        go_wp2_with (first
          | (go_at_call 11; (with_reducible refine cF.out.mono ?_); intro e w1 ho; go_must (obtain ⟨v1, L1, rfl, m1, b1⟩ := ho.made (w := w) (Below.refl _ _); obtain ⟨o1, p1, rfl, _, _⟩ := m1.at'.shape; have M1 := Lib.hid m1; have n1 : L1.length ≤ 900 := (by have := m1.len; have := HM.out; omega); clear ho m1 b1))
          | (go_at_call 13; (with_reducible refine (cR.out w1 (made_up M1.out)).mono ?_); intro e w2 ho; go_must (obtain ⟨v2, L2, rfl, m2, b2⟩ := ho.made (w := w) M1.out.below; have C2 := Lib.hid (cmp_any M1.out b2 m2 (fun _ => rfl)); have MA2 := Lib.hid (M1.out.next b2); clear ho m2 b2))
          | (go_at_call 12; (with_reducible refine C2.out.mono ?_); rintro e w3 ⟨rfl, hb⟩; go_must (have MA3 := Lib.hid (MA2.out.next hb); clear hb))
          | (go_at_call 11; (with_reducible refine (cG.out L1 _ w3 MA3.out.at' n1 (made_up MA3.out)).mono ?_); intro e w4 ho; go_must (obtain ⟨v4, L4, rfl, m4, b4⟩ := ho.made (w := w) MA3.out.below; have MA4 := Lib.hid (MA3.out.next b4); have C4 := Lib.hid (cmp_any m4 (Below.refl _ _) MA4.out (made_again MA4.out)); clear ho m4 b4))
          | (go_at_call 12; (with_reducible refine C4.out.mono ?_); rintro e w5 ⟨rfl, hb⟩; go_must (have MA5 := Lib.hid (MA4.out.next hb); clear hb))
          | (go_at_call 7; (with_reducible refine (cO.out _).mono ?_); rintro e w6 ⟨rfl, hw⟩; subst hw)
          | (go_at_call 14; (with_reducible refine (cH.out _ (made_up MA5.out)).mono ?_); rintro e w6 ⟨rfl, hw⟩; subst hw)
          | (go_at_call 14; (with_reducible refine (rhas_any L1 c _ _ MA5.out.at').mono ?_); rintro e w7 ⟨he, hw⟩; go_must (rw [QY.out _ _ _ MA5.out] at he; subst he; subst hw))
          | (go_at_call 10; (with_reducible refine (AL.out _ (made_up MA5.out)).mono ?_); rintro e w8 ⟨rfl, hb⟩; go_must (have h8 := Up.on (made_up MA5.out) hb; clear hb)))
        go_ret
        exact ⟨rfl, h8⟩
    | some o =>
      simp only [Option.isSome_some, Option.getD_some] at cO
      have QO := Lib.hid (fun (W : World) (u : Value) (L : List R) (m : MadeAt w W u L (foldB (inB l)) (30 * l.length)) => (made_in m o).trans ((foldB_other _ hx).symm.trans hy))
      clear hx hz hy
      cases z
      · clear hzy
        go_enter Tryd.func4, Tryd.ntmps4
        go_wp2_with (first
          | (go_at_call 11; (with_reducible refine cF.out.mono ?_); intro e w1 ho; go_must (obtain ⟨v1, L1, rfl, m1, b1⟩ := ho.made (w := w) (Below.refl _ _); obtain ⟨o1, p1, rfl, _, _⟩ := m1.at'.shape; have M1 := Lib.hid m1; have n1 : L1.length ≤ 900 := (by have := m1.len; have := HM.out; omega); clear ho m1 b1))
          | (go_at_call 13; (with_reducible refine (cR.out w1 (made_up M1.out)).mono ?_); intro e w2 ho; go_must (obtain ⟨v2, L2, rfl, m2, b2⟩ := ho.made (w := w) M1.out.below; have C2 := Lib.hid (cmp_any M1.out b2 m2 (fun _ => rfl)); have MA2 := Lib.hid (M1.out.next b2); clear ho m2 b2))
          | (go_at_call 12; (with_reducible refine C2.out.mono ?_); rintro e w3 ⟨rfl, hb⟩; go_must (have MA3 := Lib.hid (MA2.out.next hb); clear hb))
          | (go_at_call 11; (with_reducible refine (cG.out L1 _ w3 MA3.out.at' n1 (made_up MA3.out)).mono ?_); intro e w4 ho; go_must (obtain ⟨v4, L4, rfl, m4, b4⟩ := ho.made (w := w) MA3.out.below; have MA4 := Lib.hid (MA3.out.next b4); have C4 := Lib.hid (cmp_any m4 (Below.refl _ _) MA4.out (made_again MA4.out)); clear ho m4 b4))
          | (go_at_call 12; (with_reducible refine C4.out.mono ?_); rintro e w5 ⟨rfl, hb⟩; go_must (have MA5 := Lib.hid (MA4.out.next hb); clear hb))
          | (go_at_call 7; (with_reducible refine (cO.out _).mono ?_); rintro e w6 ⟨rfl, hw⟩; subst hw)
          | (go_at_call 14; (with_reducible refine (cH.out _ (made_up MA5.out)).mono ?_); rintro e w6 ⟨rfl, hw⟩; subst hw)
          | (go_at_call 14; (with_reducible refine (rhas_any L1 c _ _ MA5.out.at').mono ?_); rintro e w7 ⟨he, hw⟩; go_must (rw [QY.out _ _ _ MA5.out] at he; subst he; subst hw))
          | (go_at_call 14; (with_reducible refine (rhas_any L1 o _ _ MA5.out.at').mono ?_); rintro e w7 ⟨he, hw⟩; go_must (rw [QO.out _ _ _ MA5.out] at he; subst he; subst hw))
          | (go_at_call 10; (with_reducible refine (AL.out _ (made_up MA5.out)).mono ?_); rintro e w8 ⟨rfl, hb⟩; go_must (have h8 := Up.on (made_up MA5.out) hb; clear hb)))
        go_ret
        exact ⟨rfl, h8⟩
      · obtain rfl := hzy rfl
        clear hzy
        go_enter Tryd.func4, Tryd.ntmps4
        go_wp2_with (first
          | (go_at_call 11; (with_reducible refine cF.out.mono ?_); intro e w1 ho; go_must (obtain ⟨v1, L1, rfl, m1, b1⟩ := ho.made (w := w) (Below.refl _ _); obtain ⟨o1, p1, rfl, _, _⟩ := m1.at'.shape; have M1 := Lib.hid m1; have n1 : L1.length ≤ 900 := (by have := m1.len; have := HM.out; omega); clear ho m1 b1))
          | (go_at_call 13; (with_reducible refine (cR.out w1 (made_up M1.out)).mono ?_); intro e w2 ho; go_must (obtain ⟨v2, L2, rfl, m2, b2⟩ := ho.made (w := w) M1.out.below; have C2 := Lib.hid (cmp_any M1.out b2 m2 (fun _ => rfl)); have MA2 := Lib.hid (M1.out.next b2); clear ho m2 b2))
          | (go_at_call 12; (with_reducible refine C2.out.mono ?_); rintro e w3 ⟨rfl, hb⟩; go_must (have MA3 := Lib.hid (MA2.out.next hb); clear hb))
          | (go_at_call 11; (with_reducible refine (cG.out L1 _ w3 MA3.out.at' n1 (made_up MA3.out)).mono ?_); intro e w4 ho; go_must (obtain ⟨v4, L4, rfl, m4, b4⟩ := ho.made (w := w) MA3.out.below; have MA4 := Lib.hid (MA3.out.next b4); have C4 := Lib.hid (cmp_any m4 (Below.refl _ _) MA4.out (made_again MA4.out)); clear ho m4 b4))
          | (go_at_call 12; (with_reducible refine C4.out.mono ?_); rintro e w5 ⟨rfl, hb⟩; go_must (have MA5 := Lib.hid (MA4.out.next hb); clear hb))
          | (go_at_call 7; (with_reducible refine (cO.out _).mono ?_); rintro e w6 ⟨rfl, hw⟩; subst hw)
          | (go_at_call 14; (with_reducible refine (cH.out _ (made_up MA5.out)).mono ?_); rintro e w6 ⟨rfl, hw⟩; subst hw)
          | (go_at_call 14; (with_reducible refine (rhas_any L1 c _ _ MA5.out.at').mono ?_); rintro e w7 ⟨he, hw⟩; go_must (rw [QY.out _ _ _ MA5.out] at he; subst he; subst hw))
          | (go_at_call 14; (with_reducible refine (rhas_any L1 o _ _ MA5.out.at').mono ?_); rintro e w7 ⟨he, hw⟩; go_must (rw [QO.out _ _ _ MA5.out] at he; subst he; subst hw))
          | (go_at_call 10; (with_reducible refine (AL.out _ (made_up MA5.out)).mono ?_); rintro e w8 ⟨rfl, hb⟩; go_must (have h8 := Up.on (made_up MA5.out) hb; clear hb)))
        go_ret
        exact ⟨rfl, h8⟩

end Go.Proofs.YtdkiahelnomjpaaDoor.Fd

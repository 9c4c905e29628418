/- The document's Right and Count; the example. -/
import Derived.Test.YtpfbipkimpiakaaRgSet2
namespace Go.Proofs.Ytpfbipkimpiakaa.Rg
open Go.RowKit Go.Shelf

theorem inB_isC (l : List R) (c : Int) : (isC c && inB l c) = inB l c := by
  unfold isC inB
  cases decide (0 ≤ c) <;> cases decide (c ≤ 1114111) <;> simp
/-- is it a set -/
noncomputable def rightB (l : List R) : Bool := @decide (setFrom 0 l) (Classical.propDecidable _)
theorem rightB_iff (l : List R) : rightB l = true ↔ setFrom 0 l := by unfold rightB; exact @decide_eq_true_iff _ (Classical.propDecidable _)
theorem rightB_of {l : List R} {b : Bool} (h : b = true ↔ setFrom 0 l) : b = rightB l := by
  rw [Bool.eq_iff_iff, rightB_iff]; exact h
theorem none_at (w : World) : RngsAt w (.slice none 0 0) [] := .inl ⟨rfl, rfl⟩

theorem right_all (l : List R) (v : Value) (w : World) (hv : RngsAt w v l) : Calls Try.prog 10 #[v] w fun e w' => e = .returned (.bool (rightB l)) ∧ Below w.heap.size w w' := by
  refine (right_any l v w hv).mono ?_
  rintro e w' ⟨b, rfl, hb, h⟩
  exact ⟨by rw [rightB_of hb], h⟩

set_option maxHeartbeats 800000 in
theorem rright_all (l : List R) (v : Value) (w : World) (hv : RngsAt w v l) (hM : l.length ≤ 40000) : Calls Try.prog 11 #[v] w fun e w' => e = .returned (.bool (rightB l)) ∧ Below w.heap.size w w' := by
  have c1 := Lib.hid (set_any 0 (by omega) l [] v (.slice none 0 0) w hv (none_at w) (by simpa using hM))
  have c2 := Lib.hid (fun L v2 w1 (h : RngsAt w1 v2 L) (hb : Below w.heap.size w w1) => rsame_any l L v v2 w1 (hv.next hb) h)
  clear hv
  go_enter Try.func11, Try.ntmps11
  go_wp2_with (first
    | (go_at_call 9; refine c1.out.mono ?_; rintro e w1 ⟨v1, L, rfl, hr, h1, h2, h3, h4⟩; have C2 := Lib.hid (c2.out L v1 w1 (rngs_of_row hr) h4); have H1 := Lib.hid h1; have H2 := Lib.hid h2; have H4 := Lib.hid h4; clear h1 h2 h4 hr)
    | (go_at_call 7; refine C2.out.mono ?_; rintro e w2 ⟨rfl, hb2⟩))
  go_ret
  refine ⟨retB ?_, H4.out.trans (hb2.mono H4.out.size)⟩
  refine rightB_of ?_
  rw [decide_eq_true_iff]
  constructor
  · rintro rfl; exact H1.out
  · intro h
    refine uniq h H1.out fun c => ?_
    rw [H2.out]
    show hasB l c = (isC c && inB l c)
    rw [inB_isC, inB_set h]

def RCountRel (L : List R) (s i : Value) : Prop :=
  ∃ (k : Nat) (n : Int), i = .int .i64 k ∧ s = .int .i64 n ∧ k ≤ L.length ∧ n + cntL (L.drop k) = cntL L ∧ 0 ≤ n

/-- counting, told by any list of the set -/
theorem count_all (l L : List R) (v : Value) (w : World) (hv : RngsAt w v l) (hM : l.length < 1000000) (h0 : setFrom 0 L) (h1 : ∀ c, hasB L c = inB l c) : Calls Try.prog 14 #[v] w fun e w' => e = .returned (.int .i64 (cntL L)) ∧ Below w.heap.size w w' := by
  refine (count_any l v w hv hM).mono ?_
  rintro e w' ⟨L', k0, k1, rfl, hb⟩
  obtain rfl : L' = L := uniq k0 h0 fun c => by rw [k1, h1]
  exact ⟨rfl, hb⟩

set_option maxHeartbeats 1600000 in
theorem rcount_all (l L : List R) (v : Value) (w : World) (hv : RngsAt w v l) (hM : l.length ≤ 40000) (h0 : setFrom 0 L) (h1 : ∀ c, hasB L c = inB l c) : Calls Try.prog 15 #[v] w fun e w' => e = .returned (.int .i64 (cntL L)) ∧ Below w.heap.size w w' := by
  have c1 := Lib.hid (set_any 0 (by omega) l [] v (.slice none 0 0) w hv (none_at w) (by simpa using hM))
  have HS := Lib.hid h0
  have eqL : ∀ L', setFrom 0 L' → (∀ c, hasB L' c = (isC c && holdB 0 l [] c)) → L' = L := fun L' k0 k1 => uniq k0 h0 fun c => by
    rw [k1, h1]; show (isC c && inB l c) = inB l c; exact inB_isC l c
  have EQ := Lib.hid eqL
  clear hv h0 h1 eqL
  go_enter Try.func15, Try.ntmps15
  go_wp2_with (go_at_call 9; refine c1.out.mono ?_; rintro e w1 ⟨v1, L', rfl, hr, k1, k2, k3, k4⟩; go_must (obtain rfl := EQ.out L' k1 k2; obtain ⟨ao, cap, rfl, hm, hcs⟩ := (rngs_of_row hr).shape; have HC := Lib.hid hcs; have H4 := Lib.hid k4; clear hcs k1 k2 k4 hr))
  go_loopw [4, 5] (fun s i wr => RCountRel L' s i ∧ Below w1.heap.size w1 wr) (fun _ i _ => L'.length - (intOf i).toNat)
  case atStart => exact ⟨⟨0, 0, rfl, rfl, Nat.zero_le _, by simp, by omega⟩, Below.refl _ _⟩
  case round =>
    obtain ⟨⟨k, n, rfl, rfl, hk, hc, hn0⟩, hb⟩ := hrel
    by_cases hlt : k < L'.length
    · obtain ⟨g, rfl, c1, c2⟩ := HC.out k hlt
      replace c1 := cell_next c1 hb
      replace c2 := cell_next c2 hb
      obtain ⟨b1, b2, b3, b4, b5⟩ := bnd HS.out hlt hc
      have HSR := Lib.hid b5
      have HB := Lib.hid hb
      have n1 : (k : Int) < (L'.length : Int) := by omega
      have n2 : (0 : Int) ≤ (k : Int) := by omega
      have z1 : IntKind.i64.wrap (n + (nth L' k).2) = n + (nth L' k).2 := by rw [IntKind.wrap_i64]; omega
      have z2 : IntKind.i64.wrap (n + (nth L' k).2 - (nth L' k).1) = n + (nth L' k).2 - (nth L' k).1 := by rw [IntKind.wrap_i64]; omega
      have z3 : IntKind.i64.wrap (n + (nth L' k).2 - (nth L' k).1 + 1) = n + (nth L' k).2 - (nth L' k).1 + 1 := by rw [IntKind.wrap_i64]; omega
      clear hc hb b5
      go_wp2
      go_quiet (fail)
      go_wp2
      go_roundw
      case rel => exact ⟨⟨k + 1, n + ((nth L' k).2 - (nth L' k).1 + 1), by go_num, by go_num, by omega, HSR.out, by omega⟩, HB.out.trans ((below_drewN _ _).mono HB.out.size)⟩
      case measure => simp [intOf]; omega
    · obtain rfl : k = L'.length := by omega
      rw [List.drop_length] at hc
      have hc2 : n = cntL L' := by simp [cntL] at hc; omega
      subst hc2
      clear hc
      go_wp2
      go_ret
      exact ⟨rfl, H4.out.trans (hb.mono H4.out.size)⟩

theorem ex_set : setFrom 0 [((1 : Int), (9 : Int))] := ⟨by decide, by decide, by decide, trivial⟩
theorem ex_has (c : Int) : hasB [((1 : Int), (9 : Int))] c = inB [(5, 9), (1, 2), (3, 4)] c := by
  rw [Bool.eq_iff_iff]; simp [hasB, inB]; omega
theorem ex_in (c : Int) : hasB [((1 : Int), (9 : Int))] c = inB [(1, 9)] c := by
  rw [Bool.eq_iff_iff]; simp [hasB, inB]; omega

theorem three_at (w : World) : RngsAt (w.alloc (.cells #[.int .i64 5, .int .i64 9, .int .i64 1, .int .i64 2, .int .i64 3, .int .i64 4] 35)) (.slice (some ⟨w.heap.size, 0, none⟩) 3 3) [(5, 9), (1, 2), (3, 4)] :=
  rngs_of_row (B := w.heap.size) (World.ownsRow_lit (e := 35) (size := 2) w #[.int .i64 5, .int .i64 9, .int .i64 1, .int .i64 2, .int .i64 3, .int .i64 4] 3 (Nat.le_refl _) (by decide) (by simp))

set_option maxHeartbeats 1600000 in
theorem alive_any (w : World) : Calls Try.prog 6 #[] w fun e w' => e = .returned (.bool true) ∧ Below w.heap.size w w' := by
  have c1 := Lib.hid (of_any _ _ _ (three_at w) (by decide))
  have eqL : ∀ L', setFrom 0 L' → (∀ c, hasB L' c = inB [(5, 9), (1, 2), (3, 4)] c) → L' = [((1 : Int), (9 : Int))] := fun L' k0 k1 => uniq k0 ex_set fun c => by rw [k1, ex_has]
  have EQ := Lib.hid eqL
  have c2 := Lib.hid (fun W v (h : RngsAt W v [((1 : Int), (9 : Int))]) => count_all _ _ v W h (by decide) ex_set ex_in)
  have c3 := Lib.hid (fun W v (h : RngsAt W v [((1 : Int), (9 : Int))]) => has_any _ 9 v W h)
  have hc : cntL [((1 : Int), (9 : Int))] = 9 := by decide
  have hi : inB [((1 : Int), (9 : Int))] 9 = true := by decide
  rw [hc] at c2
  rw [hi] at c3
  clear eqL hc hi
  go_enter Try.func6, Try.ntmps6
  go_wp2_with (first
    | (go_at_call 8; refine c1.out.mono ?_; rintro e w1 ⟨v1, L, rfl, hr, k1, k2, k3, k4⟩; go_must (obtain rfl := EQ.out L k1 k2; obtain ⟨g, cap, rfl⟩ := ownsRow_succ (k := 0) hr; obtain ⟨d1, d2⟩ := rowR_last (c := []) hr; simp only [List.length_nil, Nat.zero_mul, Nat.zero_add] at d1 d2; have B1 := Lib.hid (((Below.refl w.heap.size w).alloc (Nat.le_refl _) _).trans (k4.mono (by simp))); have R1 := Lib.hid (rngs_of_row hr); clear k1 k2 k4 hr))
    | (go_at_call 14; refine (c2.out _ _ R1.out).mono ?_; rintro e w2 ⟨rfl, h2⟩; go_must (have B2 := Lib.hid (B1.out.trans (h2.mono B1.out.size)); have R2 := Lib.hid (R1.out.next h2); clear h2))
    | (go_at_call 12; refine (c3.out _ _ R2.out).mono ?_; rintro e w3 ⟨rfl, h3⟩; go_must (have B3 := Lib.hid (B2.out.trans (h3.mono B2.out.size)); clear h3)))
  go_ret
  exact ⟨rfl, B3.out⟩

end Go.Proofs.Ytpfbipkimpiakaa.Rg

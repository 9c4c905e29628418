/- The law RangesBack. -/
import Derived.Test.YtpfbipkimpiakaaRgLaws2
namespace Go.Proofs.Ytpfbipkimpiakaa.Rg
open Go.RowKit Go.Shelf

theorem qNot {a N : List R} (h0 : setFrom 0 N) (h1 : ∀ c, hasB N c = (isC c && !inB a c)) (c : Int) : inB N c = (isC c && !inB a c) := by rw [inB_set h0, h1]
theorem qBack {a N : List R} (h0 : setFrom 0 N) (h1 : ∀ c, hasB N c = (isC c && !inB a c)) (c : Int) : (isC c && !inB N c) = (isC c && holdB 0 a [] c) := by
  rw [qNot h0 h1]
  show _ = (isC c && inB a c)
  cases isC c <;> cases inB a c <;> rfl
theorem qUni {a b L B : List R} (l0 : setFrom 0 L) (l1 : ∀ c, hasB L c = (inB a c && (isC c && !inB b c))) (b0 : setFrom 0 B) (b1 : ∀ c, hasB B c = (inB a c && inB b c)) (c : Int) : (inB L c || inB B c) = (isC c && holdB 0 a [] c) := by
  rw [inB_set l0, inB_set b0, l1, b1]
  show _ = (isC c && inB a c)
  have := inB_isC a c
  cases hi : isC c <;> cases ha : inB a c <;> cases hb : inB b c <;> simp_all
theorem qNone {a b L B X : List R} (l0 : setFrom 0 L) (l1 : ∀ c, hasB L c = (inB a c && (isC c && !inB b c))) (b0 : setFrom 0 B) (b1 : ∀ c, hasB B c = (inB a c && inB b c)) (x0 : setFrom 0 X) (x1 : ∀ c, hasB X c = (inB L c && inB B c)) : X = [] := by
  refine uniq (m' := 0) x0 (b := []) trivial fun c => ?_
  rw [x1, inB_set l0, inB_set b0, l1, b1, hasB_nil]
  cases isC c <;> cases inB a c <;> cases inB b c <;> rfl
theorem qCount {a S N : List R} (s0 : setFrom 0 S) (s1 : ∀ c, hasB S c = (isC c && holdB 0 a [] c)) (n0 : setFrom 0 N) (n1 : ∀ c, hasB N c = (isC c && !inB a c)) : cntL S + cntL N = 1114112 ∧ 0 ≤ cntL S ∧ 0 ≤ cntL N ∧ cntL S ≤ 1114112 ∧ cntL N ≤ 1114112 := by
  have h := comp _ S N 0 (Nat.le_refl _) (by omega) s0 n0 fun c h0 h1 => by
    have hi : isC c = true := by simp [isC, h0, h1]
    rw [n1, s1, hi]
    show _ = !(true && inB a c)
    cases inB a c <;> rfl
  have h1 := cnt_bounds s0 (by omega)
  have h2 := cnt_bounds n0 (by omega)
  omega

set_option maxHeartbeats 3200000 in
theorem lawBack_lo (a b : List R) (c : Int) (va vb : Value) (w : World) (ha : RngsAt w va a) (hb : RngsAt w vb b) (hMa : a.length ≤ 40) (hMb : b.length ≤ 40) (hc : c < 0) (hz : isC c = false) (hy : inB a c = false) :
    Calls Try.prog 5 #[va, vb, .int .i64 c] w fun e w' => e = .returned (.bool true) ∧ Below w.heap.size w w' := by
  have AL := Lib.hid (fun W => alive_any W)
  have cSet := Lib.hid (set_lit 0 0 rfl (by omega) a [] va (.slice none 0 0) w ha (none_at w) (by simp; omega))
  have cNot := Lib.hid (fun W (h : Below w.heap.size w W) => not_any a va W (ha.next h) (by omega))
  have cLess := Lib.hid (fun W (h : Below w.heap.size w W) => less_any2 a b va vb W (ha.next h) (hb.next h) (by omega))
  have cBoth := Lib.hid (fun W (h : Below w.heap.size w W) => both_any a b va vb W (ha.next h) (hb.next h) (by omega))
  have cHas := Lib.hid (fun W (h : Below w.heap.size w W) => has_any a c va W (ha.next h))
  have cCnt := Lib.hid (fun S h0 h1 W (h : Below w.heap.size w W) => count_all a S va W (ha.next h) (by omega) h0 h1)
  have kNot := Lib.hid (fun (L : List R) v W (h : RngsAt W v L) (hl : L.length ≤ 200) => not_any L v W h (by omega))
  have kUni := Lib.hid (fun (L K : List R) v u W (h : RngsAt W v L) (k : RngsAt W u K) (hl : L.length ≤ 200) (hk : K.length ≤ 200) => union_all L K v u W h k (by omega))
  have kBoth := Lib.hid (fun (L K : List R) v u W (h : RngsAt W v L) (k : RngsAt W u K) (hl : L.length ≤ 200) (hk : K.length ≤ 200) => both_any L K v u W h k (by omega))
  have kRight := Lib.hid (fun (L : List R) v W (h : RngsAt W v L) (hl : L.length ≤ 200) => rright_all L v W h (by omega))
  have kHas := Lib.hid (fun (L : List R) v W (h : RngsAt W v L) => has_any L c v W h)
  have kCnt := Lib.hid (fun (L : List R) v W (h : RngsAt W v L) (hl : L.length ≤ 200) (h0 : setFrom 0 L) => count_all L L v W h (by omega) h0 (fun c => (inB_set h0 c).symm))
  rw [hy] at cHas
  have HZ := Lib.hid hz
  have HY := Lib.hid hy
  obtain ⟨ao, cap, rfl, hm, _⟩ := ha.shape
  obtain ⟨bo, cbp, rfl, hm2, _⟩ := hb.shape
  clear ha hb hy hz
  go_enter Try.func5, Try.ntmps5
  go_wp2_with (first
      | (go_at_call 9; (with_reducible refine cSet.out.mono ?_); intro e w1 ho; go_must (obtain ⟨v1, S, rfl, m1, b1⟩ := ho.made (w := w) (Below.refl _ _); have M1 := Lib.hid m1; have B1 := Lib.hid m1.below; clear ho m1 b1))
      | (go_at_call 16; (with_reducible refine (cNot.out w1 B1.out).mono ?_); intro e w2 ho; go_must (obtain ⟨v2, N, rfl, m2, b2⟩ := ho.made (w := w) B1.out; have M2 := Lib.hid m2; have MA2 := Lib.hid (M1.out.next b2); have B2 := Lib.hid m2.below; clear ho m2 b2))
      | (go_at_call 19; (with_reducible refine (cLess.out w2 B2.out).mono ?_); intro e w3 ho; go_must (obtain ⟨v3, L, rfl, m3, b3⟩ := ho.made (w := w) B2.out; obtain ⟨o3, p3, rfl, _, _⟩ := m3.at'.shape; have M3 := Lib.hid m3; have MA3 := Lib.hid (MA2.out.next b3); have MN3 := Lib.hid (M2.out.next b3); have B3 := Lib.hid m3.below; clear ho m3 b3))
      | (go_at_call 18; (with_reducible refine (cBoth.out w3 B3.out).mono ?_); intro e w4 ho; go_must (obtain ⟨v4, D, rfl, m4, b4⟩ := ho.made (w := w) B3.out; obtain ⟨o4, p4, rfl, _, _⟩ := m4.at'.shape; have M4 := Lib.hid m4; have MA4 := Lib.hid (MA3.out.next b4); have MN4 := Lib.hid (MN3.out.next b4); have ML4 := Lib.hid (M3.out.next b4); have B4 := Lib.hid m4.below; clear ho m4 b4))
      | (go_at_call 16; (with_reducible refine (kNot.out N v2 w4 MN4.out.at' (by have := MN4.out.len; omega)).mono ?_); intro e w5 ho; go_must (obtain ⟨v5, NN, rfl, m5, b5⟩ := ho.made (w := w) B4.out; have C5 := Lib.hid (cmp_any m5 (Below.refl _ _) (MA4.out.next b5) (qBack MN4.out.set MN4.out.has)); have MA5 := Lib.hid (MA4.out.next b5); have MN5 := Lib.hid (MN4.out.next b5); have ML5 := Lib.hid (ML4.out.next b5); have MD5 := Lib.hid (M4.out.next b5); have B5 := Lib.hid m5.below; clear ho m5 b5))
      | (go_at_call 7; (with_reducible refine C5.out.mono ?_); rintro e w6 ⟨rfl, h3⟩; go_must (have MA6 := Lib.hid (MA5.out.next h3); have MN6 := Lib.hid (MN5.out.next h3); have ML6 := Lib.hid (ML5.out.next h3); have MD6 := Lib.hid (MD5.out.next h3); have B6 := Lib.hid MA6.out.below; clear h3))
      | (go_at_call 17; go_must (have cu := kUni.out L D (.slice o3 L.length p3) (.slice o4 D.length p4) w6 ML6.out.at' MD6.out.at' (by have := ML6.out.len; omega) (by have := MD6.out.len; omega)); go_must (with_reducible refine cu.mono ?_); clear cu; intro e w7 ho; go_must (have ba := (Below.refl w6.heap.size w6).alloc (Nat.le_refl _) (.cells #[.slice o3 L.length p3, .slice o4 D.length p4] 22); obtain ⟨v7, U, rfl, m7, b7⟩ := ho.made (w := w) (B6.out.trans (ba.mono B6.out.size)); have bb := ba.trans (b7.mono ba.size); have C7 := Lib.hid (cmp_any m7 (Below.refl _ _) (MA6.out.next bb) (qUni ML6.out.set ML6.out.has MD6.out.set MD6.out.has)); have MA7 := Lib.hid (MA6.out.next bb); have MN7 := Lib.hid (MN6.out.next bb); have ML7 := Lib.hid (ML6.out.next bb); have MD7 := Lib.hid (MD6.out.next bb); have B7 := Lib.hid MA7.out.below; clear ho m7 b7 bb ba))
      | (go_at_call 7; (with_reducible refine C7.out.mono ?_); rintro e w8 ⟨rfl, h3⟩; go_must (have MA8 := Lib.hid (MA7.out.next h3); have MN8 := Lib.hid (MN7.out.next h3); have ML8 := Lib.hid (ML7.out.next h3); have MD8 := Lib.hid (MD7.out.next h3); have B8 := Lib.hid MA8.out.below; clear h3))
      | (go_at_call 18; (with_reducible refine (kBoth.out L D (.slice o3 L.length p3) (.slice o4 D.length p4) w8 ML8.out.at' MD8.out.at' (by have := ML8.out.len; omega) (by have := MD8.out.len; omega)).mono ?_); intro e w9 ho; go_must (obtain ⟨v9, X, rfl, m9, b9⟩ := ho.made (w := w) B8.out; obtain rfl : X = [] := qNone ML8.out.set ML8.out.has MD8.out.set MD8.out.has m9.set m9.has; obtain ⟨xo, xc, rfl, _, _⟩ := m9.at'.shape; have MA9 := Lib.hid (MA8.out.next b9); have MN9 := Lib.hid (MN8.out.next b9); have B9 := Lib.hid m9.below; clear ho m9 b9))
      | (go_at_call 11; (with_reducible refine (kRight.out N v2 w9 MN9.out.at' (by have := MN9.out.len; omega)).mono ?_); rintro e w10 ⟨he, h3⟩; go_must (rw [(rightB_iff N).2 MN9.out.set] at he; subst he; have MA10 := Lib.hid (MA9.out.next h3); have MN10 := Lib.hid (MN9.out.next h3); have B10 := Lib.hid MA10.out.below; clear h3))
      | (go_at_call 12; (with_reducible refine (cHas.out w10 B10.out).mono ?_); rintro e w11 ⟨rfl, h3⟩; go_must (have MA11 := Lib.hid (MA10.out.next h3); have MN11 := Lib.hid (MN10.out.next h3); have B11 := Lib.hid MA11.out.below; clear h3))
      | (go_at_call 12; (with_reducible refine (kHas.out N v2 w11 MN11.out.at').mono ?_); rintro e w12 ⟨he, h3⟩; go_must (rw [qNot MN11.out.set MN11.out.has, HZ.out, HY.out, show (false && !false) = false from rfl] at he; subst he; have MA12 := Lib.hid (MA11.out.next h3); have MN12 := Lib.hid (MN11.out.next h3); have B12 := Lib.hid MA12.out.below; clear h3))
      | (go_at_call 14; (with_reducible refine (cCnt.out S MA12.out.set (fun c => (MA12.out.has c).trans (pSet a c).symm) w12 B12.out).mono ?_); rintro e w13 ⟨rfl, h3⟩; go_must (have MA13 := Lib.hid (MA12.out.next h3); have MN13 := Lib.hid (MN12.out.next h3); have B13 := Lib.hid MA13.out.below; clear h3))
      | (go_at_call 14; (with_reducible refine (kCnt.out N v2 w13 MN13.out.at' (by have := MN13.out.len; omega) MN13.out.set).mono ?_); rintro e w14 ⟨rfl, h3⟩; go_must (obtain ⟨q1, q2, q3, q4, q5⟩ := qCount MA13.out.set MA13.out.has MN13.out.set MN13.out.has; have B14 := Lib.hid (B13.out.trans (h3.mono B13.out.size)); have z1 : IntKind.i64.wrap (cntL S + cntL N) = 1114112 := (by rw [q1]; rfl); have q6 : (cntL S + cntL N == 1114112) = true := (by simp [q1]); clear h3))
      | (go_at_call 6; (with_reducible refine (AL.out _).mono ?_); rintro e w15 ⟨rfl, h3⟩; go_must (have BF := Lib.hid (B14.out.trans (h3.mono B14.out.size)); clear h3)))
  go_ret
  exact ⟨rfl, BF.out⟩

set_option maxHeartbeats 3200000 in
theorem lawBack_hi (a b : List R) (c : Int) (va vb : Value) (w : World) (ha : RngsAt w va a) (hb : RngsAt w vb b) (hMa : a.length ≤ 40) (hMb : b.length ≤ 40) (hc0 : 0 ≤ c) (hc : 1114111 < c) (hz : isC c = false) (hy : inB a c = false) :
    Calls Try.prog 5 #[va, vb, .int .i64 c] w fun e w' => e = .returned (.bool true) ∧ Below w.heap.size w w' := by
  have AL := Lib.hid (fun W => alive_any W)
  have cSet := Lib.hid (set_lit 0 0 rfl (by omega) a [] va (.slice none 0 0) w ha (none_at w) (by simp; omega))
  have cNot := Lib.hid (fun W (h : Below w.heap.size w W) => not_any a va W (ha.next h) (by omega))
  have cLess := Lib.hid (fun W (h : Below w.heap.size w W) => less_any2 a b va vb W (ha.next h) (hb.next h) (by omega))
  have cBoth := Lib.hid (fun W (h : Below w.heap.size w W) => both_any a b va vb W (ha.next h) (hb.next h) (by omega))
  have cHas := Lib.hid (fun W (h : Below w.heap.size w W) => has_any a c va W (ha.next h))
  have cCnt := Lib.hid (fun S h0 h1 W (h : Below w.heap.size w W) => count_all a S va W (ha.next h) (by omega) h0 h1)
  have kNot := Lib.hid (fun (L : List R) v W (h : RngsAt W v L) (hl : L.length ≤ 200) => not_any L v W h (by omega))
  have kUni := Lib.hid (fun (L K : List R) v u W (h : RngsAt W v L) (k : RngsAt W u K) (hl : L.length ≤ 200) (hk : K.length ≤ 200) => union_all L K v u W h k (by omega))
  have kBoth := Lib.hid (fun (L K : List R) v u W (h : RngsAt W v L) (k : RngsAt W u K) (hl : L.length ≤ 200) (hk : K.length ≤ 200) => both_any L K v u W h k (by omega))
  have kRight := Lib.hid (fun (L : List R) v W (h : RngsAt W v L) (hl : L.length ≤ 200) => rright_all L v W h (by omega))
  have kHas := Lib.hid (fun (L : List R) v W (h : RngsAt W v L) => has_any L c v W h)
  have kCnt := Lib.hid (fun (L : List R) v W (h : RngsAt W v L) (hl : L.length ≤ 200) (h0 : setFrom 0 L) => count_all L L v W h (by omega) h0 (fun c => (inB_set h0 c).symm))
  rw [hy] at cHas
  have HZ := Lib.hid hz
  have HY := Lib.hid hy
  obtain ⟨ao, cap, rfl, hm, _⟩ := ha.shape
  obtain ⟨bo, cbp, rfl, hm2, _⟩ := hb.shape
  clear ha hb hy hz
  go_enter Try.func5, Try.ntmps5
  go_wp2_with (first
      | (go_at_call 9; (with_reducible refine cSet.out.mono ?_); intro e w1 ho; go_must (obtain ⟨v1, S, rfl, m1, b1⟩ := ho.made (w := w) (Below.refl _ _); have M1 := Lib.hid m1; have B1 := Lib.hid m1.below; clear ho m1 b1))
      | (go_at_call 16; (with_reducible refine (cNot.out w1 B1.out).mono ?_); intro e w2 ho; go_must (obtain ⟨v2, N, rfl, m2, b2⟩ := ho.made (w := w) B1.out; have M2 := Lib.hid m2; have MA2 := Lib.hid (M1.out.next b2); have B2 := Lib.hid m2.below; clear ho m2 b2))
      | (go_at_call 19; (with_reducible refine (cLess.out w2 B2.out).mono ?_); intro e w3 ho; go_must (obtain ⟨v3, L, rfl, m3, b3⟩ := ho.made (w := w) B2.out; obtain ⟨o3, p3, rfl, _, _⟩ := m3.at'.shape; have M3 := Lib.hid m3; have MA3 := Lib.hid (MA2.out.next b3); have MN3 := Lib.hid (M2.out.next b3); have B3 := Lib.hid m3.below; clear ho m3 b3))
      | (go_at_call 18; (with_reducible refine (cBoth.out w3 B3.out).mono ?_); intro e w4 ho; go_must (obtain ⟨v4, D, rfl, m4, b4⟩ := ho.made (w := w) B3.out; obtain ⟨o4, p4, rfl, _, _⟩ := m4.at'.shape; have M4 := Lib.hid m4; have MA4 := Lib.hid (MA3.out.next b4); have MN4 := Lib.hid (MN3.out.next b4); have ML4 := Lib.hid (M3.out.next b4); have B4 := Lib.hid m4.below; clear ho m4 b4))
      | (go_at_call 16; (with_reducible refine (kNot.out N v2 w4 MN4.out.at' (by have := MN4.out.len; omega)).mono ?_); intro e w5 ho; go_must (obtain ⟨v5, NN, rfl, m5, b5⟩ := ho.made (w := w) B4.out; have C5 := Lib.hid (cmp_any m5 (Below.refl _ _) (MA4.out.next b5) (qBack MN4.out.set MN4.out.has)); have MA5 := Lib.hid (MA4.out.next b5); have MN5 := Lib.hid (MN4.out.next b5); have ML5 := Lib.hid (ML4.out.next b5); have MD5 := Lib.hid (M4.out.next b5); have B5 := Lib.hid m5.below; clear ho m5 b5))
      | (go_at_call 7; (with_reducible refine C5.out.mono ?_); rintro e w6 ⟨rfl, h3⟩; go_must (have MA6 := Lib.hid (MA5.out.next h3); have MN6 := Lib.hid (MN5.out.next h3); have ML6 := Lib.hid (ML5.out.next h3); have MD6 := Lib.hid (MD5.out.next h3); have B6 := Lib.hid MA6.out.below; clear h3))
      | (go_at_call 17; go_must (have cu := kUni.out L D (.slice o3 L.length p3) (.slice o4 D.length p4) w6 ML6.out.at' MD6.out.at' (by have := ML6.out.len; omega) (by have := MD6.out.len; omega)); go_must (with_reducible refine cu.mono ?_); clear cu; intro e w7 ho; go_must (have ba := (Below.refl w6.heap.size w6).alloc (Nat.le_refl _) (.cells #[.slice o3 L.length p3, .slice o4 D.length p4] 22); obtain ⟨v7, U, rfl, m7, b7⟩ := ho.made (w := w) (B6.out.trans (ba.mono B6.out.size)); have bb := ba.trans (b7.mono ba.size); have C7 := Lib.hid (cmp_any m7 (Below.refl _ _) (MA6.out.next bb) (qUni ML6.out.set ML6.out.has MD6.out.set MD6.out.has)); have MA7 := Lib.hid (MA6.out.next bb); have MN7 := Lib.hid (MN6.out.next bb); have ML7 := Lib.hid (ML6.out.next bb); have MD7 := Lib.hid (MD6.out.next bb); have B7 := Lib.hid MA7.out.below; clear ho m7 b7 bb ba))
      | (go_at_call 7; (with_reducible refine C7.out.mono ?_); rintro e w8 ⟨rfl, h3⟩; go_must (have MA8 := Lib.hid (MA7.out.next h3); have MN8 := Lib.hid (MN7.out.next h3); have ML8 := Lib.hid (ML7.out.next h3); have MD8 := Lib.hid (MD7.out.next h3); have B8 := Lib.hid MA8.out.below; clear h3))
      | (go_at_call 18; (with_reducible refine (kBoth.out L D (.slice o3 L.length p3) (.slice o4 D.length p4) w8 ML8.out.at' MD8.out.at' (by have := ML8.out.len; omega) (by have := MD8.out.len; omega)).mono ?_); intro e w9 ho; go_must (obtain ⟨v9, X, rfl, m9, b9⟩ := ho.made (w := w) B8.out; obtain rfl : X = [] := qNone ML8.out.set ML8.out.has MD8.out.set MD8.out.has m9.set m9.has; obtain ⟨xo, xc, rfl, _, _⟩ := m9.at'.shape; have MA9 := Lib.hid (MA8.out.next b9); have MN9 := Lib.hid (MN8.out.next b9); have B9 := Lib.hid m9.below; clear ho m9 b9))
      | (go_at_call 11; (with_reducible refine (kRight.out N v2 w9 MN9.out.at' (by have := MN9.out.len; omega)).mono ?_); rintro e w10 ⟨he, h3⟩; go_must (rw [(rightB_iff N).2 MN9.out.set] at he; subst he; have MA10 := Lib.hid (MA9.out.next h3); have MN10 := Lib.hid (MN9.out.next h3); have B10 := Lib.hid MA10.out.below; clear h3))
      | (go_at_call 12; (with_reducible refine (cHas.out w10 B10.out).mono ?_); rintro e w11 ⟨rfl, h3⟩; go_must (have MA11 := Lib.hid (MA10.out.next h3); have MN11 := Lib.hid (MN10.out.next h3); have B11 := Lib.hid MA11.out.below; clear h3))
      | (go_at_call 12; (with_reducible refine (kHas.out N v2 w11 MN11.out.at').mono ?_); rintro e w12 ⟨he, h3⟩; go_must (rw [qNot MN11.out.set MN11.out.has, HZ.out, HY.out, show (false && !false) = false from rfl] at he; subst he; have MA12 := Lib.hid (MA11.out.next h3); have MN12 := Lib.hid (MN11.out.next h3); have B12 := Lib.hid MA12.out.below; clear h3))
      | (go_at_call 14; (with_reducible refine (cCnt.out S MA12.out.set (fun c => (MA12.out.has c).trans (pSet a c).symm) w12 B12.out).mono ?_); rintro e w13 ⟨rfl, h3⟩; go_must (have MA13 := Lib.hid (MA12.out.next h3); have MN13 := Lib.hid (MN12.out.next h3); have B13 := Lib.hid MA13.out.below; clear h3))
      | (go_at_call 14; (with_reducible refine (kCnt.out N v2 w13 MN13.out.at' (by have := MN13.out.len; omega) MN13.out.set).mono ?_); rintro e w14 ⟨rfl, h3⟩; go_must (obtain ⟨q1, q2, q3, q4, q5⟩ := qCount MA13.out.set MA13.out.has MN13.out.set MN13.out.has; have B14 := Lib.hid (B13.out.trans (h3.mono B13.out.size)); have z1 : IntKind.i64.wrap (cntL S + cntL N) = 1114112 := (by rw [q1]; rfl); have q6 : (cntL S + cntL N == 1114112) = true := (by simp [q1]); clear h3))
      | (go_at_call 6; (with_reducible refine (AL.out _).mono ?_); rintro e w15 ⟨rfl, h3⟩; go_must (have BF := Lib.hid (B14.out.trans (h3.mono B14.out.size)); clear h3)))
  go_ret
  exact ⟨retB (by rw [show decide (c ≤ 1114111) = false by simp; omega]; rfl), BF.out⟩

set_option maxHeartbeats 3200000 in
theorem lawBack_in1 (a b : List R) (c : Int) (va vb : Value) (w : World) (ha : RngsAt w va a) (hb : RngsAt w vb b) (hMa : a.length ≤ 40) (hMb : b.length ≤ 40) (hc0 : 0 ≤ c) (hc : c ≤ 1114111) (hz : isC c = true) (hy : inB a c = true) :
    Calls Try.prog 5 #[va, vb, .int .i64 c] w fun e w' => e = .returned (.bool true) ∧ Below w.heap.size w w' := by
  have AL := Lib.hid (fun W => alive_any W)
  have cSet := Lib.hid (set_lit 0 0 rfl (by omega) a [] va (.slice none 0 0) w ha (none_at w) (by simp; omega))
  have cNot := Lib.hid (fun W (h : Below w.heap.size w W) => not_any a va W (ha.next h) (by omega))
  have cLess := Lib.hid (fun W (h : Below w.heap.size w W) => less_any2 a b va vb W (ha.next h) (hb.next h) (by omega))
  have cBoth := Lib.hid (fun W (h : Below w.heap.size w W) => both_any a b va vb W (ha.next h) (hb.next h) (by omega))
  have cHas := Lib.hid (fun W (h : Below w.heap.size w W) => has_any a c va W (ha.next h))
  have cCnt := Lib.hid (fun S h0 h1 W (h : Below w.heap.size w W) => count_all a S va W (ha.next h) (by omega) h0 h1)
  have kNot := Lib.hid (fun (L : List R) v W (h : RngsAt W v L) (hl : L.length ≤ 200) => not_any L v W h (by omega))
  have kUni := Lib.hid (fun (L K : List R) v u W (h : RngsAt W v L) (k : RngsAt W u K) (hl : L.length ≤ 200) (hk : K.length ≤ 200) => union_all L K v u W h k (by omega))
  have kBoth := Lib.hid (fun (L K : List R) v u W (h : RngsAt W v L) (k : RngsAt W u K) (hl : L.length ≤ 200) (hk : K.length ≤ 200) => both_any L K v u W h k (by omega))
  have kRight := Lib.hid (fun (L : List R) v W (h : RngsAt W v L) (hl : L.length ≤ 200) => rright_all L v W h (by omega))
  have kHas := Lib.hid (fun (L : List R) v W (h : RngsAt W v L) => has_any L c v W h)
  have kCnt := Lib.hid (fun (L : List R) v W (h : RngsAt W v L) (hl : L.length ≤ 200) (h0 : setFrom 0 L) => count_all L L v W h (by omega) h0 (fun c => (inB_set h0 c).symm))
  rw [hy] at cHas
  have HZ := Lib.hid hz
  have HY := Lib.hid hy
  obtain ⟨ao, cap, rfl, hm, _⟩ := ha.shape
  obtain ⟨bo, cbp, rfl, hm2, _⟩ := hb.shape
  clear ha hb hy hz
  go_enter Try.func5, Try.ntmps5
  go_wp2_with (first
      | (go_at_call 9; (with_reducible refine cSet.out.mono ?_); intro e w1 ho; go_must (obtain ⟨v1, S, rfl, m1, b1⟩ := ho.made (w := w) (Below.refl _ _); have M1 := Lib.hid m1; have B1 := Lib.hid m1.below; clear ho m1 b1))
      | (go_at_call 16; (with_reducible refine (cNot.out w1 B1.out).mono ?_); intro e w2 ho; go_must (obtain ⟨v2, N, rfl, m2, b2⟩ := ho.made (w := w) B1.out; have M2 := Lib.hid m2; have MA2 := Lib.hid (M1.out.next b2); have B2 := Lib.hid m2.below; clear ho m2 b2))
      | (go_at_call 19; (with_reducible refine (cLess.out w2 B2.out).mono ?_); intro e w3 ho; go_must (obtain ⟨v3, L, rfl, m3, b3⟩ := ho.made (w := w) B2.out; obtain ⟨o3, p3, rfl, _, _⟩ := m3.at'.shape; have M3 := Lib.hid m3; have MA3 := Lib.hid (MA2.out.next b3); have MN3 := Lib.hid (M2.out.next b3); have B3 := Lib.hid m3.below; clear ho m3 b3))
      | (go_at_call 18; (with_reducible refine (cBoth.out w3 B3.out).mono ?_); intro e w4 ho; go_must (obtain ⟨v4, D, rfl, m4, b4⟩ := ho.made (w := w) B3.out; obtain ⟨o4, p4, rfl, _, _⟩ := m4.at'.shape; have M4 := Lib.hid m4; have MA4 := Lib.hid (MA3.out.next b4); have MN4 := Lib.hid (MN3.out.next b4); have ML4 := Lib.hid (M3.out.next b4); have B4 := Lib.hid m4.below; clear ho m4 b4))
      | (go_at_call 16; (with_reducible refine (kNot.out N v2 w4 MN4.out.at' (by have := MN4.out.len; omega)).mono ?_); intro e w5 ho; go_must (obtain ⟨v5, NN, rfl, m5, b5⟩ := ho.made (w := w) B4.out; have C5 := Lib.hid (cmp_any m5 (Below.refl _ _) (MA4.out.next b5) (qBack MN4.out.set MN4.out.has)); have MA5 := Lib.hid (MA4.out.next b5); have MN5 := Lib.hid (MN4.out.next b5); have ML5 := Lib.hid (ML4.out.next b5); have MD5 := Lib.hid (M4.out.next b5); have B5 := Lib.hid m5.below; clear ho m5 b5))
      | (go_at_call 7; (with_reducible refine C5.out.mono ?_); rintro e w6 ⟨rfl, h3⟩; go_must (have MA6 := Lib.hid (MA5.out.next h3); have MN6 := Lib.hid (MN5.out.next h3); have ML6 := Lib.hid (ML5.out.next h3); have MD6 := Lib.hid (MD5.out.next h3); have B6 := Lib.hid MA6.out.below; clear h3))
      | (go_at_call 17; go_must (have cu := kUni.out L D (.slice o3 L.length p3) (.slice o4 D.length p4) w6 ML6.out.at' MD6.out.at' (by have := ML6.out.len; omega) (by have := MD6.out.len; omega)); go_must (with_reducible refine cu.mono ?_); clear cu; intro e w7 ho; go_must (have ba := (Below.refl w6.heap.size w6).alloc (Nat.le_refl _) (.cells #[.slice o3 L.length p3, .slice o4 D.length p4] 22); obtain ⟨v7, U, rfl, m7, b7⟩ := ho.made (w := w) (B6.out.trans (ba.mono B6.out.size)); have bb := ba.trans (b7.mono ba.size); have C7 := Lib.hid (cmp_any m7 (Below.refl _ _) (MA6.out.next bb) (qUni ML6.out.set ML6.out.has MD6.out.set MD6.out.has)); have MA7 := Lib.hid (MA6.out.next bb); have MN7 := Lib.hid (MN6.out.next bb); have ML7 := Lib.hid (ML6.out.next bb); have MD7 := Lib.hid (MD6.out.next bb); have B7 := Lib.hid MA7.out.below; clear ho m7 b7 bb ba))
      | (go_at_call 7; (with_reducible refine C7.out.mono ?_); rintro e w8 ⟨rfl, h3⟩; go_must (have MA8 := Lib.hid (MA7.out.next h3); have MN8 := Lib.hid (MN7.out.next h3); have ML8 := Lib.hid (ML7.out.next h3); have MD8 := Lib.hid (MD7.out.next h3); have B8 := Lib.hid MA8.out.below; clear h3))
      | (go_at_call 18; (with_reducible refine (kBoth.out L D (.slice o3 L.length p3) (.slice o4 D.length p4) w8 ML8.out.at' MD8.out.at' (by have := ML8.out.len; omega) (by have := MD8.out.len; omega)).mono ?_); intro e w9 ho; go_must (obtain ⟨v9, X, rfl, m9, b9⟩ := ho.made (w := w) B8.out; obtain rfl : X = [] := qNone ML8.out.set ML8.out.has MD8.out.set MD8.out.has m9.set m9.has; obtain ⟨xo, xc, rfl, _, _⟩ := m9.at'.shape; have MA9 := Lib.hid (MA8.out.next b9); have MN9 := Lib.hid (MN8.out.next b9); have B9 := Lib.hid m9.below; clear ho m9 b9))
      | (go_at_call 11; (with_reducible refine (kRight.out N v2 w9 MN9.out.at' (by have := MN9.out.len; omega)).mono ?_); rintro e w10 ⟨he, h3⟩; go_must (rw [(rightB_iff N).2 MN9.out.set] at he; subst he; have MA10 := Lib.hid (MA9.out.next h3); have MN10 := Lib.hid (MN9.out.next h3); have B10 := Lib.hid MA10.out.below; clear h3))
      | (go_at_call 12; (with_reducible refine (cHas.out w10 B10.out).mono ?_); rintro e w11 ⟨rfl, h3⟩; go_must (have MA11 := Lib.hid (MA10.out.next h3); have MN11 := Lib.hid (MN10.out.next h3); have B11 := Lib.hid MA11.out.below; clear h3))
      | (go_at_call 12; (with_reducible refine (kHas.out N v2 w11 MN11.out.at').mono ?_); rintro e w12 ⟨he, h3⟩; go_must (rw [qNot MN11.out.set MN11.out.has, HZ.out, HY.out, show (true && !true) = false from rfl] at he; subst he; have MA12 := Lib.hid (MA11.out.next h3); have MN12 := Lib.hid (MN11.out.next h3); have B12 := Lib.hid MA12.out.below; clear h3))
      | (go_at_call 14; (with_reducible refine (cCnt.out S MA12.out.set (fun c => (MA12.out.has c).trans (pSet a c).symm) w12 B12.out).mono ?_); rintro e w13 ⟨rfl, h3⟩; go_must (have MA13 := Lib.hid (MA12.out.next h3); have MN13 := Lib.hid (MN12.out.next h3); have B13 := Lib.hid MA13.out.below; clear h3))
      | (go_at_call 14; (with_reducible refine (kCnt.out N v2 w13 MN13.out.at' (by have := MN13.out.len; omega) MN13.out.set).mono ?_); rintro e w14 ⟨rfl, h3⟩; go_must (obtain ⟨q1, q2, q3, q4, q5⟩ := qCount MA13.out.set MA13.out.has MN13.out.set MN13.out.has; have B14 := Lib.hid (B13.out.trans (h3.mono B13.out.size)); have z1 : IntKind.i64.wrap (cntL S + cntL N) = 1114112 := (by rw [q1]; rfl); have q6 : (cntL S + cntL N == 1114112) = true := (by simp [q1]); clear h3))
      | (go_at_call 6; (with_reducible refine (AL.out _).mono ?_); rintro e w15 ⟨rfl, h3⟩; go_must (have BF := Lib.hid (B14.out.trans (h3.mono B14.out.size)); clear h3)))
  go_ret
  exact ⟨rfl, BF.out⟩

set_option maxHeartbeats 3200000 in
theorem lawBack_in0 (a b : List R) (c : Int) (va vb : Value) (w : World) (ha : RngsAt w va a) (hb : RngsAt w vb b) (hMa : a.length ≤ 40) (hMb : b.length ≤ 40) (hc0 : 0 ≤ c) (hc : c ≤ 1114111) (hz : isC c = true) (hy : inB a c = false) :
    Calls Try.prog 5 #[va, vb, .int .i64 c] w fun e w' => e = .returned (.bool true) ∧ Below w.heap.size w w' := by
  have AL := Lib.hid (fun W => alive_any W)
  have cSet := Lib.hid (set_lit 0 0 rfl (by omega) a [] va (.slice none 0 0) w ha (none_at w) (by simp; omega))
  have cNot := Lib.hid (fun W (h : Below w.heap.size w W) => not_any a va W (ha.next h) (by omega))
  have cLess := Lib.hid (fun W (h : Below w.heap.size w W) => less_any2 a b va vb W (ha.next h) (hb.next h) (by omega))
  have cBoth := Lib.hid (fun W (h : Below w.heap.size w W) => both_any a b va vb W (ha.next h) (hb.next h) (by omega))
  have cHas := Lib.hid (fun W (h : Below w.heap.size w W) => has_any a c va W (ha.next h))
  have cCnt := Lib.hid (fun S h0 h1 W (h : Below w.heap.size w W) => count_all a S va W (ha.next h) (by omega) h0 h1)
  have kNot := Lib.hid (fun (L : List R) v W (h : RngsAt W v L) (hl : L.length ≤ 200) => not_any L v W h (by omega))
  have kUni := Lib.hid (fun (L K : List R) v u W (h : RngsAt W v L) (k : RngsAt W u K) (hl : L.length ≤ 200) (hk : K.length ≤ 200) => union_all L K v u W h k (by omega))
  have kBoth := Lib.hid (fun (L K : List R) v u W (h : RngsAt W v L) (k : RngsAt W u K) (hl : L.length ≤ 200) (hk : K.length ≤ 200) => both_any L K v u W h k (by omega))
  have kRight := Lib.hid (fun (L : List R) v W (h : RngsAt W v L) (hl : L.length ≤ 200) => rright_all L v W h (by omega))
  have kHas := Lib.hid (fun (L : List R) v W (h : RngsAt W v L) => has_any L c v W h)
  have kCnt := Lib.hid (fun (L : List R) v W (h : RngsAt W v L) (hl : L.length ≤ 200) (h0 : setFrom 0 L) => count_all L L v W h (by omega) h0 (fun c => (inB_set h0 c).symm))
  rw [hy] at cHas
  have HZ := Lib.hid hz
  have HY := Lib.hid hy
  obtain ⟨ao, cap, rfl, hm, _⟩ := ha.shape
  obtain ⟨bo, cbp, rfl, hm2, _⟩ := hb.shape
  clear ha hb hy hz
  go_enter Try.func5, Try.ntmps5
  go_wp2_with (first
      | (go_at_call 9; (with_reducible refine cSet.out.mono ?_); intro e w1 ho; go_must (obtain ⟨v1, S, rfl, m1, b1⟩ := ho.made (w := w) (Below.refl _ _); have M1 := Lib.hid m1; have B1 := Lib.hid m1.below; clear ho m1 b1))
      | (go_at_call 16; (with_reducible refine (cNot.out w1 B1.out).mono ?_); intro e w2 ho; go_must (obtain ⟨v2, N, rfl, m2, b2⟩ := ho.made (w := w) B1.out; have M2 := Lib.hid m2; have MA2 := Lib.hid (M1.out.next b2); have B2 := Lib.hid m2.below; clear ho m2 b2))
      | (go_at_call 19; (with_reducible refine (cLess.out w2 B2.out).mono ?_); intro e w3 ho; go_must (obtain ⟨v3, L, rfl, m3, b3⟩ := ho.made (w := w) B2.out; obtain ⟨o3, p3, rfl, _, _⟩ := m3.at'.shape; have M3 := Lib.hid m3; have MA3 := Lib.hid (MA2.out.next b3); have MN3 := Lib.hid (M2.out.next b3); have B3 := Lib.hid m3.below; clear ho m3 b3))
      | (go_at_call 18; (with_reducible refine (cBoth.out w3 B3.out).mono ?_); intro e w4 ho; go_must (obtain ⟨v4, D, rfl, m4, b4⟩ := ho.made (w := w) B3.out; obtain ⟨o4, p4, rfl, _, _⟩ := m4.at'.shape; have M4 := Lib.hid m4; have MA4 := Lib.hid (MA3.out.next b4); have MN4 := Lib.hid (MN3.out.next b4); have ML4 := Lib.hid (M3.out.next b4); have B4 := Lib.hid m4.below; clear ho m4 b4))
      | (go_at_call 16; (with_reducible refine (kNot.out N v2 w4 MN4.out.at' (by have := MN4.out.len; omega)).mono ?_); intro e w5 ho; go_must (obtain ⟨v5, NN, rfl, m5, b5⟩ := ho.made (w := w) B4.out; have C5 := Lib.hid (cmp_any m5 (Below.refl _ _) (MA4.out.next b5) (qBack MN4.out.set MN4.out.has)); have MA5 := Lib.hid (MA4.out.next b5); have MN5 := Lib.hid (MN4.out.next b5); have ML5 := Lib.hid (ML4.out.next b5); have MD5 := Lib.hid (M4.out.next b5); have B5 := Lib.hid m5.below; clear ho m5 b5))
      | (go_at_call 7; (with_reducible refine C5.out.mono ?_); rintro e w6 ⟨rfl, h3⟩; go_must (have MA6 := Lib.hid (MA5.out.next h3); have MN6 := Lib.hid (MN5.out.next h3); have ML6 := Lib.hid (ML5.out.next h3); have MD6 := Lib.hid (MD5.out.next h3); have B6 := Lib.hid MA6.out.below; clear h3))
      | (go_at_call 17; go_must (have cu := kUni.out L D (.slice o3 L.length p3) (.slice o4 D.length p4) w6 ML6.out.at' MD6.out.at' (by have := ML6.out.len; omega) (by have := MD6.out.len; omega)); go_must (with_reducible refine cu.mono ?_); clear cu; intro e w7 ho; go_must (have ba := (Below.refl w6.heap.size w6).alloc (Nat.le_refl _) (.cells #[.slice o3 L.length p3, .slice o4 D.length p4] 22); obtain ⟨v7, U, rfl, m7, b7⟩ := ho.made (w := w) (B6.out.trans (ba.mono B6.out.size)); have bb := ba.trans (b7.mono ba.size); have C7 := Lib.hid (cmp_any m7 (Below.refl _ _) (MA6.out.next bb) (qUni ML6.out.set ML6.out.has MD6.out.set MD6.out.has)); have MA7 := Lib.hid (MA6.out.next bb); have MN7 := Lib.hid (MN6.out.next bb); have ML7 := Lib.hid (ML6.out.next bb); have MD7 := Lib.hid (MD6.out.next bb); have B7 := Lib.hid MA7.out.below; clear ho m7 b7 bb ba))
      | (go_at_call 7; (with_reducible refine C7.out.mono ?_); rintro e w8 ⟨rfl, h3⟩; go_must (have MA8 := Lib.hid (MA7.out.next h3); have MN8 := Lib.hid (MN7.out.next h3); have ML8 := Lib.hid (ML7.out.next h3); have MD8 := Lib.hid (MD7.out.next h3); have B8 := Lib.hid MA8.out.below; clear h3))
      | (go_at_call 18; (with_reducible refine (kBoth.out L D (.slice o3 L.length p3) (.slice o4 D.length p4) w8 ML8.out.at' MD8.out.at' (by have := ML8.out.len; omega) (by have := MD8.out.len; omega)).mono ?_); intro e w9 ho; go_must (obtain ⟨v9, X, rfl, m9, b9⟩ := ho.made (w := w) B8.out; obtain rfl : X = [] := qNone ML8.out.set ML8.out.has MD8.out.set MD8.out.has m9.set m9.has; obtain ⟨xo, xc, rfl, _, _⟩ := m9.at'.shape; have MA9 := Lib.hid (MA8.out.next b9); have MN9 := Lib.hid (MN8.out.next b9); have B9 := Lib.hid m9.below; clear ho m9 b9))
      | (go_at_call 11; (with_reducible refine (kRight.out N v2 w9 MN9.out.at' (by have := MN9.out.len; omega)).mono ?_); rintro e w10 ⟨he, h3⟩; go_must (rw [(rightB_iff N).2 MN9.out.set] at he; subst he; have MA10 := Lib.hid (MA9.out.next h3); have MN10 := Lib.hid (MN9.out.next h3); have B10 := Lib.hid MA10.out.below; clear h3))
      | (go_at_call 12; (with_reducible refine (cHas.out w10 B10.out).mono ?_); rintro e w11 ⟨rfl, h3⟩; go_must (have MA11 := Lib.hid (MA10.out.next h3); have MN11 := Lib.hid (MN10.out.next h3); have B11 := Lib.hid MA11.out.below; clear h3))
      | (go_at_call 12; (with_reducible refine (kHas.out N v2 w11 MN11.out.at').mono ?_); rintro e w12 ⟨he, h3⟩; go_must (rw [qNot MN11.out.set MN11.out.has, HZ.out, HY.out, show (true && !false) = true from rfl] at he; subst he; have MA12 := Lib.hid (MA11.out.next h3); have MN12 := Lib.hid (MN11.out.next h3); have B12 := Lib.hid MA12.out.below; clear h3))
      | (go_at_call 14; (with_reducible refine (cCnt.out S MA12.out.set (fun c => (MA12.out.has c).trans (pSet a c).symm) w12 B12.out).mono ?_); rintro e w13 ⟨rfl, h3⟩; go_must (have MA13 := Lib.hid (MA12.out.next h3); have MN13 := Lib.hid (MN12.out.next h3); have B13 := Lib.hid MA13.out.below; clear h3))
      | (go_at_call 14; (with_reducible refine (kCnt.out N v2 w13 MN13.out.at' (by have := MN13.out.len; omega) MN13.out.set).mono ?_); rintro e w14 ⟨rfl, h3⟩; go_must (obtain ⟨q1, q2, q3, q4, q5⟩ := qCount MA13.out.set MA13.out.has MN13.out.set MN13.out.has; have B14 := Lib.hid (B13.out.trans (h3.mono B13.out.size)); have z1 : IntKind.i64.wrap (cntL S + cntL N) = 1114112 := (by rw [q1]; rfl); have q6 : (cntL S + cntL N == 1114112) = true := (by simp [q1]); clear h3))
      | (go_at_call 6; (with_reducible refine (AL.out _).mono ?_); rintro e w15 ⟨rfl, h3⟩; go_must (have BF := Lib.hid (B14.out.trans (h3.mono B14.out.size)); clear h3)))
  go_ret
  exact ⟨rfl, BF.out⟩

theorem lawBack_any (a b : List R) (c : Int) (va vb : Value) (w : World) (ha : RngsAt w va a) (hb : RngsAt w vb b) :
    Calls Try.prog 5 #[va, vb, .int .i64 c] w fun e w' => e = .returned (.bool true) ∧ Below w.heap.size w w' := by
  by_cases hM : 40 < a.length ∨ 40 < b.length
  · have AL := Lib.hid (fun W => alive_any W)
    obtain ⟨ao, cap, rfl, hm, _⟩ := ha.shape
    obtain ⟨bo, cbp, rfl, hm2, _⟩ := hb.shape
    clear ha hb
    by_cases h1 : 40 < a.length
    · clear hM
      go_enter Try.func5, Try.ntmps5
      go_wp2_with (go_at_call 6; (with_reducible refine (AL.out _).mono ?_); rintro e w1 ⟨rfl, h1⟩)
      go_ret
      exact ⟨rfl, h1⟩
    · have h2 : 40 < b.length := by omega
      clear hM
      go_enter Try.func5, Try.ntmps5
      go_wp2_with (go_at_call 6; (with_reducible refine (AL.out _).mono ?_); rintro e w1 ⟨rfl, h1⟩)
      go_ret
      exact ⟨rfl, h1⟩
  · rcases Int.lt_or_le c 0 with h0 | h0
    · have hz : isC c = false := by unfold isC; rw [show decide (0 ≤ c) = false by simp; omega]; rfl
      exact lawBack_lo a b c va vb w ha hb (by omega) (by omega) h0 hz (by rw [← inB_isC, hz]; rfl)
    · rcases Int.lt_or_le 1114111 c with h1 | h1
      · have hz : isC c = false := by unfold isC; rw [show decide (c ≤ 1114111) = false by simp; omega]; simp
        exact lawBack_hi a b c va vb w ha hb (by omega) (by omega) h0 h1 hz (by rw [← inB_isC, hz]; rfl)
      · have hz : isC c = true := by simp [isC, h0, h1]
        cases hy : inB a c
        · exact lawBack_in0 a b c va vb w ha hb (by omega) (by omega) h0 h1 hz hy
        · exact lawBack_in1 a b c va vb w ha hb (by omega) (by omega) h0 h1 hz hy

end Go.Proofs.Ytpfbipkimpiakaa.Rg

/- The law RangesJoin. -/
import Derived.Test.YtpfbipkimpiakaaRgLaws
namespace Go.Proofs.Ytpfbipkimpiakaa.Rg
open Go.RowKit Go.Shelf

theorem pNot (a : List R) (c : Int) : (isC c && !inB a c) = (isC c && holdB 1 a [] c) := rfl
theorem pUni (a b : List R) (c : Int) : (inB a c || inB b c) = (isC c && holdB 2 a b c) := by
  show _ = (isC c && (inB a c || inB b c))
  rw [Bool.and_or_distrib_left, inB_isC, inB_isC]
theorem pBoth (a b : List R) (c : Int) : (inB a c && inB b c) = (isC c && holdB 3 a b c) := by
  show _ = (isC c && (inB a c && inB b c))
  rw [← Bool.and_assoc, inB_isC]
theorem pLess (a b : List R) (c : Int) : (inB a c && (isC c && !inB b c)) = (isC c && holdB 4 a b c) := by
  show _ = (isC c && (inB a c && !inB b c))
  rw [← Bool.and_assoc (inB a c), Bool.and_comm (inB a c) (isC c), Bool.and_assoc]
theorem pSet (a : List R) (c : Int) : inB a c = (isC c && holdB 0 a [] c) := (inB_isC a c).symm

theorem set_lit (kind : Nat) (z : Int) (hz : (kind : Int) = z) (hkd : kind ≤ 4) (a b : List R) (va vb : Value) (w : World) (ha : RngsAt w va a) (hb : RngsAt w vb b) (hM : a.length + b.length ≤ 40000) :
    Calls Try.prog 9 #[.int .i64 z, va, vb] w fun e w' => SetOut w (fun c => isC c && holdB kind a b c) (2 + 2 * (a.length + b.length)) e w' := by
  subst hz
  exact set_any kind hkd a b va vb w ha hb hM
/-- the slice of two slices, as it is laid ahead of Union -/
theorem union_all (a b : List R) (va vb : Value) (w : World) (ha : RngsAt w va a) (hb : RngsAt w vb b) (hM : 2 * (a.length + b.length) < 1000000) :
    Calls Try.prog 17 #[.slice (some ⟨w.heap.size, 0, none⟩) 2 2] (w.alloc (.cells #[va, vb] 22)) fun e w' => SetOut (w.alloc (.cells #[va, vb] 22)) (fun c => inB a c || inB b c) (2 * (a.length + b.length)) e w' := by
  have hb0 : Below w.heap.size w (w.alloc (.cells #[va, vb] 22)) := (Below.refl _ _).alloc (Nat.le_refl _) _
  exact union_any a b va vb w.heap.size _ (ha.next hb0) (hb.next hb0) (by simp) (by simp) hM

set_option maxHeartbeats 1600000 in
theorem lawJoin_any (a b : List R) (va vb : Value) (w : World) (ha : RngsAt w va a) (hb : RngsAt w vb b) :
    Calls Try.prog 4 #[va, vb] w fun e w' => e = .returned (.bool true) ∧ Below w.heap.size w w' := by
  have AL := Lib.hid (fun W => alive_any W)
  by_cases hM : 40 < a.length ∨ 40 < b.length
  · obtain ⟨ao, cap, rfl, hm, _⟩ := ha.shape
    obtain ⟨bo, cbp, rfl, hm2, _⟩ := hb.shape
    clear ha hb
    by_cases h1 : 40 < a.length
    · clear hM
      go_enter Try.func4, Try.ntmps4
      go_wp2_with (go_at_call 6; (with_reducible refine (AL.out _).mono ?_); rintro e w1 ⟨rfl, h1⟩)
      go_ret
      exact ⟨rfl, h1⟩
    · have h2 : 40 < b.length := by omega
      clear hM
      go_enter Try.func4, Try.ntmps4
      go_wp2_with (go_at_call 6; (with_reducible refine (AL.out _).mono ?_); rintro e w1 ⟨rfl, h1⟩)
      go_ret
      exact ⟨rfl, h1⟩
  · obtain ⟨hMa, hMb⟩ : a.length ≤ 40 ∧ b.length ≤ 40 := by omega
    clear hM
    have cNot := Lib.hid (fun W (h : Below w.heap.size w W) => not_any a va W (ha.next h) (by omega))
    have cUni := Lib.hid (fun W (h : Below w.heap.size w W) => union_all a b va vb W (ha.next h) (hb.next h) (by omega))
    have cBoth := Lib.hid (fun W (h : Below w.heap.size w W) => both_any a b va vb W (ha.next h) (hb.next h) (by omega))
    have cLess := Lib.hid (fun W (h : Below w.heap.size w W) => less_any2 a b va vb W (ha.next h) (hb.next h) (by omega))
    have cSame := Lib.hid (fun W (h : Below w.heap.size w W) => same_any a b va vb W (ha.next h) (hb.next h) (by omega) (by omega))
    have s1 := Lib.hid (fun W (h : Below w.heap.size w W) => set_lit 1 1 rfl (by omega) a [] va (.slice none 0 0) W (ha.next h) (none_at W) (by simp; omega))
    have s2 := Lib.hid (fun W (h : Below w.heap.size w W) => set_lit 2 2 rfl (by omega) a b va vb W (ha.next h) (hb.next h) (by omega))
    have s3 := Lib.hid (fun W (h : Below w.heap.size w W) => set_lit 3 3 rfl (by omega) a b va vb W (ha.next h) (hb.next h) (by omega))
    have s4 := Lib.hid (fun W (h : Below w.heap.size w W) => set_lit 4 4 rfl (by omega) a b va vb W (ha.next h) (hb.next h) (by omega))
    have s5 := Lib.hid (fun W (h : Below w.heap.size w W) => set_lit 0 0 rfl (by omega) a [] va (.slice none 0 0) W (ha.next h) (none_at W) (by simp; omega))
    have s6 := Lib.hid (fun W (h : Below w.heap.size w W) => set_lit 0 0 rfl (by omega) b [] vb (.slice none 0 0) W (hb.next h) (none_at W) (by simp; omega))
    obtain ⟨ao, cap, rfl, hm, _⟩ := ha.shape
    obtain ⟨bo, cbp, rfl, hm2, _⟩ := hb.shape
    have hszr := Nat.le_refl w.heap.size
    clear ha hb
    go_enter Try.func4, Try.ntmps4
    go_wp2_with (first
      | (go_at_call 16; (with_reducible refine (cNot.out w (Below.refl _ _)).mono ?_); intro e w1 ho; go_must (obtain ⟨v1, L1, rfl, m1, b1⟩ := ho.made (w := w) (Below.refl _ _); have M1 := Lib.hid m1; have Bw1 := Lib.hid m1.below; clear ho m1 b1))
      | (go_at_call 9; (with_reducible refine (s1.out w1 Bw1.out).mono ?_); intro e w2 ho; go_must (obtain ⟨u1, K1, rfl, k1, b1⟩ := ho.made (w := w) Bw1.out; have C1 := Lib.hid (cmp_any M1.out b1 k1 (pNot a)); have Bw2 := Lib.hid k1.below; clear ho k1 b1))
      | (go_at_call 7; (with_reducible refine C1.out.mono ?_); rintro e w3 ⟨rfl, h3⟩; go_must (have Bw3 := Lib.hid (Bw2.out.trans (h3.mono Bw2.out.size)); clear h3))
      | (go_at_call 17; (with_reducible refine (cUni.out w3 Bw3.out).mono ?_); intro e w4 ho; go_must (obtain ⟨v2, L2, rfl, m2, b2⟩ := ho.made (w := w) (Bw3.out.alloc Bw3.out.size _); have M2 := Lib.hid m2; have Bw4 := Lib.hid m2.below; clear ho m2 b2))
      | (go_at_call 9; (with_reducible refine (s2.out w4 Bw4.out).mono ?_); intro e w5 ho; go_must (obtain ⟨u2, K2, rfl, k2, b2⟩ := ho.made (w := w) Bw4.out; have C2 := Lib.hid (cmp_any M2.out b2 k2 (pUni a b)); have Bw5 := Lib.hid k2.below; clear ho k2 b2))
      | (go_at_call 7; (with_reducible refine C2.out.mono ?_); rintro e w6 ⟨rfl, h3⟩; go_must (have Bw6 := Lib.hid (Bw5.out.trans (h3.mono Bw5.out.size)); clear h3))
      | (go_at_call 18; (with_reducible refine (cBoth.out w6 Bw6.out).mono ?_); intro e w7 ho; go_must (obtain ⟨v3, L3, rfl, m3, b3⟩ := ho.made (w := w) Bw6.out; have M3 := Lib.hid m3; have Bw7 := Lib.hid m3.below; clear ho m3 b3))
      | (go_at_call 9; (with_reducible refine (s3.out w7 Bw7.out).mono ?_); intro e w8 ho; go_must (obtain ⟨u3, K3, rfl, k3, b3⟩ := ho.made (w := w) Bw7.out; have C3 := Lib.hid (cmp_any M3.out b3 k3 (pBoth a b)); have Bw8 := Lib.hid k3.below; clear ho k3 b3))
      | (go_at_call 7; (with_reducible refine C3.out.mono ?_); rintro e w9 ⟨rfl, h3⟩; go_must (have Bw9 := Lib.hid (Bw8.out.trans (h3.mono Bw8.out.size)); clear h3))
      | (go_at_call 19; (with_reducible refine (cLess.out w9 Bw9.out).mono ?_); intro e w10 ho; go_must (obtain ⟨v4, L4, rfl, m4, b4⟩ := ho.made (w := w) Bw9.out; have M4 := Lib.hid m4; have Bw10 := Lib.hid m4.below; clear ho m4 b4))
      | (go_at_call 9; (with_reducible refine (s4.out w10 Bw10.out).mono ?_); intro e w11 ho; go_must (obtain ⟨u4, K4, rfl, k4, b4⟩ := ho.made (w := w) Bw10.out; have C4 := Lib.hid (cmp_any M4.out b4 k4 (pLess a b)); have Bw11 := Lib.hid k4.below; clear ho k4 b4))
      | (go_at_call 7; (with_reducible refine C4.out.mono ?_); rintro e w12 ⟨rfl, h3⟩; go_must (have Bw12 := Lib.hid (Bw11.out.trans (h3.mono Bw11.out.size)); clear h3))
      | (go_at_call 20; (with_reducible refine (cSame.out w12 Bw12.out).mono ?_); rintro e w13 ⟨A, D, a1, a2, a3, a4, rfl, h3⟩; go_must (have Bw13 := Lib.hid (Bw12.out.trans (h3.mono Bw12.out.size)); have A1 := Lib.hid a1; have A2 := Lib.hid a2; have A3 := Lib.hid a3; have A4 := Lib.hid a4; clear h3 a1 a2 a3 a4))
      | (go_at_call 9; (with_reducible refine (s5.out w13 Bw13.out).mono ?_); intro e w14 ho; go_must (obtain ⟨u5, K5, rfl, k5, b5⟩ := ho.made (w := w) Bw13.out; obtain rfl : K5 = A := uniq k5.set A1.out (fun c => by rw [k5.has, A2.out, pSet]); have R5 := Lib.hid k5; have Bw14 := Lib.hid k5.below; clear ho k5 b5))
      | (go_at_call 9; (with_reducible refine (s6.out w14 Bw14.out).mono ?_); intro e w15 ho; go_must (obtain ⟨u6, K6, rfl, k6, b6⟩ := ho.made (w := w) Bw14.out; obtain rfl : K6 = D := uniq k6.set A3.out (fun c => by rw [k6.has, A4.out, pSet]); have C6 := Lib.hid (rsame_any K5 K6 u5 u6 w15 (R5.out.at'.next b6) k6.at'); have Bw15 := Lib.hid k6.below; clear ho k6 b6))
      | (go_at_call 7; (with_reducible refine C6.out.mono ?_); rintro e w16 ⟨rfl, h3⟩; go_must (have Bw16 := Lib.hid (Bw15.out.trans (h3.mono Bw15.out.size)); clear h3))
      | (go_at_call 6; (with_reducible refine (AL.out _).mono ?_); rintro e w17 ⟨rfl, h3⟩; go_must (have BF := Lib.hid (Bw16.out.trans (h3.mono Bw16.out.size)); clear h3)))
    go_ret
    exact ⟨rfl, BF.out⟩

end Go.Proofs.Ytpfbipkimpiakaa.Rg

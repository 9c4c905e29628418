/- The laws RangesOf and RangesJoin. -/
import Derived.Test.YtpfbipkimpiakaaRgAlive
namespace Go.Proofs.Ytpfbipkimpiakaa.Rg
open Go.RowKit Go.Shelf

/-- a set that a call has made, as a later world meets it -/
structure MadeAt (w W : World) (v : Value) (L : List R) (P : Int → Bool) (n : Nat) : Prop where
  at' : RngsAt W v L
  set : setFrom 0 L
  has : ∀ c, hasB L c = P c
  len : L.length ≤ n
  below : Below w.heap.size w W
theorem SetOut.made {w W w' : World} {P : Int → Bool} {n : Nat} {e : Ending} (h : SetOut W P n e w') (hb : Below w.heap.size w W) : ∃ v L, e = .returned v ∧ MadeAt w w' v L P n ∧ Below W.heap.size W w' := by
  obtain ⟨v, L, rfl, hr, h1, h2, h3, h4⟩ := h
  exact ⟨v, L, rfl, ⟨rngs_of_row hr, h1, h2, h3, hb.trans (h4.mono hb.size)⟩, h4⟩
theorem MadeAt.next {w W W' : World} {v : Value} {L : List R} {P : Int → Bool} {n : Nat} (h : MadeAt w W v L P n) (hb : Below W.heap.size W W') : MadeAt w W' v L P n :=
  ⟨h.at'.next hb, h.set, h.has, h.len, h.below.trans (hb.mono h.below.size)⟩
theorem MadeAt.same {w W W' : World} {v v' : Value} {L L' : List R} {P P' : Int → Bool} {n n' : Nat} (h : MadeAt w W v L P n) (k : MadeAt w W' v' L' P' n') (hp : ∀ c, P c = P' c) : L = L' :=
  uniq h.set k.set fun c => by rw [h.has, k.has, hp]
/-- the two compared: the same -/
theorem cmp_any {w W W' : World} {v v' : Value} {L L' : List R} {P P' : Int → Bool} {n n' : Nat} (h : MadeAt w W v L P n) (hb : Below W.heap.size W W') (k : MadeAt w W' v' L' P' n') (hp : ∀ c, P c = P' c) :
    Calls Try.prog 7 #[v, v'] W' fun e w' => e = .returned (.bool true) ∧ Below W'.heap.size W' w' := by
  have hs := h.same k hp
  refine (rsame_any L L' v v' W' (h.at'.next hb) k.at').mono ?_
  rintro e w' ⟨rfl, h2⟩
  exact ⟨by rw [decide_eq_true hs], h2⟩

set_option maxHeartbeats 4000000 in
theorem lawOf_any (l : List R) (c : Int) (v : Value) (w : World) (hv : RngsAt w v l) :
    Calls Try.prog 3 #[v, .int .i64 c] w fun e w' => e = .returned (.bool true) ∧ Below w.heap.size w w' := by
  have AL := Lib.hid (fun W => alive_any W)
  by_cases hM : 60 < l.length
  · obtain ⟨ao, cap, rfl, hm, _⟩ := hv.shape
    clear hv
    go_enter Try.func3, Try.ntmps3
    go_wp2_with (go_at_call 6; refine (AL.out _).mono ?_; rintro e w1 ⟨rfl, h1⟩)
    go_ret
    exact ⟨rfl, h1⟩
  · have c1 := Lib.hid (of_any l v w hv (by omega))
    have c2 := Lib.hid (fun W (h : Below w.heap.size w W) => set_any 0 (by omega) l [] v (.slice none 0 0) W (hv.next h) (none_at W) (by simp; omega))
    have c3 := Lib.hid (fun W (h : Below w.heap.size w W) => right_all l v W (hv.next h))
    have c4 := Lib.hid (fun W (h : Below w.heap.size w W) => rright_all l v W (hv.next h) (by omega))
    have c5 := Lib.hid (fun W (h : Below w.heap.size w W) => has_any l c v W (hv.next h))
    have c6 := Lib.hid (fun W (h : Below w.heap.size w W) => rhas_any l c v W (hv.next h))
    have c7 := Lib.hid (fun L h0 h1 W (h : Below w.heap.size w W) => count_all l L v W (hv.next h) (by omega) h0 h1)
    have c8 := Lib.hid (fun L h0 h1 W (h : Below w.heap.size w W) => rcount_all l L v W (hv.next h) (by omega) h0 h1)
    have p0 : ∀ c, inB l c = (isC c && holdB 0 l [] c) := fun c => (inB_isC l c).symm
    have P0 := Lib.hid p0
    obtain ⟨ao, cap, rfl, hm, _⟩ := hv.shape
    have hb0 : (inB l c == inB l c) = true := by simp
    clear hv p0
    obtain ⟨y, hy⟩ : ∃ y, inB l c = y := ⟨_, rfl⟩
    obtain ⟨z, hz⟩ : ∃ z, rightB l = z := ⟨_, rfl⟩
    rw [hy] at c5 c6
    rw [hz] at c3 c4
    clear hy hz hb0
    go_enter Try.func3, Try.ntmps3
    go_wp2_with (first
      | (go_at_call 8; refine c1.out.mono ?_; intro e w1 ho; obtain ⟨v1, L1, rfl, m1, b1⟩ := ho.made (Below.refl _ _); have M1 := Lib.hid m1; have B1 := Lib.hid b1; clear ho m1 b1)
      | (go_at_call 9; refine (c2.out w1 B1.out).mono ?_; intro e w2 ho; obtain ⟨v2, L2, rfl, m2, b2⟩ := ho.made B1.out; go_must (have C := Lib.hid (cmp_any M1.out b2 m2 P0.out); have B2 := Lib.hid m2.below; clear ho m2 b2))
      | (go_at_call 7; refine C.out.mono ?_; rintro e w3 ⟨rfl, h3⟩; go_must (have B3 := Lib.hid (B2.out.trans (h3.mono B2.out.size)); clear h3))
      | (go_at_call 10; refine (c3.out w3 B3.out).mono ?_; rintro e w4 ⟨rfl, h3⟩; go_must (have B4 := Lib.hid (B3.out.trans (h3.mono B3.out.size)); clear h3))
      | (go_at_call 11; refine (c4.out w4 B4.out).mono ?_; rintro e w5 ⟨rfl, h3⟩; go_must (have B5 := Lib.hid (B4.out.trans (h3.mono B4.out.size)); clear h3))
      | (go_at_call 12; refine (c5.out w5 B5.out).mono ?_; rintro e w6 ⟨rfl, h3⟩; go_must (have B6 := Lib.hid (B5.out.trans (h3.mono B5.out.size)); clear h3))
      | (go_at_call 13; refine (c6.out w6 B6.out).mono ?_; rintro e w7 ⟨rfl, hw⟩; go_must (obtain rfl := hw.symm))
      | (go_at_call 14; refine (c7.out L1 M1.out.set M1.out.has _ B6.out).mono ?_; rintro e w8 ⟨rfl, h3⟩; go_must (have B8 := Lib.hid (B6.out.trans (h3.mono B6.out.size)); clear h3))
      | (go_at_call 15; refine (c8.out L1 M1.out.set M1.out.has _ B8.out).mono ?_; rintro e w9 ⟨rfl, h3⟩; go_must (have B9 := Lib.hid (B8.out.trans (h3.mono B8.out.size)); clear h3))
      | (go_at_call 6; refine (AL.out _).mono ?_; rintro e w10 ⟨rfl, h3⟩; go_must (have B10 := Lib.hid (B9.out.trans (h3.mono B9.out.size)); clear h3)))
    go_ret
    exact ⟨rfl, B10.out⟩

end Go.Proofs.Ytpfbipkimpiakaa.Rg

/- Two lists compared; what a call tells as a set, in a later world. -/
import Derived.Test.YtdmceapbobkklaaDoorRgCmp0
import Derived.Deep.DeepMust
namespace Go.Proofs.YtdmceapbobkklaaDoor.Rg
open Go.RowKit Go.Shelf

theorem eq_len {a b : List R} (h : a.length ≠ b.length) : decide (a = b) = false := by
  rw [decide_eq_false_iff_not]; rintro rfl; exact h rfl
theorem eq_step {a b : List R} {k : Nat} (ha : k < a.length) (hb : k < b.length) (h : decide (a = b) = decide (a.drop k = b.drop k)) : decide (a = b) = (decide ((nth a k).1 = (nth b k).1 ∧ (nth a k).2 = (nth b k).2) && decide (a.drop (k + 1) = b.drop (k + 1))) := by
  rw [h, List.drop_eq_getElem_cons ha, List.drop_eq_getElem_cons hb, nth_eq ha, nth_eq hb]
  rw [Bool.eq_iff_iff]
  simp only [decide_eq_true_eq, Bool.and_eq_true, List.cons.injEq, Prod.ext_iff]

set_option maxHeartbeats 1600000 in
theorem rsame_any (a b : List R) (va vb : Value) (w : World) (ha : RngsAt w va a) (hb : RngsAt w vb b) :
    Calls Tryd.prog 35 #[va, vb] w fun e w' => e = .returned (.bool (decide (a = b))) ∧ Below w.heap.size w w' := by
  obtain ⟨ao, cap, rfl, hm, hcs⟩ := ha.shape
  obtain ⟨bo, cbp, rfl, hm2, hds⟩ := hb.shape
  have HC := Lib.hid hcs
  have HD := Lib.hid hds
  clear hcs hds ha hb
  by_cases hlen : a.length = b.length
  · go_enter Tryd.func35, Tryd.ntmps35
    go_wp2
    go_loopw [5] (fun i wr => ∃ k : Nat, i = .int .i64 k ∧ k ≤ a.length ∧ decide (a = b) = decide (a.drop k = b.drop k) ∧ Below w.heap.size w wr) (fun i _ => a.length - (intOf i).toNat)
    case atStart => exact ⟨0, rfl, Nat.zero_le _, rfl, Below.refl _ _⟩
    case round =>
      obtain ⟨k, rfl, hk, he, hb⟩ := hrel
      by_cases hlt : k < a.length
      · obtain ⟨g, rfl, c1, c2⟩ := HC.out k hlt
        obtain ⟨g', rfl, d1, d2⟩ := HD.out k (by omega)
        replace c1 := cell_next c1 hb
        replace c2 := cell_next c2 hb
        replace d1 := cell_next d1 hb
        replace d2 := cell_next d2 hb
        have n1 : (k : Int) < a.length := by omega
        have n2 : (k : Int) < b.length := by omega
        have hst := eq_step hlt (by omega) he
        by_cases hel : (nth a k).1 = (nth b k).1 ∧ (nth a k).2 = (nth b k).2
        · rw [decide_eq_true hel, Bool.true_and] at hst
          obtain ⟨q1, q2⟩ := hel
          rw [q1] at c1
          rw [q2] at c2
          have HE := Lib.hid hst
          have HB := Lib.hid hb
          clear he hb hst q1 q2
          go_wp2
          go_quiet (fail)
          go_wp2
          go_roundw
          case rel => exact ⟨k + 1, by go_num, by omega, HE.out, HB.out.trans ((below_drewN _ _).mono HB.out.size)⟩
          case measure => simp [intOf]; omega
        · rw [decide_eq_false hel, Bool.false_and] at hst
          have HE := Lib.hid hst
          have HB := Lib.hid hb
          clear he hb hst
          by_cases q1 : (nth a k).1 = (nth b k).1
          · have q2 : ((nth a k).2 == (nth b k).2) = false := by simp; exact fun h => hel ⟨q1, h⟩
            rw [q1] at c1
            clear hel q1
            go_wp2
            go_quiet (fail)
            go_wp2
            go_ret
            exact ⟨retB HE.out.symm, HB.out.trans ((below_drewN _ _).mono HB.out.size)⟩
          · have q2 : ((nth a k).1 == (nth b k).1) = false := by simpa using q1
            clear hel q1
            go_wp2
            go_quiet (fail)
            go_wp2
            go_ret
            exact ⟨retB HE.out.symm, HB.out.trans ((below_drewN _ _).mono HB.out.size)⟩
      · obtain rfl : k = a.length := by omega
        have he2 : decide (a = b) = true := by rw [he, List.drop_length, hlen, List.drop_length]; simp
        have HE := Lib.hid he2
        clear he he2
        go_wp2
        go_ret
        exact ⟨retB HE.out.symm, hb⟩
  · have HL := Lib.hid (eq_len hlen)
    go_enter Tryd.func35, Tryd.ntmps35
    go_wp2
    go_ret
    exact ⟨retB HL.out.symm, Below.refl _ _⟩

/-- a set that a call has made, as a later world meets it -/
structure MadeAt (w W : World) (v : Value) (L : List R) (P : Int → Bool) (n : Nat) : Prop where
  at' : RngsAt W v L
  set : setFrom 0 L
  has : ∀ c, hasB L c = P c
  len : L.length ≤ n
  below : Below w.heap.size w W
theorem SetOut.made {w W w' : World} {P : Int → Bool} {n : Nat} {e : Ending} (h : SetOut W P n e w') (hb : Below w.heap.size w W) : ∃ v L, e = .returned v ∧ MadeAt w w' v L P n ∧ Below W.heap.size W w' := by
  obtain ⟨v, L, rfl, hr, h1, h2, h3, h4⟩ := h
  exact ⟨v, L, rfl, ⟨rngs_of_row hr, h1, h2, h3, hb.trans (h4.mono hb.size)⟩, h4⟩
theorem MadeAt.next {w W W' : World} {v : Value} {L : List R} {P : Int → Bool} {n : Nat} (h : MadeAt w W v L P n) (hb : Below W.heap.size W W') : MadeAt w W' v L P n :=
  ⟨h.at'.next hb, h.set, h.has, h.len, h.below.trans (hb.mono h.below.size)⟩
theorem MadeAt.same {w W W' : World} {v v' : Value} {L L' : List R} {P P' : Int → Bool} {n n' : Nat} (h : MadeAt w W v L P n) (k : MadeAt w W' v' L' P' n') (hp : ∀ c, P c = P' c) : L = L' :=
  uniq h.set k.set fun c => by rw [h.has, k.has, hp]
/-- the two compared: the same -/
theorem cmp_any {w W W' : World} {v v' : Value} {L L' : List R} {P P' : Int → Bool} {n n' : Nat} (h : MadeAt w W v L P n) (hb : Below W.heap.size W W') (k : MadeAt w W' v' L' P' n') (hp : ∀ c, P c = P' c) :
    Calls Tryd.prog 35 #[v, v'] W' fun e w' => e = .returned (.bool true) ∧ Below W'.heap.size W' w' := by
  have hs := h.same k hp
  refine (rsame_any L L' v v' W' (h.at'.next hb) k.at').mono ?_
  rintro e w' ⟨rfl, h2⟩
  exact ⟨by rw [decide_eq_true hs], h2⟩

end Go.Proofs.YtdmceapbobkklaaDoor.Rg

/- Right, Count; the two comparisons. -/
import Derived.Test.YtpfbipkimpiakaaRgOf
namespace Go.Proofs.Ytpfbipkimpiakaa.Rg
open Go.RowKit Go.Shelf

theorem set_at {l : List R} {k : Nat} {m : Int} (h : k < l.length) : setFrom m (l.drop k) ↔ (m ≤ (nth l k).1 ∧ (nth l k).1 ≤ (nth l k).2 ∧ (nth l k).2 ≤ 1114111 ∧ setFrom ((nth l k).2 + 2) (l.drop (k + 1))) := by
  rw [List.drop_eq_getElem_cons h, nth_eq h]; rfl

/-- what Right tells -/
def RightOut (l : List R) (w : World) (e : Ending) (w' : World) : Prop := ∃ b, e = .returned (.bool b) ∧ (b = true ↔ setFrom 0 l) ∧ Below w.heap.size w w'
def RightRel (l : List R) (w : World) (s i : Value) (wr : World) : Prop :=
  ∃ (k : Nat) (m : Int), i = .int .i64 k ∧ s = .int .i64 m ∧ k ≤ l.length ∧ 0 ≤ m ∧ m ≤ 1114113 ∧ (setFrom 0 l ↔ setFrom m (l.drop k)) ∧ Below w.heap.size w wr

set_option maxHeartbeats 1600000 in
theorem right_any (l : List R) (v : Value) (w : World) (hv : RngsAt w v l) :
    Calls Try.prog 10 #[v] w fun e w' => RightOut l w e w' := by
  obtain ⟨ao, cap, rfl, hm, hcs⟩ := hv.shape
  have HC := Lib.hid hcs
  clear hcs hv
  go_enter Try.func10, Try.ntmps10
  go_wp2
  go_loopw [3, 8] (fun s i wr => RightRel l w s i wr) (fun _ i _ => l.length - (intOf i).toNat)
  case atStart => exact ⟨0, 0, rfl, rfl, Nat.zero_le _, by omega, by omega, Iff.rfl, Below.refl _ _⟩
  case round =>
    obtain ⟨k, m, rfl, rfl, hk, hm0, hm1, hset, hb⟩ := hrel
    by_cases hlt : k < l.length
    · obtain ⟨g, rfl, c1, c2⟩ := HC.out k hlt
      replace c1 := cell_next c1 hb
      replace c2 := cell_next c2 hb
      rw [set_at hlt] at hset
      have HS := Lib.hid hset
      have HB := Lib.hid hb
      have hsz := hb.size
      clear hset hb
      go_wp2
      all_goals first
        | (go_ret; exact ⟨_, rfl, ⟨fun h => (by cases h), fun h => by obtain ⟨h1, h2, h3, _⟩ := HS.out.1 h; omega⟩, HB.out.alloc hsz _⟩)
        | (go_roundw
           case rel => exact ⟨k + 1, _, by go_num, rfl, by omega, by omega, by omega, by rw [HS.out]; exact ⟨fun h => h.2.2.2, fun h => ⟨by omega, by omega, by omega, h⟩⟩, HB.out.alloc hsz _⟩
           case measure => simp [intOf]; omega)
    · obtain rfl : k = l.length := by omega
      rw [List.drop_length] at hset
      have HS := Lib.hid hset
      clear hset
      go_wp2
      go_ret
      exact ⟨_, rfl, by rw [HS.out]; simp [setFrom], hb⟩

def CountRel (L : List R) (w : World) (s i : Value) (wr : World) : Prop :=
  ∃ (k : Nat) (n : Int), i = .int .i64 k ∧ s = .int .i64 n ∧ k ≤ L.length ∧ n + cntL (L.drop k) = cntL L ∧ 0 ≤ n ∧ Below w.heap.size w wr

/-- a number of the set, counted from its list -/
structure Bnd (L : List R) (k : Nat) (n : Int) : Prop where
  lo : 0 ≤ (nth L k).1
  mid : (nth L k).1 ≤ (nth L k).2
  hi : (nth L k).2 ≤ 1114111
  cnt : n + ((nth L k).2 - (nth L k).1 + 1) ≤ 1114112
  rest : n + ((nth L k).2 - (nth L k).1 + 1) + cntL (L.drop (k + 1)) = cntL L
theorem bnd {L : List R} (h : setFrom 0 L) {k : Nat} (hk : k < L.length) {n : Int} (hn : n + cntL (L.drop k) = cntL L) : Bnd L k n := by
  have h1 := set_all h (L[k]) (List.getElem_mem hk)
  rw [← nth_eq hk] at h1
  rw [cnt_drop hk] at hn
  have h2 := cnt_bounds h (by omega)
  have h3 := cnt_bounds (set_drop (k + 1) h) (by omega)
  exact ⟨h1.1, h1.2.1, h1.2.2, by omega, by omega⟩

set_option maxHeartbeats 1600000 in
theorem count_any (l : List R) (v : Value) (w : World) (hv : RngsAt w v l) (hM : l.length < 1000000) :
    Calls Try.prog 14 #[v] w fun e w' => ∃ L, setFrom 0 L ∧ (∀ c, hasB L c = inB l c) ∧ e = .returned (.int .i64 (cntL L)) ∧ Below w.heap.size w w' := by
  have c1 := of_any l v w hv hM
  have C1 := Lib.hid c1
  clear c1 hv
  go_enter Try.func14, Try.ntmps14
  go_wp2_with (go_at_call 8; refine C1.out.mono ?_; rintro e w1 ⟨v', L, rfl, hr, h1, h2, h3, h4⟩; obtain ⟨ao, cap, rfl, hm, hcs⟩ := (rngs_of_row hr).shape; have HC := Lib.hid hcs; have H1 := Lib.hid h1; have H2 := Lib.hid h2; have H4 := Lib.hid h4; have hsz1 := h4.size; clear hcs h1 h2 h4 hr)
  go_loopw [3, 9] (fun s i wr => CountRel L w1 s i wr) (fun _ i _ => L.length - (intOf i).toNat)
  case atStart => exact ⟨0, 0, rfl, rfl, Nat.zero_le _, by simp, by omega, Below.refl _ _⟩
  case round =>
    obtain ⟨k, n, rfl, rfl, hk, hc, hn0, hb⟩ := hrel
    by_cases hlt : k < L.length
    · obtain ⟨g, rfl, c1, c2⟩ := HC.out k hlt
      replace c1 := cell_next c1 hb
      replace c2 := cell_next c2 hb
      obtain ⟨b1, b2, b3, b4, b5⟩ := bnd H1.out hlt hc
      have HS := Lib.hid b5
      have HB := Lib.hid hb
      have hsz := hb.size
      clear hc hb b5
      go_wp2
      go_roundw
      case rel => exact ⟨k + 1, n + ((nth L k).2 - (nth L k).1 + 1), by go_num, by go_num, by omega, HS.out, by omega, HB.out.alloc hsz _⟩
      case measure => simp [intOf]; omega
    · obtain rfl : k = L.length := by omega
      rw [List.drop_length] at hc
      have hc2 : n = cntL L := by simp [cntL] at hc; omega
      subst hc2
      clear hc
      go_wp2
      go_ret
      exact ⟨L, H1.out, H2.out, rfl, H4.out.trans (hb.mono hsz1)⟩

theorem eq_len {a b : List R} (h : a.length ≠ b.length) : decide (a = b) = false := by
  rw [decide_eq_false_iff_not]; rintro rfl; exact h rfl
theorem eq_step {a b : List R} {k : Nat} (ha : k < a.length) (hb : k < b.length) (h : decide (a = b) = decide (a.drop k = b.drop k)) : decide (a = b) = (decide ((nth a k).1 = (nth b k).1 ∧ (nth a k).2 = (nth b k).2) && decide (a.drop (k + 1) = b.drop (k + 1))) := by
  rw [h, List.drop_eq_getElem_cons ha, List.drop_eq_getElem_cons hb, nth_eq ha, nth_eq hb]
  rw [Bool.eq_iff_iff]
  simp only [decide_eq_true_eq, Bool.and_eq_true, List.cons.injEq, Prod.ext_iff]

set_option maxHeartbeats 1600000 in
theorem rsame_any (a b : List R) (va vb : Value) (w : World) (ha : RngsAt w va a) (hb : RngsAt w vb b) :
    Calls Try.prog 7 #[va, vb] w fun e w' => e = .returned (.bool (decide (a = b))) ∧ Below w.heap.size w w' := by
  obtain ⟨ao, cap, rfl, hm, hcs⟩ := ha.shape
  obtain ⟨bo, cbp, rfl, hm2, hds⟩ := hb.shape
  have HC := Lib.hid hcs
  have HD := Lib.hid hds
  clear hcs hds ha hb
  by_cases hlen : a.length = b.length
  · go_enter Try.func7, Try.ntmps7
    go_wp2
    go_loopw [5] (fun i wr => ∃ k : Nat, i = .int .i64 k ∧ k ≤ a.length ∧ decide (a = b) = decide (a.drop k = b.drop k) ∧ Below w.heap.size w wr) (fun i _ => a.length - (intOf i).toNat)
    case atStart => exact ⟨0, rfl, Nat.zero_le _, rfl, Below.refl _ _⟩
    case round =>
      obtain ⟨k, rfl, hk, he, hb⟩ := hrel
      by_cases hlt : k < a.length
      · obtain ⟨g, rfl, c1, c2⟩ := HC.out k hlt
        obtain ⟨g', rfl, d1, d2⟩ := HD.out k (by omega)
        replace c1 := cell_next c1 hb
        replace c2 := cell_next c2 hb
        replace d1 := cell_next d1 hb
        replace d2 := cell_next d2 hb
        have n1 : (k : Int) < a.length := by omega
        have n2 : (k : Int) < b.length := by omega
        have hst := eq_step hlt (by omega) he
        by_cases hel : (nth a k).1 = (nth b k).1 ∧ (nth a k).2 = (nth b k).2
        · rw [decide_eq_true hel, Bool.true_and] at hst
          obtain ⟨q1, q2⟩ := hel
          rw [q1] at c1
          rw [q2] at c2
          have HE := Lib.hid hst
          have HB := Lib.hid hb
          clear he hb hst q1 q2
          go_wp2
          go_quiet (fail)
          go_wp2
          go_roundw
          case rel => exact ⟨k + 1, by go_num, by omega, HE.out, HB.out.trans ((below_drewN _ _).mono HB.out.size)⟩
          case measure => simp [intOf]; omega
        · rw [decide_eq_false hel, Bool.false_and] at hst
          have HE := Lib.hid hst
          have HB := Lib.hid hb
          clear he hb hst
          by_cases q1 : (nth a k).1 = (nth b k).1
          · have q2 : ((nth a k).2 == (nth b k).2) = false := by simp; exact fun h => hel ⟨q1, h⟩
            rw [q1] at c1
            clear hel q1
            go_wp2
            go_quiet (fail)
            go_wp2
            go_ret
            exact ⟨retB HE.out.symm, HB.out.trans ((below_drewN _ _).mono HB.out.size)⟩
          · have q2 : ((nth a k).1 == (nth b k).1) = false := by simpa using q1
            clear hel q1
            go_wp2
            go_quiet (fail)
            go_wp2
            go_ret
            exact ⟨retB HE.out.symm, HB.out.trans ((below_drewN _ _).mono HB.out.size)⟩
      · obtain rfl : k = a.length := by omega
        have he2 : decide (a = b) = true := by rw [he, List.drop_length, hlen, List.drop_length]; simp
        have HE := Lib.hid he2
        clear he he2
        go_wp2
        go_ret
        exact ⟨retB HE.out.symm, hb⟩
  · have HL := Lib.hid (eq_len hlen)
    go_enter Try.func7, Try.ntmps7
    go_wp2
    go_ret
    exact ⟨retB HL.out.symm, Below.refl _ _⟩

set_option maxHeartbeats 1600000 in
theorem equal_any (a b : List R) (va vb : Value) (w : World) (ha : RngsAt w va a) (hb : RngsAt w vb b) :
    Calls Try.prog 25 #[va, vb] w fun e w' => e = .returned (.bool (decide (a = b))) ∧ Below w.heap.size w w' := by
  obtain ⟨ao, cap, rfl, hm, hcs⟩ := ha.shape
  obtain ⟨bo, cbp, rfl, hm2, hds⟩ := hb.shape
  have HC := Lib.hid hcs
  have HD := Lib.hid hds
  clear hcs hds ha hb
  by_cases hlen : a.length = b.length
  · go_enter Try.func25, Try.ntmps25
    go_wp2
    go_loopw [13] (fun i wr => ∃ k : Nat, i = .int .i64 k ∧ k ≤ a.length ∧ decide (a = b) = decide (a.drop k = b.drop k) ∧ Below w.heap.size w wr) (fun i _ => a.length - (intOf i).toNat)
    case atStart => exact ⟨0, rfl, Nat.zero_le _, rfl, Below.refl _ _⟩
    case round =>
      obtain ⟨k, rfl, hk, he, hb⟩ := hrel
      by_cases hlt : k < a.length
      · obtain ⟨g, rfl, c1, c2⟩ := HC.out k hlt
        obtain ⟨g', rfl, d1, d2⟩ := HD.out k (by omega)
        replace c1 := cell_next c1 hb
        replace c2 := cell_next c2 hb
        replace d1 := cell_next d1 hb
        replace d2 := cell_next d2 hb
        have n1 : (k : Int) < a.length := by omega
        have n2 : (k : Int) < b.length := by omega
        have hst := eq_step hlt (by omega) he
        by_cases hel : (nth a k).1 = (nth b k).1 ∧ (nth a k).2 = (nth b k).2
        · rw [decide_eq_true hel, Bool.true_and] at hst
          obtain ⟨q1, q2⟩ := hel
          rw [q1] at c1
          rw [q2] at c2
          have HE := Lib.hid hst
          have HB := Lib.hid hb
          clear he hb hst q1 q2
          go_wp2
          go_quiet (fail)
          go_wp2
          go_roundw
          case rel => exact ⟨k + 1, by go_num, by omega, HE.out, HB.out.trans ((below_drewN _ _).mono HB.out.size)⟩
          case measure => simp [intOf]; omega
        · rw [decide_eq_false hel, Bool.false_and] at hst
          have HE := Lib.hid hst
          have HB := Lib.hid hb
          clear he hb hst
          by_cases q1 : (nth a k).1 = (nth b k).1
          · have q2 : ((nth a k).2 == (nth b k).2) = false := by simp; exact fun h => hel ⟨q1, h⟩
            rw [q1] at c1
            clear hel q1
            go_wp2
            go_quiet (fail)
            go_wp2
            go_ret
            exact ⟨retB HE.out.symm, HB.out.trans ((below_drewN _ _).mono HB.out.size)⟩
          · have q2 : ((nth a k).1 == (nth b k).1) = false := by simpa using q1
            clear hel q1
            go_wp2
            go_quiet (fail)
            go_wp2
            go_ret
            exact ⟨retB HE.out.symm, HB.out.trans ((below_drewN _ _).mono HB.out.size)⟩
      · obtain rfl : k = a.length := by omega
        have he2 : decide (a = b) = true := by rw [he, List.drop_length, hlen, List.drop_length]; simp
        have HE := Lib.hid he2
        clear he he2
        go_wp2
        go_ret
        exact ⟨retB HE.out.symm, hb⟩
  · have HL := Lib.hid (eq_len hlen)
    go_enter Try.func25, Try.ntmps25
    go_wp2
    go_ret
    exact ⟨retB HL.out.symm, Below.refl _ _⟩

end Go.Proofs.Ytpfbipkimpiakaa.Rg

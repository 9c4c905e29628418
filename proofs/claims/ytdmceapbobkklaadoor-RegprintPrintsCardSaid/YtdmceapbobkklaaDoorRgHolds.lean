/- The document's ends; what holds of a number. -/
import Derived.Test.YtdmceapbobkklaaDoorRgEnds
namespace Go.Proofs.YtdmceapbobkklaaDoor.Rg
open Go.RowKit Go.Shelf

theorem EndsOk.reach {l : List R} {E : List Int} (h : EndsOk l E) {x : Int} (hx : x ≤ 1114112) : ∃ i, i < E.length ∧ x ≤ nthI E i := by
  obtain ⟨i, hi, he⟩ := List.mem_iff_getElem.1 h.top
  exact ⟨i, hi, by rw [nthI_eq hi, he]; exact hx⟩
theorem put1_len (E : List Int) (r : R) : (put1 E r).length ≤ E.length + 1 := by
  unfold put1; split
  · exact insL_len _ _
  · omega
theorem put2_len (E : List Int) (r : R) : (put2 E r).length ≤ E.length + 2 := by
  have h1 := put1_len E r
  have h2 := insL_len (put1 E r) (r.2 + 1)
  unfold put2; split <;> omega

def EndsOut (l : List R) (w : World) (e : Ending) (w' : World) : Prop := ∃ v E, e = .returned v ∧ ownI w' w.heap.size v E ∧ EndsOk l E ∧ E.length ≤ 2 + 2 * l.length ∧ Below w.heap.size w w'
def EndsRel (l : List R) (w : World) (s i : Value) (wr : World) : Prop :=
  ∃ (k : Nat) (E : List Int), i = .int .i64 k ∧ k ≤ l.length ∧ EndsOk (l.take k) E ∧ E.length ≤ 2 + 2 * k ∧ ownI wr w.heap.size s E ∧ Below w.heap.size w wr

set_option maxRecDepth 100000 in
set_option maxHeartbeats 4000000 in
theorem ends_any (l : List R) (v : Value) (w : World) (hv : RngsAt w v l) (hM : l.length ≤ 100000) :
    Calls Tryd.prog 51 #[v] w fun e w' => EndsOut l w e w' := by
  obtain ⟨ao, cap, rfl, hm, hcs⟩ := hv.shape
  have HC := Lib.hid hcs
  clear hcs hv
  go_enter Tryd.func51, Tryd.ntmps51
  go_wp2
  go_loopw [3, 4] (fun s i wr => EndsRel l w s i wr) (fun _ i _ => l.length - (intOf i).toNat)
  case atStart => exact ⟨0, [0, 1114112], rfl, Nat.zero_le _, EndsOk.start, by simp, World.ownsRow_lit (e := 3) (size := 1) w #[.int .i64 0, .int .i64 1114112] 2 (Nat.le_refl _) (by decide) (by simp), (Below.refl _ _).alloc (Nat.le_refl _) _⟩
  case round =>
    obtain ⟨k, E, rfl, hk, hok, hlen, hown, hb⟩ := hrel
    by_cases hlt : k < l.length
    · obtain ⟨g, rfl, c1, c2⟩ := HC.out k hlt
      replace c1 := cell_next c1 hb
      replace c2 := cell_next c2 hb
      have hst := hok.step (nth l k)
      rw [show l.take k ++ [nth l k] = l.take (k + 1) by rw [List.take_succ_eq_append_getElem hlt, nth_eq hlt]] at hst
      have hpl := put2_len E (nth l k)
      have put : ∀ E' x v' W, ownI W w.heap.size v' E' → (∃ i, i < E'.length ∧ x ≤ nthI E' i) → E'.length ≤ 1000000 → w.heap.size ≤ W.heap.size → Calls Tryd.prog 59 #[v', .int .i64 x] W fun e w' => PutOut w.heap.size E' x W e w' :=
        fun E' x v' W h1 h2 h3 h4 => rput_any w.heap.size E' x v' W h1 h4 h2 h3
      have nxt : ∀ v' W, ownI W w.heap.size v' (put2 E (nth l k)) → Below w.heap.size w W → EndsRel l w v' (.int .i64 ((k : Int) + 1)) W := fun v' W h1 h2 =>
        ⟨k + 1, _, by go_num, by omega, hst, by omega, h1, h2⟩
      have hok1 : EndsOk (l.take k) (put1 E (nth l k)) := by
        unfold put1; split
        · exact hok.ins (by omega) (by omega)
        · exact hok
      have hp1 := put1_len E (nth l k)
      have hsz := hb.size
      have NX := Lib.hid nxt
      have PU := Lib.hid put
      have HO := Lib.hid hown
      have HB := Lib.hid hb
      have HE := Lib.hid hok
      have HE1 := Lib.hid hok1
      clear hst put nxt hown hb hok hok1
      by_cases g1 : 0 < (nth l k).1 ∧ (nth l k).1 < 1114112 <;> by_cases g2 : 0 ≤ (nth l k).2 ∧ (nth l k).2 < 1114111
      · have q1 : put1 E (nth l k) = insL E (nth l k).1 := if_pos g1
        have q2 : put2 E (nth l k) = insL (insL E (nth l k).1) ((nth l k).2 + 1) := by unfold put2; rw [q1]; exact if_pos g2
        rw [q1] at HE1 hp1
        rw [q2] at NX
        clear q1 q2
        have P1 := Lib.hid (PU.out E (nth l k).1 u3 wr HO.out (HE.out.reach (by omega)) (by omega) hsz)
        go_wp2_with (first | (go_at_call 59; (with_reducible refine P1.out.mono ?_); rintro e w1 ⟨v1, rfl, hO1, hB1⟩; have d2 := cell_next c2 hB1; go_must (have hs1 := hB1.size; have P2 := Lib.hid (PU.out _ ((nth l k).2 + 1) v1 w1 hO1 (HE1.out.reach (by omega)) (by omega) (by omega)); have B1 := Lib.hid (HB.out.trans (hB1.mono hsz)); clear hO1 hB1)) | (go_at_call 59; refine P2.out.mono ?_; rintro e w2 ⟨v2, rfl, hO2, hB2⟩; go_must (have Z := Lib.hid (NX.out v2 w2 hO2 (B1.out.trans (hB2.mono (by omega)))); clear hO2 hB2)))
        all_goals (
          go_roundw
          case rel => exact Z.out
          case measure => simp [intOf]; omega)
      · have q1 : put1 E (nth l k) = insL E (nth l k).1 := if_pos g1
        have q2 : put2 E (nth l k) = insL E (nth l k).1 := by unfold put2; rw [q1]; exact if_neg g2
        rw [q1] at HE1 hp1
        rw [q2] at NX
        clear q1 q2
        have P1 := Lib.hid (PU.out E (nth l k).1 u3 wr HO.out (HE.out.reach (by omega)) (by omega) hsz)
        go_wp2_with (go_at_call 59; refine P1.out.mono ?_; rintro e w1 ⟨v1, rfl, hO1, hB1⟩; have d2 := cell_next c2 hB1; go_must (have Z := Lib.hid (NX.out v1 w1 hO1 (HB.out.trans (hB1.mono hsz))); clear hO1 hB1))
        all_goals (
          go_roundw
          case rel => exact Z.out
          case measure => simp [intOf]; omega)
      · have q1 : put1 E (nth l k) = E := if_neg g1
        have q2 : put2 E (nth l k) = insL (E) ((nth l k).2 + 1) := by unfold put2; rw [q1]; exact if_pos g2
        rw [q1] at HE1 hp1
        rw [q2] at NX
        clear q1 q2
        have P1 := Lib.hid (PU.out E ((nth l k).2 + 1) u3 wr HO.out (HE.out.reach (by omega)) (by omega) hsz)
        go_wp2_with (go_at_call 59; refine P1.out.mono ?_; rintro e w1 ⟨v1, rfl, hO1, hB1⟩; have d2 := cell_next c2 hB1; go_must (have Z := Lib.hid (NX.out v1 w1 hO1 (HB.out.trans (hB1.mono hsz))); clear hO1 hB1))
        all_goals (
          go_roundw
          case rel => exact Z.out
          case measure => simp [intOf]; omega)
      · have q1 : put1 E (nth l k) = E := if_neg g1
        have q2 : put2 E (nth l k) = E := by unfold put2; rw [q1]; exact if_neg g2
        rw [q1] at HE1 hp1
        rw [q2] at NX
        clear q1 q2
        go_wp2_with (fail)
        all_goals (
          go_roundw
          case rel => exact NX.out _ _ HO.out HB.out
          case measure => simp [intOf]; omega)
    · obtain rfl : k = l.length := by omega
      rw [List.take_length] at hok
      have HE := Lib.hid hok
      clear hok
      go_wp2
      go_ret
      exact ⟨_, E, rfl, hown, HE.out, hlen, hb⟩

/-- what is asked of a number, by its kind -/
def holdB (kind : Nat) (a b : List R) (c : Int) : Bool := match kind with
  | 1 => !inB a c
  | 2 => inB a c || inB b c
  | 3 => inB a c && inB b c
  | 4 => inB a c && !inB b c
  | _ => inB a c

set_option maxHeartbeats 1600000 in
theorem holds_any (kind : Nat) (hk : kind ≤ 4) (a b : List R) (c : Int) (va vb : Value) (w : World) (ha : RngsAt w va a) (hb : RngsAt w vb b) :
    Calls Tryd.prog 52 #[.int .i64 kind, va, vb, .int .i64 c] w fun e w' => e = .returned (.bool (holdB kind a b c)) ∧ w' = w := by
  have ca := rhas_any a c va w ha
  have cb := rhas_any b c vb w hb
  clear ha hb
  unfold holdB
  obtain ⟨x, hx⟩ : ∃ x, inB a c = x := ⟨_, rfl⟩
  obtain ⟨y, hy⟩ : ∃ y, inB b c = y := ⟨_, rfl⟩
  rw [hx] at ca ⊢
  rw [hy] at cb ⊢
  have CA := Lib.hid ca
  have CB := Lib.hid cb
  clear ca cb hx hy
  rcases (show kind = 0 ∨ kind = 1 ∨ kind = 2 ∨ kind = 3 ∨ kind = 4 by omega) with rfl | rfl | rfl | rfl | rfl
  all_goals (
    cases x <;> cases y
    all_goals (
      go_enter Tryd.func52, Tryd.ntmps52
      go_wp2_with (go_at_call 60; first | ((with_reducible refine CA.out.mono ?_); rintro e w' ⟨rfl, rfl⟩) | ((with_reducible refine CB.out.mono ?_); rintro e w' ⟨rfl, rfl⟩))
      go_ret
      exact ⟨rfl, rfl⟩))

end Go.Proofs.YtdmceapbobkklaaDoor.Rg

/- The document's ends; what holds of a number. Append of ranges that may be none. The document's Set. -/
import Derived.Test.YtjmdlioakkibcaaGreatDoorPk01
import Derived.Laws.AppendOwnNone

namespace Go.Proofs.YtjmdlioakkibcaaGreatDoor.Rg
open Go.RowKit Go.Shelf

theorem EndsOk.reach {l : List R} {E : List Int} (h : EndsOk l E) {x : Int} (hx : x ≤ 1114112) : ∃ i, i < E.length ∧ x ≤ nthI E i := by
  obtain ⟨i, hi, he⟩ := List.mem_iff_getElem.1 h.top
  exact ⟨i, hi, by rw [nthI_eq hi, he]; exact hx⟩
theorem put1_len (E : List Int) (r : R) : (put1 E r).length ≤ E.length + 1 := by
  unfold put1; split
  · exact insL_len _ _
  · omega
theorem put2_len (E : List Int) (r : R) : (put2 E r).length ≤ E.length + 2 := by
  have h1 := put1_len E r
  have h2 := insL_len (put1 E r) (r.2 + 1)
  unfold put2; split <;> omega

def EndsOut (l : List R) (w : World) (e : Ending) (w' : World) : Prop := ∃ v E, e = .returned v ∧ ownI w' w.heap.size v E ∧ EndsOk l E ∧ E.length ≤ 2 + 2 * l.length ∧ Below w.heap.size w w'
def EndsRel (l : List R) (w : World) (s i : Value) (wr : World) : Prop :=
  ∃ (k : Nat) (E : List Int), i = .int .i64 k ∧ k ≤ l.length ∧ EndsOk (l.take k) E ∧ E.length ≤ 2 + 2 * k ∧ ownI wr w.heap.size s E ∧ Below w.heap.size w wr

set_option maxRecDepth 100000 in
set_option maxHeartbeats 4000000 in
theorem ends_any (l : List R) (v : Value) (w : World) (hv : RngsAt w v l) (hM : l.length ≤ 100000) :
    Calls Tryz.prog 62 #[v] w fun e w' => EndsOut l w e w' := by
  obtain ⟨ao, cap, rfl, hm, hcs⟩ := hv.shape
  have HC := Lib.hid hcs
  clear hcs hv
  go_enter Tryz.func62, Tryz.ntmps62
  go_wp2
  go_loopw [3, 4] (fun s i wr => EndsRel l w s i wr) (fun _ i _ => l.length - (intOf i).toNat)
  case atStart => exact ⟨0, [0, 1114112], rfl, Nat.zero_le _, EndsOk.start, by simp, World.ownsRow_lit (e := 3) (size := 1) w #[.int .i64 0, .int .i64 1114112] 2 (Nat.le_refl _) (by decide) (by simp), (Below.refl _ _).alloc (Nat.le_refl _) _⟩
  case round =>
    obtain ⟨k, E, rfl, hk, hok, hlen, hown, hb⟩ := hrel
    by_cases hlt : k < l.length
    · obtain ⟨g, rfl, c1, c2⟩ := HC.out k hlt
      replace c1 := cell_next c1 hb
      replace c2 := cell_next c2 hb
      have hst := hok.step (nth l k)
      rw [show l.take k ++ [nth l k] = l.take (k + 1) by rw [List.take_succ_eq_append_getElem hlt, nth_eq hlt]] at hst
      have hpl := put2_len E (nth l k)
      have put : ∀ E' x v' W, ownI W w.heap.size v' E' → (∃ i, i < E'.length ∧ x ≤ nthI E' i) → E'.length ≤ 1000000 → w.heap.size ≤ W.heap.size → Calls Tryz.prog 77 #[v', .int .i64 x] W fun e w' => PutOut w.heap.size E' x W e w' :=
        fun E' x v' W h1 h2 h3 h4 => rput_any w.heap.size E' x v' W h1 h4 h2 h3
      have nxt : ∀ v' W, ownI W w.heap.size v' (put2 E (nth l k)) → Below w.heap.size w W → EndsRel l w v' (.int .i64 ((k : Int) + 1)) W := fun v' W h1 h2 =>
        ⟨k + 1, _, by go_num, by omega, hst, by omega, h1, h2⟩
      have hok1 : EndsOk (l.take k) (put1 E (nth l k)) := by
        unfold put1; split
        · exact hok.ins (by omega) (by omega)
        · exact hok
      have hp1 := put1_len E (nth l k)
      have hsz := hb.size
      have NX := Lib.hid nxt
      have PU := Lib.hid put
      have HO := Lib.hid hown
      have HB := Lib.hid hb
      have HE := Lib.hid hok
      have HE1 := Lib.hid hok1
      clear hst put nxt hown hb hok hok1
      by_cases g1 : 0 < (nth l k).1 ∧ (nth l k).1 < 1114112 <;> by_cases g2 : 0 ≤ (nth l k).2 ∧ (nth l k).2 < 1114111
      · have q1 : put1 E (nth l k) = insL E (nth l k).1 := if_pos g1
        have q2 : put2 E (nth l k) = insL (insL E (nth l k).1) ((nth l k).2 + 1) := by unfold put2; rw [q1]; exact if_pos g2
        rw [q1] at HE1 hp1
        rw [q2] at NX
        clear q1 q2
        have P1 := Lib.hid (PU.out E (nth l k).1 u3 wr HO.out (HE.out.reach (by omega)) (by omega) hsz)
        go_wp2_with (first | (go_at_call 77; (with_reducible refine P1.out.mono ?_); rintro e w1 ⟨v1, rfl, hO1, hB1⟩; have d2 := cell_next c2 hB1; go_must (have hs1 := hB1.size; have P2 := Lib.hid (PU.out _ ((nth l k).2 + 1) v1 w1 hO1 (HE1.out.reach (by omega)) (by omega) (by omega)); have B1 := Lib.hid (HB.out.trans (hB1.mono hsz)); clear hO1 hB1)) | (go_at_call 77; refine P2.out.mono ?_; rintro e w2 ⟨v2, rfl, hO2, hB2⟩; go_must (have Z := Lib.hid (NX.out v2 w2 hO2 (B1.out.trans (hB2.mono (by omega)))); clear hO2 hB2)))
        all_goals (
          go_roundw
          case rel => exact Z.out
          case measure => simp [intOf]; omega)
      · have q1 : put1 E (nth l k) = insL E (nth l k).1 := if_pos g1
        have q2 : put2 E (nth l k) = insL E (nth l k).1 := by unfold put2; rw [q1]; exact if_neg g2
        rw [q1] at HE1 hp1
        rw [q2] at NX
        clear q1 q2
        have P1 := Lib.hid (PU.out E (nth l k).1 u3 wr HO.out (HE.out.reach (by omega)) (by omega) hsz)
        go_wp2_with (go_at_call 77; refine P1.out.mono ?_; rintro e w1 ⟨v1, rfl, hO1, hB1⟩; have d2 := cell_next c2 hB1; go_must (have Z := Lib.hid (NX.out v1 w1 hO1 (HB.out.trans (hB1.mono hsz))); clear hO1 hB1))
        all_goals (
          go_roundw
          case rel => exact Z.out
          case measure => simp [intOf]; omega)
      · have q1 : put1 E (nth l k) = E := if_neg g1
        have q2 : put2 E (nth l k) = insL (E) ((nth l k).2 + 1) := by unfold put2; rw [q1]; exact if_pos g2
        rw [q1] at HE1 hp1
        rw [q2] at NX
        clear q1 q2
        have P1 := Lib.hid (PU.out E ((nth l k).2 + 1) u3 wr HO.out (HE.out.reach (by omega)) (by omega) hsz)
        go_wp2_with (go_at_call 77; refine P1.out.mono ?_; rintro e w1 ⟨v1, rfl, hO1, hB1⟩; have d2 := cell_next c2 hB1; go_must (have Z := Lib.hid (NX.out v1 w1 hO1 (HB.out.trans (hB1.mono hsz))); clear hO1 hB1))
        all_goals (
          go_roundw
          case rel => exact Z.out
          case measure => simp [intOf]; omega)
      · have q1 : put1 E (nth l k) = E := if_neg g1
        have q2 : put2 E (nth l k) = E := by unfold put2; rw [q1]; exact if_neg g2
        rw [q1] at HE1 hp1
        rw [q2] at NX
        clear q1 q2
        go_wp2_with (fail)
        all_goals (
          go_roundw
          case rel => exact NX.out _ _ HO.out HB.out
          case measure => simp [intOf]; omega)
    · obtain rfl : k = l.length := by omega
      rw [List.take_length] at hok
      have HE := Lib.hid hok
      clear hok
      go_wp2
      go_ret
      exact ⟨_, E, rfl, hown, HE.out, hlen, hb⟩

/-- what is asked of a number, by its kind -/
def holdB (kind : Nat) (a b : List R) (c : Int) : Bool := match kind with
  | 1 => !inB a c
  | 2 => inB a c || inB b c
  | 3 => inB a c && inB b c
  | 4 => inB a c && !inB b c
  | _ => inB a c

set_option maxHeartbeats 1600000 in
theorem holds_any (kind : Nat) (hk : kind ≤ 4) (a b : List R) (c : Int) (va vb : Value) (w : World) (ha : RngsAt w va a) (hb : RngsAt w vb b) :
    Calls Tryz.prog 63 #[.int .i64 kind, va, vb, .int .i64 c] w fun e w' => e = .returned (.bool (holdB kind a b c)) ∧ w' = w := by
  have ca := rhas_any a c va w ha
  have cb := rhas_any b c vb w hb
  clear ha hb
  unfold holdB
  obtain ⟨x, hx⟩ : ∃ x, inB a c = x := ⟨_, rfl⟩
  obtain ⟨y, hy⟩ : ∃ y, inB b c = y := ⟨_, rfl⟩
  rw [hx] at ca ⊢
  rw [hy] at cb ⊢
  have CA := Lib.hid ca
  have CB := Lib.hid cb
  clear ca cb hx hy
  rcases (show kind = 0 ∨ kind = 1 ∨ kind = 2 ∨ kind = 3 ∨ kind = 4 by omega) with rfl | rfl | rfl | rfl | rfl
  all_goals (
    cases x <;> cases y
    all_goals (
      go_enter Tryz.func63, Tryz.ntmps63
      go_wp2_with (go_at_call 27; first | ((with_reducible refine CA.out.mono ?_); rintro e w' ⟨rfl, rfl⟩) | ((with_reducible refine CB.out.mono ?_); rintro e w' ⟨rfl, rfl⟩))
      go_ret
      exact ⟨rfl, rfl⟩))

end Go.Proofs.YtjmdlioakkibcaaGreatDoor.Rg

namespace Go.Proofs.YtjmdlioakkibcaaGreatDoor.Rg
open Go.RowKit

theorem add_pair (a : Addr) (i : Nat) : a.add (i * 2 + 1) = ⟨(a.add (i * 2)).block, (a.add (i * 2)).off + 1, none⟩ := by
  unfold Addr.add
  by_cases h : i * 2 = 0
  · simp [h]
  · simp [h]; omega
/-- 'append' of ranges that may be none -/
theorem wpList_app {W : World} {ops : Array Oper} {rest : List Oper} {o : Oper} {a : Act} {Q : Exit → Act → World → Prop} (hgd : o.guard = none) (s x : Operand)
    (ho : o.op = .call { callee := .builtin .append, args := #[s, x], argTypes := #[51, 51] }) (B : Nat) (v : Value) (n : Nat) (xs : List Value) (hs : a.eval s = v) (hown : W.ownsRow B 92 2 v n xs)
    (src : Value) (l : List R) (hx : a.eval x = src) (hsrc : RngsAt W src l) (hM : n + l.length ≤ 1000000) (hB : B ≤ W.heap.size)
    (h : ∀ v' w', w'.ownsRow B 92 2 v' (n + l.length) (xs ++ flatR l) → W.grownBy w' v.ownBlock → wpList Tryz.prog ops Q rest (a.put o.dst v') w') : wpList Tryz.prog ops Q (o :: rest) a W := by
  obtain ⟨i0, hi, hz0, hz1, hz2⟩ := info_parts infoR
  rcases hsrc with ⟨rfl, rfl⟩ | ⟨ad, cap, rfl, _, hc⟩
  · exact wpList_append_own_none hgd s x 51 ho B 92 i0 2 Tryz.underlying51 hi v n xs hs hown hx (h v W (by simpa [flatR] using hown) ⟨rfl, rfl, rfl, Nat.le_refl _, fun _ _ _ => rfl⟩)
  · refine wpList_append_own _ hgd s x 51 ho B 92 i0 (.agg #[.int .i64 0, .int .i64 0]) 2 16 Tryz.underlying51 hi hz0 hz1 hz2 rfl (by decide) v n xs hs hown ad l.length cap (flatR l) hx (flatR_len l) (fun j u hj => ?_) flatR_one (by unfold maxLen; omega) (by omega) hB fun v' w' h1 h2 _ => h v' w' h1 h2
    obtain ⟨i, hil, ⟨rfl, rfl⟩ | ⟨rfl, rfl⟩⟩ := flatR_cells hj
    · exact (hc i hil).1
    · rw [add_pair]; exact (hc i hil).2

end Go.Proofs.YtjmdlioakkibcaaGreatDoor.Rg

namespace Go.Proofs.YtjmdlioakkibcaaGreatDoor.Rg
open Go.RowKit Go.Shelf

theorem inB_const {all l : List R} {E : List Int} (h : EndsOk all E) (hl : ∀ r ∈ l, r ∈ all) {x y c : Int} (hx : x ∈ E) (hy : y ∈ E) (hgap : ∀ z ∈ E, z ≤ x ∨ y ≤ z) (h1 : x ≤ c) (h2 : c < y) : inB l c = inB l x := by
  have bx := h.bnd x hx
  have by' := h.bnd y hy
  unfold inB
  rw [show decide (0 ≤ c) = true by simp; omega, show decide (0 ≤ x) = true by simp; omega, show decide (c ≤ 1114111) = true by simp; omega, show decide (x ≤ 1114111) = true by simp; omega]
  congr 1
  unfold hasB
  rw [Bool.eq_iff_iff]
  simp only [List.any_eq_true, Bool.and_eq_true, decide_eq_true_eq]
  constructor
  · rintro ⟨r, hr, a1, a2⟩
    refine ⟨r, hr, ?_, by omega⟩
    rcases Int.lt_or_le 0 r.1 with h0 | h0
    · rcases hgap r.1 (h.los r (hl r hr) h0 (by omega)) with g | g <;> omega
    · omega
  · rintro ⟨r, hr, a1, a2⟩
    refine ⟨r, hr, by omega, ?_⟩
    rcases Int.lt_or_le r.2 c with h0 | h0
    · rcases hgap (r.2 + 1) (h.his r (hl r hr) (by omega) (by omega)) with g | g <;> omega
    · exact h0
theorem nthI_mem {E : List Int} {i : Nat} (h : i < E.length) : nthI E i ∈ E := by rw [nthI_eq h]; exact List.getElem_mem h
theorem nthI_lt {E : List Int} (h : E.Pairwise (· < ·)) {i j : Nat} (hij : i < j) (hj : j < E.length) : nthI E i < nthI E j := by
  rw [nthI_eq hj, nthI_eq (by omega)]
  exact List.pairwise_iff_getElem.1 h i j (by omega) hj hij
theorem gap_of {E : List Int} (h : E.Pairwise (· < ·)) {i : Nat} (hi : i + 1 < E.length) : ∀ z ∈ E, z ≤ nthI E i ∨ nthI E (i + 1) ≤ z := by
  intro z hz
  obtain ⟨j, hj, rfl⟩ := List.mem_iff_getElem.1 hz
  rw [← nthI_eq hj]
  rcases Nat.lt_trichotomy j i with h1 | h1 | h1
  · exact .inl (Int.le_of_lt (nthI_lt h h1 (by omega)))
  · subst h1; exact .inl (Int.le_refl _)
  · rcases Nat.lt_or_ge (i + 1) j with h2 | h2
    · exact .inr (Int.le_of_lt (nthI_lt h h2 hj))
    · rw [show j = i + 1 by omega]; exact .inr (Int.le_refl _)
theorem hold_const {a b : List R} {E : List Int} (h : EndsOk (a ++ b) E) (kind : Nat) {i : Nat} (hi : i + 1 < E.length) {c : Int} (h1 : nthI E i ≤ c) (h2 : c < nthI E (i + 1)) : holdB kind a b c = holdB kind a b (nthI E i) := by
  have ea := inB_const (l := a) h (fun r hr => List.mem_append_left _ hr) (nthI_mem (i := i) (by omega)) (nthI_mem hi) (gap_of h.sorted hi) h1 h2
  have eb := inB_const (l := b) h (fun r hr => List.mem_append_right _ hr) (nthI_mem (i := i) (by omega)) (nthI_mem hi) (gap_of h.sorted hi) h1 h2
  unfold holdB
  rw [ea, eb]
theorem EndsOk.first {l : List R} {E : List Int} (h : EndsOk l E) : 0 < E.length ∧ nthI E 0 = 0 := by
  obtain ⟨j, hj, he⟩ := List.mem_iff_getElem.1 h.zero
  have h0 : 0 < E.length := by omega
  refine ⟨h0, ?_⟩
  have hb := h.bnd _ (nthI_mem h0)
  rcases Nat.eq_zero_or_pos j with rfl | hp
  · rw [nthI_eq hj, he]
  · have := nthI_lt h.sorted hp hj
    rw [nthI_eq hj, he] at this
    omega
theorem EndsOk.last {l : List R} {E : List Int} (h : EndsOk l E) {i : Nat} (hi : i < E.length) (hl : ¬ i + 1 < E.length) : nthI E i = 1114112 := by
  obtain ⟨j, hj, he⟩ := List.mem_iff_getElem.1 h.top
  have hb := h.bnd _ (nthI_mem hi)
  rcases Nat.lt_or_ge j i with hp | hp
  · have := nthI_lt h.sorted hp hi
    rw [nthI_eq hj, he] at this
    omega
  · rw [show i = j by omega, nthI_eq hj, he]

structure SetR (H : Int → Bool) (E : List Int) (i : Nat) (out : List R) : Prop where
  set : setFrom 0 out
  below : ∀ r ∈ out, r.2 < nthI E i
  has : ∀ c, hasB out c = (decide (0 ≤ c) && decide (c < nthI E i) && H c)
  len : out.length ≤ i
/-- what is known of a step from one end to the next -/
structure Stp (H : Int → Bool) (E : List Int) (i : Nat) : Prop where
  lo : 0 ≤ nthI E i
  lt : nthI E i < nthI E (i + 1)
  hi : nthI E (i + 1) ≤ 1114112
  const : ∀ c, nthI E i ≤ c → c < nthI E (i + 1) → H c = H (nthI E i)
theorem SetR.no {H : Int → Bool} {E : List Int} {i : Nat} {out : List R} (h : SetR H E i out) (s : Stp H E i) (hn : H (nthI E i) = false) : SetR H E (i + 1) out := by
  refine ⟨h.set, fun r hr => by have := h.below r hr; have := s.lt; omega, fun c => ?_, by have := h.len; omega⟩
  have s1 := s.lo
  have s2 := s.lt
  rw [h.has]
  rcases Int.lt_or_le c (nthI E i) with hc | hc
  · rw [show decide (c < nthI E i) = true by simpa using hc, show decide (c < nthI E (i + 1)) = true by simp; omega]
  · rw [show decide (c < nthI E i) = false by simp; omega]
    rcases Int.lt_or_le c (nthI E (i + 1)) with hd | hd
    · rw [s.const c hc hd, hn]; simp
    · rw [show decide (c < nthI E (i + 1)) = false by simp; omega]
theorem step_has {H : Int → Bool} {E : List Int} {i : Nat} (s : Stp H E i) (hy : H (nthI E i) = true) (c : Int) : (decide (0 ≤ c) && decide (c < nthI E (i + 1)) && H c) = ((decide (0 ≤ c) && decide (c < nthI E i) && H c) || (decide (nthI E i ≤ c) && decide (c ≤ nthI E (i + 1) - 1))) := by
  have s1 := s.lo
  have s2 := s.lt
  rcases Int.lt_or_le c (nthI E i) with hc | hc
  · rw [show decide (c < nthI E i) = true by simpa using hc, show decide (c < nthI E (i + 1)) = true by simp; omega, show decide (nthI E i ≤ c) = false by simp; omega]; simp
  · rw [show decide (c < nthI E i) = false by simp; omega, show decide (nthI E i ≤ c) = true by simpa using hc, show decide (0 ≤ c) = true by simp; omega]
    rcases Int.lt_or_le c (nthI E (i + 1)) with hd | hd
    · rw [s.const c hc hd, hy, show decide (c < nthI E (i + 1)) = true by simpa using hd, show decide (c ≤ nthI E (i + 1) - 1) = true by simp; omega]; simp
    · rw [show decide (c < nthI E (i + 1)) = false by simp; omega, show decide (c ≤ nthI E (i + 1) - 1) = false by simp; omega]; simp
theorem SetR.ext {H : Int → Bool} {E : List Int} {i : Nat} {c : List R} {a b : Int} (h : SetR H E i (c ++ [(a, b)])) (s : Stp H E i) (hy : H (nthI E i) = true) (hb : b = nthI E i - 1) : SetR H E (i + 1) (c ++ [(a, nthI E (i + 1) - 1)]) := by
  have s1 := s.lo
  have s2 := s.lt
  have s3 := s.hi
  obtain ⟨p1, p2, p3, p4, p5⟩ := set_parts h.set
  simp only at p3 p4 p5
  refine ⟨set_last h.set (by omega) (by omega), fun r hr => ?_, fun x => ?_, by have := h.len; simp at this ⊢; omega⟩
  · rcases List.mem_append.1 hr with hr | hr
    · have := h.below r (List.mem_append_left _ hr); omega
    · simp at hr; subst hr; simp only; omega
  · rw [step_has s hy, ← h.has x, hasB_snoc, hasB_snoc, Bool.or_assoc]
    congr 1
    rw [Bool.eq_iff_iff]
    simp
    omega
theorem SetR.app {H : Int → Bool} {E : List Int} {i : Nat} {out : List R} (h : SetR H E i out) (s : Stp H E i) (hy : H (nthI E i) = true) (hn : ∀ c a b, out = c ++ [(a, b)] → b ≠ nthI E i - 1) : SetR H E (i + 1) (out ++ [(nthI E i, nthI E (i + 1) - 1)]) := by
  have s1 := s.lo
  have s2 := s.lt
  have s3 := s.hi
  refine ⟨set_snoc h.set (fun r hr => ?_) s1 (by simp only; omega) (by simp only; omega), fun r hr => ?_, fun x => ?_, by have := h.len; simp; omega⟩
  · rcases snoc_cases out with rfl | ⟨c, ⟨a, b⟩, rfl⟩
    · simp at hr
    · have hb := hn c a b rfl
      have hl := h.below (a, b) (by simp)
      simp only at hl ⊢
      obtain ⟨p1, p2, p3, p4, p5⟩ := set_parts h.set
      rcases List.mem_append.1 hr with hr | hr
      · have := p2 r hr; simp only at this p4; omega
      · simp at hr; subst hr; simp only; omega
  · rcases List.mem_append.1 hr with hr | hr
    · have := h.below r hr; omega
    · simp at hr; subst hr; simp only; omega
  · rw [step_has s hy, ← h.has x, hasB_snoc]

end Go.Proofs.YtjmdlioakkibcaaGreatDoor.Rg

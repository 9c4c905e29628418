/- The document's ends; what holds of a number. Append of ranges that may be none. The document's Set. The document's Set, walked. The document's Right. Trees in plain words: which nodes may be, what a tree tells by its parts, when two are the same. Slices of ranges' slices. -/
import Derived.Test.YtbkafoaoddajoaaGreatDoorPk01
import Derived.Laws.AppendOwnNone
import Derived.RangeFuncBox
import Derived.Deep.AppendLies

namespace Go.Proofs.YtbkafoaoddajoaaGreatDoor.Rg
open Go.RowKit Go.Shelf

theorem EndsOk.reach {l : List R} {E : List Int} (h : EndsOk l E) {x : Int} (hx : x ≤ 1114112) : ∃ i, i < E.length ∧ x ≤ nthI E i := by
  obtain ⟨i, hi, he⟩ := List.mem_iff_getElem.1 h.top
  exact ⟨i, hi, by rw [nthI_eq hi, he]; exact hx⟩
theorem put1_len (E : List Int) (r : R) : (put1 E r).length ≤ E.length + 1 := by
  unfold put1; split
  · exact insL_len _ _
  · omega
theorem put2_len (E : List Int) (r : R) : (put2 E r).length ≤ E.length + 2 := by
  have h1 := put1_len E r
  have h2 := insL_len (put1 E r) (r.2 + 1)
  unfold put2; split <;> omega

def EndsOut (l : List R) (w : World) (e : Ending) (w' : World) : Prop := ∃ v E, e = .returned v ∧ ownI w' w.heap.size v E ∧ EndsOk l E ∧ E.length ≤ 2 + 2 * l.length ∧ Below w.heap.size w w'
def EndsRel (l : List R) (w : World) (s i : Value) (wr : World) : Prop :=
  ∃ (k : Nat) (E : List Int), i = .int .i64 k ∧ k ≤ l.length ∧ EndsOk (l.take k) E ∧ E.length ≤ 2 + 2 * k ∧ ownI wr w.heap.size s E ∧ Below w.heap.size w wr

set_option maxRecDepth 100000 in
set_option maxHeartbeats 4000000 in
theorem ends_any (l : List R) (v : Value) (w : World) (hv : RngsAt w v l) (hM : l.length ≤ 100000) :
    Calls Tryz.prog 62 #[v] w fun e w' => EndsOut l w e w' := by
  obtain ⟨ao, cap, rfl, hm, hcs⟩ := hv.shape
  have HC := Lib.hid hcs
  clear hcs hv
  go_enter Tryz.func62, Tryz.ntmps62
  go_wp2
  go_loopw [3, 4] (fun s i wr => EndsRel l w s i wr) (fun _ i _ => l.length - (intOf i).toNat)
  case atStart => exact ⟨0, [0, 1114112], rfl, Nat.zero_le _, EndsOk.start, by simp, World.ownsRow_lit (e := 3) (size := 1) w #[.int .i64 0, .int .i64 1114112] 2 (Nat.le_refl _) (by decide) (by simp), (Below.refl _ _).alloc (Nat.le_refl _) _⟩
  case round =>
    obtain ⟨k, E, rfl, hk, hok, hlen, hown, hb⟩ := hrel
    by_cases hlt : k < l.length
    · obtain ⟨g, rfl, c1, c2⟩ := HC.out k hlt
      replace c1 := cell_next c1 hb
      replace c2 := cell_next c2 hb
      have hst := hok.step (nth l k)
      rw [show l.take k ++ [nth l k] = l.take (k + 1) by rw [List.take_succ_eq_append_getElem hlt, nth_eq hlt]] at hst
      have hpl := put2_len E (nth l k)
      have put : ∀ E' x v' W, ownI W w.heap.size v' E' → (∃ i, i < E'.length ∧ x ≤ nthI E' i) → E'.length ≤ 1000000 → w.heap.size ≤ W.heap.size → Calls Tryz.prog 77 #[v', .int .i64 x] W fun e w' => PutOut w.heap.size E' x W e w' :=
        fun E' x v' W h1 h2 h3 h4 => rput_any w.heap.size E' x v' W h1 h4 h2 h3
      have nxt : ∀ v' W, ownI W w.heap.size v' (put2 E (nth l k)) → Below w.heap.size w W → EndsRel l w v' (.int .i64 ((k : Int) + 1)) W := fun v' W h1 h2 =>
        ⟨k + 1, _, by go_num, by omega, hst, by omega, h1, h2⟩
      have hok1 : EndsOk (l.take k) (put1 E (nth l k)) := by
        unfold put1; split
        · exact hok.ins (by omega) (by omega)
        · exact hok
      have hp1 := put1_len E (nth l k)
      have hsz := hb.size
      have NX := Lib.hid nxt
      have PU := Lib.hid put
      have HO := Lib.hid hown
      have HB := Lib.hid hb
      have HE := Lib.hid hok
      have HE1 := Lib.hid hok1
      clear hst put nxt hown hb hok hok1
      by_cases g1 : 0 < (nth l k).1 ∧ (nth l k).1 < 1114112 <;> by_cases g2 : 0 ≤ (nth l k).2 ∧ (nth l k).2 < 1114111
      · have q1 : put1 E (nth l k) = insL E (nth l k).1 := if_pos g1
        have q2 : put2 E (nth l k) = insL (insL E (nth l k).1) ((nth l k).2 + 1) := by unfold put2; rw [q1]; exact if_pos g2
        rw [q1] at HE1 hp1
        rw [q2] at NX
        clear q1 q2
        have P1 := Lib.hid (PU.out E (nth l k).1 u3 wr HO.out (HE.out.reach (by omega)) (by omega) hsz)
        go_wp2_with (first | (go_at_call 77; (with_reducible refine P1.out.mono ?_); rintro e w1 ⟨v1, rfl, hO1, hB1⟩; have d2 := cell_next c2 hB1; go_must (have hs1 := hB1.size; have P2 := Lib.hid (PU.out _ ((nth l k).2 + 1) v1 w1 hO1 (HE1.out.reach (by omega)) (by omega) (by omega)); have B1 := Lib.hid (HB.out.trans (hB1.mono hsz)); clear hO1 hB1)) | (go_at_call 77; refine P2.out.mono ?_; rintro e w2 ⟨v2, rfl, hO2, hB2⟩; go_must (have Z := Lib.hid (NX.out v2 w2 hO2 (B1.out.trans (hB2.mono (by omega)))); clear hO2 hB2)))
        all_goals (
          go_roundw
          case rel => exact Z.out
          case measure => simp [intOf]; omega)
      · have q1 : put1 E (nth l k) = insL E (nth l k).1 := if_pos g1
        have q2 : put2 E (nth l k) = insL E (nth l k).1 := by unfold put2; rw [q1]; exact if_neg g2
        rw [q1] at HE1 hp1
        rw [q2] at NX
        clear q1 q2
        have P1 := Lib.hid (PU.out E (nth l k).1 u3 wr HO.out (HE.out.reach (by omega)) (by omega) hsz)
        go_wp2_with (go_at_call 77; refine P1.out.mono ?_; rintro e w1 ⟨v1, rfl, hO1, hB1⟩; have d2 := cell_next c2 hB1; go_must (have Z := Lib.hid (NX.out v1 w1 hO1 (HB.out.trans (hB1.mono hsz))); clear hO1 hB1))
        all_goals (
          go_roundw
          case rel => exact Z.out
          case measure => simp [intOf]; omega)
      · have q1 : put1 E (nth l k) = E := if_neg g1
        have q2 : put2 E (nth l k) = insL (E) ((nth l k).2 + 1) := by unfold put2; rw [q1]; exact if_pos g2
        rw [q1] at HE1 hp1
        rw [q2] at NX
        clear q1 q2
        have P1 := Lib.hid (PU.out E ((nth l k).2 + 1) u3 wr HO.out (HE.out.reach (by omega)) (by omega) hsz)
        go_wp2_with (go_at_call 77; refine P1.out.mono ?_; rintro e w1 ⟨v1, rfl, hO1, hB1⟩; have d2 := cell_next c2 hB1; go_must (have Z := Lib.hid (NX.out v1 w1 hO1 (HB.out.trans (hB1.mono hsz))); clear hO1 hB1))
        all_goals (
          go_roundw
          case rel => exact Z.out
          case measure => simp [intOf]; omega)
      · have q1 : put1 E (nth l k) = E := if_neg g1
        have q2 : put2 E (nth l k) = E := by unfold put2; rw [q1]; exact if_neg g2
        rw [q1] at HE1 hp1
        rw [q2] at NX
        clear q1 q2
        go_wp2_with (fail)
        all_goals (
          go_roundw
          case rel => exact NX.out _ _ HO.out HB.out
          case measure => simp [intOf]; omega)
    · obtain rfl : k = l.length := by omega
      rw [List.take_length] at hok
      have HE := Lib.hid hok
      clear hok
      go_wp2
      go_ret
      exact ⟨_, E, rfl, hown, HE.out, hlen, hb⟩

/-- what is asked of a number, by its kind -/
def holdB (kind : Nat) (a b : List R) (c : Int) : Bool := match kind with
  | 1 => !inB a c
  | 2 => inB a c || inB b c
  | 3 => inB a c && inB b c
  | 4 => inB a c && !inB b c
  | _ => inB a c

set_option maxHeartbeats 1600000 in
theorem holds_any (kind : Nat) (hk : kind ≤ 4) (a b : List R) (c : Int) (va vb : Value) (w : World) (ha : RngsAt w va a) (hb : RngsAt w vb b) :
    Calls Tryz.prog 63 #[.int .i64 kind, va, vb, .int .i64 c] w fun e w' => e = .returned (.bool (holdB kind a b c)) ∧ w' = w := by
  have ca := rhas_any a c va w ha
  have cb := rhas_any b c vb w hb
  clear ha hb
  unfold holdB
  obtain ⟨x, hx⟩ : ∃ x, inB a c = x := ⟨_, rfl⟩
  obtain ⟨y, hy⟩ : ∃ y, inB b c = y := ⟨_, rfl⟩
  rw [hx] at ca ⊢
  rw [hy] at cb ⊢
  have CA := Lib.hid ca
  have CB := Lib.hid cb
  clear ca cb hx hy
  rcases (show kind = 0 ∨ kind = 1 ∨ kind = 2 ∨ kind = 3 ∨ kind = 4 by omega) with rfl | rfl | rfl | rfl | rfl
  all_goals (
    cases x <;> cases y
    all_goals (
      go_enter Tryz.func63, Tryz.ntmps63
      go_wp2_with (go_at_call 27; first | ((with_reducible refine CA.out.mono ?_); rintro e w' ⟨rfl, rfl⟩) | ((with_reducible refine CB.out.mono ?_); rintro e w' ⟨rfl, rfl⟩))
      go_ret
      exact ⟨rfl, rfl⟩))

end Go.Proofs.YtbkafoaoddajoaaGreatDoor.Rg

namespace Go.Proofs.YtbkafoaoddajoaaGreatDoor.Rg
open Go.RowKit

theorem add_pair (a : Addr) (i : Nat) : a.add (i * 2 + 1) = ⟨(a.add (i * 2)).block, (a.add (i * 2)).off + 1, none⟩ := by
  unfold Addr.add
  by_cases h : i * 2 = 0
  · simp [h]
  · simp [h]; omega
/-- 'append' of ranges that may be none -/
theorem wpList_app {W : World} {ops : Array Oper} {rest : List Oper} {o : Oper} {a : Act} {Q : Exit → Act → World → Prop} (hgd : o.guard = none) (s x : Operand)
    (ho : o.op = .call { callee := .builtin .append, args := #[s, x], argTypes := #[51, 51] }) (B : Nat) (v : Value) (n : Nat) (xs : List Value) (hs : a.eval s = v) (hown : W.ownsRow B 92 2 v n xs)
    (src : Value) (l : List R) (hx : a.eval x = src) (hsrc : RngsAt W src l) (hM : n + l.length ≤ 1000000) (hB : B ≤ W.heap.size)
    (h : ∀ v' w', w'.ownsRow B 92 2 v' (n + l.length) (xs ++ flatR l) → W.grownBy w' v.ownBlock → wpList Tryz.prog ops Q rest (a.put o.dst v') w') : wpList Tryz.prog ops Q (o :: rest) a W := by
  obtain ⟨i0, hi, hz0, hz1, hz2⟩ := info_parts infoR
  rcases hsrc with ⟨rfl, rfl⟩ | ⟨ad, cap, rfl, _, hc⟩
  · exact wpList_append_own_none hgd s x 51 ho B 92 i0 2 Tryz.underlying51 hi v n xs hs hown hx (h v W (by simpa [flatR] using hown) ⟨rfl, rfl, rfl, Nat.le_refl _, fun _ _ _ => rfl⟩)
  · refine wpList_append_own _ hgd s x 51 ho B 92 i0 (.agg #[.int .i64 0, .int .i64 0]) 2 16 Tryz.underlying51 hi hz0 hz1 hz2 rfl (by decide) v n xs hs hown ad l.length cap (flatR l) hx (flatR_len l) (fun j u hj => ?_) flatR_one (by unfold maxLen; omega) (by omega) hB fun v' w' h1 h2 _ => h v' w' h1 h2
    obtain ⟨i, hil, ⟨rfl, rfl⟩ | ⟨rfl, rfl⟩⟩ := flatR_cells hj
    · exact (hc i hil).1
    · rw [add_pair]; exact (hc i hil).2

end Go.Proofs.YtbkafoaoddajoaaGreatDoor.Rg

namespace Go.Proofs.YtbkafoaoddajoaaGreatDoor.Rg
open Go.RowKit Go.Shelf

theorem inB_const {all l : List R} {E : List Int} (h : EndsOk all E) (hl : ∀ r ∈ l, r ∈ all) {x y c : Int} (hx : x ∈ E) (hy : y ∈ E) (hgap : ∀ z ∈ E, z ≤ x ∨ y ≤ z) (h1 : x ≤ c) (h2 : c < y) : inB l c = inB l x := by
  have bx := h.bnd x hx
  have by' := h.bnd y hy
  unfold inB
  rw [show decide (0 ≤ c) = true by simp; omega, show decide (0 ≤ x) = true by simp; omega, show decide (c ≤ 1114111) = true by simp; omega, show decide (x ≤ 1114111) = true by simp; omega]
  congr 1
  unfold hasB
  rw [Bool.eq_iff_iff]
  simp only [List.any_eq_true, Bool.and_eq_true, decide_eq_true_eq]
  constructor
  · rintro ⟨r, hr, a1, a2⟩
    refine ⟨r, hr, ?_, by omega⟩
    rcases Int.lt_or_le 0 r.1 with h0 | h0
    · rcases hgap r.1 (h.los r (hl r hr) h0 (by omega)) with g | g <;> omega
    · omega
  · rintro ⟨r, hr, a1, a2⟩
    refine ⟨r, hr, by omega, ?_⟩
    rcases Int.lt_or_le r.2 c with h0 | h0
    · rcases hgap (r.2 + 1) (h.his r (hl r hr) (by omega) (by omega)) with g | g <;> omega
    · exact h0
theorem nthI_mem {E : List Int} {i : Nat} (h : i < E.length) : nthI E i ∈ E := by rw [nthI_eq h]; exact List.getElem_mem h
theorem nthI_lt {E : List Int} (h : E.Pairwise (· < ·)) {i j : Nat} (hij : i < j) (hj : j < E.length) : nthI E i < nthI E j := by
  rw [nthI_eq hj, nthI_eq (by omega)]
  exact List.pairwise_iff_getElem.1 h i j (by omega) hj hij
theorem gap_of {E : List Int} (h : E.Pairwise (· < ·)) {i : Nat} (hi : i + 1 < E.length) : ∀ z ∈ E, z ≤ nthI E i ∨ nthI E (i + 1) ≤ z := by
  intro z hz
  obtain ⟨j, hj, rfl⟩ := List.mem_iff_getElem.1 hz
  rw [← nthI_eq hj]
  rcases Nat.lt_trichotomy j i with h1 | h1 | h1
  · exact .inl (Int.le_of_lt (nthI_lt h h1 (by omega)))
  · subst h1; exact .inl (Int.le_refl _)
  · rcases Nat.lt_or_ge (i + 1) j with h2 | h2
    · exact .inr (Int.le_of_lt (nthI_lt h h2 hj))
    · rw [show j = i + 1 by omega]; exact .inr (Int.le_refl _)
theorem hold_const {a b : List R} {E : List Int} (h : EndsOk (a ++ b) E) (kind : Nat) {i : Nat} (hi : i + 1 < E.length) {c : Int} (h1 : nthI E i ≤ c) (h2 : c < nthI E (i + 1)) : holdB kind a b c = holdB kind a b (nthI E i) := by
  have ea := inB_const (l := a) h (fun r hr => List.mem_append_left _ hr) (nthI_mem (i := i) (by omega)) (nthI_mem hi) (gap_of h.sorted hi) h1 h2
  have eb := inB_const (l := b) h (fun r hr => List.mem_append_right _ hr) (nthI_mem (i := i) (by omega)) (nthI_mem hi) (gap_of h.sorted hi) h1 h2
  unfold holdB
  rw [ea, eb]
theorem EndsOk.first {l : List R} {E : List Int} (h : EndsOk l E) : 0 < E.length ∧ nthI E 0 = 0 := by
  obtain ⟨j, hj, he⟩ := List.mem_iff_getElem.1 h.zero
  have h0 : 0 < E.length := by omega
  refine ⟨h0, ?_⟩
  have hb := h.bnd _ (nthI_mem h0)
  rcases Nat.eq_zero_or_pos j with rfl | hp
  · rw [nthI_eq hj, he]
  · have := nthI_lt h.sorted hp hj
    rw [nthI_eq hj, he] at this
    omega
theorem EndsOk.last {l : List R} {E : List Int} (h : EndsOk l E) {i : Nat} (hi : i < E.length) (hl : ¬ i + 1 < E.length) : nthI E i = 1114112 := by
  obtain ⟨j, hj, he⟩ := List.mem_iff_getElem.1 h.top
  have hb := h.bnd _ (nthI_mem hi)
  rcases Nat.lt_or_ge j i with hp | hp
  · have := nthI_lt h.sorted hp hi
    rw [nthI_eq hj, he] at this
    omega
  · rw [show i = j by omega, nthI_eq hj, he]

structure SetR (H : Int → Bool) (E : List Int) (i : Nat) (out : List R) : Prop where
  set : setFrom 0 out
  below : ∀ r ∈ out, r.2 < nthI E i
  has : ∀ c, hasB out c = (decide (0 ≤ c) && decide (c < nthI E i) && H c)
  len : out.length ≤ i
/-- what is known of a step from one end to the next -/
structure Stp (H : Int → Bool) (E : List Int) (i : Nat) : Prop where
  lo : 0 ≤ nthI E i
  lt : nthI E i < nthI E (i + 1)
  hi : nthI E (i + 1) ≤ 1114112
  const : ∀ c, nthI E i ≤ c → c < nthI E (i + 1) → H c = H (nthI E i)
theorem SetR.no {H : Int → Bool} {E : List Int} {i : Nat} {out : List R} (h : SetR H E i out) (s : Stp H E i) (hn : H (nthI E i) = false) : SetR H E (i + 1) out := by
  refine ⟨h.set, fun r hr => by have := h.below r hr; have := s.lt; omega, fun c => ?_, by have := h.len; omega⟩
  have s1 := s.lo
  have s2 := s.lt
  rw [h.has]
  rcases Int.lt_or_le c (nthI E i) with hc | hc
  · rw [show decide (c < nthI E i) = true by simpa using hc, show decide (c < nthI E (i + 1)) = true by simp; omega]
  · rw [show decide (c < nthI E i) = false by simp; omega]
    rcases Int.lt_or_le c (nthI E (i + 1)) with hd | hd
    · rw [s.const c hc hd, hn]; simp
    · rw [show decide (c < nthI E (i + 1)) = false by simp; omega]
theorem step_has {H : Int → Bool} {E : List Int} {i : Nat} (s : Stp H E i) (hy : H (nthI E i) = true) (c : Int) : (decide (0 ≤ c) && decide (c < nthI E (i + 1)) && H c) = ((decide (0 ≤ c) && decide (c < nthI E i) && H c) || (decide (nthI E i ≤ c) && decide (c ≤ nthI E (i + 1) - 1))) := by
  have s1 := s.lo
  have s2 := s.lt
  rcases Int.lt_or_le c (nthI E i) with hc | hc
  · rw [show decide (c < nthI E i) = true by simpa using hc, show decide (c < nthI E (i + 1)) = true by simp; omega, show decide (nthI E i ≤ c) = false by simp; omega]; simp
  · rw [show decide (c < nthI E i) = false by simp; omega, show decide (nthI E i ≤ c) = true by simpa using hc, show decide (0 ≤ c) = true by simp; omega]
    rcases Int.lt_or_le c (nthI E (i + 1)) with hd | hd
    · rw [s.const c hc hd, hy, show decide (c < nthI E (i + 1)) = true by simpa using hd, show decide (c ≤ nthI E (i + 1) - 1) = true by simp; omega]; simp
    · rw [show decide (c < nthI E (i + 1)) = false by simp; omega, show decide (c ≤ nthI E (i + 1) - 1) = false by simp; omega]; simp
theorem SetR.ext {H : Int → Bool} {E : List Int} {i : Nat} {c : List R} {a b : Int} (h : SetR H E i (c ++ [(a, b)])) (s : Stp H E i) (hy : H (nthI E i) = true) (hb : b = nthI E i - 1) : SetR H E (i + 1) (c ++ [(a, nthI E (i + 1) - 1)]) := by
  have s1 := s.lo
  have s2 := s.lt
  have s3 := s.hi
  obtain ⟨p1, p2, p3, p4, p5⟩ := set_parts h.set
  simp only at p3 p4 p5
  refine ⟨set_last h.set (by omega) (by omega), fun r hr => ?_, fun x => ?_, by have := h.len; simp at this ⊢; omega⟩
  · rcases List.mem_append.1 hr with hr | hr
    · have := h.below r (List.mem_append_left _ hr); omega
    · simp at hr; subst hr; simp only; omega
  · rw [step_has s hy, ← h.has x, hasB_snoc, hasB_snoc, Bool.or_assoc]
    congr 1
    rw [Bool.eq_iff_iff]
    simp
    omega
theorem SetR.app {H : Int → Bool} {E : List Int} {i : Nat} {out : List R} (h : SetR H E i out) (s : Stp H E i) (hy : H (nthI E i) = true) (hn : ∀ c a b, out = c ++ [(a, b)] → b ≠ nthI E i - 1) : SetR H E (i + 1) (out ++ [(nthI E i, nthI E (i + 1) - 1)]) := by
  have s1 := s.lo
  have s2 := s.lt
  have s3 := s.hi
  refine ⟨set_snoc h.set (fun r hr => ?_) s1 (by simp only; omega) (by simp only; omega), fun r hr => ?_, fun x => ?_, by have := h.len; simp; omega⟩
  · rcases snoc_cases out with rfl | ⟨c, ⟨a, b⟩, rfl⟩
    · simp at hr
    · have hb := hn c a b rfl
      have hl := h.below (a, b) (by simp)
      simp only at hl ⊢
      obtain ⟨p1, p2, p3, p4, p5⟩ := set_parts h.set
      rcases List.mem_append.1 hr with hr | hr
      · have := p2 r hr; simp only at this p4; omega
      · simp at hr; subst hr; simp only; omega
  · rcases List.mem_append.1 hr with hr | hr
    · have := h.below r hr; omega
    · simp at hr; subst hr; simp only; omega
  · rw [step_has s hy, ← h.has x, hasB_snoc]

end Go.Proofs.YtbkafoaoddajoaaGreatDoor.Rg

namespace Go.Proofs.YtbkafoaoddajoaaGreatDoor.Rg
open Go.RowKit Go.Shelf

def SetRel (kind : Nat) (a b : List R) (E : List Int) (w3 : World) (s i : Value) (wr : World) : Prop :=
  ∃ (k : Nat) (out : List R), i = .int .i64 k ∧ k < E.length ∧ SetR (holdB kind a b) E k out ∧ wr.ownsRow w3.heap.size 92 2 s out.length (flatR out) ∧ (out = [] → s = .slice none 0 0) ∧ Below w3.heap.size w3 wr

set_option maxRecDepth 100000 in
set_option maxHeartbeats 8000000 in
theorem set_any (kind : Nat) (hkd : kind ≤ 4) (a b : List R) (va vb : Value) (w : World) (ha : RngsAt w va a) (hb : RngsAt w vb b) (hM : a.length + b.length ≤ 40000) :
    Calls Tryz.prog 43 #[.int .i64 kind, va, vb] w fun e w' => SetOut w (fun c => isC c && holdB kind a b c) (2 + 2 * (a.length + b.length)) e w' := by
  obtain ⟨i0, hi, hz0, hz1, hz2⟩ := info_parts infoR
  have HA := Lib.hid ha
  have HBB := Lib.hid hb
  have AN := Lib.hid (fun w1 v (h : RngsAt w1 v (a ++ b)) => ends_any (a ++ b) v w1 h (by simp; omega))
  have CO := Lib.hid (fun (E : List Int) (h : EndsOk (a ++ b) E) (i : Nat) (hi : i + 1 < E.length) (c : Int) h1 h2 => hold_const h kind hi (c := c) h1 h2)
  have HD := Lib.hid (fun c W (h : Below w.heap.size w W) => holds_any kind hkd a b c va vb W (ha.next h) (hb.next h))
  clear ha hb
  go_enter Tryz.func43, Tryz.ntmps43
  go_wp2_with (first
    | (at_builtin; first
      | (refine wpList_app rfl _ _ rfl w.heap.size (.slice none 0 0) 0 [] rfl (World.ownsRow_nil _ _ _ _) va a rfl HA.out (by omega) (Nat.le_refl _) ?_; intro v1 w1 hown1 hg1; go_must (have O1 := Lib.hid hown1; have B1 := Lib.hid ((Below.refl w.heap.size w).grown hg1 (Nat.le_refl _) (fun k hk => by simp [Value.ownBlock] at hk)); have s1 := B1.out.size; clear hown1 hg1))
      | (refine wpList_app rfl _ _ rfl w.heap.size v1 (0 + a.length) ([] ++ flatR a) rfl O1.out vb b rfl (HBB.out.next B1.out) (by omega) s1 ?_; intro v2 w2 hown2 hg2; go_must (have B2 := Lib.hid (B1.out.grown hg2 s1 (fun k hk => (O1.out.lt k hk).1)); have R2 := Lib.hid (rngs_of_row (v := v2) (l := a ++ b) (by rw [flatR_append]; simpa using hown2)); have s2 := B2.out.size; clear hown2 hg2)))
    | (go_at_call 62; refine (AN.out w2 v2 R2.out).mono ?_; rintro e w3 ⟨v3, E, rfl, hE, hok, hEl, hb3⟩; go_must (have B3 := Lib.hid (B2.out.trans (hb3.mono s2)); have s3 := B3.out.size; have OK := Lib.hid hok; rw [List.length_append] at hEl; obtain ⟨hE0, hE1⟩ := hok.first; have OE := Lib.hid hE; obtain ⟨ge, ce, rfl, _, _⟩ := hE.form hE0; clear hE hb3 hok)))
  go_loopw [9, 10] (fun s i wr => SetRel kind a b E w3 s i wr) (fun _ i _ => E.length - (intOf i).toNat)
  case atStart =>
    exact ⟨0, [], rfl, hE0, ⟨trivial, (by simp), fun c => by rw [hE1, hasB_nil]; have : (decide (0 ≤ c) && decide (c < 0)) = false := (by simp); rw [this]; rfl, Nat.le_refl _⟩, World.ownsRow_nil _ _ _ _, fun _ => rfl, Below.refl _ _⟩
  case round =>
    obtain ⟨k, out, rfl, hk, hR, hrow, hnil, hbw⟩ := hrel
    have hsz := hbw.size
    by_cases hlt : k + 1 < E.length
    · have OE' := rowI_next OE.out hbw
      have c1 := ownI_cell OE' rfl (i := k) (by omega)
      have c2 := ownI_cell OE' rfl (i := k + 1) hlt
      have hlt1 := nthI_lt OK.out.sorted (Nat.lt_succ_self k) hlt
      have hb1 := OK.out.bnd _ (nthI_mem (i := k) (by omega))
      have hb2 := OK.out.bnd _ (nthI_mem hlt)
      have hge := (ownI_cap OE').2.2.2
      have n1 : (k : Int) + 1 < (E.length : Int) := by omega
      have n2 : (k : Int) < (E.length : Int) := by omega
      have n3 : (0 : Int) ≤ (k : Int) + 1 := by omega
      have z1 : IntKind.i64.wrap ((k : Int) + 1) = (k : Int) + 1 := by rw [IntKind.wrap_i64]; omega
      have z3 : ((k : Int) + 1).toNat = k + 1 := by omega
      obtain ⟨b1, b2⟩ := hb1
      obtain ⟨b3, b4⟩ := hb2
      have z2 : IntKind.i64.wrap (nthI E (k + 1) - 1) = nthI E (k + 1) - 1 := by rw [IntKind.wrap_i64]; omega
      have z4 : IntKind.i64.wrap (nthI E k - 1) = nthI E k - 1 := by rw [IntKind.wrap_i64]; omega
      have st : Stp (holdB kind a b) E k := ⟨b1, hlt1, b4, fun c h1 h2 => CO.out E OK.out k hlt c h1 h2⟩
      have hd := HD.out (nthI E k) wr (B3.out.trans (hbw.mono s3))
      have HROW := Lib.hid hrow
      have HBW := Lib.hid hbw
      have hol := hR.len
      cases hh : holdB kind a b (nthI E k)
      · rw [hh] at hd
        have hn := hR.no st hh
        have HDD := Lib.hid hd
        have HN := Lib.hid hn
        have HNIL := Lib.hid hnil
        clear hd hn st hh hR hrow hbw hnil OE'
        go_wp2_with (go_at_call 63; refine HDD.out.mono ?_; rintro e w' ⟨rfl, hw⟩; subst hw)
        go_roundw
        case rel => exact ⟨k + 1, out, by go_num, hlt, HN.out, HROW.out, HNIL.out, HBW.out⟩
        case measure => simp [intOf]; omega
      · rw [hh] at hd
        have HDD := Lib.hid hd
        rcases snoc_cases out with rfl | ⟨c, ⟨x, y⟩, rfl⟩
        · obtain rfl := hnil rfl
          have hn := hR.app st hh (fun c a b e => by simp at e)
          have app : ∀ W v' w4, w4.ownsRow w3.heap.size 92 2 v' (0 + 1) ([] ++ [.int .i64 (nthI E k), .int .i64 (nthI E (k + 1) - 1)]) → W.grownBy w4 (Value.slice none 0 0).ownBlock → Below wr.heap.size wr W → SetRel kind a b E w3 v' (.int .i64 ((k : Int) + 1)) w4 := by
            intro W v' w4 hown hgr hW
            obtain ⟨r1, r2⟩ := app_row (G := []) (r := (nthI E k, nthI E (k + 1) - 1)) hown hgr (World.ownsRow_nil _ _ _ _) (hbw.trans (hW.mono hsz)) (by have := hW.size; omega)
            exact ⟨k + 1, _, by go_num, hlt, hn, r1, fun e => absurd e (by simp), r2⟩
          have AP := Lib.hid app
          clear hd hn st hh hR hrow hbw hnil OE' app
          go_wp2_with (go_at_call 63; refine HDD.out.mono ?_; rintro e w' ⟨rfl, hw⟩; subst hw)
          go_quiet (fail)
          go_wp2
          go_region_law (refine step_append_lies _ rfl (.tmp 69) (.tmp 81) 51 rfl w3.heap.size 92 i0 (.agg #[.int .i64 0, .int .i64 0]) 2 16 Tryz.underlying51 hi hz0 hz1 hz2 rfl (by decide) (.slice none 0 0) 0 [] rfl (World.ownsRow_nil _ _ _ _) ⟨w'.heap.size, 0, none⟩ 1 1 [.int .i64 (nthI E k), .int .i64 (nthI E (k + 1) - 1)] rfl rfl (two_new _ _ _ _ _ (by simp)) (by simp [Value.oneCell']) (by decide) (by unfold maxLen; omega) (by omega) (by simp; omega) _ rfl ?_; intro g cap w4 hown hgrow _ _; go_must (have ZZ := Lib.hid (AP.out _ _ _ hown hgrow ((below_drewN _ _).alloc (by simp) _)); clear hown hgrow))
          all_goals (
            go_wp2
            go_roundw
            case rel => exact ZZ.out
            case measure => simp [intOf]; omega)
        · have hcl : (c ++ [(x, y)]).length = c.length + 1 := by simp
          rw [hcl] at hrow hol
          obtain ⟨g2, cap2, rfl⟩ := ownsRow_succ hrow
          obtain ⟨d1, d2⟩ := rowR_last hrow
          have fz := hrow.frozenAt
          have hg2 := (hrow.lt g2 rfl).2
          have HROW2 := Lib.hid hrow
          have hyb := hR.below (x, y) (by simp)
          simp only at hyb
          obtain ⟨p1, p2, p3, p4, p5⟩ := set_parts hR.set
          simp only at p3 p4 p5
          by_cases hye : y = nthI E k - 1
          · have hn := hR.ext st hh hye
            have ext : ∀ W, Below wr.heap.size wr W → SetRel kind a b E w3 (.slice (some ⟨g2, 0, none⟩) (c.length + 1) cap2) (.int .i64 ((k : Int) + 1)) ((W.setCell ⟨g2, c.length * 2, none⟩ (.int .i64 x)).setCell ⟨g2, c.length * 2 + 1, none⟩ (.int .i64 (nthI E (k + 1) - 1))) := by
              intro W hW
              obtain ⟨r1, r2⟩ := rowR_store (rowR_next hrow hW) c.length x (nthI E (k + 1) - 1)
              rw [show (c ++ [(x, y)]).set c.length (x, nthI E (k + 1) - 1) = c ++ [(x, nthI E (k + 1) - 1)] by rw [List.set_append_right _ _ (Nat.le_refl _)]; simp] at r1
              exact ⟨k + 1, _, by go_num, hlt, hn, by simpa using r1, fun e => absurd e (by simp), (hbw.trans (hW.mono hsz)).grown r2 (by have := hW.size; omega) (fun k hk => by simp at hk; subst hk; exact (hrow.lt g2 rfl).1)⟩
            have EX := Lib.hid ext
            subst hye
            clear hd hn st hh hR hrow hbw hnil OE' ext p1 p2 hcl
            generalize hm : c.length = m at *
            have HM := Lib.hid hm
            clear hm
            have n5 : ¬ ((m : Int) < 0) := by omega
            have n6 : (0 : Int) ≤ m := by omega
            have n7 : (m : Int) < (m : Int) + 1 := by omega
            go_wp2_with (go_at_call 63; refine HDD.out.mono ?_; rintro e w' ⟨rfl, hw⟩; subst hw)
            go_quiet (fail)
            go_wp2
            go_region
            all_goals (
              go_wp2
              go_roundw
              case rel => exact EX.out _ (below_drewN _ _)
              case measure => simp [intOf]; omega)
          · have hn := hR.app st hh (fun c' a' b' e => by
              have := (List.append_inj' e rfl).2
              simp at this
              rw [← this.2]; exact hye)
            have app : ∀ W v' w4, w4.ownsRow w3.heap.size 92 2 v' (c.length + 1 + 1) (flatR (c ++ [(x, y)]) ++ [.int .i64 (nthI E k), .int .i64 (nthI E (k + 1) - 1)]) → W.grownBy w4 (Value.slice (some ⟨g2, 0, none⟩) (c.length + 1) cap2).ownBlock → Below wr.heap.size wr W → SetRel kind a b E w3 v' (.int .i64 ((k : Int) + 1)) w4 := by
              intro W v' w4 hown hgr hW
              obtain ⟨r1, r2⟩ := app_row (G := c ++ [(x, y)]) (r := (nthI E k, nthI E (k + 1) - 1)) (by simpa using hown) hgr (by simpa using rowR_next hrow hW) (hbw.trans (hW.mono hsz)) (by have := hW.size; omega)
              exact ⟨k + 1, _, by go_num, hlt, hn, r1, fun e => absurd e (by simp), r2⟩
            have AP := Lib.hid app
            have hye2 : (y == nthI E k - 1) = false := by simpa using hye
            clear hd hn st hh hR hrow hbw hnil OE' app p1 p2 hcl
            generalize hm : c.length = m at *
            have HM := Lib.hid hm
            clear hm
            have n5 : ¬ ((m : Int) < 0) := by omega
            have n6 : (0 : Int) ≤ m := by omega
            have n7 : (m : Int) < (m : Int) + 1 := by omega
            go_wp2_with (go_at_call 63; refine HDD.out.mono ?_; rintro e w' ⟨rfl, hw⟩; subst hw)
            go_quiet (fail)
            go_wp2
            go_region_law (refine step_append_lies _ rfl (.tmp 69) (.tmp 81) 51 rfl w3.heap.size 92 i0 (.agg #[.int .i64 0, .int .i64 0]) 2 16 Tryz.underlying51 hi hz0 hz1 hz2 rfl (by decide) (.slice (some ⟨g2, 0, none⟩) (m + 1) cap2) (m + 1) (flatR (c ++ [(x, y)])) rfl (rowR_next HROW2.out ((below_drewN _ _).alloc (by simp) _)) ⟨w'.heap.size, 0, none⟩ 1 1 [.int .i64 (nthI E k), .int .i64 (nthI E (k + 1) - 1)] rfl rfl (two_new _ _ _ _ _ (by simp)) (by simp [Value.oneCell']) (by decide) (by unfold maxLen; omega) (by omega) (by simp; omega) _ rfl ?_; intro g cap w4 hown hgrow _ _; go_must (have ZZ := Lib.hid (AP.out _ _ _ hown hgrow ((below_drewN _ _).alloc (by simp) _)); clear hown hgrow))
            all_goals (
              go_wp2
              go_roundw
              case rel => exact ZZ.out
              case measure => simp [intOf]; omega)
    · have he := OK.out.last hk hlt
      have fin : ∀ c, hasB out c = (isC c && holdB kind a b c) := fun c => by
        rw [hR.has, he, isC]
        congr 2
        rw [Bool.eq_iff_iff]; simp; omega
      have FI := Lib.hid fin
      have ST := Lib.hid hR.set
      have hol := hR.len
      have n9 : ¬ ((k : Int) + 1 < (E.length : Int)) := by omega
      have n8 : (k : Int) ≤ 1000000 := by omega
      clear hR fin
      go_wp2
      go_ret
      exact ⟨_, out, rfl, row_base hrow s3, ST.out, FI.out, by omega, B3.out.trans (hbw.mono s3)⟩

end Go.Proofs.YtbkafoaoddajoaaGreatDoor.Rg

namespace Go.Proofs.YtbkafoaoddajoaaGreatDoor.Rg
open Go.RowKit Go.Shelf

/-- is it a set -/
noncomputable def rightB (l : List R) : Bool := @decide (setFrom 0 l) (Classical.propDecidable _)
theorem rightB_iff (l : List R) : rightB l = true ↔ setFrom 0 l := by unfold rightB; exact @decide_eq_true_iff _ (Classical.propDecidable _)
theorem rightB_of {l : List R} {b : Bool} (h : b = true ↔ setFrom 0 l) : b = rightB l := by
  rw [Bool.eq_iff_iff, rightB_iff]; exact h
set_option maxHeartbeats 800000 in
theorem rright_all (l : List R) (v : Value) (w : World) (hv : RngsAt w v l) (hM : l.length ≤ 40000) : Calls Tryz.prog 21 #[v] w fun e w' => e = .returned (.bool (rightB l)) ∧ Below w.heap.size w w' := by
  have c1 := Lib.hid (set_any 0 (by omega) l [] v (.slice none 0 0) w hv (none_at w) (by simpa using hM))
  have c2 := Lib.hid (fun L v2 w1 (h : RngsAt w1 v2 L) (hb : Below w.heap.size w w1) => rsame_any l L v v2 w1 (hv.next hb) h)
  clear hv
  go_enter Tryz.func21, Tryz.ntmps21
  go_wp2_with (first
    | (go_at_call 43; refine c1.out.mono ?_; rintro e w1 ⟨v1, L, rfl, hr, h1, h2, h3, h4⟩; have C2 := Lib.hid (c2.out L v1 w1 (rngs_of_row hr) h4); have H1 := Lib.hid h1; have H2 := Lib.hid h2; have H4 := Lib.hid h4; clear h1 h2 h4 hr)
    | (go_at_call 42; refine C2.out.mono ?_; rintro e w2 ⟨rfl, hb2⟩))
  go_ret
  refine ⟨retB ?_, H4.out.trans (hb2.mono H4.out.size)⟩
  refine rightB_of ?_
  rw [decide_eq_true_iff]
  constructor
  · rintro rfl; exact H1.out
  · intro h
    refine uniq h H1.out fun c => ?_
    rw [H2.out]
    show hasB l c = (isC c && inB l c)
    rw [inB_isC, inB_set h]

end Go.Proofs.YtbkafoaoddajoaaGreatDoor.Rg

namespace Go.Proofs.YtbkafoaoddajoaaGreatDoor.Ar
open Go.Proofs.YtbkafoaoddajoaaGreatDoor.Rg (R rightB)

structure Nd where
  op : Int
  a : Int
  b : Int
  lo : Int
  hi : Int
  set : Int
  deriving DecidableEq
instance : Inhabited Nd := ⟨⟨0, 0, 0, 0, 0, 0⟩⟩
theorem Nd.eq_iff (m n : Nd) : m = n ↔ m.op = n.op ∧ m.a = n.a ∧ m.b = n.b ∧ m.lo = n.lo ∧ m.hi = n.hi ∧ m.set = n.set := by
  cases m; cases n; simp

/-- the i-th node -/
def nd (l : List Nd) (i : Nat) : Nd := l.getD i default
theorem nd_eq {l : List Nd} {i : Nat} (h : i < l.length) : nd l i = l[i] := by simp [nd, List.getD, h]
theorem nd_left {l k : List Nd} {i : Nat} (h : i < l.length) : nd (l ++ k) i = nd l i := by simp [nd, List.getD, List.getElem?_append_left h]
theorem nd_right {l k : List Nd} {i : Nat} : nd (l ++ k) (l.length + i) = nd k i := by simp [nd, List.getD, List.getElem?_append_right]

structure Tr where
  ns : List Nd
  sets : List (List R)
  root : Int

/-- may something be so many times -/
def timesB (lo hi : Int) : Bool := decide (0 ≤ lo) && decide (lo ≤ 255) && (decide (hi = -1) || decide (lo ≤ hi) && decide (hi ≤ 255))
/-- may a node be, with i nodes ahead of it and s sets -/
def nodeB (n : Nd) (i s : Int) : Bool :=
  if n.op = 1 then decide (n.a = 0 ∧ n.b = 0 ∧ n.lo = 0 ∧ n.hi = 0 ∧ n.set = 0)
  else if n.op = 2 then decide (n.a = 0 ∧ n.b = 0 ∧ n.lo = 0 ∧ n.hi = 0 ∧ 0 ≤ n.set ∧ n.set < s)
  else if n.op = 3 ∨ n.op = 4 then decide (0 ≤ n.a ∧ n.a < i ∧ 0 ≤ n.b ∧ n.b < i ∧ n.lo = 0 ∧ n.hi = 0 ∧ n.set = 0)
  else if n.op = 5 then decide (0 ≤ n.a ∧ n.a < i ∧ n.b = 0 ∧ n.set = 0) && timesB n.lo n.hi
  else false
theorem nodeB_mono {n : Nd} {i s i' s' : Int} (h : nodeB n i s = true) (hi : i ≤ i') (hs : s ≤ s') : nodeB n i' s' = true := by
  unfold nodeB at h ⊢
  split at h
  · rename_i h1; rw [if_pos h1]; exact h
  · rename_i h1; rw [if_neg h1]
    split at h
    · rename_i h2; rw [if_pos h2]; simp at h ⊢; omega
    · rename_i h2; rw [if_neg h2]
      split at h
      · rename_i h3; rw [if_pos h3]; simp at h ⊢; omega
      · rename_i h3; rw [if_neg h3]
        split at h
        · rename_i h4; rw [if_pos h4]; simp at h ⊢; refine ⟨?_, h.2⟩; omega
        · cases h
/-- the kinds of nodes that may be, each with what it says -/
theorem nodeB_ways {n : Nd} {i s : Int} (h : nodeB n i s = true) :
    (n.op = 1 ∧ n.a = 0 ∧ n.b = 0 ∧ n.lo = 0 ∧ n.hi = 0 ∧ n.set = 0) ∨ (n.op = 2 ∧ n.a = 0 ∧ n.b = 0 ∧ n.lo = 0 ∧ n.hi = 0 ∧ 0 ≤ n.set ∧ n.set < s) ∨
    ((n.op = 3 ∨ n.op = 4) ∧ 0 ≤ n.a ∧ n.a < i ∧ 0 ≤ n.b ∧ n.b < i ∧ n.lo = 0 ∧ n.hi = 0 ∧ n.set = 0) ∨ (n.op = 5 ∧ 0 ≤ n.a ∧ n.a < i ∧ n.b = 0 ∧ n.set = 0) := by
  unfold nodeB at h
  split at h
  · rename_i h1; simp at h; exact .inl ⟨h1, h⟩
  · split at h
    · rename_i h2; simp at h; exact .inr (.inl ⟨h2, h⟩)
    · split at h
      · rename_i h3; simp at h; exact .inr (.inr (.inl ⟨h3, h⟩))
      · split at h
        · rename_i h4; simp at h; exact .inr (.inr (.inr ⟨h4, h.1⟩))
        · cases h

/-- are the first k nodes such as may be -/
def allB (l : List Nd) (s : Int) (k : Nat) : Bool := (List.range k).all fun i => nodeB (nd l i) i s
theorem allB_succ (l : List Nd) (s : Int) (k : Nat) : allB l s (k + 1) = (allB l s k && nodeB (nd l k) k s) := by
  simp [allB, List.range_succ, List.all_append]
theorem allB_iff {l : List Nd} {s : Int} {k : Nat} : allB l s k = true ↔ ∀ i, i < k → nodeB (nd l i) i s = true := by simp [allB, List.all_eq_true]
theorem allB_false {l : List Nd} {s : Int} {k n : Nat} (h : allB l s k = false) (hk : k ≤ n) : allB l s n = false := by
  rw [← Bool.not_eq_true, allB_iff] at h ⊢
  exact fun hn => h fun i hi => hn i (by omega)
/-- are the first k sets sets -/
noncomputable def setsB (S : List (List R)) (k : Nat) : Bool := (S.take k).all rightB
theorem setsB_succ {S : List (List R)} {k : Nat} (h : k < S.length) : setsB S (k + 1) = (setsB S k && rightB (S.getD k [])) := by
  unfold setsB
  rw [List.take_succ_eq_append_getElem h, List.all_append]
  simp [List.getD, h]
theorem setsB_false {S : List (List R)} {k n : Nat} (h : setsB S k = false) (hk : k ≤ n) : setsB S n = false := by
  unfold setsB at *
  rw [← Bool.not_eq_true, List.all_eq_true] at h ⊢
  exact fun hn => h fun x hx => hn x ((List.take_subset_take_left S hk) hx)
def rootB (t : Tr) : Bool := decide (0 ≤ t.root) && decide (t.root < t.ns.length)
noncomputable def okB (t : Tr) : Bool := rootB t && setsB t.sets t.sets.length && allB t.ns t.sets.length t.ns.length
noncomputable def checkE (t : Tr) : Int := if 4096 < t.ns.length ∨ 4096 < t.sets.length then 6 else if okB t = true then 0 else 3
structure Ok (t : Tr) : Prop where
  root0 : 0 ≤ t.root
  root1 : t.root < t.ns.length
  sets : ∀ s, s ∈ t.sets → rightB s = true
  node : ∀ i, i < t.ns.length → nodeB (nd t.ns i) i t.sets.length = true
theorem ok_iff (t : Tr) : okB t = true ↔ Ok t := by
  unfold okB rootB setsB
  rw [Bool.and_eq_true, Bool.and_eq_true, allB_iff, List.take_length, List.all_eq_true]
  simp only [Bool.and_eq_true, decide_eq_true_eq]
  exact ⟨fun ⟨⟨⟨h1, h2⟩, h3⟩, h4⟩ => ⟨h1, h2, h3, h4⟩, fun h => ⟨⟨⟨h.root0, h.root1⟩, h.sets⟩, h.node⟩⟩
theorem check_ok {t : Tr} (h : checkE t = 0) : Ok t ∧ t.ns.length ≤ 4096 ∧ t.sets.length ≤ 4096 := by
  unfold checkE at h
  split at h
  · cases h
  · split at h
    · rename_i h1 h2; exact ⟨(ok_iff t).1 h2, by omega, by omega⟩
    · cases h
theorem ok_check {t : Tr} (h : Ok t) (h1 : t.ns.length ≤ 4096) (h2 : t.sets.length ≤ 4096) : checkE t = 0 := by
  unfold checkE; rw [if_neg (by omega), if_pos ((ok_iff t).2 h)]

/-- what a tree tells by what its parts tell -/
def reck (g : List Int → Int) (l : List Nd) (i : Nat) : Int :=
  if (nd l i).op = 3 ∨ (nd l i).op = 4 then (if (nd l i).a.toNat < i ∧ (nd l i).b.toNat < i then g [reck g l (nd l i).a.toNat, reck g l (nd l i).b.toNat] else 0)
  else if (nd l i).op = 5 then (if (nd l i).a.toNat < i then g [reck g l (nd l i).a.toNat] else 0)
  else g []
  termination_by i
  decreasing_by all_goals omega
/-- the numbers of a node's parts -/
def partsL (n : Nd) : List Int := if n.op = 3 ∨ n.op = 4 then [n.a, n.b] else if n.op = 5 then [n.a] else []
theorem reck_parts {g : List Int → Int} {l : List Nd} {i : Nat} {s : Int} (h : nodeB (nd l i) i s = true) : reck g l i = g ((partsL (nd l i)).map fun x => reck g l x.toNat) := by
  rw [reck]
  unfold partsL
  rcases nodeB_ways h with ⟨h1, _⟩ | ⟨h1, _⟩ | ⟨h1, h2⟩ | ⟨h1, h2⟩
  · rw [if_neg (by omega), if_neg (by omega), if_neg (by omega), if_neg (by omega)]; rfl
  · rw [if_neg (by omega), if_neg (by omega), if_neg (by omega), if_neg (by omega)]; rfl
  · rw [if_pos h1, if_pos (by omega), if_pos h1]; rfl
  · rw [if_neg (by omega), if_pos h1, if_pos (by omega), if_neg (by omega), if_pos h1]; rfl
theorem reck_two {g : List Int → Int} {l : List Nd} {i : Nat} (h : (nd l i).op = 3 ∨ (nd l i).op = 4) (ha : (nd l i).a.toNat < i) (hb : (nd l i).b.toNat < i) : reck g l i = g [reck g l (nd l i).a.toNat, reck g l (nd l i).b.toNat] := by
  rw [reck, if_pos h, if_pos ⟨ha, hb⟩]
theorem reck_one {g : List Int → Int} {l : List Nd} {i : Nat} (h : (nd l i).op = 5) (ha : (nd l i).a.toNat < i) : reck g l i = g [reck g l (nd l i).a.toNat] := by
  rw [reck, if_neg (by omega), if_pos h, if_pos ha]
theorem reck_none {g : List Int → Int} {l : List Nd} {i : Nat} (h : ¬ ((nd l i).op = 3 ∨ (nd l i).op = 4)) (h5 : (nd l i).op ≠ 5) : reck g l i = g [] := by
  rw [reck, if_neg h, if_neg h5]

def gD : List Int → Int := fun l => l.foldl max 0 + 1
def gS : List Int → Int := fun l => min (l.foldl (· + ·) 1) 1048576
def gZ : List Int → Int := fun l => l.foldl (· + ·) 1

/-- are two nodes of two trees the same -/
def sameT (p q : Tr) (x y : Nat) : Bool :=
  if (nd p.ns x).op = (nd q.ns y).op ∧ (nd p.ns x).lo = (nd q.ns y).lo ∧ (nd p.ns x).hi = (nd q.ns y).hi then
    if (nd p.ns x).op = 2 then decide (p.sets.getD (nd p.ns x).set.toNat [] = q.sets.getD (nd q.ns y).set.toNat [])
    else if (nd p.ns x).op = 3 ∨ (nd p.ns x).op = 4 then
      (if (nd p.ns x).a.toNat < x ∧ (nd p.ns x).b.toNat < x then sameT p q (nd p.ns x).a.toNat (nd q.ns y).a.toNat && sameT p q (nd p.ns x).b.toNat (nd q.ns y).b.toNat else false)
    else if (nd p.ns x).op = 5 then (if (nd p.ns x).a.toNat < x then sameT p q (nd p.ns x).a.toNat (nd q.ns y).a.toNat else false)
    else true
  else false
  termination_by x
  decreasing_by all_goals omega

/-- a node with its parts' and its set's numbers in place of theirs -/
def mapN (sx rs : List Int) (n : Nd) : Nd :=
  if n.op = 2 then { n with set := sx.getD n.set.toNat 0 }
  else if n.op = 3 ∨ n.op = 4 then { n with a := rs.getD n.a.toNat 0, b := rs.getD n.b.toNat 0 }
  else if n.op = 5 then { n with a := rs.getD n.a.toNat 0 } else n

/-- numbers by which nodes are told apart, and the same nodes' numbers -/
theorem same_by {p q : Tr} (hp : Ok p) (hq : Ok q) {sp sq rp rq : List Int}
    (hs : ∀ i j, i < p.sets.length → j < q.sets.length → (sp.getD i 0 = sq.getD j 0 ↔ p.sets.getD i [] = q.sets.getD j []))
    (hr : ∀ i j, i < p.ns.length → j < q.ns.length → (rp.getD i 0 = rq.getD j 0 ↔ mapN sp rp (nd p.ns i) = mapN sq rq (nd q.ns j))) :
    ∀ x y, x < p.ns.length → y < q.ns.length → (rp.getD x 0 = rq.getD y 0 ↔ sameT p q x y = true) := by
  intro x
  induction x using Nat.strongRecOn with
  | ind x ih =>
    intro y hx hy
    rw [hr x y hx hy, sameT]
    have h1 := nodeB_ways (hp.node x hx)
    have h2 := nodeB_ways (hq.node y hy)
    by_cases hop : (nd p.ns x).op = (nd q.ns y).op
    · rcases h1 with ⟨a1, a2⟩ | ⟨a1, a2⟩ | ⟨a1, a2⟩ | ⟨a1, a2⟩
      · rcases h2 with ⟨b1, b2⟩ | ⟨b1, b2⟩ | ⟨b1, b2⟩ | ⟨b1, b2⟩
        · rw [if_pos (by omega), if_neg (by omega), if_neg (by omega), if_neg (by omega)]
          unfold mapN
          rw [if_neg (by omega), if_neg (by omega), if_neg (by omega), if_neg (by omega), if_neg (by omega), if_neg (by omega), Nd.eq_iff]
          simp only [iff_true]
          omega
        all_goals omega
      · rcases h2 with ⟨b1, b2⟩ | ⟨b1, b2⟩ | ⟨b1, b2⟩ | ⟨b1, b2⟩
        · omega
        · rw [if_pos (by omega), if_pos a1, decide_eq_true_iff, ← hs _ _ (by omega) (by omega)]
          unfold mapN
          rw [if_pos a1, if_pos b1, Nd.eq_iff]
          simp only
          omega
        all_goals omega
      · rcases h2 with ⟨b1, b2⟩ | ⟨b1, b2⟩ | ⟨b1, b2⟩ | ⟨b1, b2⟩
        · omega
        · omega
        · rw [if_pos (by omega), if_neg (by omega), if_pos a1, if_pos (by omega), Bool.and_eq_true, ← ih _ (by omega) _ (by omega) (by omega), ← ih _ (by omega) _ (by omega) (by omega)]
          unfold mapN
          rw [if_neg (by omega), if_pos a1, if_neg (by omega), if_pos b1, Nd.eq_iff]
          simp only
          omega
        · omega
      · rcases h2 with ⟨b1, b2⟩ | ⟨b1, b2⟩ | ⟨b1, b2⟩ | ⟨b1, b2⟩
        · omega
        · omega
        · omega
        · by_cases hlh : (nd p.ns x).lo = (nd q.ns y).lo ∧ (nd p.ns x).hi = (nd q.ns y).hi
          · rw [if_pos ⟨hop, hlh⟩, if_neg (by omega), if_neg (by omega), if_pos a1, if_pos (by omega), ← ih _ (by omega) _ (by omega) (by omega)]
            unfold mapN
            rw [if_neg (by omega), if_neg (by omega), if_pos a1, if_neg (by omega), if_neg (by omega), if_pos b1, Nd.eq_iff]
            simp only
            omega
          · rw [if_neg (fun h => hlh h.2)]
            unfold mapN
            rw [if_neg (by omega), if_neg (by omega), if_pos a1, if_neg (by omega), if_neg (by omega), if_pos b1, Nd.eq_iff]
            simp only
            constructor
            · intro h; exact absurd ⟨h.2.2.2.1, h.2.2.2.2.1⟩ hlh
            · intro h; cases h
    · rw [if_neg (fun h => hop h.1)]
      constructor
      · intro h
        have e := congrArg Nd.op h
        have f : ∀ (sx rs : List Int) (n : Nd), (mapN sx rs n).op = n.op := fun sx rs n => by unfold mapN; split; rfl; split; rfl; split <;> rfl
        rw [f, f] at e
        exact absurd e hop
      · intro h; cases h

/-- a tree's nodes behind others -/
def moveN (n s : Int) (m : Nd) : Nd :=
  if m.op = 2 then { m with set := s + m.set } else if m.op = 3 ∨ m.op = 4 then { m with a := n + m.a, b := n + m.b } else if m.op = 5 then { m with a := n + m.a } else m
def graft (ns : List Nd) (S : List (List R)) (t : Tr) : Tr := ⟨ns ++ t.ns.map (moveN ns.length S.length), S ++ t.sets, ns.length + t.root⟩
theorem moveN_ok {m : Nd} {i s n k : Nat} (h : nodeB m i s = true) : nodeB (moveN n k m) (n + i : Nat) (k + s : Nat) = true := by
  rcases nodeB_ways h with ⟨h1, h2⟩ | ⟨h1, h2⟩ | ⟨h1, h2⟩ | ⟨h1, h2⟩
  · unfold moveN; rw [if_neg (by omega), if_neg (by omega), if_neg (by omega)]
    exact nodeB_mono h (by omega) (by omega)
  · unfold moveN; rw [if_pos h1]
    unfold nodeB; simp only
    rw [if_neg (by omega), if_pos h1]
    simp; omega
  · unfold moveN; rw [if_neg (by omega), if_pos h1]
    unfold nodeB; simp only
    rw [if_neg (by omega), if_neg (by omega), if_pos h1]
    simp; omega
  · unfold moveN; rw [if_neg (by omega), if_neg (by omega), if_pos h1]
    unfold nodeB at h ⊢; simp only
    rw [if_neg (by omega), if_neg (by omega), if_neg (by omega), if_pos h1] at h ⊢
    simp at h ⊢
    refine ⟨?_, h.2⟩
    omega
theorem nd_map {f : Nd → Nd} {l : List Nd} {i : Nat} (h : i < l.length) : nd (l.map f) i = f (nd l i) := by
  rw [nd_eq (by simpa using h), nd_eq h]; simp
theorem graft_node {ns : List Nd} {S : List (List R)} {t : Tr} {i : Nat} (h : i < t.ns.length) : nd (graft ns S t).ns (ns.length + i) = moveN ns.length S.length (nd t.ns i) := by
  unfold graft; simp only
  rw [nd_right, nd_map h]
theorem graft_ok {ns : List Nd} {S : List (List R)} {t : Tr} (ht : Ok t) (hS : ∀ s, s ∈ S → rightB s = true) (hn : ∀ i, i < ns.length → nodeB (nd ns i) i S.length = true) : Ok (graft ns S t) where
  root0 := by have := ht.root0; simp only [graft]; omega
  root1 := by have := ht.root1; simp only [graft, List.length_append, List.length_map]; omega
  sets := fun s hs => by
    simp only [graft, List.mem_append] at hs
    rcases hs with hs | hs
    · exact hS s hs
    · exact ht.sets s hs
  node := fun i hi => by
    have hl : (graft ns S t).sets.length = S.length + t.sets.length := by simp [graft]
    rw [hl]
    rcases Nat.lt_or_ge i ns.length with h | h
    · rw [show nd (graft ns S t).ns i = nd ns i by unfold graft; exact nd_left h]
      exact nodeB_mono (hn i h) (Int.le_refl _) (by omega)
    · obtain ⟨j, rfl⟩ : ∃ j, i = ns.length + j := ⟨i - ns.length, by omega⟩
      have hj : j < t.ns.length := by simp only [graft, List.length_append, List.length_map] at hi; omega
      rw [graft_node hj]
      exact moveN_ok (ht.node j hj)
theorem getD_right {α : Type} {l k : List α} {d : α} {i : Nat} : (l ++ k).getD (l.length + i) d = k.getD i d := by simp [List.getD, List.getElem?_append_right]
/-- what was grafted is the same as it was -/
theorem graft_same {ns : List Nd} {S : List (List R)} {t : Tr} (ht : Ok t) : ∀ x, x < t.ns.length → sameT (graft ns S t) t (ns.length + x) x = true := by
  intro x
  induction x using Nat.strongRecOn with
  | ind x ih =>
    intro hx
    rw [sameT, graft_node hx]
    rcases nodeB_ways (ht.node x hx) with ⟨h1, h2⟩ | ⟨h1, h2⟩ | ⟨h1, h2⟩ | ⟨h1, h2⟩
    · have e : moveN ns.length S.length (nd t.ns x) = nd t.ns x := by unfold moveN; rw [if_neg (by omega), if_neg (by omega), if_neg (by omega)]
      rw [e, if_pos ⟨rfl, rfl, rfl⟩, if_neg (by omega), if_neg (by omega), if_neg (by omega)]
    · have e : moveN ns.length S.length (nd t.ns x) = { nd t.ns x with set := S.length + (nd t.ns x).set } := by unfold moveN; rw [if_pos h1]
      rw [e]
      dsimp only
      rw [if_pos ⟨rfl, rfl, rfl⟩, if_pos h1, decide_eq_true_iff, show ((S.length : Int) + (nd t.ns x).set).toNat = S.length + (nd t.ns x).set.toNat by omega]
      show (S ++ t.sets).getD _ [] = _
      rw [getD_right]
    · have e : moveN ns.length S.length (nd t.ns x) = { nd t.ns x with a := ns.length + (nd t.ns x).a, b := ns.length + (nd t.ns x).b } := by unfold moveN; rw [if_neg (by omega), if_pos h1]
      rw [e]
      dsimp only
      rw [if_pos ⟨rfl, rfl, rfl⟩, if_neg (by omega), if_pos h1, if_pos (by omega), show ((ns.length : Int) + (nd t.ns x).a).toNat = ns.length + (nd t.ns x).a.toNat by omega, show ((ns.length : Int) + (nd t.ns x).b).toNat = ns.length + (nd t.ns x).b.toNat by omega,
        ih _ (by omega) (by omega), ih _ (by omega) (by omega)]; rfl
    · have e : moveN ns.length S.length (nd t.ns x) = { nd t.ns x with a := ns.length + (nd t.ns x).a } := by unfold moveN; rw [if_neg (by omega), if_neg (by omega), if_pos h1]
      rw [e]
      dsimp only
      rw [if_pos ⟨rfl, rfl, rfl⟩, if_neg (by omega), if_neg (by omega), if_pos h1, if_pos (by omega), show ((ns.length : Int) + (nd t.ns x).a).toNat = ns.length + (nd t.ns x).a.toNat by omega,
        ih _ (by omega) (by omega)]

end Go.Proofs.YtbkafoaoddajoaaGreatDoor.Ar

namespace Go.Proofs.YtbkafoaoddajoaaGreatDoor.Rg
open Go Go.RowKit Go.Shelf

theorem infoS : (Tryz.prog.info? 51).map (fun i => (i.zero, i.size, i.bytes)) = some (some (.slice none 0 0), 1, 24) := by kernel_rfl

/-- the i-th row -/
def nthL (L : List (List R)) (i : Nat) : List R := L.getD i []
theorem nthL_eq {L : List (List R)} {i : Nat} (h : i < L.length) : nthL L i = L[i] := by simp [nthL, List.getD, h]
/-- rows of two types are two rows -/
theorem row_apart {w : World} {B B' : Nat} {e e' : TypeId} {s s' n m : Nat} {v x : Value} {xs ys : List Value} (hne : e ≠ e') (h : w.ownsRow B e s v n xs) (k : w.ownsRow B' e' s' x m ys) : x.ownBlock = none ∨ x.ownBlock ≠ v.ownBlock := by
  rcases k.2 with ⟨rfl, _⟩ | ⟨g, cap, cur, rfl, _, hg, _⟩
  · exact .inl rfl
  · right
    intro he
    rcases h.2 with ⟨rfl, _⟩ | ⟨g', cap', cur', rfl, _, hg', _⟩
    · simp [Value.ownBlock] at he
    · simp only [Value.ownBlock, Option.some.injEq] at he
      subst he
      rw [hg] at hg'
      simp only [Option.some.injEq, Obj.cells.injEq] at hg'
      exact hne hg'.2.1.symm

/-- a slice of rows that the call owns, each of which it owns -/
structure RowsOwn (B : Nat) (w : World) (v : Value) (L : List (List R)) (xs : List Value) : Prop where
  own : w.ownsRow B 51 1 v L.length xs
  row : ∀ i, i < L.length → ∃ x, xs[i]? = some x ∧ w.ownsRow B 92 2 x (nthL L i).length (flatR (nthL L i))

theorem own_next {w w' : World} {B : Nat} {e : TypeId} {s n : Nat} {v : Value} {xs : List Value} (h : w.ownsRow B e s v n xs) (hb : Below w.heap.size w w') : w'.ownsRow B e s v n xs := by
  refine h.kept (grown_below hb) ?_
  rcases h.2 with ⟨rfl, _⟩ | ⟨g, cap, cur, rfl, _⟩
  · exact .inl rfl
  · exact .inr (by simp [Value.ownBlock])
theorem RowsOwn.next {B : Nat} {w w' : World} {v : Value} {L : List (List R)} {xs : List Value} (h : RowsOwn B w v L xs) (hb : Below w.heap.size w w') : RowsOwn B w' v L xs :=
  ⟨own_next h.own hb, fun i hi => by
    obtain ⟨x, h1, h2⟩ := h.row i hi
    exact ⟨x, h1, own_next h2 hb⟩⟩
theorem own_set {w : World} {B N : Nat} {e : TypeId} {s n : Nat} {v u : Value} {xs : List Value} (h : w.ownsRow B e s v n xs) (hN : N < B) : (w.setCell ⟨N, 0, none⟩ u).ownsRow B e s v n xs := by
  refine h.kept (grownBy_setCell' w N u) ?_
  rcases h.2 with ⟨rfl, _⟩ | ⟨g, cap, cur, rfl, hb, _⟩
  · exact .inl rfl
  · exact .inr (by simp [Value.ownBlock]; omega)
theorem RowsOwn.set {B N : Nat} {w : World} {v u : Value} {L : List (List R)} {xs : List Value} (h : RowsOwn B w v L xs) (hN : N < B) : RowsOwn B (w.setCell ⟨N, 0, none⟩ u) v L xs :=
  ⟨own_set h.own hN, fun i hi => by
    obtain ⟨x, h1, h2⟩ := h.row i hi
    exact ⟨x, h1, own_set h2 hN⟩⟩
theorem RowsOwn.nil (B : Nat) (w : World) : RowsOwn B w (.slice none 0 0) [] [] := ⟨World.ownsRow_nil _ _ _ _, fun i hi => by simp at hi⟩
/-- a row appended -/
theorem RowsOwn.app {B : Nat} {W w' : World} {v v' x : Value} {L : List (List R)} {l : List R} {xs : List Value} (h : RowsOwn B W v L xs) (hx : W.ownsRow B 92 2 x l.length (flatR l)) (hown : w'.ownsRow B 51 1 v' (L.length + 1) (xs ++ [x])) (hg : W.grownBy w' v.ownBlock) : RowsOwn B w' v' (L ++ [l]) (xs ++ [x]) := by
  have hl : xs.length = L.length := by have := h.own.1; omega
  refine ⟨by simpa using hown, fun i hi => ?_⟩
  rw [List.length_append, List.length_singleton] at hi
  rcases Nat.lt_or_ge i L.length with hlt | hge
  · obtain ⟨y, h1, h2⟩ := h.row i hlt
    refine ⟨y, by rw [List.getElem?_append_left (by omega)]; exact h1, ?_⟩
    rw [show nthL (L ++ [l]) i = nthL L i by simp [nthL, List.getElem?_append_left hlt]]
    exact h2.kept hg (row_apart (by decide) h.own h2)
  · obtain rfl : i = L.length := by omega
    refine ⟨x, by rw [← hl]; simp, ?_⟩
    rw [show nthL (L ++ [l]) L.length = l by simp [nthL]]
    exact hx.kept hg (row_apart (by decide) h.own hx)

/-- a slice that reads as these rows -/
def RowsAt (w : World) (v : Value) (L : List (List R)) : Prop :=
  (v = .slice none 0 0 ∧ L = []) ∨ ∃ (a : Addr) (cap : Nat), v = .slice (some a) L.length cap ∧ L.length ≤ maxLen ∧ ∀ i, i < L.length → ∃ x, w.cell? (a.add i) = some x ∧ RngsAt w x (nthL L i)
theorem RowsAt.next {w w' : World} {v : Value} {L : List (List R)} (h : RowsAt w v L) (hb : Below w.heap.size w w') : RowsAt w' v L := by
  rcases h with h | ⟨a, cap, hv, hm, hc⟩
  · exact .inl h
  · exact .inr ⟨a, cap, hv, hm, fun i hi => by obtain ⟨x, h1, h2⟩ := hc i hi; exact ⟨x, cell_next h1 hb, h2.next hb⟩⟩
theorem RowsAt.shape {w : World} {v : Value} {L : List (List R)} (h : RowsAt w v L) :
    ∃ (ao : Option Addr) (cap : Nat), v = .slice ao L.length cap ∧ L.length ≤ 9223372036854775807 ∧ ∀ i, i < L.length → ∃ g x, ao = some g ∧ w.cell? (g.add i) = some x ∧ RngsAt w x (nthL L i) := by
  rcases h with ⟨rfl, rfl⟩ | ⟨a, cap, hv, hm, hc⟩
  · exact ⟨none, 0, rfl, by simp, fun i hi => by simp at hi⟩
  · exact ⟨some a, cap, hv, by unfold maxLen at hm; omega, fun i hi => by obtain ⟨x, h1, h2⟩ := hc i hi; exact ⟨a, x, rfl, h1, h2⟩⟩
theorem RowsOwn.at' {B : Nat} {w : World} {v : Value} {L : List (List R)} {xs : List Value} (h : RowsOwn B w v L xs) : RowsAt w v L := by
  have hl : xs.length = L.length := by have := h.own.1; omega
  rcases h.own.2 with ⟨rfl, h0⟩ | ⟨g, cap, cur, rfl, _, hg, hn, hm, _, ht⟩
  · exact .inl ⟨rfl, List.eq_nil_of_length_eq_zero h0⟩
  · refine .inr ⟨⟨g, 0, none⟩, cap, rfl, by omega, fun i hi => ?_⟩
    obtain ⟨x, h1, h2⟩ := h.row i hi
    refine ⟨x, ?_, rngs_of_row h2⟩
    rw [add_zero]
    rw [← ht, List.getElem?_take] at h1
    split at h1
    · simp [World.cell?, hg]; simpa using h1
    · cases h1

theorem RowsOwn.base {B B' : Nat} {w : World} {v : Value} {L : List (List R)} {xs : List Value} (h : RowsOwn B w v L xs) (hb : B' ≤ B) : RowsOwn B' w v L xs :=
  ⟨row_base h.own hb, fun i hi => by
    obtain ⟨x, h1, h2⟩ := h.row i hi
    exact ⟨x, h1, row_base h2 hb⟩⟩

end Go.Proofs.YtbkafoaoddajoaaGreatDoor.Rg

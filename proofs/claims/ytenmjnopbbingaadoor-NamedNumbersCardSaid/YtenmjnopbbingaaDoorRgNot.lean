/- Not. -/
import Derived.Test.YtenmjnopbbingaaDoorRgCmp
import Derived.Deep.DeepMust
namespace Go.Proofs.YtenmjnopbbingaaDoor.Rg
open Go.RowKit Go.Shelf

structure Gaps (L G : List R) (k : Nat) (m : Int) : Prop where
  set : setFrom 0 G
  lo : 0 ≤ m
  hi : m ≤ 1114112
  far : ∀ r ∈ G, r.2 + 2 ≤ m
  rest : setFrom m (L.drop k)
  later : ∀ c, m ≤ c → hasB L c = hasB (L.drop k) c
  has : ∀ c, hasB G c = (decide (0 ≤ c) && decide (c < m) && !hasB L c)
  len : G.length ≤ k
theorem Gaps.start {L : List R} (h : setFrom 0 L) : Gaps L [] 0 0 := ⟨trivial, by omega, by omega, (by simp), h, fun c _ => rfl, fun c => by rw [hasB_nil]; have : (decide (0 ≤ c) && decide (c < 0)) = false := (by simp); rw [this]; rfl, Nat.le_refl _⟩
/-- a range of the list, as it comes up -/
theorem Gaps.nextR {L G : List R} {k : Nat} {m : Int} (h : Gaps L G k m) (hk : k < L.length) : m ≤ (nth L k).1 ∧ (nth L k).1 ≤ (nth L k).2 ∧ (nth L k).2 ≤ 1114111 ∧ setFrom ((nth L k).2 + 2) (L.drop (k + 1)) := (set_at hk).1 h.rest
theorem Gaps.no {L G : List R} {k : Nat} {m : Int} (h : Gaps L G k m) (hk : k < L.length) (hm : ¬ m < (nth L k).1) : Gaps L G (k + 1) ((nth L k).2 + 1) := by
  obtain ⟨h1, h2, h3, h4⟩ := h.nextR hk
  refine ⟨h.set, by have := h.lo; omega, by omega, fun r hr => by have := h.far r hr; omega, setFrom_mono (by omega) h4, fun c hc => ?_, fun c => ?_, by have := h.len; omega⟩
  · rw [h.later c (by omega), hasB_drop hk]; simp; omega
  · rw [h.has]
    rcases Int.lt_or_le c m with hc | hc
    · rw [show decide (c < m) = true by simpa using hc, show decide (c < (nth L k).2 + 1) = true by simp; omega]
    · rw [show decide (c < m) = false by simp; omega, h.later c hc, hasB_drop hk]
      rcases Int.lt_or_le (nth L k).2 c with hd | hd
      · rw [show decide (c < (nth L k).2 + 1) = false by simp; omega]; try simp
      · rw [show decide ((nth L k).1 ≤ c) = true by simp; omega, show decide (c ≤ (nth L k).2) = true by simpa using hd]; try simp
theorem Gaps.yes {L G : List R} {k : Nat} {m : Int} (h : Gaps L G k m) (hk : k < L.length) (hm : m < (nth L k).1) : Gaps L (G ++ [(m, (nth L k).1 - 1)]) (k + 1) ((nth L k).2 + 1) := by
  obtain ⟨h1, h2, h3, h4⟩ := h.nextR hk
  have hlo := h.lo
  refine ⟨set_snoc h.set h.far h.lo (by simp only; omega) (by simp only; omega), by omega, by omega, fun r hr => ?_, setFrom_mono (by omega) h4, fun c hc => ?_, fun c => ?_, by have := h.len; simp; omega⟩
  · rcases List.mem_append.1 hr with hr | hr
    · have := h.far r hr; omega
    · simp at hr; subst hr; simp only; omega
  · rw [h.later c (by omega), hasB_drop hk]; simp; omega
  · rw [hasB_snoc, h.has]
    simp only
    rcases Int.lt_or_le c m with hc | hc
    · rw [show decide (c < m) = true by simpa using hc, show decide (c < (nth L k).2 + 1) = true by simp; omega, show decide (m ≤ c) = false by simp; omega]; simp
    · rw [show decide (c < m) = false by simp; omega, h.later c hc, hasB_drop hk, show decide (m ≤ c) = true by simpa using hc, show decide (0 ≤ c) = true by simp; omega]
      rcases Int.lt_or_le (nth L k).2 c with hd | hd
      · rw [show decide (c < (nth L k).2 + 1) = false by simp; omega, show decide (c ≤ (nth L k).1 - 1) = false by simp; omega]; simp
      · rw [show decide (c ≤ (nth L k).2) = true by simpa using hd, hasB_below h4 (by omega), show decide (c < (nth L k).2 + 1) = true by simp; omega]
        rw [Bool.eq_iff_iff]; simp; omega
theorem Gaps.full {L G : List R} {m : Int} (h : Gaps L G L.length m) (hm : ¬ m ≤ 1114111) : ∀ c, hasB G c = (isC c && !hasB L c) := fun c => by
  have := h.hi
  rw [h.has, show m = 1114112 by omega, isC]
  congr 2
  rw [Bool.eq_iff_iff]; simp; omega
theorem Gaps.last {L G : List R} {m : Int} (h : Gaps L G L.length m) (hm : m ≤ 1114111) : setFrom 0 (G ++ [(m, 1114111)]) ∧ ∀ c, hasB (G ++ [(m, 1114111)]) c = (isC c && !hasB L c) := by
  have hlo := h.lo
  refine ⟨set_snoc h.set h.far hlo hm (by simp only; omega), fun c => ?_⟩
  rw [hasB_snoc, h.has, isC]
  simp only
  rcases Int.lt_or_le c m with hc | hc
  · rw [show decide (c < m) = true by simpa using hc, show decide (c ≤ 1114111) = true by simp; omega, show decide (m ≤ c) = false by simp; omega]; simp
  · have := h.later c hc
    rw [List.drop_length, hasB_nil] at this
    rw [this, show decide (c < m) = false by simp; omega, show decide (m ≤ c) = true by simpa using hc, show decide (0 ≤ c) = true by simp; omega]; simp

def NotRel (L : List R) (w1 : World) (s m i : Value) (wr : World) : Prop :=
  ∃ (k : Nat) (f : Int) (G : List R), i = .int .i64 k ∧ m = .int .i64 f ∧ k ≤ L.length ∧ Gaps L G k f ∧ wr.ownsRow w1.heap.size 40 2 s G.length (flatR G) ∧ Below w1.heap.size w1 wr

set_option maxRecDepth 100000 in
set_option maxHeartbeats 4000000 in
theorem not_any (l : List R) (v : Value) (w : World) (hv : RngsAt w v l) (hM : l.length < 1000000) :
    Calls Tryd.prog 22 #[v] w fun e w' => SetOut w (fun c => isC c && !inB l c) (l.length + 1) e w' := by
  obtain ⟨i0, hi, hz0, hz1, hz2⟩ := info_parts infoR
  have c1 := of_any l v w hv hM
  have C1 := Lib.hid c1
  clear c1 hv
  go_enter Tryd.func22, Tryd.ntmps22
  go_wp2_with (go_at_call 21; refine C1.out.mono ?_; rintro e w1 ⟨v', L, rfl, hr, h1, h2, h3, h4⟩; obtain ⟨ao, cap, rfl, hm, hcs⟩ := (rngs_of_row hr).shape; have HC := Lib.hid hcs; have H1 := Lib.hid h1; have H2 := Lib.hid h2; have H4 := Lib.hid h4; have hsz1 := h4.size; clear hcs h1 h2 h4 hr)
  go_loopw [3, 4, 10] (fun s f i wr => NotRel L w1 s f i wr) (fun _ _ i _ => L.length - (intOf i).toNat)
  case atStart => exact ⟨0, 0, [], rfl, rfl, Nat.zero_le _, Gaps.start H1.out, World.ownsRow_nil _ _ _ _, Below.refl _ _⟩
  case round =>
    obtain ⟨k, f, G, rfl, rfl, hk, hg, hrow, hb⟩ := hrel
    have hsz := hb.size
    have HG := Lib.hid hg
    have HR := Lib.hid hrow
    have HB := Lib.hid hb
    have hlo := hg.lo
    have hhi := hg.hi
    have hGl := hg.len
    by_cases hlt : k < L.length
    · obtain ⟨g, rfl, c1, c2⟩ := HC.out k hlt
      replace c1 := cell_next c1 hb
      replace c2 := cell_next c2 hb
      obtain ⟨n1, n2, n3, _⟩ := hg.nextR hlt
      have hgt : g.block < wr.heap.size := by have := cell_lt c1; rwa [add_block] at this
      clear hg hrow hb
      by_cases hmk : f < (nth L k).1
      · have yes := Lib.hid (HG.out.yes hlt hmk)
        go_wp2_with (at_builtin; go_must (refine wpList_append_own _ rfl _ _ 23 rfl w1.heap.size 40 i0 (.agg #[.int .i64 0, .int .i64 0]) 2 16 Tryd.underlying23 hi hz0 hz1 hz2 rfl (by decide) _ G.length (flatR G) rfl (rowR_next HR.out (((Below.refl _ _).alloc (Nat.le_refl _) _).alloc (by simp) _)) ⟨wr.heap.size + 1, 0, none⟩ 1 1 [.int .i64 f, .int .i64 ((nth L k).1 - 1)] rfl rfl (two_new _ _ _ _ _ (by simp)) (by simp [Value.oneCell']) (by unfold maxLen; omega) (by omega) (by simp; omega) ?_); go_must (intro v' w3 hown hgrow _; obtain ⟨z1, z2⟩ := app_row (r := (f, (nth L k).1 - 1)) hown hgrow (rowR_next HR.out (((Below.refl _ _).alloc (Nat.le_refl _) _).alloc (by simp) _)) ((HB.out.alloc hsz _).alloc (by simp; omega) _) (by simp; omega); have e2 : w3.cell? ⟨wr.heap.size, 1, none⟩ = some (.int .i64 (nth L k).2) := (hgrow.cell (by simp) (by intro he; have hx : w1.heap.size ≤ wr.heap.size ∧ wr.heap.size < wr.heap.size := HR.out.lt _ he.symm; omega)); clear hown hgrow; have Z1 := Lib.hid z1; have Z2 := Lib.hid z2; clear z1 z2))
        go_roundw
        case rel => exact ⟨k + 1, (nth L k).2 + 1, G ++ [(f, (nth L k).1 - 1)], by go_num, by go_num, by omega, yes.out, Z1.out, Z2.out⟩
        case measure => simp [intOf]; omega
      · have no := Lib.hid (HG.out.no hlt hmk)
        go_wp2
        go_roundw
        case rel => exact ⟨k + 1, (nth L k).2 + 1, G, by go_num, by go_num, by omega, no.out, rowR_next HR.out ((Below.refl _ _).alloc (Nat.le_refl _) _), HB.out.alloc hsz _⟩
        case measure => simp [intOf]; omega
    · obtain rfl : k = L.length := by omega
      clear hg hrow hb
      by_cases hmk : f ≤ 1114111
      · have las := Lib.hid (HG.out.last hmk)
        go_wp2_with (at_builtin; refine wpList_append_own _ rfl _ _ 23 rfl w1.heap.size 40 i0 (.agg #[.int .i64 0, .int .i64 0]) 2 16 Tryd.underlying23 hi hz0 hz1 hz2 rfl (by decide) _ G.length (flatR G) rfl (rowR_next HR.out ((Below.refl _ _).alloc (Nat.le_refl _) _)) ⟨wr.heap.size, 0, none⟩ 1 1 [.int .i64 f, .int .i64 1114111] rfl rfl (two_new _ _ _ _ _ rfl) (by simp [Value.oneCell']) (by unfold maxLen; omega) (by omega) (by simp; omega) ?_; intro v' w3 hown hgrow _; obtain ⟨z1, z2⟩ := app_row (r := (f, 1114111)) hown hgrow (rowR_next HR.out ((Below.refl _ _).alloc (Nat.le_refl _) _)) (HB.out.alloc hsz _) (by simp; omega); clear hown hgrow; have Z1 := Lib.hid z1; have Z2 := Lib.hid z2; clear z1 z2)
        go_ret
        exact ⟨_, _, rfl, row_base Z1.out hsz1, las.out.1, fun c => by rw [las.out.2, H2.out], by simp; omega, H4.out.trans (Z2.out.mono hsz1)⟩
      · have ful := Lib.hid (HG.out.full hmk)
        have st := Lib.hid HG.out.set
        go_wp2
        go_ret
        exact ⟨_, _, rfl, row_base HR.out hsz1, st.out, fun c => by rw [ful.out, H2.out], by omega, H4.out.trans (HB.out.mono hsz1)⟩

end Go.Proofs.YtenmjnopbbingaaDoor.Rg

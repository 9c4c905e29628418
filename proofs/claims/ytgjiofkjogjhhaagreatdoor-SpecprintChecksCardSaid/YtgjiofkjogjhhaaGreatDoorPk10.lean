/- Of. Not. Both. Less. What a call may turn, told by the blocks. Slices of sets: the values that they hold, and append of one. The walk of the program's HexText. The document's Deep: how deep a text's brackets are. -/
import Derived.Test.YtgjiofkjogjhhaaGreatDoorPk09
import Derived.Test.YtgjiofkjogjhhaaGreatDoorPk01
import Derived.Deep.DeepMust
import Derived.Test.YtgjiofkjogjhhaaGreatDoorPk02
import Derived.Laws.AppendOwnNone
import Derived.OwnWalk
import Derived.Test.YtgjiofkjogjhhaaGreatDoorPk03

namespace Go.Proofs.YtgjiofkjogjhhaaGreatDoor.Rg
open Go.RowKit Go.Shelf

theorem joined_nil (B pb : Nat) (v : Value) (w : World) (hp : Pile B pb v [] w) :
    Calls Tryz.prog 127 #[ifc pb] w fun e w' => e = .returned (.slice none 0 0) ∧ w' = w := by
  have e1 := eLen
  have e2 := fun N => byVal w pb _ hp.cell _ _ N fLen
  obtain ⟨ao, cap, rfl, _, _⟩ := hp.rngs.shape
  simp only [List.length_nil] at *
  clear hp
  go_enter Tryz.func127, Tryz.ntmps127
  go_wp2
  go_loopw [3] (fun s wr => s = .slice none 0 0 ∧ wr = w) (fun _ _ => 0)
  case atStart => exact ⟨rfl, rfl⟩
  case round =>
    obtain ⟨rfl, rfl⟩ := hrel
    go_wp2_with (go_at_fn 173; refine (len_any _ _ _ _).mono ?_; rintro e w2 ⟨rfl, hw⟩; subst hw)
    go_ret
    exact ⟨rfl, rfl⟩

/-- joined, whatever lies on the pile -/
theorem joined_all (B pb : Nat) (v : Value) (xs : List R) (w : World) (hp : Pile B pb v xs w) (hh : Heap (key xs) xs.length) (ho : okL xs) (hM : xs.length ≤ 1000000) :
    Calls Tryz.prog 127 #[ifc pb] w fun e w' => ∃ v l, e = .returned v ∧ w'.ownsRow w.heap.size 75 2 v l.length (flatR l) ∧ setFrom 0 l ∧ (∀ c, hasB l c = hasB xs c) ∧ l.length ≤ xs.length ∧ Below B w w' := by
  rcases Nat.eq_zero_or_pos xs.length with h0 | h0
  · obtain rfl := List.eq_nil_of_length_eq_zero h0
    refine (joined_nil B pb v w hp).mono ?_
    rintro e w' ⟨rfl, rfl⟩
    exact ⟨_, [], rfl, World.ownsRow_nil _ _ _ _, trivial, fun _ => rfl, by simp, Below.refl _ _⟩
  · obtain ⟨g, cap, rfl, _, hg⟩ := hp.row.form h0
    exact joined_any B pb g cap xs w hp hg hh ho hM

/-- a pile that has just been made -/
theorem pile_new (w : World) : Pile w.heap.size w.heap.size (.slice none 0 0) [] (w.alloc (.cells #[.slice none 0 0] 145)) := ⟨Nat.le_refl _, heap_alloc_new _ _, World.ownsRow_nil _ _ _ _⟩

set_option maxHeartbeats 800000 in
theorem of_any (l : List R) (vl : Value) (w : World) (hl : RngsAt w vl l) (hM : l.length < 1000000) :
    Calls Tryz.prog 115 #[vl] w fun e w' => SetOut w (inB l) l.length e w' := by
  have c1 := put_any w.heap.size (.slice none 0 0) vl [] l w (w.alloc (.cells #[.slice none 0 0] 145)) hl ((Below.refl _ _).alloc (Nat.le_refl _) _) (pile_new w) (fun i h0 hi => absurd hi (by simp)) (fun r hr => absurd hr (by simp)) (by simpa using hM)
  have C1 := Lib.hid c1
  have HW := Lib.hid (rfl : w.heap.size = w.heap.size)
  clear c1
  go_enter Tryz.func115, Tryz.ntmps115
  go_wp2_with (first
    | (go_at_call 126; refine C1.out.mono ?_; rintro e w1 ⟨rfl, v', ys, h1, h2, h3, h4, h5, h6⟩; simp only [List.length_nil, Nat.zero_add] at h3; have C2 := Lib.hid (joined_all _ _ v' ys w1 h1 h2 h4 (by omega)); have hsz := h1.lt; have H5 := Lib.hid h5; have H6 := Lib.hid h6; clear h1 h2 h4 h5 h6)
    | (go_at_call 127; refine C2.out.mono ?_; rintro e w2 ⟨v, L, rfl, k1, k2, k3, k4, k5⟩))
  go_ret
  refine ⟨_, L, rfl, row_base k1 (by omega), k2, fun c => ?_, by omega, (((Below.refl _ _).alloc (Nat.le_refl _) _).trans H6.out).trans k5⟩
  rw [k3, H5.out]; simp [hasB]

end Go.Proofs.YtgjiofkjogjhhaaGreatDoor.Rg

namespace Go.Proofs.YtgjiofkjogjhhaaGreatDoor.Rg
open Go.RowKit Go.Shelf

structure Gaps (L G : List R) (k : Nat) (m : Int) : Prop where
  set : setFrom 0 G
  lo : 0 ≤ m
  hi : m ≤ 1114112
  far : ∀ r ∈ G, r.2 + 2 ≤ m
  rest : setFrom m (L.drop k)
  later : ∀ c, m ≤ c → hasB L c = hasB (L.drop k) c
  has : ∀ c, hasB G c = (decide (0 ≤ c) && decide (c < m) && !hasB L c)
  len : G.length ≤ k
theorem Gaps.start {L : List R} (h : setFrom 0 L) : Gaps L [] 0 0 := ⟨trivial, by omega, by omega, (by simp), h, fun c _ => rfl, fun c => by rw [hasB_nil]; have : (decide (0 ≤ c) && decide (c < 0)) = false := (by simp); rw [this]; rfl, Nat.le_refl _⟩
/-- a range of the list, as it comes up -/
theorem Gaps.nextR {L G : List R} {k : Nat} {m : Int} (h : Gaps L G k m) (hk : k < L.length) : m ≤ (nth L k).1 ∧ (nth L k).1 ≤ (nth L k).2 ∧ (nth L k).2 ≤ 1114111 ∧ setFrom ((nth L k).2 + 2) (L.drop (k + 1)) := (set_at hk).1 h.rest
theorem Gaps.no {L G : List R} {k : Nat} {m : Int} (h : Gaps L G k m) (hk : k < L.length) (hm : ¬ m < (nth L k).1) : Gaps L G (k + 1) ((nth L k).2 + 1) := by
  obtain ⟨h1, h2, h3, h4⟩ := h.nextR hk
  refine ⟨h.set, by have := h.lo; omega, by omega, fun r hr => by have := h.far r hr; omega, setFrom_mono (by omega) h4, fun c hc => ?_, fun c => ?_, by have := h.len; omega⟩
  · rw [h.later c (by omega), hasB_drop hk]; simp; omega
  · rw [h.has]
    rcases Int.lt_or_le c m with hc | hc
    · rw [show decide (c < m) = true by simpa using hc, show decide (c < (nth L k).2 + 1) = true by simp; omega]
    · rw [show decide (c < m) = false by simp; omega, h.later c hc, hasB_drop hk]
      rcases Int.lt_or_le (nth L k).2 c with hd | hd
      · rw [show decide (c < (nth L k).2 + 1) = false by simp; omega]; try simp
      · rw [show decide ((nth L k).1 ≤ c) = true by simp; omega, show decide (c ≤ (nth L k).2) = true by simpa using hd]; try simp
theorem Gaps.yes {L G : List R} {k : Nat} {m : Int} (h : Gaps L G k m) (hk : k < L.length) (hm : m < (nth L k).1) : Gaps L (G ++ [(m, (nth L k).1 - 1)]) (k + 1) ((nth L k).2 + 1) := by
  obtain ⟨h1, h2, h3, h4⟩ := h.nextR hk
  have hlo := h.lo
  refine ⟨set_snoc h.set h.far h.lo (by simp only; omega) (by simp only; omega), by omega, by omega, fun r hr => ?_, setFrom_mono (by omega) h4, fun c hc => ?_, fun c => ?_, by have := h.len; simp; omega⟩
  · rcases List.mem_append.1 hr with hr | hr
    · have := h.far r hr; omega
    · simp at hr; subst hr; simp only; omega
  · rw [h.later c (by omega), hasB_drop hk]; simp; omega
  · rw [hasB_snoc, h.has]
    simp only
    rcases Int.lt_or_le c m with hc | hc
    · rw [show decide (c < m) = true by simpa using hc, show decide (c < (nth L k).2 + 1) = true by simp; omega, show decide (m ≤ c) = false by simp; omega]; simp
    · rw [show decide (c < m) = false by simp; omega, h.later c hc, hasB_drop hk, show decide (m ≤ c) = true by simpa using hc, show decide (0 ≤ c) = true by simp; omega]
      rcases Int.lt_or_le (nth L k).2 c with hd | hd
      · rw [show decide (c < (nth L k).2 + 1) = false by simp; omega, show decide (c ≤ (nth L k).1 - 1) = false by simp; omega]; simp
      · rw [show decide (c ≤ (nth L k).2) = true by simpa using hd, hasB_below h4 (by omega), show decide (c < (nth L k).2 + 1) = true by simp; omega]
        rw [Bool.eq_iff_iff]; simp; omega
theorem Gaps.full {L G : List R} {m : Int} (h : Gaps L G L.length m) (hm : ¬ m ≤ 1114111) : ∀ c, hasB G c = (isC c && !hasB L c) := fun c => by
  have := h.hi
  rw [h.has, show m = 1114112 by omega, isC]
  congr 2
  rw [Bool.eq_iff_iff]; simp; omega
theorem Gaps.last {L G : List R} {m : Int} (h : Gaps L G L.length m) (hm : m ≤ 1114111) : setFrom 0 (G ++ [(m, 1114111)]) ∧ ∀ c, hasB (G ++ [(m, 1114111)]) c = (isC c && !hasB L c) := by
  have hlo := h.lo
  refine ⟨set_snoc h.set h.far hlo hm (by simp only; omega), fun c => ?_⟩
  rw [hasB_snoc, h.has, isC]
  simp only
  rcases Int.lt_or_le c m with hc | hc
  · rw [show decide (c < m) = true by simpa using hc, show decide (c ≤ 1114111) = true by simp; omega, show decide (m ≤ c) = false by simp; omega]; simp
  · have := h.later c hc
    rw [List.drop_length, hasB_nil] at this
    rw [this, show decide (c < m) = false by simp; omega, show decide (m ≤ c) = true by simpa using hc, show decide (0 ≤ c) = true by simp; omega]; simp

def NotRel (L : List R) (w1 : World) (s m i : Value) (wr : World) : Prop :=
  ∃ (k : Nat) (f : Int) (G : List R), i = .int .i64 k ∧ m = .int .i64 f ∧ k ≤ L.length ∧ Gaps L G k f ∧ wr.ownsRow w1.heap.size 75 2 s G.length (flatR G) ∧ Below w1.heap.size w1 wr

set_option maxRecDepth 100000 in
set_option maxHeartbeats 4000000 in
theorem not_any (l : List R) (v : Value) (w : World) (hv : RngsAt w v l) (hM : l.length < 1000000) :
    Calls Tryz.prog 144 #[v] w fun e w' => SetOut w (fun c => isC c && !inB l c) (l.length + 1) e w' := by
  obtain ⟨i0, hi, hz0, hz1, hz2⟩ := info_parts infoR
  have c1 := of_any l v w hv hM
  have C1 := Lib.hid c1
  clear c1 hv
  go_enter Tryz.func144, Tryz.ntmps144
  go_wp2_with (go_at_call 115; refine C1.out.mono ?_; rintro e w1 ⟨v', L, rfl, hr, h1, h2, h3, h4⟩; obtain ⟨ao, cap, rfl, hm, hcs⟩ := (rngs_of_row hr).shape; have HC := Lib.hid hcs; have H1 := Lib.hid h1; have H2 := Lib.hid h2; have H4 := Lib.hid h4; have hsz1 := h4.size; clear hcs h1 h2 h4 hr)
  go_loopw [3, 4, 10] (fun s f i wr => NotRel L w1 s f i wr) (fun _ _ i _ => L.length - (intOf i).toNat)
  case atStart => exact ⟨0, 0, [], rfl, rfl, Nat.zero_le _, Gaps.start H1.out, World.ownsRow_nil _ _ _ _, Below.refl _ _⟩
  case round =>
    obtain ⟨k, f, G, rfl, rfl, hk, hg, hrow, hb⟩ := hrel
    have hsz := hb.size
    have HG := Lib.hid hg
    have HR := Lib.hid hrow
    have HB := Lib.hid hb
    have hlo := hg.lo
    have hhi := hg.hi
    have hGl := hg.len
    by_cases hlt : k < L.length
    · obtain ⟨g, rfl, c1, c2⟩ := HC.out k hlt
      replace c1 := cell_next c1 hb
      replace c2 := cell_next c2 hb
      obtain ⟨n1, n2, n3, _⟩ := hg.nextR hlt
      have hgt : g.block < wr.heap.size := by have := cell_lt c1; rwa [add_block] at this
      clear hg hrow hb
      by_cases hmk : f < (nth L k).1
      · have yes := Lib.hid (HG.out.yes hlt hmk)
        go_wp2_with (at_builtin; go_must (refine wpList_append_own _ rfl _ _ 71 rfl w1.heap.size 75 i0 (.agg #[.int .i64 0, .int .i64 0]) 2 16 Tryz.underlying71 hi hz0 hz1 hz2 rfl (by decide) _ G.length (flatR G) rfl (rowR_next HR.out (((Below.refl _ _).alloc (Nat.le_refl _) _).alloc (by simp) _)) ⟨wr.heap.size + 1, 0, none⟩ 1 1 [.int .i64 f, .int .i64 ((nth L k).1 - 1)] rfl rfl (two_new _ _ _ _ _ (by simp)) (by simp [Value.oneCell']) (by unfold maxLen; omega) (by omega) (by simp; omega) ?_); go_must (intro v' w3 hown hgrow _; obtain ⟨z1, z2⟩ := app_row (r := (f, (nth L k).1 - 1)) hown hgrow (rowR_next HR.out (((Below.refl _ _).alloc (Nat.le_refl _) _).alloc (by simp) _)) ((HB.out.alloc hsz _).alloc (by simp; omega) _) (by simp; omega); have e2 : w3.cell? ⟨wr.heap.size, 1, none⟩ = some (.int .i64 (nth L k).2) := (hgrow.cell (by simp) (by intro he; have hx : w1.heap.size ≤ wr.heap.size ∧ wr.heap.size < wr.heap.size := HR.out.lt _ he.symm; omega)); clear hown hgrow; have Z1 := Lib.hid z1; have Z2 := Lib.hid z2; clear z1 z2))
        go_roundw
        case rel => exact ⟨k + 1, (nth L k).2 + 1, G ++ [(f, (nth L k).1 - 1)], by go_num, by go_num, by omega, yes.out, Z1.out, Z2.out⟩
        case measure => simp [intOf]; omega
      · have no := Lib.hid (HG.out.no hlt hmk)
        go_wp2
        go_roundw
        case rel => exact ⟨k + 1, (nth L k).2 + 1, G, by go_num, by go_num, by omega, no.out, rowR_next HR.out ((Below.refl _ _).alloc (Nat.le_refl _) _), HB.out.alloc hsz _⟩
        case measure => simp [intOf]; omega
    · obtain rfl : k = L.length := by omega
      clear hg hrow hb
      by_cases hmk : f ≤ 1114111
      · have las := Lib.hid (HG.out.last hmk)
        go_wp2_with (at_builtin; refine wpList_append_own _ rfl _ _ 71 rfl w1.heap.size 75 i0 (.agg #[.int .i64 0, .int .i64 0]) 2 16 Tryz.underlying71 hi hz0 hz1 hz2 rfl (by decide) _ G.length (flatR G) rfl (rowR_next HR.out ((Below.refl _ _).alloc (Nat.le_refl _) _)) ⟨wr.heap.size, 0, none⟩ 1 1 [.int .i64 f, .int .i64 1114111] rfl rfl (two_new _ _ _ _ _ rfl) (by simp [Value.oneCell']) (by unfold maxLen; omega) (by omega) (by simp; omega) ?_; intro v' w3 hown hgrow _; obtain ⟨z1, z2⟩ := app_row (r := (f, 1114111)) hown hgrow (rowR_next HR.out ((Below.refl _ _).alloc (Nat.le_refl _) _)) (HB.out.alloc hsz _) (by simp; omega); clear hown hgrow; have Z1 := Lib.hid z1; have Z2 := Lib.hid z2; clear z1 z2)
        go_ret
        exact ⟨_, _, rfl, row_base Z1.out hsz1, las.out.1, fun c => by rw [las.out.2, H2.out], by simp; omega, H4.out.trans (Z2.out.mono hsz1)⟩
      · have ful := Lib.hid (HG.out.full hmk)
        have st := Lib.hid HG.out.set
        go_wp2
        go_ret
        exact ⟨_, _, rfl, row_base HR.out hsz1, st.out, fun c => by rw [ful.out, H2.out], by omega, H4.out.trans (HB.out.mono hsz1)⟩

end Go.Proofs.YtgjiofkjogjhhaaGreatDoor.Rg

namespace Go.Proofs.YtgjiofkjogjhhaaGreatDoor.Rg
open Go.RowKit Go.Shelf

/-- a slice that reads as these ranges, and may be cut at its head -/
structure TlAt (w : World) (v : Value) (r : R) (t : List R) (a : Addr) (cap : Nat) : Prop where
  val : v = .slice (some a) (t.length + 1) cap
  cap : t.length + 1 ≤ cap ∧ cap ≤ maxLen
  lo : w.cell? a = some (.int .i64 r.1)
  hi : w.cell? ⟨a.block, a.off + 1, none⟩ = some (.int .i64 r.2)
  rest : ∀ i, i < t.length → w.cell? ((a.add 2).add (i * 2)) = some (.int .i64 (nth t i).1) ∧ w.cell? ⟨((a.add 2).add (i * 2)).block, ((a.add 2).add (i * 2)).off + 1, none⟩ = some (.int .i64 (nth t i).2)
def RdAt (w : World) (v : Value) (l : List R) : Prop := (l = [] ∧ ∃ ao cap, v = .slice ao 0 cap) ∨ ∃ r t a cap, l = r :: t ∧ TlAt w v r t a cap

theorem add_add' (a : Addr) (n m : Nat) : (a.add n).add m = a.add (n + m) := by
  unfold Addr.add
  by_cases hn : n = 0 <;> by_cases hm : m = 0 <;> simp [hn, hm] <;> omega
theorem TlAt.tail {w : World} {v : Value} {r : R} {t : List R} {a : Addr} {cap : Nat} (h : TlAt w v r t a cap) (ao : Option Addr) (ha : t ≠ [] → ao = some (a.add 2)) : RdAt w (.slice ao t.length (cap - 1)) t := by
  cases t with
  | nil => exact .inl ⟨rfl, _, _, rfl⟩
  | cons s u =>
    obtain rfl := ha (by simp)
    obtain ⟨h1, h2⟩ := h.rest 0 (by simp)
    refine .inr ⟨s, u, a.add 2, cap - 1, rfl, rfl, by have := h.cap; simp at this; omega, by simpa [Addr.add, nth] using h1, by simpa [Addr.add, nth] using h2, fun i hi => ?_⟩
    have := h.rest (i + 1) (by simpa using hi)
    rw [show nth (s :: u) (i + 1) = nth u i by simp [nth], add_add', show (i + 1) * 2 = 2 + i * 2 by omega, ← Nat.add_assoc] at this
    rw [add_add', add_add', ← Nat.add_assoc]
    exact this
theorem RdAt.next {w w' : World} {v : Value} {l : List R} (h : RdAt w v l) (hb : Below w.heap.size w w') : RdAt w' v l := by
  rcases h with h | ⟨r, t, a, cap, rfl, h⟩
  · exact .inl h
  · exact .inr ⟨r, t, a, cap, rfl, h.val, h.cap, cell_next h.lo hb, cell_next h.hi hb, fun i hi => ⟨cell_next (h.rest i hi).1 hb, cell_next (h.rest i hi).2 hb⟩⟩
theorem rd_of_row {w : World} {B : Nat} {v : Value} {l : List R} (h : w.ownsRow B 75 2 v l.length (flatR l)) : RdAt w v l := by
  have hr := rngs_of_row h
  cases l with
  | nil =>
    obtain ⟨ao, cap, rfl, _, _⟩ := hr.shape
    exact .inl ⟨rfl, _, _, rfl⟩
  | cons r t =>
    rcases h.2 with ⟨_, h0⟩ | ⟨g, cap, cur, rfl, _, hg, hn, hm, _⟩
    · simp at h0
    · rcases hr with ⟨h0, _⟩ | ⟨a, cap', he, _, hc⟩
      · simp at h0
      · simp only [Value.slice.injEq, Option.some.injEq] at he
        obtain ⟨rfl, _, rfl⟩ := he
        obtain ⟨h1, h2⟩ := hc 0 (by simp)
        refine .inr ⟨r, t, ⟨g, 0, none⟩, cap, rfl, rfl, ⟨by simpa using hn, hm⟩, by simpa [Addr.add, nth] using h1, by simpa [Addr.add, nth] using h2, fun i hi => ?_⟩
        have := hc (i + 1) (by simpa using hi)
        rw [show nth (r :: t) (i + 1) = nth t i by simp [nth]] at this
        rw [add_add', show 2 + i * 2 = (i + 1) * 2 by omega]
        exact this

/-! ### the plain words -/
structure BothR (P : Int → Bool) (a b l : List R) (ea eb : Int) : Prop where
  set : setFrom 0 l
  sa : setFrom ea a
  sb : setFrom eb b
  ea0 : 0 ≤ ea
  eb0 : 0 ≤ eb
  far : ∀ r ∈ l, r.2 + 2 ≤ ea ∨ r.2 + 2 ≤ eb
  has : ∀ c, (hasB l c || (hasB a c && hasB b c)) = P c
/-- what both have in common comes on the list -/
def addB (l : List R) (lo hi : Int) : List R := if lo ≤ hi then l ++ [(lo, hi)] else l
theorem hasB_addB (l : List R) (lo hi c : Int) : hasB (addB l lo hi) c = (hasB l c || (decide (lo ≤ c) && decide (c ≤ hi))) := by
  unfold addB
  split
  · rw [hasB_snoc]
  · rw [show (decide (lo ≤ c) && decide (c ≤ hi)) = false by simp; omega, Bool.or_false]
theorem BothR.left {P : Int → Bool} {r s : R} {a b l : List R} {ea eb lo hi : Int} (h : BothR P (r :: a) (s :: b) l ea eb) (hlt : r.2 < s.2) (hlo : (lo = r.1 ∧ s.1 ≤ r.1) ∨ (lo = s.1 ∧ r.1 ≤ s.1)) (hhi : hi = r.2) :
    BothR P a (s :: b) (addB l lo hi) (r.2 + 2) eb := by
  subst hhi
  obtain ⟨a1, a2, a3, a4⟩ := h.sa
  obtain ⟨b1, b2, b3, b4⟩ := h.sb
  have e1 := h.ea0
  have e2 := h.eb0
  refine ⟨?_, a4, h.sb, by omega, by omega, fun q hq => ?_, fun c => ?_⟩
  · unfold addB
    split
    · exact set_snoc h.set (fun q hq => by have := h.far q hq; simp only; omega) (by simp only; omega) (by simpa using (by assumption)) (by simp only; omega)
    · exact h.set
  · unfold addB at hq
    split at hq
    · rcases List.mem_append.1 hq with hq | hq
      · have := h.far q hq; omega
      · simp at hq; subst hq; simp only; omega
    · have := h.far q hq; omega
  · rw [← h.has c, hasB_addB, hasB_cons, hasB_cons]
    rcases Int.lt_or_le r.2 c with hc | hc
    · rw [show decide (c ≤ r.2) = false by simp; omega]; simp
    · rw [hasB_below a4 (by omega), hasB_below b4 (by omega), show decide (c ≤ r.2) = true by simpa using hc, show decide (c ≤ s.2) = true by simp; omega]
      have e : decide (lo ≤ c) = (decide (r.1 ≤ c) && decide (s.1 ≤ c)) := by rw [Bool.eq_iff_iff]; simp; omega
      rw [e]; simp
theorem BothR.right {P : Int → Bool} {r s : R} {a b l : List R} {ea eb lo hi : Int} (h : BothR P (r :: a) (s :: b) l ea eb) (hlt : ¬ r.2 < s.2) (hlo : (lo = r.1 ∧ s.1 ≤ r.1) ∨ (lo = s.1 ∧ r.1 ≤ s.1)) (hhi : hi = s.2) :
    BothR P (r :: a) b (addB l lo hi) ea (s.2 + 2) := by
  subst hhi
  obtain ⟨a1, a2, a3, a4⟩ := h.sa
  obtain ⟨b1, b2, b3, b4⟩ := h.sb
  have e1 := h.ea0
  have e2 := h.eb0
  refine ⟨?_, h.sa, b4, by omega, by omega, fun q hq => ?_, fun c => ?_⟩
  · unfold addB
    split
    · exact set_snoc h.set (fun q hq => by have := h.far q hq; simp only; omega) (by simp only; omega) (by simpa using (by assumption)) (by simp only; omega)
    · exact h.set
  · unfold addB at hq
    split at hq
    · rcases List.mem_append.1 hq with hq | hq
      · have := h.far q hq; omega
      · simp at hq; subst hq; simp only; omega
    · have := h.far q hq; omega
  · rw [← h.has c, hasB_addB, hasB_cons, hasB_cons]
    rcases Int.lt_or_le s.2 c with hc | hc
    · rw [show decide (c ≤ s.2) = false by simp; omega]; simp
    · rw [hasB_below a4 (by omega), hasB_below b4 (by omega), show decide (c ≤ s.2) = true by simpa using hc, show decide (c ≤ r.2) = true by simp; omega]
      have e : decide (lo ≤ c) = (decide (r.1 ≤ c) && decide (s.1 ≤ c)) := by rw [Bool.eq_iff_iff]; simp; omega
      rw [e]; simp

/-- how long a slice is -/
def lenV : Value → Nat
  | .slice _ n _ => n
  | _ => 0
def BothRel (P : Int → Bool) (n : Nat) (w2 : World) (va vb s : Value) (wr : World) : Prop :=
  ∃ (a b l : List R) (ea eb : Int), BothR P a b l ea eb ∧ RdAt w2 va a ∧ RdAt w2 vb b ∧ wr.ownsRow w2.heap.size 75 2 s l.length (flatR l) ∧ l.length + a.length + b.length ≤ n ∧ Below w2.heap.size w2 wr

set_option maxRecDepth 100000 in
set_option maxHeartbeats 8000000 in
theorem both_any (a b : List R) (va vb : Value) (w : World) (ha : RngsAt w va a) (hb : RngsAt w vb b) (hM : a.length + b.length < 1000000) :
    Calls Tryz.prog 143 #[va, vb] w fun e w' => SetOut w (fun c => inB a c && inB b c) (a.length + b.length) e w' := by
  obtain ⟨i0, hi, hz0, hz1, hz2⟩ := info_parts infoR
  have c1 := Lib.hid (of_any a va w ha (by omega))
  have c2 := Lib.hid (fun w1 (h : Below w.heap.size w w1) => of_any b vb w1 (hb.next h) (by omega))
  clear ha hb
  go_enter Tryz.func143, Tryz.ntmps143
  go_wp2_with (first
    | (go_at_call 115; (with_reducible refine c1.out.mono ?_); rintro e w1 ⟨v1, A, rfl, hr, h1, h2, h3, h4⟩; have HR := Lib.hid (rd_of_row hr); have H1 := Lib.hid h1; have H2 := Lib.hid h2; have H4 := Lib.hid h4; clear h1 h2 h4 hr)
    | (go_at_call 115; refine (c2.out _ H4.out).mono ?_; rintro e w2 ⟨v2, B, rfl, hr, k1, k2, k3, k4⟩; have K0 := Lib.hid (rd_of_row hr); have HR2 := Lib.hid (HR.out.next k4); have K1 := Lib.hid k1; have K2 := Lib.hid k2; have K4 := Lib.hid (H4.out.trans (k4.mono H4.out.size)); clear k1 k2 k4 hr))
  have hsz2 := K4.out.size
  go_loopw [0, 1, 5] (fun x y s wr => BothRel (fun c => hasB A c && hasB B c) (A.length + B.length) w2 x y s wr) (fun x y _ _ => lenV x + lenV y)
  case atStart => exact ⟨A, B, [], 0, 0, ⟨trivial, H1.out, K1.out, by omega, by omega, (by simp), fun c => by simp [hasB]⟩, HR2.out, K0.out, World.ownsRow_nil _ _ _ _, by simp, Below.refl _ _⟩
  case round =>
    obtain ⟨a', b', l, ea, eb, hR, hra, hrb, hrow, hlen, hbw⟩ := hrel
    have fin : (∀ c, (hasB a' c && hasB b' c) = false) → SetOut w (fun c => inB a c && inB b c) (a.length + b.length) (.returned u5) wr := fun h =>
      ⟨u5, l, rfl, row_base hrow hsz2, hR.set, fun c => by have := hR.has c; rw [h c, Bool.or_false] at this; rw [this, H2.out, K2.out], by omega, K4.out.trans (hbw.mono hsz2)⟩
    have FIN := Lib.hid fin
    rcases hra with ⟨rfl, ao, cap, rfl⟩ | ⟨r, ta, aa, capa, rfl, hta⟩
    · clear hrow hbw fin hR hrb
      go_wp2
      go_ret
      exact FIN.out (fun c => rfl)
    · rcases hrb with ⟨rfl, ao, cap, rfl⟩ | ⟨q, tb, ab, capb, rfl, htb⟩
      · obtain rfl := hta.val
        clear hrow hbw fin hR
        go_wp2
        go_ret
        exact FIN.out (fun c => by simp [hasB])
      · obtain rfl := hta.val
        obtain rfl := htb.val
        have c1 := cell_next hta.lo hbw
        have c2 := cell_next hta.hi hbw
        have d1 := cell_next htb.lo hbw
        have d2 := cell_next htb.hi hbw
        have hsz := hbw.size
        have hca := hta.cap
        have hcb := htb.cap
        unfold maxLen at hca hcb
        have HROW := Lib.hid hrow
        have HBW := Lib.hid hbw
        have HRR := Lib.hid hR
        have HTA := Lib.hid hta
        have HTB := Lib.hid htb
        clear hrow hbw fin hR hta htb FIN
        simp only [List.length_cons] at hlen
        rcases Int.lt_or_le r.1 q.1 with g1 | g1 <;> rcases Int.lt_trichotomy r.2 q.2 with g2 | g2 | g2
        · by_cases hle : q.1 ≤ r.2
          · have ST := Lib.hid (HRR.out.left g2 (lo := q.1) (.inr ⟨rfl, by omega⟩) rfl)
            rw [show addB l q.1 r.2 = l ++ [(q.1, r.2)] from if_pos hle] at ST
            go_wp2
            go_quiet (fail)
            go_wp2_with (at_builtin; go_must (refine wpList_append_own _ rfl _ _ 71 rfl w2.heap.size 75 i0 (.agg #[.int .i64 0, .int .i64 0]) 2 16 Tryz.underlying71 hi hz0 hz1 hz2 rfl (by decide) _ l.length (flatR l) rfl (rowR_next HROW.out ((below_drewN _ _).alloc (by simp) _)) ⟨wr.heap.size, 0, none⟩ 1 1 [.int .i64 q.1, .int .i64 r.2] rfl rfl (two_new _ _ _ _ _ (by simp)) (by simp [Value.oneCell']) (by unfold maxLen; omega) (by omega) (by simp; omega) ?_); intro v' w3 hown hgrow _; go_must (obtain ⟨z1, z2⟩ := app_row (r := (q.1, r.2)) hown hgrow (rowR_next HROW.out ((below_drewN _ _).alloc (by simp) _)) ((HBW.out.trans ((below_drewN _ _).mono hsz)).alloc (by simp; omega) _) (by simp; omega); have f1 : w3.cell? ⟨aa.block, aa.off + 1, none⟩ = some (.int .i64 r.2) := cell_next HTA.out.hi z2; have f2 := cell_next HTB.out.hi z2; have Z1 := Lib.hid z1; have Z2 := Lib.hid z2; clear hown hgrow z1 z2))
            go_quiet (fail)
            go_wp2
            go_roundw
            case measure => simp [lenV]; try omega
            case rel =>
              refine ⟨ta, q :: tb, l ++ [(q.1, r.2)], _, _, ST.out, (HTA.out.tail _ (fun h => ?_)), (.inr ⟨q, tb, ab, capb, rfl, HTB.out⟩), rowR_next Z1.out (below_drewN _ _), by simp; omega, Z2.out.trans ((below_drewN _ _).mono Z2.out.size)⟩
              have hne : ta.length ≠ 0 := fun e => h (List.eq_nil_of_length_eq_zero e)
              have hc1 : capa ≠ 1 := by omega
              rw [if_neg hc1]
              rfl
          · have ST := Lib.hid (HRR.out.left g2 (lo := q.1) (.inr ⟨rfl, by omega⟩) rfl)
            rw [show addB l q.1 r.2 = l from if_neg hle] at ST
            go_wp2
            go_quiet (fail)
            go_wp2
            go_quiet (fail)
            go_wp2
            go_roundw
            case measure => simp [lenV]; try omega
            case rel =>
              refine ⟨ta, q :: tb, l, _, _, ST.out, (HTA.out.tail _ (fun h => ?_)), (.inr ⟨q, tb, ab, capb, rfl, HTB.out⟩), rowR_next HROW.out (below_drewN _ _), by simp; omega, HBW.out.trans ((below_drewN _ _).mono HBW.out.size)⟩
              have hne : ta.length ≠ 0 := fun e => h (List.eq_nil_of_length_eq_zero e)
              have hc1 : capa ≠ 1 := by omega
              rw [if_neg hc1]
              rfl
        · rw [g2] at c2
          have HG := Lib.hid g2
          clear g2
          by_cases hle : q.1 ≤ q.2
          · have ST := Lib.hid (HRR.out.right (by have := HG.out; omega) (lo := q.1) (.inr ⟨rfl, by omega⟩) rfl)
            rw [show addB l q.1 q.2 = l ++ [(q.1, q.2)] from if_pos hle] at ST
            go_wp2
            go_quiet (fail)
            go_wp2_with (at_builtin; go_must (refine wpList_append_own _ rfl _ _ 71 rfl w2.heap.size 75 i0 (.agg #[.int .i64 0, .int .i64 0]) 2 16 Tryz.underlying71 hi hz0 hz1 hz2 rfl (by decide) _ l.length (flatR l) rfl (rowR_next HROW.out ((below_drewN _ _).alloc (by simp) _)) ⟨wr.heap.size, 0, none⟩ 1 1 [.int .i64 q.1, .int .i64 q.2] rfl rfl (two_new _ _ _ _ _ (by simp)) (by simp [Value.oneCell']) (by unfold maxLen; omega) (by omega) (by simp; omega) ?_); intro v' w3 hown hgrow _; go_must (obtain ⟨z1, z2⟩ := app_row (r := (q.1, q.2)) hown hgrow (rowR_next HROW.out ((below_drewN _ _).alloc (by simp) _)) ((HBW.out.trans ((below_drewN _ _).mono hsz)).alloc (by simp; omega) _) (by simp; omega); have f1 : w3.cell? ⟨aa.block, aa.off + 1, none⟩ = some (.int .i64 q.2) := (cell_next HTA.out.hi z2).trans (by rw [HG.out]); have f2 := cell_next HTB.out.hi z2; have Z1 := Lib.hid z1; have Z2 := Lib.hid z2; clear hown hgrow z1 z2))
            go_quiet (fail)
            go_wp2
            go_roundw
            case measure => simp [lenV]; try omega
            case rel =>
              refine ⟨r :: ta, tb, l ++ [(q.1, q.2)], _, _, ST.out, (.inr ⟨r, ta, aa, capa, rfl, HTA.out⟩), (HTB.out.tail _ (fun h => ?_)), rowR_next Z1.out (below_drewN _ _), by simp; omega, Z2.out.trans ((below_drewN _ _).mono Z2.out.size)⟩
              have hne : tb.length ≠ 0 := fun e => h (List.eq_nil_of_length_eq_zero e)
              have hc1 : capb ≠ 1 := by omega
              rw [if_neg hc1]
              rfl
          · have ST := Lib.hid (HRR.out.right (by have := HG.out; omega) (lo := q.1) (.inr ⟨rfl, by omega⟩) rfl)
            rw [show addB l q.1 q.2 = l from if_neg hle] at ST
            go_wp2
            go_quiet (fail)
            go_wp2
            go_quiet (fail)
            go_wp2
            go_roundw
            case measure => simp [lenV]; try omega
            case rel =>
              refine ⟨r :: ta, tb, l, _, _, ST.out, (.inr ⟨r, ta, aa, capa, rfl, HTA.out⟩), (HTB.out.tail _ (fun h => ?_)), rowR_next HROW.out (below_drewN _ _), by simp; omega, HBW.out.trans ((below_drewN _ _).mono HBW.out.size)⟩
              have hne : tb.length ≠ 0 := fun e => h (List.eq_nil_of_length_eq_zero e)
              have hc1 : capb ≠ 1 := by omega
              rw [if_neg hc1]
              rfl
        · by_cases hle : q.1 ≤ q.2
          · have ST := Lib.hid (HRR.out.right (by omega) (lo := q.1) (.inr ⟨rfl, by omega⟩) rfl)
            rw [show addB l q.1 q.2 = l ++ [(q.1, q.2)] from if_pos hle] at ST
            go_wp2
            go_quiet (fail)
            go_wp2_with (at_builtin; go_must (refine wpList_append_own _ rfl _ _ 71 rfl w2.heap.size 75 i0 (.agg #[.int .i64 0, .int .i64 0]) 2 16 Tryz.underlying71 hi hz0 hz1 hz2 rfl (by decide) _ l.length (flatR l) rfl (rowR_next HROW.out ((below_drewN _ _).alloc (by simp) _)) ⟨wr.heap.size, 0, none⟩ 1 1 [.int .i64 q.1, .int .i64 q.2] rfl rfl (two_new _ _ _ _ _ (by simp)) (by simp [Value.oneCell']) (by unfold maxLen; omega) (by omega) (by simp; omega) ?_); intro v' w3 hown hgrow _; go_must (obtain ⟨z1, z2⟩ := app_row (r := (q.1, q.2)) hown hgrow (rowR_next HROW.out ((below_drewN _ _).alloc (by simp) _)) ((HBW.out.trans ((below_drewN _ _).mono hsz)).alloc (by simp; omega) _) (by simp; omega); have f1 : w3.cell? ⟨aa.block, aa.off + 1, none⟩ = some (.int .i64 r.2) := cell_next HTA.out.hi z2; have f2 := cell_next HTB.out.hi z2; have Z1 := Lib.hid z1; have Z2 := Lib.hid z2; clear hown hgrow z1 z2))
            go_quiet (fail)
            go_wp2
            go_roundw
            case measure => simp [lenV]; try omega
            case rel =>
              refine ⟨r :: ta, tb, l ++ [(q.1, q.2)], _, _, ST.out, (.inr ⟨r, ta, aa, capa, rfl, HTA.out⟩), (HTB.out.tail _ (fun h => ?_)), rowR_next Z1.out (below_drewN _ _), by simp; omega, Z2.out.trans ((below_drewN _ _).mono Z2.out.size)⟩
              have hne : tb.length ≠ 0 := fun e => h (List.eq_nil_of_length_eq_zero e)
              have hc1 : capb ≠ 1 := by omega
              rw [if_neg hc1]
              rfl
          · have ST := Lib.hid (HRR.out.right (by omega) (lo := q.1) (.inr ⟨rfl, by omega⟩) rfl)
            rw [show addB l q.1 q.2 = l from if_neg hle] at ST
            go_wp2
            go_quiet (fail)
            go_wp2
            go_quiet (fail)
            go_wp2
            go_roundw
            case measure => simp [lenV]; try omega
            case rel =>
              refine ⟨r :: ta, tb, l, _, _, ST.out, (.inr ⟨r, ta, aa, capa, rfl, HTA.out⟩), (HTB.out.tail _ (fun h => ?_)), rowR_next HROW.out (below_drewN _ _), by simp; omega, HBW.out.trans ((below_drewN _ _).mono HBW.out.size)⟩
              have hne : tb.length ≠ 0 := fun e => h (List.eq_nil_of_length_eq_zero e)
              have hc1 : capb ≠ 1 := by omega
              rw [if_neg hc1]
              rfl
        · by_cases hle : r.1 ≤ r.2
          · have ST := Lib.hid (HRR.out.left g2 (lo := r.1) (.inl ⟨rfl, g1⟩) rfl)
            rw [show addB l r.1 r.2 = l ++ [(r.1, r.2)] from if_pos hle] at ST
            go_wp2
            go_quiet (fail)
            go_wp2_with (at_builtin; go_must (refine wpList_append_own _ rfl _ _ 71 rfl w2.heap.size 75 i0 (.agg #[.int .i64 0, .int .i64 0]) 2 16 Tryz.underlying71 hi hz0 hz1 hz2 rfl (by decide) _ l.length (flatR l) rfl (rowR_next HROW.out ((below_drewN _ _).alloc (by simp) _)) ⟨wr.heap.size, 0, none⟩ 1 1 [.int .i64 r.1, .int .i64 r.2] rfl rfl (two_new _ _ _ _ _ (by simp)) (by simp [Value.oneCell']) (by unfold maxLen; omega) (by omega) (by simp; omega) ?_); intro v' w3 hown hgrow _; go_must (obtain ⟨z1, z2⟩ := app_row (r := (r.1, r.2)) hown hgrow (rowR_next HROW.out ((below_drewN _ _).alloc (by simp) _)) ((HBW.out.trans ((below_drewN _ _).mono hsz)).alloc (by simp; omega) _) (by simp; omega); have f1 : w3.cell? ⟨aa.block, aa.off + 1, none⟩ = some (.int .i64 r.2) := cell_next HTA.out.hi z2; have f2 := cell_next HTB.out.hi z2; have Z1 := Lib.hid z1; have Z2 := Lib.hid z2; clear hown hgrow z1 z2))
            go_quiet (fail)
            go_wp2
            go_roundw
            case measure => simp [lenV]; try omega
            case rel =>
              refine ⟨ta, q :: tb, l ++ [(r.1, r.2)], _, _, ST.out, (HTA.out.tail _ (fun h => ?_)), (.inr ⟨q, tb, ab, capb, rfl, HTB.out⟩), rowR_next Z1.out (below_drewN _ _), by simp; omega, Z2.out.trans ((below_drewN _ _).mono Z2.out.size)⟩
              have hne : ta.length ≠ 0 := fun e => h (List.eq_nil_of_length_eq_zero e)
              have hc1 : capa ≠ 1 := by omega
              rw [if_neg hc1]
              rfl
          · have ST := Lib.hid (HRR.out.left g2 (lo := r.1) (.inl ⟨rfl, g1⟩) rfl)
            rw [show addB l r.1 r.2 = l from if_neg hle] at ST
            go_wp2
            go_quiet (fail)
            go_wp2
            go_quiet (fail)
            go_wp2
            go_roundw
            case measure => simp [lenV]; try omega
            case rel =>
              refine ⟨ta, q :: tb, l, _, _, ST.out, (HTA.out.tail _ (fun h => ?_)), (.inr ⟨q, tb, ab, capb, rfl, HTB.out⟩), rowR_next HROW.out (below_drewN _ _), by simp; omega, HBW.out.trans ((below_drewN _ _).mono HBW.out.size)⟩
              have hne : ta.length ≠ 0 := fun e => h (List.eq_nil_of_length_eq_zero e)
              have hc1 : capa ≠ 1 := by omega
              rw [if_neg hc1]
              rfl
        · rw [g2] at c2
          have HG := Lib.hid g2
          clear g2
          by_cases hle : r.1 ≤ q.2
          · have ST := Lib.hid (HRR.out.right (by have := HG.out; omega) (lo := r.1) (.inl ⟨rfl, g1⟩) rfl)
            rw [show addB l r.1 q.2 = l ++ [(r.1, q.2)] from if_pos hle] at ST
            go_wp2
            go_quiet (fail)
            go_wp2_with (at_builtin; go_must (refine wpList_append_own _ rfl _ _ 71 rfl w2.heap.size 75 i0 (.agg #[.int .i64 0, .int .i64 0]) 2 16 Tryz.underlying71 hi hz0 hz1 hz2 rfl (by decide) _ l.length (flatR l) rfl (rowR_next HROW.out ((below_drewN _ _).alloc (by simp) _)) ⟨wr.heap.size, 0, none⟩ 1 1 [.int .i64 r.1, .int .i64 q.2] rfl rfl (two_new _ _ _ _ _ (by simp)) (by simp [Value.oneCell']) (by unfold maxLen; omega) (by omega) (by simp; omega) ?_); intro v' w3 hown hgrow _; go_must (obtain ⟨z1, z2⟩ := app_row (r := (r.1, q.2)) hown hgrow (rowR_next HROW.out ((below_drewN _ _).alloc (by simp) _)) ((HBW.out.trans ((below_drewN _ _).mono hsz)).alloc (by simp; omega) _) (by simp; omega); have f1 : w3.cell? ⟨aa.block, aa.off + 1, none⟩ = some (.int .i64 q.2) := (cell_next HTA.out.hi z2).trans (by rw [HG.out]); have f2 := cell_next HTB.out.hi z2; have Z1 := Lib.hid z1; have Z2 := Lib.hid z2; clear hown hgrow z1 z2))
            go_quiet (fail)
            go_wp2
            go_roundw
            case measure => simp [lenV]; try omega
            case rel =>
              refine ⟨r :: ta, tb, l ++ [(r.1, q.2)], _, _, ST.out, (.inr ⟨r, ta, aa, capa, rfl, HTA.out⟩), (HTB.out.tail _ (fun h => ?_)), rowR_next Z1.out (below_drewN _ _), by simp; omega, Z2.out.trans ((below_drewN _ _).mono Z2.out.size)⟩
              have hne : tb.length ≠ 0 := fun e => h (List.eq_nil_of_length_eq_zero e)
              have hc1 : capb ≠ 1 := by omega
              rw [if_neg hc1]
              rfl
          · have ST := Lib.hid (HRR.out.right (by have := HG.out; omega) (lo := r.1) (.inl ⟨rfl, g1⟩) rfl)
            rw [show addB l r.1 q.2 = l from if_neg hle] at ST
            go_wp2
            go_quiet (fail)
            go_wp2
            go_quiet (fail)
            go_wp2
            go_roundw
            case measure => simp [lenV]; try omega
            case rel =>
              refine ⟨r :: ta, tb, l, _, _, ST.out, (.inr ⟨r, ta, aa, capa, rfl, HTA.out⟩), (HTB.out.tail _ (fun h => ?_)), rowR_next HROW.out (below_drewN _ _), by simp; omega, HBW.out.trans ((below_drewN _ _).mono HBW.out.size)⟩
              have hne : tb.length ≠ 0 := fun e => h (List.eq_nil_of_length_eq_zero e)
              have hc1 : capb ≠ 1 := by omega
              rw [if_neg hc1]
              rfl
        · by_cases hle : r.1 ≤ q.2
          · have ST := Lib.hid (HRR.out.right (by omega) (lo := r.1) (.inl ⟨rfl, g1⟩) rfl)
            rw [show addB l r.1 q.2 = l ++ [(r.1, q.2)] from if_pos hle] at ST
            go_wp2
            go_quiet (fail)
            go_wp2_with (at_builtin; go_must (refine wpList_append_own _ rfl _ _ 71 rfl w2.heap.size 75 i0 (.agg #[.int .i64 0, .int .i64 0]) 2 16 Tryz.underlying71 hi hz0 hz1 hz2 rfl (by decide) _ l.length (flatR l) rfl (rowR_next HROW.out ((below_drewN _ _).alloc (by simp) _)) ⟨wr.heap.size, 0, none⟩ 1 1 [.int .i64 r.1, .int .i64 q.2] rfl rfl (two_new _ _ _ _ _ (by simp)) (by simp [Value.oneCell']) (by unfold maxLen; omega) (by omega) (by simp; omega) ?_); intro v' w3 hown hgrow _; go_must (obtain ⟨z1, z2⟩ := app_row (r := (r.1, q.2)) hown hgrow (rowR_next HROW.out ((below_drewN _ _).alloc (by simp) _)) ((HBW.out.trans ((below_drewN _ _).mono hsz)).alloc (by simp; omega) _) (by simp; omega); have f1 : w3.cell? ⟨aa.block, aa.off + 1, none⟩ = some (.int .i64 r.2) := cell_next HTA.out.hi z2; have f2 := cell_next HTB.out.hi z2; have Z1 := Lib.hid z1; have Z2 := Lib.hid z2; clear hown hgrow z1 z2))
            go_quiet (fail)
            go_wp2
            go_roundw
            case measure => simp [lenV]; try omega
            case rel =>
              refine ⟨r :: ta, tb, l ++ [(r.1, q.2)], _, _, ST.out, (.inr ⟨r, ta, aa, capa, rfl, HTA.out⟩), (HTB.out.tail _ (fun h => ?_)), rowR_next Z1.out (below_drewN _ _), by simp; omega, Z2.out.trans ((below_drewN _ _).mono Z2.out.size)⟩
              have hne : tb.length ≠ 0 := fun e => h (List.eq_nil_of_length_eq_zero e)
              have hc1 : capb ≠ 1 := by omega
              rw [if_neg hc1]
              rfl
          · have ST := Lib.hid (HRR.out.right (by omega) (lo := r.1) (.inl ⟨rfl, g1⟩) rfl)
            rw [show addB l r.1 q.2 = l from if_neg hle] at ST
            go_wp2
            go_quiet (fail)
            go_wp2
            go_quiet (fail)
            go_wp2
            go_roundw
            case measure => simp [lenV]; try omega
            case rel =>
              refine ⟨r :: ta, tb, l, _, _, ST.out, (.inr ⟨r, ta, aa, capa, rfl, HTA.out⟩), (HTB.out.tail _ (fun h => ?_)), rowR_next HROW.out (below_drewN _ _), by simp; omega, HBW.out.trans ((below_drewN _ _).mono HBW.out.size)⟩
              have hne : tb.length ≠ 0 := fun e => h (List.eq_nil_of_length_eq_zero e)
              have hc1 : capb ≠ 1 := by omega
              rw [if_neg hc1]
              rfl

end Go.Proofs.YtgjiofkjogjhhaaGreatDoor.Rg

namespace Go.Proofs.YtgjiofkjogjhhaaGreatDoor.Rg
open Go.RowKit Go.Shelf

set_option maxHeartbeats 800000 in
theorem less_any2 (a b : List R) (va vb : Value) (w : World) (ha : RngsAt w va a) (hb : RngsAt w vb b) (hM : a.length + (b.length + 1) < 1000000) :
    Calls Tryz.prog 137 #[va, vb] w fun e w' => SetOut w (fun c => inB a c && (isC c && !inB b c)) (a.length + (b.length + 1)) e w' := by
  have c1 := Lib.hid (not_any b vb w hb (by omega))
  have c2 := Lib.hid (fun w1 N v2 (h : Below w.heap.size w w1) (hN : RngsAt w1 v2 N) (hl : N.length ≤ b.length + 1) => both_any a N va v2 w1 (ha.next h) hN (by omega))
  clear ha hb
  go_enter Tryz.func137, Tryz.ntmps137
  go_wp2_with (first
    | (go_at_call 144; refine c1.out.mono ?_; rintro e w1 ⟨v1, N, rfl, hr, h1, h2, h3, h4⟩; have C2 := Lib.hid (c2.out w1 N v1 h4 (rngs_of_row hr) h3); have H1 := Lib.hid h1; have H2 := Lib.hid h2; have H4 := Lib.hid h4; clear h1 h2 h4 hr)
    | (go_at_call 143; refine C2.out.mono ?_; rintro e w2 ⟨v2, L, rfl, hr, k1, k2, k3, k4⟩))
  go_ret
  exact ⟨v2, L, rfl, row_base hr H4.out.size, k1, fun c => by rw [k2, inB_set H1.out, H2.out], by omega, H4.out.trans (k4.mono H4.out.size)⟩

end Go.Proofs.YtgjiofkjogjhhaaGreatDoor.Rg

namespace Go.Proofs.YtgjiofkjogjhhaaGreatDoor.Ar
open Go Go.RowKit Go.Shelf
open Go.Proofs.YtgjiofkjogjhhaaGreatDoor.Rg (R RngsAt RowsAt nthL add_zero own_next RowsOwn flatR)

/-- nothing that stood has changed but blocks of which U speaks -/
structure Kx (U : Nat → Prop) (w w' : World) : Prop where
  os : w'.os = w.os
  tape : w'.tape = w.tape
  output : w'.output = w.output
  size : w.heap.size ≤ w'.heap.size
  block : ∀ k, k < w.heap.size → ¬ U k → w'.heap[k]? = w.heap[k]?
theorem Kx.refl (U : Nat → Prop) (w : World) : Kx U w w := ⟨rfl, rfl, rfl, Nat.le_refl _, fun _ _ _ => rfl⟩
theorem Kx.trans {U : Nat → Prop} {a b c : World} (h : Kx U a b) (k : Kx U b c) : Kx U a c :=
  ⟨k.os.trans h.os, k.tape.trans h.tape, k.output.trans h.output, Nat.le_trans h.size k.size, fun i hi h1 => (k.block i (Nat.lt_of_lt_of_le hi h.size) h1).trans (h.block i hi h1)⟩
theorem Kx.mono {U V : Nat → Prop} {w w' : World} (h : Kx U w w') (hU : ∀ k, k < w.heap.size → U k → V k) : Kx V w w' :=
  ⟨h.os, h.tape, h.output, h.size, fun k hk hn => h.block k hk fun hu => hn (hU k hk hu)⟩
theorem Kx.of_below {U : Nat → Prop} {w w' : World} (h : Below w.heap.size w w') : Kx U w w' := ⟨h.os, h.tape, h.output, h.size, fun k hk _ => h.block k hk⟩
theorem Kx.below {U : Nat → Prop} {B : Nat} {w w' : World} (h : Kx U w w') (hB : B ≤ w.heap.size) (hU : ∀ k, k < B → ¬ U k) : Below B w w' := ⟨h.os, h.tape, h.output, h.size, fun k hk => h.block k (by omega) (hU k hk)⟩
theorem Kx.of_grown {U : Nat → Prop} {o : Option Nat} {w w' : World} (h : w.grownBy w' o) (hU : ∀ k, o = some k → U k) : Kx U w w' := ⟨h.os, h.tape, h.output, h.size, fun k hk hn => h.block k hk fun e => hn (hU k e.symm)⟩
theorem Kx.of_set {U : Nat → Prop} {w : World} {b o : Nat} {u : Value} (hU : U b) : Kx U w (w.setCell ⟨b, o, none⟩ u) :=
  ⟨rfl, rfl, rfl, by simp [World.setCell], fun k _ hn => Below.heap_setCell _ _ _ _ (fun e => hn (e ▸ hU))⟩
theorem Kx.own {U : Nat → Prop} {w w' : World} {B : Nat} {e : TypeId} {s n : Nat} {v : Value} {xs : List Value} (h : Kx U w w') (ho : w.ownsRow B e s v n xs) (hU : ∀ k, v.ownBlock = some k → ¬ U k) : w'.ownsRow B e s v n xs := by
  refine ⟨ho.1, ?_⟩
  rcases ho.2 with hn | ⟨g, cap, cur, rfl, hb, hg, rest⟩
  · exact .inl hn
  · refine .inr ⟨g, cap, cur, rfl, hb, ?_, rest⟩
    rw [h.block g (Array.getElem?_eq_some_iff.1 hg).1 (hU g rfl)]
    exact hg
theorem Kx.cell {U : Nat → Prop} {w w' : World} {a : Addr} {v : Value} (h : Kx U w w') (hc : w.cell? a = some v) (hU : ¬ U a.block) : w'.cell? a = some v :=
  (World.cell?_of_block (h.block _ (cell_lt hc) hU)).trans hc
theorem TBox.kx {U : Nat → Prop} {W W' : World} {b : Nat} {vn vs : Value} {r : Int} (h : TBox W b vn vs r) (hk : Kx U W W') (hU : ¬ U b) : TBox W' b vn vs r := ⟨hk.cell h.c0 hU, hk.cell h.c1 hU, hk.cell h.c2 hU⟩
/-- a row's numbers, the others not told yet -/
def cellsL (l : List Int) (n : Nat) : List Value := l.map (Value.int .i64) ++ List.replicate (n - l.length) (.int .i64 0)
theorem cellsL_start (n : Nat) : (madeCells (Value.int .i64 0).cells (n * 1)).toList = cellsL [] n := by
  show (madeCells #[Value.int .i64 0] (n * 1)).toList = _
  rw [toList_madeCells_one, Nat.mul_one]; simp [cellsL]
theorem cellsL_at {l : List Int} {n i : Nat} (h : i < l.length) : (cellsL l n)[i]? = some (.int .i64 (l.getD i 0)) := by
  unfold cellsL
  rw [List.getElem?_append_left (by simpa using h)]
  simp [h]
theorem cellsL_next {l : List Int} {n : Nat} (h : l.length < n) : (cellsL l n)[l.length]? = some (.int .i64 0) := by
  unfold cellsL
  rw [List.getElem?_append_right (by simp), List.getElem?_replicate, if_pos (by simp; omega)]
theorem cellsL_set {l : List Int} {n : Nat} (x : Int) (h : l.length < n) : (cellsL l n).set l.length (.int .i64 x) = cellsL (l ++ [x]) n := by
  unfold cellsL
  rw [List.set_append_right _ _ (by simp), List.length_map, Nat.sub_self, show n - l.length = (n - (l ++ [x]).length) + 1 by simp; omega, List.replicate_succ, List.set_cons_zero, List.map_append, List.append_assoc]
  rfl

end Go.Proofs.YtgjiofkjogjhhaaGreatDoor.Ar

namespace Go.Proofs.YtgjiofkjogjhhaaGreatDoor.Ar
open Go Go.RowKit Go.Shelf
open Go.Proofs.YtgjiofkjogjhhaaGreatDoor.Rg (R RngsAt RowsAt nthL add_zero own_next infoS)

theorem add_next (a : Addr) (m o : Nat) : a.add (m + (o + 1)) = ⟨(a.add m).block, (a.add m).off + (o + 1), none⟩ := by
  unfold Addr.add
  by_cases h : m = 0
  · simp [h]
  · simp [h]; omega
/-- the cells of nodes that are read somewhere -/
theorem nodes_cells {w : World} {a : Addr} {l : List Nd} (h : ∀ i, i < l.length → NodeAt w (a.add (i * 6)) (nd l i)) : ∀ j u, (flatN l)[j]? = some u → w.cell? (a.add j) = some u := by
  intro j u hu
  have hj : j < (flatN l).length := by
    rcases Nat.lt_or_ge j (flatN l).length with h' | h'
    · exact h'
    · rw [List.getElem?_eq_none h'] at hu; cases hu
  rw [flatN_len] at hj
  have hi : j / 6 < l.length := by omega
  obtain ⟨i, hi'⟩ : ∃ i, i = j / 6 := ⟨_, rfl⟩
  obtain ⟨o, ho'⟩ : ∃ o, o = j % 6 := ⟨_, rfl⟩
  have ho : o < 6 := by omega
  have e : j = i * 6 + o := by omega
  rw [← hi'] at hi
  clear hi' ho'
  subst e
  obtain ⟨h0, h1, h2, h3, h4, h5⟩ := flatN_at l i hi
  have hn := h i hi
  have hc : o = 0 ∨ o = 1 ∨ o = 2 ∨ o = 3 ∨ o = 4 ∨ o = 5 := by omega
  rcases hc with rfl | rfl | rfl | rfl | rfl | rfl
  · rw [Nat.add_zero] at hu ⊢; rw [h0] at hu; cases hu; exact hn.c0
  · rw [h1] at hu; cases hu; rw [add_next]; exact hn.c1
  · rw [h2] at hu; cases hu; rw [add_next]; exact hn.c2
  · rw [h3] at hu; cases hu; rw [add_next]; exact hn.c3
  · rw [h4] at hu; cases hu; rw [add_next]; exact hn.c4
  · rw [h5] at hu; cases hu; rw [add_next]; exact hn.c5
/-- values that read as these sets -/
structure Vals (w : World) (L : List (List R)) (xs : List Value) : Prop where
  len : xs.length = L.length
  each : ∀ i, i < L.length → ∃ x, xs[i]? = some x ∧ RngsAt w x (nthL L i)
theorem Vals.next {w w' : World} {L : List (List R)} {xs : List Value} (h : Vals w L xs) (hb : Below w.heap.size w w') : Vals w' L xs :=
  ⟨h.len, fun i hi => by obtain ⟨x, h1, h2⟩ := h.each i hi; exact ⟨x, h1, h2.next hb⟩⟩
theorem Vals.app {w : World} {L K : List (List R)} {xs ys : List Value} (h : Vals w L xs) (k : Vals w K ys) : Vals w (L ++ K) (xs ++ ys) := by
  refine ⟨by rw [List.length_append, List.length_append, h.len, k.len], fun i hi => ?_⟩
  rw [List.length_append] at hi
  rcases Nat.lt_or_ge i L.length with hl | hl
  · obtain ⟨x, h1, h2⟩ := h.each i hl
    exact ⟨x, by rw [List.getElem?_append_left (by rw [h.len]; exact hl)]; exact h1, by rw [show nthL (L ++ K) i = nthL L i by simp [nthL, List.getElem?_append_left hl]]; exact h2⟩
  · obtain ⟨x, h1, h2⟩ := k.each (i - L.length) (by omega)
    exact ⟨x, by rw [List.getElem?_append_right (by rw [h.len]; exact hl), h.len]; exact h1, by rw [show nthL (L ++ K) i = nthL K (i - L.length) by simp [nthL, List.getElem?_append_right hl]]; exact h2⟩
theorem Vals.one {w : World} {L : List (List R)} {xs : List Value} (h : Vals w L xs) : ∀ u ∈ xs, u.oneCell' = true := by
  intro u hu
  obtain ⟨i, hi, rfl⟩ := List.mem_iff_getElem.1 hu
  obtain ⟨x, h1, h2⟩ := h.each i (by rw [← h.len]; exact hi)
  rw [List.getElem?_eq_getElem hi] at h1
  simp only [Option.some.injEq] at h1
  obtain ⟨xo, xcap, e, _, _⟩ := h2.shape
  rw [h1, e]; rfl
/-- a slice's values -/
theorem vals_of {w : World} {v : Value} {L : List (List R)} (h : RowsAt w v L) : ∃ xs, Vals w L xs ∧ ((v = .slice none 0 0 ∧ L = [] ∧ xs = []) ∨ ∃ (a : Addr) (cap : Nat), v = .slice (some a) L.length cap ∧ ∀ j u, xs[j]? = some u → w.cell? (a.add j) = some u) := by
  rcases h with ⟨rfl, rfl⟩ | ⟨a, cap, rfl, hm, hc⟩
  · exact ⟨[], ⟨rfl, fun i hi => by simp at hi⟩, .inl ⟨rfl, rfl, rfl⟩⟩
  · have hex : ∀ i, ∃ x, i < L.length → w.cell? (a.add i) = some x ∧ RngsAt w x (nthL L i) := fun i => by
      by_cases hi : i < L.length
      · obtain ⟨x, h1⟩ := hc i hi; exact ⟨x, fun _ => h1⟩
      · exact ⟨.int .i64 0, fun h => absurd h hi⟩
    obtain ⟨f, hf⟩ := Classical.skolem.1 hex
    refine ⟨(List.range L.length).map f, ⟨by simp, fun i hi => ⟨f i, by simp [hi], (hf i hi).2⟩⟩, .inr ⟨a, cap, rfl, fun j u hj => ?_⟩⟩
    have hjl : j < L.length := by
      rcases Nat.lt_or_ge j L.length with h' | h'
      · exact h'
      · rw [List.getElem?_eq_none (by simp; exact h')] at hj; cases hj
    have e : f j = u := by simpa [hjl] using hj
    rw [← e]; exact (hf j hjl).1
/-- a row of the call's own reads as its values -/
theorem rows_of_vals {w : World} {B : Nat} {v : Value} {L : List (List R)} {xs : List Value} (h : w.ownsRow B 71 1 v L.length xs) (k : Vals w L xs) : RowsAt w v L := by
  rcases h.2 with ⟨rfl, h0⟩ | ⟨g, cap, cur, rfl, _, hg, hn, hm, _, ht⟩
  · exact .inl ⟨rfl, List.eq_nil_of_length_eq_zero h0⟩
  · refine .inr ⟨⟨g, 0, none⟩, cap, rfl, by omega, fun i hi => ?_⟩
    obtain ⟨x, h1, h2⟩ := k.each i hi
    refine ⟨x, ?_, h2⟩
    rw [add_zero]
    rw [← ht, List.getElem?_take] at h1
    split at h1
    · simp [World.cell?, hg]; simpa using h1
    · cases h1
/-- append of a slice of sets that may be none -/
theorem wpList_apps {W0 W : World} (hW : Below W0.heap.size W0 W) {ops : Array Oper} {rest : List Oper} {o : Oper} {a : Act} {Q : Exit → Act → World → Prop} (hgd : o.guard = none) (s x : Operand)
    (ho : o.op = .call { callee := .builtin .append, args := #[s, x], argTypes := #[36, 36] }) (B : Nat) (v : Value) (L : List (List R)) (xs : List Value) (hs : a.eval s = v) (hown : W.ownsRow B 71 1 v L.length xs) (hvs : Vals W0 L xs)
    (src : Value) (K : List (List R)) (hx : a.eval x = src) (hsrc : RowsAt W0 src K) (hM : L.length + K.length ≤ 1000000) (hB : B ≤ W.heap.size)
    (h : ∀ v' w' ys, w'.ownsRow B 71 1 v' (L ++ K).length ys → Vals W0 (L ++ K) ys → W.grownBy w' v.ownBlock → wpList Tryz.prog ops Q rest (a.put o.dst v') w') : wpList Tryz.prog ops Q (o :: rest) a W := by
  obtain ⟨i0, hi, hz0, hz1, hz2⟩ := info_parts infoS
  obtain ⟨ys, hys, hk⟩ := vals_of hsrc
  rcases hk with ⟨rfl, rfl, rfl⟩ | ⟨ad, cap, rfl, hc⟩
  · exact wpList_append_own_none hgd s x 36 ho B 71 i0 1 Tryz.underlying36 hi v L.length xs hs hown hx (h v W xs (by simpa using hown) (by simpa using hvs) ⟨rfl, rfl, rfl, Nat.le_refl _, fun _ _ _ => rfl⟩)
  · refine wpList_append_own _ hgd s x 36 ho B 71 i0 (.slice none 0 0) 1 24 Tryz.underlying36 hi hz0 hz1 hz2 rfl (by decide) v L.length xs hs hown ad K.length cap ys hx (by rw [hys.len]; omega) (fun j u hj => cell_next (hc j u hj) hW) hys.one (by unfold maxLen; omega) (by omega) hB fun v' w' h1 h2 _ => h v' w' (xs ++ ys) (by rw [List.length_append]; exact h1) (hvs.app hys) h2

end Go.Proofs.YtgjiofkjogjhhaaGreatDoor.Ar

namespace Go.Proofs.YtgjiofkjogjhhaaGreatDoor.Dg
open Go.RowKit

theorem tab_lt {w : World} (h : Tab w) : 1 < w.heap.size := by
  have := h 0 (by omega)
  apply Classical.byContradiction
  intro hn
  unfold World.cell? at this
  rw [Array.getElem?_eq_none (show w.heap.size ≤ 1 by omega)] at this
  simp at this

theorem run_cut (q : Nat) (hq : q < 16) (b : Nat) (w : World) :
    (Instr.sliceAt 162 (.pointer (some ⟨b, 0, none⟩)) (some (.int .i64 (q : Int))) none none).run Tryz.prog w = .ok (.slice (some ⟨b, q, none⟩) (16 - q) (16 - q)) w := by
  have hl : Tryz.prog.arrayLen 162 = 16 := by kernel_rfl
  have he : Tryz.prog.elem 162 = 5 := by kernel_rfl
  have hu : Tryz.prog.underlying 162 = some (.array (Tryz.prog.arrayLen 162) (Tryz.prog.elem 162)) := by rw [hl, he]; exact Tryz.underlying162
  rw [run_sliceAt_array_l w _ _ hu .i64 q (by omega) (by rw [hl]; omega), hl, he, Tryz.sizeOf5]
  have e : ¬ 16 = q := by omega
  by_cases h0 : q = 0
  · subst h0; simp [slicedAt, Result.andThen, Addr.add]
  · simp [slicedAt, Result.andThen, Addr.add, e, h0]

theorem run_bytes {w : World} {X : Array Value} {acc : List UInt8} {q : Nat} (hq : q + acc.length = 16)
    (h : ∀ j, j < acc.length → X[q + j]? = some (.int .u8 ((acc.getD j 0).toNat : Int))) :
    (convert 51 9 (.slice (some ⟨w.heap.size, q, none⟩) (16 - q) (16 - q))).run Tryz.prog (w.alloc (.cells X 162)) = .ok (.string ⟨acc.toArray⟩) (w.alloc (.cells X 162)) := by
  rw [show 16 - q = acc.length by omega]
  refine run_convert_bytes_back _ _ _ 5 _ _ acc Tryz.underlying51 Tryz.underlying5 Tryz.underlying9 fun j hj => ?_
  have hh := h j hj
  rw [List.getD_eq_getElem?_getD, List.getElem?_eq_getElem hj] at hh
  have e : (⟨w.heap.size, q, none⟩ : Addr).add j = ⟨w.heap.size, q + j, none⟩ := by
    unfold Addr.add; split
    · rename_i h0; subst h0; rfl
    · rfl
  rw [e, World.cell?_alloc_new, hh]; rfl
theorem row_next {X : Array Value} {acc : List UInt8} {p : Nat} {v : UInt8} (hX : X.size = 16)
    (h : ∀ j, j < acc.length → X[p + 1 + j]? = some (.int .u8 ((acc.getD j 0).toNat : Int))) (hp : p ≤ 15) :
    ∀ j, j < (v :: acc).length → (X.setIfInBounds p (.int .u8 (v.toNat : Int)))[p + j]? = some (.int .u8 (((v :: acc).getD j 0).toNat : Int)) := by
  intro j hj
  rw [Array.getElem?_setIfInBounds]
  cases j with
  | zero => rw [Nat.add_zero, if_pos rfl, if_pos (by omega)]; rfl
  | succ j =>
    rw [if_neg (by omega)]
    have := h j (by simpa using hj)
    rw [show p + (j + 1) = p + 1 + j by omega, this]; rfl

set_option maxRecDepth 100000 in
set_option maxHeartbeats 400000 in
theorem hextext_any (n least : Int) (w : World) (h0 : -9223372036854775808 ≤ n) (h1 : n ≤ 9223372036854775807) (h2 : -9223372036854775808 ≤ least) (h3 : least ≤ 9223372036854775807) (ht : Tab w) :
    Calls Tryz.prog 135 #[.int .i64 n, .int .i64 least] w fun e w' => e = .returned (.string ⟨(hexText n least).toArray⟩) ∧ Below w.heap.size w w' := by
  have hlt := tab_lt ht
  have HT := Lib.hid ht
  clear ht
  have hx : ∀ m : Int, (n < 0 ∧ m = 0) ∨ (¬ n < 0 ∧ m = n) → goHexText 16 0 m.toNat (min least 8) [] = hexText n least := by
    intro m h
    unfold hexText
    rw [show n.toNat = m.toNat by omega]
  have HX := Lib.hid hx
  clear hx
  by_cases hn : n < 0 <;> by_cases hle : 8 < least
  all_goals
    go_enter Tryz.func135, Tryz.ntmps135
    go_wp2_with fail
    go_loopw [6, 7, 13] (fun a p i wr => ∃ (m : Int) (q : Nat) (acc : List UInt8) (X : Array Value), q + acc.length = 16 ∧ 0 ≤ m ∧ m ≤ 9223372036854775807 ∧ goHexText (16 - acc.length) acc.length m.toNat (min least 8) acc = hexText n least ∧ X.size = 16 ∧ (∀ j, j < acc.length → X[q + j]? = some (.int .u8 ((acc.getD j 0).toNat : Int))) ∧ wr = w.alloc (.cells X 162) ∧ a = .int .i64 m ∧ p = .int .i64 q ∧ i = .int .i64 acc.length) (fun _ _ i _ => 16 - (intOf i).toNat)
    case atStart =>
      first
        | exact ⟨0, 16, [], _, by simp, by omega, by omega, HX.out 0 (by omega), rfl, by simp, rfl, rfl, rfl, rfl⟩
        | exact ⟨n, 16, [], _, by simp, by omega, by omega, HX.out n (by omega), rfl, by simp, rfl, rfl, rfl, rfl⟩
    case round =>
      obtain ⟨m, q, acc, X, hq, hm0, hm, hg, hX, hXa, rfl, rfl, rfl, rfl⟩ := hrel
      have hcut := Lib.hid (fun h wx => run_cut q h w.heap.size wx)
      have hcv := Lib.hid (run_bytes (w := w) hq hXa)
      by_cases hs : stops acc.length m least ∨ 16 ≤ acc.length
      · have hend : goHexText (16 - acc.length) acc.length m.toNat (min least 8) acc = acc := by
          rcases hs with hs | hs
          · exact hx_stop hm0 hs
          · exact hx_end hs
        have HE := Lib.hid (hg.symm.trans hend)
        have hs1 : 1 ≤ (acc.length : Int) := by unfold stops at hs; omega
        have hs2 : (16 ≤ (acc.length : Int)) ∨ (m ≤ 0 ∧ min least 8 ≤ (acc.length : Int)) := by unfold stops at hs; omega
        have hsl := hcut.out (by omega)
        have hcv' := hcv.out
        clear hg hX hXa hs hcv hcut
        clear hq
        go_wp2_with fail
        all_goals go_ret
        all_goals exact ⟨rets' (by rw [HE.out]), (Below.refl _ _).alloc (Nat.le_refl _) _⟩
      · obtain ⟨j, hj⟩ := Int.eq_ofNat_of_zero_le (show 0 ≤ m % 16 by omega)
        have hj16 : j < 16 := by omega
        have hs' : ¬ stops acc.length m least := fun h => hs (Or.inl h)
        have hgo := Lib.hid (hx_go (acc := acc) (least := least) hm0 (by omega) hj hs')
        have HG := Lib.hid hg
        have hc := HT.out j (by omega)
        have hns : ¬ (1 ≤ (acc.length : Int) ∧ m ≤ 0 ∧ min least 8 ≤ (acc.length : Int)) := by unfold stops at hs'; omega
        obtain ⟨p, hp⟩ : ∃ p, q = p + 1 := ⟨q - 1, by omega⟩
        subst hp
        have hp15 : p ≤ 15 := by omega
        have hl16 : (acc.length : Int) < 16 := by omega
        have HXs := Lib.hid (row_next (v := tab.getD j 0) hX hXa hp15)
        obtain ⟨xv, hxv⟩ : ∃ v, X[p]? = some v := ⟨X[p]'(by omega), Array.getElem?_eq_getElem _⟩
        have HQ := Lib.hid hq
        have hX16 := Lib.hid hX
        clear hg hX hXa hs hs' hcv hcut hq
        by_cases hm1 : 0 < m
        · have hm2 : (m == 0) = false := beq_eq_false_iff_ne.2 (by omega)
          go_wp2_with fail
          all_goals
            go_roundw
            case rel => exact ⟨m / 16, p, tab.getD j 0 :: acc, _, by have := HQ.out; simp only [List.length_cons]; omega, by omega, by omega, hgo.out ▸ HG.out, by rw [Array.size_setIfInBounds]; exact hX16.out, HXs.out, rfl, rfl, by go_num, by simp⟩
            case measure => simp [intOf]; omega
        · have hm2 : (m == 0) = true := beq_iff_eq.2 (by omega)
          go_wp2_with fail
          all_goals
            go_roundw
            case rel => exact ⟨m / 16, p, tab.getD j 0 :: acc, _, by have := HQ.out; simp only [List.length_cons]; omega, by omega, by omega, hgo.out ▸ HG.out, by rw [Array.size_setIfInBounds]; exact hX16.out, HXs.out, rfl, rfl, by go_num, by simp⟩
            case measure => simp [intOf]; omega

end Go.Proofs.YtgjiofkjogjhhaaGreatDoor.Dg

namespace Go.Proofs.YtgjiofkjogjhhaaGreatDoor.Rp
open Go Go.RowKit

theorem scan_take {s : Tx} {k : Nat} (h : k < s.length) (st : Int × Int × Bool) : scanL (s.take (k + 1)) st = scan1 (scanL (s.take k) st) s[k] := by
  rw [List.take_succ_eq_append_getElem h, scan_append]; rfl
/-- one byte, by its number -/
theorem scan1_int (n m : Int) (q : Bool) (c : UInt8) (d : Int) (hd : (c.toNat : Int) = d) : ∃ n2 m2 q2, scan1 (n, m, q) c = (n2, m2, q2) ∧
    (d = 93 → q2 = false) ∧ (d = 91 → q2 = true) ∧ (d ≠ 93 → d ≠ 91 → q2 = q) ∧
    (d = 40 → q = false → n2 = n + 1) ∧ (d = 41 → q = false → n2 = n - 1) ∧ (d ≠ 40 → d ≠ 41 → n2 = n) ∧ (q = true → n2 = n) ∧ (m ≤ n2 → m2 = n2) ∧ (n2 ≤ m → m2 = m) := by
  have hk : ∀ k : UInt8, (c = k) ↔ d = (k.toNat : Int) := fun k => by rw [← UInt8.toNat_inj]; omega
  have e93 := hk 93; have e91 := hk 91; have e40 := hk 40; have e41 := hk 41
  simp at e93 e91 e40 e41
  refine ⟨_, _, _, rfl, ?_, ?_, ?_, ?_, ?_, ?_, ?_, ?_, ?_⟩
  all_goals simp only [e93, e91, e40, e41]
  all_goals grind

theorem ret_i {a b : Int} (h : a = b) : Ending.returned (.int .i64 a) = .returned (.int .i64 b) := by rw [h]
set_option maxRecDepth 100000 in
set_option maxHeartbeats 4000000 in
theorem rdeep_any (s : Tx) (w : World) (hs : s.length ≤ 4000000) : Calls Tryz.prog 42 #[.string ⟨s.toArray⟩] w fun e w' => e = .returned (.int .i64 (scanL s (0, 0, false)).2.1) ∧ w' = w := by
  have hsz : (⟨s.toArray⟩ : ByteArray).size = s.length := rfl
  go_enter Tryz.func42, Tryz.ntmps42
  go_wp2
  go_loop [3, 4, 5, 6] (fun m n q i => ∃ (k : Nat) (x y : Int) (b : Bool), k ≤ s.length ∧ i = .int .i64 k ∧ n = .int .i64 x ∧ m = .int .i64 y ∧ q = .bool b ∧ scanL (s.take k) (0, 0, false) = (x, y, b) ∧ -(k : Int) ≤ x ∧ x ≤ k ∧ 0 ≤ y ∧ y ≤ k) (fun _ _ _ i => s.length - (intOf i).toNat)
  case atStart => exact ⟨0, 0, 0, false, Nat.zero_le _, rfl, rfl, rfl, rfl, by simp [scanL], by omega, by omega, by omega, by omega⟩
  case round =>
    obtain ⟨k, x, y, b, hk, rfl, rfl, rfl, rfl, hsc, g1, g2, g3, g4⟩ := hrel
    by_cases hlt : k < s.length
    · have hnx := scan_take hlt (0, 0, false)
      rw [hsc] at hnx
      obtain ⟨d, hd⟩ : ∃ d : Int, ((⟨s.toArray⟩ : ByteArray)[k]'(by rw [hsz]; exact hlt)).toNat = d := ⟨_, rfl⟩
      obtain ⟨n2, m2, q2, e, h1, h2, h3, h4, h5, h6, h7, h8, h9⟩ := scan1_int x y b s[k] d hd
      rw [e] at hnx
      have HN := Lib.hid hnx
      have H1 := Lib.hid h1
      have H2 := Lib.hid h2
      have H3 := Lib.hid h3
      have H4 := Lib.hid h4
      have H5 := Lib.hid h5
      have H6 := Lib.hid h6
      have H7 := Lib.hid h7
      have H8 := Lib.hid h8
      have H9 := Lib.hid h9
      clear hnx hsc e h1 h2 h3 h4 h5 h6 h7 h8 h9
      cases b
      all_goals (
        go_wp2
        all_goals (
          go_round
          case rel =>
            have h1 := H1.out
            have h2 := H2.out
            have h3 := H3.out
            have h4 := H4.out
            have h5 := H5.out
            have h6 := H6.out
            have h7 := H7.out
            have h8 := H8.out
            have h9 := H9.out
            refine ⟨k + 1, n2, m2, q2, by omega, by go_num, ?_, ?_, ?_, HN.out, ?_, ?_, ?_, ?_⟩
            all_goals (clear HN H1 H2 H3 H4 H5 H6 H7 H8 H9)
            all_goals first | omega | (congr 1; grind) | grind
          case measure => simp [intOf]; omega))
    · have hks : k = s.length := by omega
      subst hks
      rw [List.take_length] at hsc
      have HSC := Lib.hid hsc
      clear hsc
      go_wp2
      go_ret
      exact ⟨ret_i (by rw [HSC.out]), rfl⟩

end Go.Proofs.YtgjiofkjogjhhaaGreatDoor.Rp

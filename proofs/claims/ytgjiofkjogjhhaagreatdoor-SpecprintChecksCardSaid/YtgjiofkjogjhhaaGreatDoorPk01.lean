/- Slices of numbers as a call meets them. Slices of ranges as a call meets them. Has, the program's and the document's. Sets of numbers as ranges: plain words. What a seat takes of ranges without their package's heap. All numbers; ranges appended; a number of a set, counted from its list. Two lists compared; what a call tells as a set, in a later world. The document's ends: put and ends. The document's ends; what holds of a number. Append of ranges that may be none. The document's Set. The document's Set, walked. The document's Right. -/
import Derived.Test.YtgjiofkjogjhhaaGreatDoorChecked
import Derived.WalkKit
import Derived.Laws.AppendOwn
import Derived.RangeFuncBox
import Derived.Maps.AppendAt
import Derived.Laws.OwnMore
import Derived.Lib.OthersKept
import Derived.Lib.Hide
import Derived.BigQuiet
import Derived.BigRegion
import Derived.Deep.AppendLies
import Derived.Deep.QuietTactic
import Derived.Deep.RegionLaw
import Derived.RegionTactic
import Derived.Shelf.Abstract
import Derived.Below
import Derived.Deep.DeepMust
import Derived.Laws.AppendOwnNone

namespace Go.Proofs.YtgjiofkjogjhhaaGreatDoor
open Go.RowKit

/-- a slice that reads as these numbers -/
def IntsAt (w : World) (v : Value) (l : List Int) : Prop :=
  (v = .slice none 0 0 ∧ l = []) ∨ ∃ (a : Addr) (cap : Nat), v = .slice (some a) l.length cap ∧ l.length ≤ maxLen ∧ ∀ i, i < l.length → w.cell? (a.add i) = some (.int .i64 (l.getD i 0))

theorem add_block (a : Addr) (i : Nat) : (a.add i).block = a.block := by unfold Addr.add; split <;> rfl
theorem cell_lt {w : World} {a : Addr} {v : Value} (h : w.cell? a = some v) : a.block < w.heap.size := by
  rcases Nat.lt_or_ge a.block w.heap.size with h' | h'
  · exact h'
  · simp [World.cell?, Array.getElem?_eq_none h'] at h
theorem cell_next {w w' : World} {a : Addr} {v : Value} (h : w.cell? a = some v) (hb : Below w.heap.size w w') : w'.cell? a = some v :=
  (hb.cell (cell_lt h)).trans h
theorem IntsAt.next {w w' : World} {v : Value} {l : List Int} (h : IntsAt w v l) (hb : Below w.heap.size w w') : IntsAt w' v l := by
  rcases h with h | ⟨a, cap, hv, hm, hc⟩
  · exact .inl h
  · exact .inr ⟨a, cap, hv, hm, fun i hi => cell_next (hc i hi) hb⟩

theorem IntsAt.shape {w : World} {v : Value} {l : List Int} (h : IntsAt w v l) :
    ∃ (ao : Option Addr) (cap : Nat), v = .slice ao l.length cap ∧ l.length ≤ 9223372036854775807 ∧ ∀ i, i < l.length → ∃ ad, ao = some ad ∧ w.cell? (ad.add i) = some (.int .i64 (l.getD i 0)) := by
  rcases h with ⟨rfl, rfl⟩ | ⟨a, cap, hv, hm, hc⟩
  · exact ⟨none, 0, rfl, by simp, fun i hi => by simp at hi⟩
  · exact ⟨some a, cap, hv, by unfold maxLen at hm; omega, fun i hi => ⟨a, rfl, hc i hi⟩⟩

theorem grown_below {w w' : World} (h : Below w.heap.size w w') : w.grownBy w' none :=
  ⟨h.os, h.tape, h.output, h.size, fun k hk _ => h.block k hk⟩

theorem row_next {w w' : World} {B : Nat} {e : TypeId} {v : Value} {n : Nat} {xs : List Value} (h : w.ownsRow B e 1 v n xs) (hb : Below w.heap.size w w') : w'.ownsRow B e 1 v n xs := by
  refine h.kept (grown_below hb) ?_
  rcases h.2 with ⟨rfl, _⟩ | ⟨g, cap, cur, rfl, _⟩
  · exact .inl rfl
  · exact .inr (by simp [Value.ownBlock])

theorem infoI : (Tryz.prog.info? 3).map (fun i => (i.zero, i.size, i.bytes)) = some (some (.int .i64 0), 1, 8) := by kernel_rfl

/-- a slice that the call owns reads as its numbers -/
theorem ints_of_row {w : World} {B : Nat} {v : Value} {l : List Int} (h : w.ownsRow B 3 1 v l.length (l.map (Value.int .i64))) : IntsAt w v l := by
  rcases h.2 with ⟨rfl, h0⟩ | ⟨g, cap, cur, rfl, _, hg, hn, hm, hcs, ht⟩
  · exact .inl ⟨rfl, List.eq_nil_of_length_eq_zero h0⟩
  · refine .inr ⟨⟨g, 0, none⟩, cap, rfl, by omega, fun i hi => ?_⟩
    have e : (⟨g, 0, none⟩ : Addr).add i = ⟨g, i, none⟩ := by
      unfold Addr.add; split
      · rename_i h0; subst h0; rfl
      · simp
    rw [e]
    have hx : (cur.toList.take (l.length * 1))[i]? = some (.int .i64 (l.getD i 0)) := by
      rw [ht]; simp [List.getD, hi]
    rw [List.getElem?_take] at hx
    simp [World.cell?, hg]
    rw [if_pos (by omega)] at hx
    simpa using hx

theorem slice_two (w : World) (a b : Int) : IntsAt (w.alloc (.cells #[.int .i64 a, .int .i64 b] 3)) (.slice (some ⟨w.heap.size, 0, none⟩) 2 2) [a, b] := by
  refine .inr ⟨_, 2, rfl, by unfold maxLen; simp, fun i hi => ?_⟩
  have : i = 0 ∨ i = 1 := by simp at hi; omega
  rcases this with rfl | rfl
  · rw [show (⟨w.heap.size, 0, none⟩ : Addr).add 0 = ⟨w.heap.size, 0, none⟩ from rfl, World.cell?_alloc_new]; rfl
  · rw [show (⟨w.heap.size, 0, none⟩ : Addr).add 1 = ⟨w.heap.size, 1, none⟩ from rfl, World.cell?_alloc_new]; rfl

end Go.Proofs.YtgjiofkjogjhhaaGreatDoor

namespace Go.Proofs.YtgjiofkjogjhhaaGreatDoor.Ut
open Go Go.RowKit
theorem ret_bool {a b : Bool} (h : a = b) : Ending.returned (.bool a) = .returned (.bool b) := by rw [h]
end Go.Proofs.YtgjiofkjogjhhaaGreatDoor.Ut

namespace Go.Proofs.YtgjiofkjogjhhaaGreatDoor.Rg
open Go.RowKit

abbrev R := Int × Int
def flatR (l : List R) : List Value := l.flatMap fun p => [Value.int .i64 p.1, Value.int .i64 p.2]
theorem flatR_snoc (l : List R) (p : R) : flatR (l ++ [p]) = flatR l ++ [Value.int .i64 p.1, Value.int .i64 p.2] := by simp [flatR]
theorem flatR_append (l k : List R) : flatR (l ++ k) = flatR l ++ flatR k := by simp [flatR]
theorem flatR_len : ∀ l : List R, (flatR l).length = l.length * 2
  | [] => rfl
  | p :: r => by
    have := flatR_len r
    simp only [flatR, List.flatMap_cons, List.length_append, List.length_cons, List.length_nil] at this ⊢
    omega
/-- the i-th range -/
def nth (l : List R) (i : Nat) : R := l.getD i (0, 0)
theorem nth_eq {l : List R} {i : Nat} (h : i < l.length) : nth l i = l[i] := by simp [nth, List.getD, h]
theorem flatR_at : ∀ (l : List R) (i : Nat), i < l.length → (flatR l)[i * 2]? = some (.int .i64 (nth l i).1) ∧ (flatR l)[i * 2 + 1]? = some (.int .i64 (nth l i).2)
  | [], i, h => by simp at h
  | p :: r, 0, h => by simp [flatR, nth]
  | p :: r, i + 1, h => by
    have := flatR_at r i (by simpa using h)
    rw [show (i + 1) * 2 = (i * 2) + 1 + 1 by omega]
    simpa [flatR, nth] using this
theorem flatR_one {l : List R} : ∀ u ∈ flatR l, u.oneCell' = true := by
  intro u hu
  simp only [flatR, List.mem_flatMap, List.mem_cons, List.not_mem_nil, or_false] at hu
  obtain ⟨p, _, rfl | rfl⟩ := hu <;> simp [Value.oneCell']
theorem flatR_cells {l : List R} {j : Nat} {u : Value} (h : (flatR l)[j]? = some u) : ∃ i, i < l.length ∧ ((j = i * 2 ∧ u = .int .i64 (nth l i).1) ∨ (j = i * 2 + 1 ∧ u = .int .i64 (nth l i).2)) := by
  have hj : j < l.length * 2 := by rw [← flatR_len]; exact (List.getElem?_eq_some_iff.1 h).1
  have hi := flatR_at l (j / 2) (by omega)
  refine ⟨j / 2, by omega, ?_⟩
  rcases Nat.mod_two_eq_zero_or_one j with hm | hm
  · have e : j / 2 * 2 = j := by omega
    rw [e] at hi
    exact .inl ⟨by omega, by rw [hi.1] at h; exact (Option.some.inj h).symm⟩
  · have e : j / 2 * 2 + 1 = j := by omega
    rw [e] at hi
    exact .inr ⟨by omega, by rw [hi.2] at h; exact (Option.some.inj h).symm⟩

/-- a slice that reads as these ranges -/
def RngsAt (w : World) (v : Value) (l : List R) : Prop :=
  (v = .slice none 0 0 ∧ l = []) ∨ ∃ (a : Addr) (cap : Nat), v = .slice (some a) l.length cap ∧ l.length ≤ maxLen ∧ ∀ i, i < l.length → w.cell? (a.add (i * 2)) = some (.int .i64 (nth l i).1) ∧ w.cell? ⟨(a.add (i * 2)).block, (a.add (i * 2)).off + 1, none⟩ = some (.int .i64 (nth l i).2)

theorem RngsAt.next {w w' : World} {v : Value} {l : List R} (h : RngsAt w v l) (hb : Below w.heap.size w w') : RngsAt w' v l := by
  rcases h with h | ⟨a, cap, hv, hm, hc⟩
  · exact .inl h
  · exact .inr ⟨a, cap, hv, hm, fun i hi => ⟨cell_next (hc i hi).1 hb, cell_next (hc i hi).2 hb⟩⟩
theorem RngsAt.shape {w : World} {v : Value} {l : List R} (h : RngsAt w v l) :
    ∃ (ao : Option Addr) (cap : Nat), v = .slice ao l.length cap ∧ l.length ≤ 9223372036854775807 ∧ ∀ i, i < l.length → ∃ g, ao = some g ∧ w.cell? (g.add (i * 2)) = some (.int .i64 (nth l i).1) ∧ w.cell? ⟨(g.add (i * 2)).block, (g.add (i * 2)).off + 1, none⟩ = some (.int .i64 (nth l i).2) := by
  rcases h with ⟨rfl, rfl⟩ | ⟨a, cap, hv, hm, hc⟩
  · exact ⟨none, 0, rfl, by simp, fun i hi => by simp at hi⟩
  · exact ⟨some a, cap, hv, by unfold maxLen at hm; omega, fun i hi => ⟨a, rfl, hc i hi⟩⟩

theorem infoR : (Tryz.prog.info? 75).map (fun i => (i.zero, i.size, i.bytes)) = some (some (.agg #[.int .i64 0, .int .i64 0]), 2, 16) := by kernel_rfl

theorem add_zero (g i : Nat) : (⟨g, 0, none⟩ : Addr).add i = ⟨g, i, none⟩ := by
  unfold Addr.add; split
  · rename_i h0; subst h0; rfl
  · simp
/-- a slice that the call owns reads as its ranges -/
theorem rngs_of_row {w : World} {B : Nat} {v : Value} {l : List R} (h : w.ownsRow B 75 2 v l.length (flatR l)) : RngsAt w v l := by
  rcases h.2 with ⟨rfl, h0⟩ | ⟨g, cap, cur, rfl, _, hg, hn, hm, hcs, ht⟩
  · exact .inl ⟨rfl, List.eq_nil_of_length_eq_zero h0⟩
  · have hx : ∀ j x, (flatR l)[j]? = some x → w.cell? ⟨g, j, none⟩ = some x := fun j x hj => by
      rw [← ht, List.getElem?_take] at hj
      split at hj
      · simp [World.cell?, hg]; simpa using hj
      · cases hj
    refine .inr ⟨⟨g, 0, none⟩, cap, rfl, by omega, fun i hi => ?_⟩
    have := flatR_at l i hi
    rw [add_zero]
    refine ⟨hx _ _ this.1, ?_⟩
    exact hx _ _ this.2

theorem rowR_next {w w' : World} {B : Nat} {v : Value} {n : Nat} {xs : List Value} (h : w.ownsRow B 75 2 v n xs) (hb : Below w.heap.size w w') : w'.ownsRow B 75 2 v n xs := by
  refine h.kept (grown_below hb) ?_
  rcases h.2 with ⟨rfl, _⟩ | ⟨g, cap, cur, rfl, _⟩
  · exact .inl rfl
  · exact .inr (by simp [Value.ownBlock])

end Go.Proofs.YtgjiofkjogjhhaaGreatDoor.Rg

namespace Go.Proofs.YtgjiofkjogjhhaaGreatDoor.Rg
open Go.RowKit

/-- is c in one of these, whatever c is -/
def hasB (l : List R) (c : Int) : Bool := l.any fun r => decide (r.1 ≤ c) && decide (c ≤ r.2)
/-- is c in the set of any ranges -/
def inB (l : List R) (c : Int) : Bool := decide (0 ≤ c) && decide (c ≤ 1114111) && hasB l c
theorem hasB_drop {l : List R} {i : Nat} {c : Int} (h : i < l.length) : hasB (l.drop i) c = ((decide ((nth l i).1 ≤ c) && decide (c ≤ (nth l i).2)) || hasB (l.drop (i + 1)) c) := by
  rw [List.drop_eq_getElem_cons h, nth_eq h]; rfl
theorem retB {a b : Bool} (h : a = b) : Ending.returned (.bool a) = .returned (.bool b) := by rw [h]

set_option maxHeartbeats 800000 in
theorem rhas_any (l : List R) (c : Int) (v : Value) (w : World) (hv : RngsAt w v l) :
    Calls Tryz.prog 82 #[v, .int .i64 c] w fun e w' => e = .returned (.bool (inB l c)) ∧ w' = w := by
  obtain ⟨ao, cap, rfl, hm, hcs⟩ := hv.shape
  have HC := Lib.hid hcs
  clear hcs hv
  go_enter Tryz.func82, Tryz.ntmps82
  go_wp2
  go_loop [5] (fun i => ∃ k : Nat, k ≤ l.length ∧ i = .int .i64 k ∧ inB l c = inB (l.drop k) c) (fun i => l.length - (intOf i).toNat)
  case atStart => exact ⟨0, by omega, rfl, rfl⟩
  case round =>
    obtain ⟨k, hk, rfl, hh⟩ := hrel
    by_cases hlt : k < l.length
    · obtain ⟨g, rfl, c1, c2⟩ := HC.out k hlt
      have HH := Lib.hid hh
      clear hh
      go_wp2
      all_goals first
        | (go_ret; exact ⟨retB (by rw [HH.out]; simp [inB, hasB_drop hlt]; omega), rfl⟩)
        | (go_round
           case rel => exact ⟨k + 1, by omega, by go_num, by rw [HH.out]; simp only [inB, hasB_drop hlt]; grind⟩
           case measure => simp [intOf]; omega)
    · obtain rfl : k = l.length := by omega
      rw [List.drop_length] at hh
      have HH := Lib.hid hh
      clear hh
      go_wp2
      go_ret
      exact ⟨retB (by rw [HH.out]; simp [inB, hasB]), rfl⟩

end Go.Proofs.YtgjiofkjogjhhaaGreatDoor.Rg

namespace Go.Proofs.YtgjiofkjogjhhaaGreatDoor.Rg

theorem hasB_nil (c : Int) : hasB [] c = false := rfl
theorem hasB_cons (r : R) (t : List R) (c : Int) : hasB (r :: t) c = ((decide (r.1 ≤ c) && decide (c ≤ r.2)) || hasB t c) := rfl
theorem hasB_append (l k : List R) (c : Int) : hasB (l ++ k) c = (hasB l c || hasB k c) := by simp [hasB]
theorem hasB_one (r : R) (c : Int) : hasB [r] c = (decide (r.1 ≤ c) && decide (c ≤ r.2)) := by simp [hasB]
theorem hasB_perm {l k : List R} (h : l.Perm k) (c : Int) : hasB l c = hasB k c := by
  unfold hasB
  rw [Bool.eq_iff_iff]
  simp only [List.any_eq_true]
  exact ⟨fun ⟨x, hx, hp⟩ => ⟨x, h.mem_iff.1 hx, hp⟩, fun ⟨x, hx, hp⟩ => ⟨x, h.mem_iff.2 hx, hp⟩⟩

/-- rising from m on, apart, up to MaxRune -/
def setFrom : Int → List R → Prop
  | _, [] => True
  | m, r :: t => m ≤ r.1 ∧ r.1 ≤ r.2 ∧ r.2 ≤ 1114111 ∧ setFrom (r.2 + 2) t

theorem setFrom_mono {m m' : Int} : ∀ {l : List R}, m' ≤ m → setFrom m l → setFrom m' l
  | [], _, _ => trivial
  | _ :: _, h, ⟨a, b, c, d⟩ => ⟨by omega, b, c, d⟩
theorem hasB_bounds : ∀ {l : List R} {m c : Int}, setFrom m l → hasB l c = true → m ≤ c ∧ c ≤ 1114111
  | r :: t, m, c, ⟨h1, h2, h3, h4⟩, hb => by
    rw [hasB_cons] at hb
    rcases Bool.or_eq_true_iff.1 hb with h | h
    · simp at h; omega
    · have := hasB_bounds h4 h; omega
theorem hasB_below {l : List R} {m c : Int} (h : setFrom m l) (hc : c < m) : hasB l c = false := by
  cases hb : hasB l c
  · rfl
  · have := hasB_bounds h hb; omega
theorem inB_set {l : List R} (h : setFrom 0 l) (c : Int) : inB l c = hasB l c := by
  unfold inB
  cases hb : hasB l c
  · simp
  · have := hasB_bounds h hb; simp; omega

theorem uniq : ∀ {a b : List R} {m m' : Int}, setFrom m a → setFrom m' b → (∀ c, hasB a c = hasB b c) → a = b
  | [], [], _, _, _, _, _ => rfl
  | [], s :: u, m, m', _, ⟨h1, h2, h3, h4⟩, h => by
    have := h s.1
    rw [hasB_nil, hasB_cons] at this
    simp at this
    omega
  | r :: t, [], m, m', ⟨h1, h2, h3, h4⟩, _, h => by
    have := h r.1
    rw [hasB_nil, hasB_cons] at this
    simp at this
    omega
  | r :: t, s :: u, m, m', ⟨h1, h2, h3, h4⟩, ⟨k1, k2, k3, k4⟩, h => by
    have e1 : s.1 ≤ r.1 := by
      have := h r.1
      have hs : hasB (r :: t) r.1 = true := by rw [hasB_cons]; simp; omega
      rw [hs] at this
      have := hasB_bounds (m := s.1) (l := s :: u) ⟨Int.le_refl _, k2, k3, k4⟩ this.symm
      omega
    have e2 : r.1 ≤ s.1 := by
      have := h s.1
      have hs : hasB (s :: u) s.1 = true := by rw [hasB_cons]; simp; omega
      rw [hs] at this
      have := hasB_bounds (m := r.1) (l := r :: t) ⟨Int.le_refl _, h2, h3, h4⟩ this
      omega
    have hlow : ∀ {x : List R} {n c : Int}, setFrom (n + 2) x → c ≤ n + 1 → hasB x c = false := fun hx hc => hasB_below hx (by omega)
    have e3 : r.2 ≤ s.2 := by
      have := h (s.2 + 1)
      rw [hasB_cons, hasB_cons, hlow k4 (Int.le_refl _)] at this
      grind
    have e4 : s.2 ≤ r.2 := by
      have := h (r.2 + 1)
      rw [hasB_cons, hasB_cons, hlow h4 (Int.le_refl _)] at this
      grind
    have e : r = s := Prod.ext (by omega) (by omega)
    subst e
    rw [uniq h4 k4 fun c => ?_]
    have := h c
    rw [hasB_cons, hasB_cons] at this
    rcases Int.lt_or_le r.2 c with hc | hc
    · have hd : decide (c ≤ r.2) = false := by simp; omega
      rw [hd] at this
      simpa using this
    · rw [hlow h4 (by omega), hlow k4 (by omega)]

theorem set_snoc : ∀ {l : List R} {m : Int} {x : R}, setFrom m l → (∀ r ∈ l, r.2 + 2 ≤ x.1) → m ≤ x.1 → x.1 ≤ x.2 → x.2 ≤ 1114111 → setFrom m (l ++ [x])
  | [], _, _, _, _, h1, h2, h3 => ⟨h1, h2, h3, trivial⟩
  | r :: _, _, _, ⟨a, b, c, d⟩, hx, _, h2, h3 => ⟨a, b, c, set_snoc d (fun q hq => hx q (List.mem_cons_of_mem _ hq)) (hx r List.mem_cons_self) h2 h3⟩
theorem set_parts : ∀ {l : List R} {m : Int} {x : R}, setFrom m (l ++ [x]) → setFrom m l ∧ (∀ r ∈ l, r.2 + 2 ≤ x.1) ∧ m ≤ x.1 ∧ x.1 ≤ x.2 ∧ x.2 ≤ 1114111
  | [], m, x, ⟨a, b, c, _⟩ => ⟨trivial, (by simp), a, b, c⟩
  | r :: t, m, x, ⟨a, b, c, d⟩ => by
    obtain ⟨h1, h2, h3, h4, h5⟩ := set_parts d
    refine ⟨⟨a, b, c, h1⟩, fun q hq => ?_, by omega, h4, h5⟩
    rcases List.mem_cons.1 hq with rfl | hq
    · exact h3
    · exact h2 q hq
theorem set_last {l : List R} {m a b b' : Int} (h : setFrom m (l ++ [(a, b)])) (h1 : a ≤ b') (h2 : b' ≤ 1114111) : setFrom m (l ++ [(a, b')]) := by
  obtain ⟨p1, p2, p3, p4, p5⟩ := set_parts h
  exact set_snoc p1 p2 p3 h1 h2
theorem set_all {l : List R} {m : Int} : setFrom m l → ∀ r ∈ l, m ≤ r.1 ∧ r.1 ≤ r.2 ∧ r.2 ≤ 1114111 := by
  induction l generalizing m with
  | nil => intro _ r hr; simp at hr
  | cons q t ih =>
    rintro ⟨a, b, c, d⟩ r hr
    rcases List.mem_cons.1 hr with rfl | hr
    · exact ⟨a, b, c⟩
    · have := ih d r hr; omega

/-- how many numbers -/
def cntL : List R → Int
  | [] => 0
  | r :: t => r.2 - r.1 + 1 + cntL t
theorem cnt_bounds : ∀ {l : List R} {m : Int}, setFrom m l → m ≤ 1114112 → 0 ≤ cntL l ∧ cntL l ≤ 1114112 - m
  | [], m, _, h => by simp [cntL]; omega
  | [r], m, ⟨a, b, c, _⟩, h => by simp [cntL]; omega
  | r :: s :: t, m, ⟨a, b, c, d⟩, h => by
    have hd := d.1
    have hd2 := d.2.1
    have hd3 := d.2.2.1
    have := cnt_bounds d (by omega)
    rw [cntL]; omega
theorem cnt_drop {l : List R} {k : Nat} (h : k < l.length) : cntL (l.drop k) = (nth l k).2 - (nth l k).1 + 1 + cntL (l.drop (k + 1)) := by
  rw [List.drop_eq_getElem_cons h, nth_eq h]; rfl
theorem set_drop : ∀ {l : List R} {m : Int} (k : Nat), setFrom m l → setFrom m (l.drop k)
  | [], m, k, _ => by simp [setFrom]
  | r :: t, m, 0, h => h
  | r :: t, m, k + 1, ⟨a, b, c, d⟩ => by
    rw [List.drop_succ_cons]
    exact setFrom_mono (by omega) (set_drop k d)

theorem comp : ∀ (n : Nat) (A N : List R) (m : Int), A.length + N.length ≤ n → m ≤ 1114112 → setFrom m A → setFrom m N → (∀ c, m ≤ c → c ≤ 1114111 → hasB N c = !hasB A c) → cntL A + cntL N = 1114112 - m := by
  intro n
  induction n with
  | zero =>
    intro A N m hl hm hA hN h
    obtain rfl : A = [] := List.eq_nil_of_length_eq_zero (by omega)
    obtain rfl : N = [] := List.eq_nil_of_length_eq_zero (by omega)
    rcases Int.lt_or_le m 1114112 with hlt | hge
    · have := h m (Int.le_refl _) (by omega)
      simp [hasB_nil] at this
    · simp [cntL]; omega
  | succ n ih =>
    intro A N m hl hm hA hN h
    rcases Int.lt_or_le m 1114112 with hlt | hge
    · have hm0 := h m (Int.le_refl _) (by omega)
      cases hb : hasB A m
      · rw [hb] at hm0
        cases N with
        | nil => simp [hasB_nil] at hm0
        | cons s u =>
          obtain ⟨h1, h2, h3, h4⟩ := hN
          have hs : s.1 = m := by
            have := hasB_bounds (m := s.1) (l := s :: u) ⟨Int.le_refl _, h2, h3, h4⟩ (by simpa using hm0)
            omega
          have hA' : setFrom (s.2 + 1) A := by
            cases A with
            | nil => trivial
            | cons r t =>
              obtain ⟨g1, g2, g3, g4⟩ := hA
              refine ⟨?_, g2, g3, g4⟩
              rcases Int.lt_or_le s.2 r.1 with hx | hx
              · omega
              · have := h r.1 (by omega) (by omega)
                rw [hasB_cons, hasB_cons] at this
                grind
          have := ih A u (s.2 + 1) (by simp at hl; omega) (by omega) hA' (setFrom_mono (by omega) h4) (fun c hc1 hc2 => by
            have := h c (by omega) hc2
            rw [hasB_cons, show decide (c ≤ s.2) = false by simp; omega] at this
            simpa using this)
          rw [cntL]; omega
      · cases A with
        | nil => simp [hasB_nil] at hb
        | cons r t =>
          obtain ⟨h1, h2, h3, h4⟩ := hA
          have hs : r.1 = m := by
            have := hasB_bounds (m := r.1) (l := r :: t) ⟨Int.le_refl _, h2, h3, h4⟩ hb
            omega
          have hN' : setFrom (r.2 + 1) N := by
            cases N with
            | nil => trivial
            | cons s u =>
              obtain ⟨g1, g2, g3, g4⟩ := hN
              refine ⟨?_, g2, g3, g4⟩
              rcases Int.lt_or_le r.2 s.1 with hx | hx
              · omega
              · have := h s.1 (by omega) (by omega)
                rw [hasB_cons, hasB_cons] at this
                grind
          have := ih t N (r.2 + 1) (by simp at hl; omega) (by omega) (setFrom_mono (by omega) h4) hN' (fun c hc1 hc2 => by
            have := h c (by omega) hc2
            rw [this, hasB_cons, show decide (c ≤ r.2) = false by simp; omega]
            simp)
          rw [cntL]; omega
    · have e1 : A = [] := by
        cases A with
        | nil => rfl
        | cons r t => obtain ⟨h1, h2, h3, h4⟩ := hA; omega
      have e2 : N = [] := by
        cases N with
        | nil => rfl
        | cons r t => obtain ⟨h1, h2, h3, h4⟩ := hN; omega
      subst e1; subst e2
      simp [cntL]; omega

/-- a list from its end -/
theorem snoc_cases {α : Type} (l : List α) : l = [] ∨ ∃ c x, l = c ++ [x] := by
  rcases List.eq_nil_or_concat l with h | ⟨c, x, h⟩
  · exact .inl h
  · exact .inr ⟨c, x, by simpa using h⟩
theorem nth_last (c : List R) (x : R) : nth (c ++ [x]) c.length = x := by simp [nth, List.getD]

/-! ### exchange -/
def swapL (l : List R) (i j : Nat) : List R := (l.set i (nth l j)).set j (nth l i)
theorem swapL_len (l : List R) (i j : Nat) : (swapL l i j).length = l.length := by simp [swapL]
theorem swapL_perm {l : List R} {i j : Nat} (hi : i < l.length) (hj : j < l.length) : (swapL l i j).Perm l := by
  unfold swapL
  rw [nth_eq hi, nth_eq hj]
  exact List.set_set_perm hi hj
theorem swapL_nth {l : List R} {i j : Nat} (k : Nat) (hk : k < l.length) : nth (swapL l i j) k = if k = i then nth l j else if k = j then nth l i else nth l k := by
  unfold swapL
  have hk2 : k < ((l.set i (nth l j)).set j (nth l i)).length := by simpa using hk
  rw [nth_eq hk2, List.getElem_set, List.getElem_set]
  by_cases h1 : j = k
  · subst h1
    by_cases h2 : j = i
    · subst h2; simp
    · simp [h2]
  · by_cases h2 : i = k
    · subst h2; simp [h1]
    · simp [h1, h2, Ne.symm h1, Ne.symm h2, nth_eq hk]

/-! ### heaps, by their keys -/
def Heap (f : Nat → Int) (n : Nat) : Prop := ∀ i, 0 < i → i < n → f ((i - 1) / 2) ≤ f i
def HeapUp (f : Nat → Int) (n j : Nat) : Prop := (∀ i, 0 < i → i < n → i ≠ j → f ((i - 1) / 2) ≤ f i) ∧ (∀ i, 0 < i → i < n → (i - 1) / 2 = j → 0 < j → f ((j - 1) / 2) ≤ f i)
def HeapDn (f : Nat → Int) (n j : Nat) : Prop := (∀ i, 0 < i → i < n → (i - 1) / 2 ≠ j → f ((i - 1) / 2) ≤ f i) ∧ (∀ i, 0 < i → i < n → (i - 1) / 2 = j → 0 < j → f ((j - 1) / 2) ≤ f i)
def swF (f : Nat → Int) (i j k : Nat) : Int := if k = i then f j else if k = j then f i else f k

theorem Heap.root {f : Nat → Int} {n : Nat} (h : Heap f n) : ∀ i, i < n → f 0 ≤ f i := by
  intro i
  induction i using Nat.strongRecOn with
  | ind i ih =>
    intro hi
    by_cases h0 : i = 0
    · subst h0; exact Int.le_refl _
    · exact Int.le_trans (ih ((i - 1) / 2) (by omega) (by omega)) (h i (by omega) hi)
theorem Heap.congr {f g : Nat → Int} {n : Nat} (h : Heap f n) (he : ∀ i, i < n → g i = f i) : Heap g n := fun i h0 hi => by
  rw [he _ hi, he _ (by omega)]; exact h i h0 hi
theorem HeapUp.congr {f g : Nat → Int} {n j : Nat} (h : HeapUp f n j) (he : ∀ i, i < n → g i = f i) : HeapUp g n j :=
  ⟨fun i h0 hi hj => by rw [he _ hi, he _ (by omega)]; exact h.1 i h0 hi hj, fun i h0 hi hj h1 => by rw [he _ hi, he _ (by omega)]; exact h.2 i h0 hi hj h1⟩
theorem HeapDn.congr {f g : Nat → Int} {n j : Nat} (h : HeapDn f n j) (he : ∀ i, i < n → g i = f i) : HeapDn g n j :=
  ⟨fun i h0 hi hj => by rw [he _ hi, he _ (by omega)]; exact h.1 i h0 hi hj, fun i h0 hi hj h1 => by rw [he _ hi, he _ (by omega)]; exact h.2 i h0 hi hj h1⟩

theorem HeapUp.done0 {f : Nat → Int} {n : Nat} (h : HeapUp f n 0) : Heap f n := fun i h0 hi => h.1 i h0 hi (by omega)
theorem HeapUp.done {f : Nat → Int} {n j : Nat} (h : HeapUp f n j) (hk : f ((j - 1) / 2) ≤ f j) : Heap f n := fun i h0 hi => by
  by_cases hij : i = j
  · subst hij; exact hk
  · exact h.1 i h0 hi hij
theorem HeapUp.step {f : Nat → Int} {n j : Nat} (h : HeapUp f n j) (h0 : 0 < j) (hj : j < n) (hlt : f j < f ((j - 1) / 2)) : HeapUp (swF f ((j - 1) / 2) j) n ((j - 1) / 2) := by
  have hne : (j - 1) / 2 ≠ j := by omega
  generalize hp : (j - 1) / 2 = p at *
  refine ⟨fun i hi0 hi hip => ?_, fun i hi0 hi hip hp0 => ?_⟩
  · unfold swF
    by_cases h1 : i = j
    · subst h1
      rw [hp]; simp [Ne.symm hne]; omega
    · have hi1 := h.1 i hi0 hi h1
      by_cases h2 : (i - 1) / 2 = p
      · rw [h2] at hi1 ⊢
        simp [h1, hip]; omega
      · by_cases h3 : (i - 1) / 2 = j
        · rw [h3] at hi1 ⊢
          have := h.2 i hi0 hi h3 h0
          rw [hp] at this
          simp [Ne.symm hne, h1, hip]; omega
        · simp [h1, h2, h3, hip]; omega
  · have hpp : (p - 1) / 2 ≠ p := by omega
    have hpj : (p - 1) / 2 ≠ j := by omega
    have hpar := h.1 p hp0 (by omega) hne
    unfold swF
    by_cases h1 : i = j
    · subst h1
      simp [hpp, hpj, Ne.symm hne]; omega
    · have h2 : i ≠ p := by omega
      have hi1 := h.1 i hi0 hi h1
      rw [hip] at hi1
      simp [hpp, hpj, h1, h2]; omega

theorem HeapDn.done {f : Nat → Int} {n j : Nat} (h : HeapDn f n j) (hk : ∀ i, 0 < i → i < n → (i - 1) / 2 = j → f j ≤ f i) : Heap f n := fun i h0 hi => by
  by_cases hij : (i - 1) / 2 = j
  · rw [hij]; exact hk i h0 hi hij
  · exact h.1 i h0 hi hij
theorem HeapDn.step {f : Nat → Int} {n j c : Nat} (h : HeapDn f n j) (hc : (c - 1) / 2 = j) (hc0 : 0 < c) (hcn : c < n) (hlt : f c < f j) (hmin : ∀ i, 0 < i → i < n → (i - 1) / 2 = j → f c ≤ f i) : HeapDn (swF f j c) n c := by
  have hcj : c ≠ j := by omega
  refine ⟨fun i hi0 hi hip => ?_, fun i hi0 hi hip hp0 => ?_⟩
  · unfold swF
    by_cases h1 : (i - 1) / 2 = j
    · have := hmin i hi0 hi h1
      rw [h1]
      have hij : i ≠ j := by omega
      by_cases h2 : i = c
      · subst h2; simp [hij]; omega
      · simp [hij, h2]; omega
    · have hi1 := h.1 i hi0 hi h1
      by_cases h2 : i = j
      · subst h2
        have := h.2 c hc0 hcn hc hi0
        simp [h1, hip]; omega
      · by_cases h3 : i = c
        · subst h3; exact absurd hc h1
        · simp [h1, hip, h2, h3]; omega
  · have hij : i ≠ j := by omega
    have hic : i ≠ c := by omega
    have hi1 := h.1 i hi0 hi (by omega)
    rw [hip] at hi1
    unfold swF
    rw [hc]
    simp [hij, hic]
    omega
theorem Heap.popped {f : Nat → Int} {n : Nat} (h : Heap f (n + 1)) : HeapDn (swF f 0 n) n 0 := by
  refine ⟨fun i hi0 hi hip => ?_, fun i hi0 hi hip hp0 => by omega⟩
  have := h i hi0 (by omega)
  unfold swF
  rw [if_neg (by omega), if_neg (by omega), if_neg (by omega), if_neg (by omega)]
  exact this
theorem Heap.pushed {f : Nat → Int} {n : Nat} (h : Heap f n) : HeapUp f (n + 1) n := by
  refine ⟨fun i hi0 hi hip => h i hi0 (by omega), fun i hi0 hi hip hp0 => by omega⟩

end Go.Proofs.YtgjiofkjogjhhaaGreatDoor.Rg

namespace Go.Proofs.YtgjiofkjogjhhaaGreatDoor.Rg
open Go Go.RowKit Go.Shelf

theorem below_drewN (w : World) (k : Nat) : Below w.heap.size w (w.drewN k) := ⟨rfl, rfl, rfl, Nat.le_refl _, fun _ _ => rfl⟩
theorem grown_drew (w : World) (row : Option Nat) : w.grownBy w.drew row := ⟨rfl, rfl, rfl, Nat.le_refl _, fun _ _ _ => rfl⟩
theorem hasB_snoc (l : List R) (r : R) (c : Int) : hasB (l ++ [r]) c = (hasB l c || (decide (r.1 ≤ c) && decide (c ≤ r.2))) := by rw [hasB_append, hasB_one]
theorem two_new (W : World) (x y : Value) (t : TypeId) (N : Nat) (hN : W.heap.size = N) : ∀ j u, [x, y][j]? = some u → (W.alloc (.cells #[x, y] t)).cell? ((⟨N, 0, none⟩ : Addr).add j) = some u := by
  subst hN
  intro j u hj
  match j, hj with
  | 0, hj => simp at hj; subst hj; simp [Addr.add]
  | 1, hj => simp at hj; subst hj; simp [Addr.add]
  | j + 2, hj => simp at hj
theorem row_base {w : World} {B B' : Nat} {e : TypeId} {s n : Nat} {v : Value} {xs : List Value} (h : w.ownsRow B e s v n xs) (hb : B' ≤ B) : w.ownsRow B' e s v n xs := by
  refine ⟨h.1, ?_⟩
  rcases h.2 with h | ⟨g, cap, cur, h1, h2, h3⟩
  · exact .inl h
  · exact .inr ⟨g, cap, cur, h1, by omega, h3⟩
/-- what Of and the like tell: a set of the call's own -/
def SetOut (w : World) (P : Int → Bool) (n : Nat) (e : Ending) (w' : World) : Prop :=
  ∃ v l, e = .returned v ∧ w'.ownsRow w.heap.size 75 2 v l.length (flatR l) ∧ setFrom 0 l ∧ (∀ c, hasB l c = P c) ∧ l.length ≤ n ∧ Below w.heap.size w w'
theorem flatR_set : ∀ (l : List R) (i : Nat) (a b : Int), ((flatR l).set (i * 2) (.int .i64 a)).set (i * 2 + 1) (.int .i64 b) = flatR (l.set i (a, b))
  | [], i, a, b => by simp [flatR]
  | p :: r, 0, a, b => by simp [flatR]
  | p :: r, i + 1, a, b => by
    have := flatR_set r i a b
    rw [show (i + 1) * 2 = (i * 2) + 1 + 1 by omega]
    simp only [flatR, List.flatMap_cons, List.cons_append, List.nil_append, List.set_cons_succ] at this ⊢
    rw [this]
/-- a range of a row that the call owns, stored anew -/
theorem rowR_store {W : World} {B g cap n : Nat} {l : List R} (h : W.ownsRow B 75 2 (.slice (some ⟨g, 0, none⟩) n cap) n (flatR l)) (i : Nat) (a b : Int) :
    ((W.setCell ⟨g, i * 2, none⟩ (.int .i64 a)).setCell ⟨g, i * 2 + 1, none⟩ (.int .i64 b)).ownsRow B 75 2 (.slice (some ⟨g, 0, none⟩) n cap) n (flatR (l.set i (a, b))) ∧
    W.grownBy ((W.setCell ⟨g, i * 2, none⟩ (.int .i64 a)).setCell ⟨g, i * 2 + 1, none⟩ (.int .i64 b)) (some g) := by
  have h1 := h.stored (i * 2) (.int .i64 a)
  have h2 := h1.1.stored (i * 2 + 1) (.int .i64 b)
  rw [flatR_set] at h2
  exact ⟨h2.1, h1.2.trans h2.2⟩
/-- the last range of a row that the call owns -/
theorem rowR_last {W : World} {B g cap : Nat} {c : List R} {r : R} (h : W.ownsRow B 75 2 (.slice (some ⟨g, 0, none⟩) (c.length + 1) cap) (c.length + 1) (flatR (c ++ [r]))) :
    W.cell? ⟨g, c.length * 2, none⟩ = some (.int .i64 r.1) ∧ W.cell? ⟨g, c.length * 2 + 1, none⟩ = some (.int .i64 r.2) := by
  have hfl := flatR_at (c ++ [r]) c.length (by simp)
  rw [nth_last] at hfl
  exact ⟨by rw [h.cellAt _ (by omega), hfl.1], by rw [h.cellAt _ (by omega), hfl.2]⟩
/-- its end stored anew -/
theorem rowR_setHi {W : World} {B g cap : Nat} {c : List R} {a b b' : Int} (h : W.ownsRow B 75 2 (.slice (some ⟨g, 0, none⟩) (c.length + 1) cap) (c.length + 1) (flatR (c ++ [(a, b)]))) :
    (W.setCell ⟨g, c.length * 2 + 1, none⟩ (.int .i64 b')).ownsRow B 75 2 (.slice (some ⟨g, 0, none⟩) (c.length + 1) cap) (c.length + 1) (flatR (c ++ [(a, b')])) ∧ W.grownBy (W.setCell ⟨g, c.length * 2 + 1, none⟩ (.int .i64 b')) (some g) := by
  have h1 := h.stored (c.length * 2 + 1) (.int .i64 b')
  have e : (flatR (c ++ [(a, b)])).set (c.length * 2 + 1) (.int .i64 b') = flatR (c ++ [(a, b')]) := by
    rw [flatR_snoc, flatR_snoc, ← flatR_len c, List.set_append_right _ _ (by omega)]
    simp
  rw [e] at h1
  exact h1

end Go.Proofs.YtgjiofkjogjhhaaGreatDoor.Rg

namespace Go.Proofs.YtgjiofkjogjhhaaGreatDoor.Rg
open Go.RowKit Go.Shelf

theorem set_at {l : List R} {k : Nat} {m : Int} (h : k < l.length) : setFrom m (l.drop k) ↔ (m ≤ (nth l k).1 ∧ (nth l k).1 ≤ (nth l k).2 ∧ (nth l k).2 ≤ 1114111 ∧ setFrom ((nth l k).2 + 2) (l.drop (k + 1))) := by
  rw [List.drop_eq_getElem_cons h, nth_eq h]; rfl

/-- is c one of all numbers -/
def isC (c : Int) : Bool := decide (0 ≤ c) && decide (c ≤ 1114111)
/-- a row of the call's own, to which a range has been appended -/
theorem app_row {W w3 : World} {B : Nat} {v v' : Value} {G : List R} {r : R} (hown : w3.ownsRow B 75 2 v' (G.length + 1) (flatR G ++ [.int .i64 r.1, .int .i64 r.2])) (hgr : W.grownBy w3 v.ownBlock) (hrow : W.ownsRow B 75 2 v G.length (flatR G)) {w1 : World} (hb : Below B w1 W) (hB : B ≤ W.heap.size) :
    w3.ownsRow B 75 2 v' (G ++ [r]).length (flatR (G ++ [r])) ∧ Below B w1 w3 := by
  refine ⟨by rw [flatR_snoc]; simpa using hown, hb.grown hgr hB fun k hk => (hrow.lt k hk).1⟩

theorem inB_isC (l : List R) (c : Int) : (isC c && inB l c) = inB l c := by
  unfold isC inB
  cases decide (0 ≤ c) <;> cases decide (c ≤ 1114111) <;> simp
theorem none_at (w : World) : RngsAt w (.slice none 0 0) [] := .inl ⟨rfl, rfl⟩

/-- a number of the set, counted from its list -/
structure Bnd (L : List R) (k : Nat) (n : Int) : Prop where
  lo : 0 ≤ (nth L k).1
  mid : (nth L k).1 ≤ (nth L k).2
  hi : (nth L k).2 ≤ 1114111
  cnt : n + ((nth L k).2 - (nth L k).1 + 1) ≤ 1114112
  rest : n + ((nth L k).2 - (nth L k).1 + 1) + cntL (L.drop (k + 1)) = cntL L
theorem bnd {L : List R} (h : setFrom 0 L) {k : Nat} (hk : k < L.length) {n : Int} (hn : n + cntL (L.drop k) = cntL L) : Bnd L k n := by
  have h1 := set_all h (L[k]) (List.getElem_mem hk)
  rw [← nth_eq hk] at h1
  rw [cnt_drop hk] at hn
  have h2 := cnt_bounds h (by omega)
  have h3 := cnt_bounds (set_drop (k + 1) h) (by omega)
  exact ⟨h1.1, h1.2.1, h1.2.2, by omega, by omega⟩

end Go.Proofs.YtgjiofkjogjhhaaGreatDoor.Rg

namespace Go.Proofs.YtgjiofkjogjhhaaGreatDoor.Rg
open Go.RowKit Go.Shelf

theorem eq_len {a b : List R} (h : a.length ≠ b.length) : decide (a = b) = false := by
  rw [decide_eq_false_iff_not]; rintro rfl; exact h rfl
theorem eq_step {a b : List R} {k : Nat} (ha : k < a.length) (hb : k < b.length) (h : decide (a = b) = decide (a.drop k = b.drop k)) : decide (a = b) = (decide ((nth a k).1 = (nth b k).1 ∧ (nth a k).2 = (nth b k).2) && decide (a.drop (k + 1) = b.drop (k + 1))) := by
  rw [h, List.drop_eq_getElem_cons ha, List.drop_eq_getElem_cons hb, nth_eq ha, nth_eq hb]
  rw [Bool.eq_iff_iff]
  simp only [decide_eq_true_eq, Bool.and_eq_true, List.cons.injEq, Prod.ext_iff]

set_option maxHeartbeats 1600000 in
theorem rsame_any (a b : List R) (va vb : Value) (w : World) (ha : RngsAt w va a) (hb : RngsAt w vb b) :
    Calls Tryz.prog 55 #[va, vb] w fun e w' => e = .returned (.bool (decide (a = b))) ∧ Below w.heap.size w w' := by
  obtain ⟨ao, cap, rfl, hm, hcs⟩ := ha.shape
  obtain ⟨bo, cbp, rfl, hm2, hds⟩ := hb.shape
  have HC := Lib.hid hcs
  have HD := Lib.hid hds
  clear hcs hds ha hb
  by_cases hlen : a.length = b.length
  · go_enter Tryz.func55, Tryz.ntmps55
    go_wp2
    go_loopw [5] (fun i wr => ∃ k : Nat, i = .int .i64 k ∧ k ≤ a.length ∧ decide (a = b) = decide (a.drop k = b.drop k) ∧ Below w.heap.size w wr) (fun i _ => a.length - (intOf i).toNat)
    case atStart => exact ⟨0, rfl, Nat.zero_le _, rfl, Below.refl _ _⟩
    case round =>
      obtain ⟨k, rfl, hk, he, hb⟩ := hrel
      by_cases hlt : k < a.length
      · obtain ⟨g, rfl, c1, c2⟩ := HC.out k hlt
        obtain ⟨g', rfl, d1, d2⟩ := HD.out k (by omega)
        replace c1 := cell_next c1 hb
        replace c2 := cell_next c2 hb
        replace d1 := cell_next d1 hb
        replace d2 := cell_next d2 hb
        have n1 : (k : Int) < a.length := by omega
        have n2 : (k : Int) < b.length := by omega
        have hst := eq_step hlt (by omega) he
        by_cases hel : (nth a k).1 = (nth b k).1 ∧ (nth a k).2 = (nth b k).2
        · rw [decide_eq_true hel, Bool.true_and] at hst
          obtain ⟨q1, q2⟩ := hel
          rw [q1] at c1
          rw [q2] at c2
          have HE := Lib.hid hst
          have HB := Lib.hid hb
          clear he hb hst q1 q2
          go_wp2
          go_quiet (fail)
          go_wp2
          go_roundw
          case rel => exact ⟨k + 1, by go_num, by omega, HE.out, HB.out.trans ((below_drewN _ _).mono HB.out.size)⟩
          case measure => simp [intOf]; omega
        · rw [decide_eq_false hel, Bool.false_and] at hst
          have HE := Lib.hid hst
          have HB := Lib.hid hb
          clear he hb hst
          by_cases q1 : (nth a k).1 = (nth b k).1
          · have q2 : ((nth a k).2 == (nth b k).2) = false := by simp; exact fun h => hel ⟨q1, h⟩
            rw [q1] at c1
            clear hel q1
            go_wp2
            go_quiet (fail)
            go_wp2
            go_ret
            exact ⟨retB HE.out.symm, HB.out.trans ((below_drewN _ _).mono HB.out.size)⟩
          · have q2 : ((nth a k).1 == (nth b k).1) = false := by simpa using q1
            clear hel q1
            go_wp2
            go_quiet (fail)
            go_wp2
            go_ret
            exact ⟨retB HE.out.symm, HB.out.trans ((below_drewN _ _).mono HB.out.size)⟩
      · obtain rfl : k = a.length := by omega
        have he2 : decide (a = b) = true := by rw [he, List.drop_length, hlen, List.drop_length]; simp
        have HE := Lib.hid he2
        clear he he2
        go_wp2
        go_ret
        exact ⟨retB HE.out.symm, hb⟩
  · have HL := Lib.hid (eq_len hlen)
    go_enter Tryz.func55, Tryz.ntmps55
    go_wp2
    go_ret
    exact ⟨retB HL.out.symm, Below.refl _ _⟩

/-- a set that a call has made, as a later world meets it -/
structure MadeAt (w W : World) (v : Value) (L : List R) (P : Int → Bool) (n : Nat) : Prop where
  at' : RngsAt W v L
  set : setFrom 0 L
  has : ∀ c, hasB L c = P c
  len : L.length ≤ n
  below : Below w.heap.size w W
theorem SetOut.made {w W w' : World} {P : Int → Bool} {n : Nat} {e : Ending} (h : SetOut W P n e w') (hb : Below w.heap.size w W) : ∃ v L, e = .returned v ∧ MadeAt w w' v L P n ∧ Below W.heap.size W w' := by
  obtain ⟨v, L, rfl, hr, h1, h2, h3, h4⟩ := h
  exact ⟨v, L, rfl, ⟨rngs_of_row hr, h1, h2, h3, hb.trans (h4.mono hb.size)⟩, h4⟩
theorem MadeAt.next {w W W' : World} {v : Value} {L : List R} {P : Int → Bool} {n : Nat} (h : MadeAt w W v L P n) (hb : Below W.heap.size W W') : MadeAt w W' v L P n :=
  ⟨h.at'.next hb, h.set, h.has, h.len, h.below.trans (hb.mono h.below.size)⟩
theorem MadeAt.same {w W W' : World} {v v' : Value} {L L' : List R} {P P' : Int → Bool} {n n' : Nat} (h : MadeAt w W v L P n) (k : MadeAt w W' v' L' P' n') (hp : ∀ c, P c = P' c) : L = L' :=
  uniq h.set k.set fun c => by rw [h.has, k.has, hp]
/-- the two compared: the same -/
theorem cmp_any {w W W' : World} {v v' : Value} {L L' : List R} {P P' : Int → Bool} {n n' : Nat} (h : MadeAt w W v L P n) (hb : Below W.heap.size W W') (k : MadeAt w W' v' L' P' n') (hp : ∀ c, P c = P' c) :
    Calls Tryz.prog 55 #[v, v'] W' fun e w' => e = .returned (.bool true) ∧ Below W'.heap.size W' w' := by
  have hs := h.same k hp
  refine (rsame_any L L' v v' W' (h.at'.next hb) k.at').mono ?_
  rintro e w' ⟨rfl, h2⟩
  exact ⟨by rw [decide_eq_true hs], h2⟩

end Go.Proofs.YtgjiofkjogjhhaaGreatDoor.Rg

namespace Go.Proofs.YtgjiofkjogjhhaaGreatDoor.Rg
open Go.RowKit Go.Shelf

def insL : List Int → Int → List Int
  | [], x => [x]
  | y :: t, x => if y < x then y :: insL t x else if y = x then y :: t else x :: y :: t
theorem insL_mem : ∀ (l : List Int) (x z : Int), z ∈ insL l x ↔ z = x ∨ z ∈ l
  | [], x, z => by simp [insL]
  | y :: t, x, z => by
    unfold insL
    split
    · rw [List.mem_cons, insL_mem t x z, List.mem_cons]; grind
    · split
      · rename_i h; subst h; simp
      · simp
theorem insL_sorted : ∀ {l : List Int} {x : Int}, l.Pairwise (· < ·) → (insL l x).Pairwise (· < ·)
  | [], x, _ => by simp [insL]
  | y :: t, x, h => by
    obtain ⟨h1, h2⟩ := List.pairwise_cons.1 h
    unfold insL
    split
    · rename_i hlt
      refine List.pairwise_cons.2 ⟨fun z hz => ?_, insL_sorted h2⟩
      rcases (insL_mem _ _ _).1 hz with rfl | hz
      · exact hlt
      · exact h1 z hz
    · split
      · exact h
      · refine List.pairwise_cons.2 ⟨fun z hz => ?_, h⟩
        rcases List.mem_cons.1 hz with rfl | hz
        · omega
        · have := h1 z hz; omega
theorem insL_len : ∀ (l : List Int) (x : Int), (insL l x).length ≤ l.length + 1
  | [], x => by simp [insL]
  | y :: t, x => by
    have := insL_len t x
    unfold insL
    split
    · simp; omega
    · split <;> simp
def nthI (l : List Int) (i : Nat) : Int := l.getD i 0
theorem nthI_eq {l : List Int} {i : Nat} (h : i < l.length) : nthI l i = l[i] := by simp [nthI, List.getD, h]
theorem insL_lt {l : List Int} {k : Nat} {x : Int} (hk : k < l.length) (hlt : nthI l k < x) : insL (l.drop k) x = nthI l k :: insL (l.drop (k + 1)) x := by
  rw [List.drop_eq_getElem_cons hk, insL, ← nthI_eq hk, if_pos hlt]
theorem insL_eq {l : List Int} {k : Nat} {x : Int} (hk : k < l.length) (h : nthI l k = x) : insL (l.drop k) x = l.drop k := by
  rw [List.drop_eq_getElem_cons hk, insL, ← nthI_eq hk, if_neg (by omega), if_pos h]
theorem insL_gt {l : List Int} {k : Nat} {x : Int} (hk : k < l.length) (h : x < nthI l k) : insL (l.drop k) x = x :: l.drop k := by
  rw [List.drop_eq_getElem_cons hk, insL, ← nthI_eq hk, if_neg (by omega), if_neg (by omega)]

/-- what is known of the ends of some ranges -/
structure EndsOk (l : List R) (E : List Int) : Prop where
  sorted : E.Pairwise (· < ·)
  zero : 0 ∈ E
  top : 1114112 ∈ E
  bnd : ∀ x ∈ E, 0 ≤ x ∧ x ≤ 1114112
  los : ∀ r ∈ l, 0 < r.1 → r.1 < 1114112 → r.1 ∈ E
  his : ∀ r ∈ l, 0 ≤ r.2 → r.2 < 1114111 → r.2 + 1 ∈ E
theorem EndsOk.start : EndsOk [] [0, 1114112] := ⟨by simp, by simp, by simp, by simp, by simp, by simp⟩
theorem EndsOk.ins {l : List R} {E : List Int} (h : EndsOk l E) {x : Int} (h0 : 0 ≤ x) (h1 : x ≤ 1114112) : EndsOk l (insL E x) :=
  ⟨insL_sorted h.sorted, (insL_mem _ _ _).2 (.inr h.zero), (insL_mem _ _ _).2 (.inr h.top), fun z hz => by
    rcases (insL_mem _ _ _).1 hz with rfl | hz
    · exact ⟨h0, h1⟩
    · exact h.bnd z hz, fun r hr a b => (insL_mem _ _ _).2 (.inr (h.los r hr a b)), fun r hr a b => (insL_mem _ _ _).2 (.inr (h.his r hr a b))⟩
theorem EndsOk.more {l : List R} {E : List Int} (h : EndsOk l E) {r : R} (h1 : 0 < r.1 → r.1 < 1114112 → r.1 ∈ E) (h2 : 0 ≤ r.2 → r.2 < 1114111 → r.2 + 1 ∈ E) : EndsOk (l ++ [r]) E :=
  ⟨h.sorted, h.zero, h.top, h.bnd, fun q hq a b => by
    rcases List.mem_append.1 hq with hq | hq
    · exact h.los q hq a b
    · simp at hq; subst hq; exact h1 a b, fun q hq a b => by
    rcases List.mem_append.1 hq with hq | hq
    · exact h.his q hq a b
    · simp at hq; subst hq; exact h2 a b⟩
/-- one range's ends put among them -/
def put1 (E : List Int) (r : R) : List Int := if 0 < r.1 ∧ r.1 < 1114112 then insL E r.1 else E
def put2 (E : List Int) (r : R) : List Int := if 0 ≤ r.2 ∧ r.2 < 1114111 then insL (put1 E r) (r.2 + 1) else put1 E r
theorem EndsOk.step {l : List R} {E : List Int} (h : EndsOk l E) (r : R) : EndsOk (l ++ [r]) (put2 E r) := by
  have h1 : EndsOk l (put1 E r) := by
    unfold put1; split
    · exact h.ins (by omega) (by omega)
    · exact h
  have m1 : 0 < r.1 → r.1 < 1114112 → r.1 ∈ put1 E r := fun a b => by
    unfold put1; rw [if_pos ⟨a, b⟩]; exact (insL_mem _ _ _).2 (.inl rfl)
  by_cases hc : 0 ≤ r.2 ∧ r.2 < 1114111
  · rw [put2, if_pos hc]
    exact (h1.ins (x := r.2 + 1) (by omega) (by omega)).more (fun a b => (insL_mem _ _ _).2 (.inr (m1 a b))) (fun _ _ => (insL_mem _ _ _).2 (.inl rfl))
  · rw [put2, if_neg hc]
    exact h1.more m1 fun a b => absurd ⟨a, b⟩ hc

/-- an owned row of numbers -/
abbrev ownI (W : World) (B : Nat) (v : Value) (l : List Int) : Prop := W.ownsRow B 3 1 v l.length (l.map (Value.int .i64))
theorem ownI_cell {W : World} {B g cap n : Nat} {l : List Int} (h : W.ownsRow B 3 1 (.slice (some ⟨g, 0, none⟩) n cap) n (l.map (Value.int .i64))) (hn : l.length = n) {i : Nat} (hi : i < n) : W.cell? ⟨g, i, none⟩ = some (.int .i64 (nthI l i)) := by
  rw [h.cellAt _ (by omega)]
  simp [nthI, List.getD, hn, hi]
theorem ownI_cap {W : World} {B g cap n : Nat} {xs : List Value} (h : W.ownsRow B 3 1 (.slice (some ⟨g, 0, none⟩) n cap) n xs) : n ≤ cap ∧ cap ≤ maxLen ∧ B ≤ g ∧ g < W.heap.size := by
  have h2 := h.lt g rfl
  rcases h.2 with ⟨h', _⟩ | ⟨g', cap', cur, h', _, _, hn, hm, _⟩
  · simp at h'
  · simp at h'; omega
/-- a part of the row, as what is appended -/
theorem ownI_part {W : World} {B g cap n : Nat} {l : List Int} (h : W.ownsRow B 3 1 (.slice (some ⟨g, 0, none⟩) n cap) n (l.map (Value.int .i64))) (k m : Nat) (hkm : k + m ≤ n) :
    ∀ j u, (((l.drop k).take m).map (Value.int .i64))[j]? = some u → W.cell? ((⟨g, k, none⟩ : Addr).add j) = some u := by
  intro j u hj
  have hlen : j < m := by
    have := (List.getElem?_eq_some_iff.1 hj).1
    simp at this; omega
  have e : (⟨g, k, none⟩ : Addr).add j = ⟨g, k + j, none⟩ := by
    unfold Addr.add; split
    · rename_i h0; subst h0; rfl
    · simp
  rw [e, h.cellAt _ (by omega)]
  rw [← hj]
  simp [hlen]
theorem rowI_next {w w' : World} {B : Nat} {v : Value} {n : Nat} {xs : List Value} (h : w.ownsRow B 3 1 v n xs) (hb : Below w.heap.size w w') : w'.ownsRow B 3 1 v n xs := row_next h hb

def PutOut (B : Nat) (l : List Int) (x : Int) (w : World) (e : Ending) (w' : World) : Prop := ∃ v', e = .returned v' ∧ ownI w' B v' (insL l x) ∧ Below w.heap.size w w'

set_option maxRecDepth 100000 in
set_option maxHeartbeats 4000000 in
theorem rput_any (B : Nat) (l : List Int) (x : Int) (v : Value) (w : World) (hv : ownI w B v l) (hB : B ≤ w.heap.size) (htop : ∃ i, i < l.length ∧ x ≤ nthI l i) (hM : l.length ≤ 1000000) :
    Calls Tryz.prog 101 #[v, .int .i64 x] w fun e w' => PutOut B l x w e w' := by
  obtain ⟨i0, hi, hz0, hz1, hz2⟩ := info_parts infoI
  have h0 : 0 < l.length := by obtain ⟨i, hi, _⟩ := htop; omega
  obtain ⟨g, cap, rfl, _, _⟩ := hv.form h0
  unfold ownI at hv
  generalize hn : l.length = n at *
  have HV := Lib.hid hv
  obtain ⟨hc1, hc2, _, hg⟩ := ownI_cap hv
  unfold maxLen at hc2
  clear hv
  go_enter Tryz.func101, Tryz.ntmps101
  go_wp2
  go_loop [5] (fun i => ∃ k : Nat, k ≤ n ∧ i = .int .i64 k ∧ (insL l x = l.take k ++ insL (l.drop k) x) ∧ ∀ j, j < k → nthI l j < x) (fun i => n - (intOf i).toNat)
  case atStart => exact ⟨0, Nat.zero_le _, rfl, rfl, fun j hj => absurd hj (by omega)⟩
  case round =>
    obtain ⟨k, hk, rfl, hx, hall⟩ := hrel
    have ins : insL (l.drop k) x = x :: l.drop k → ∀ v' W, W.ownsRow B 3 1 v' (0 + k + 1 + (n - k)) ([] ++ (l.take k).map (Value.int .i64) ++ [.int .i64 x] ++ (l.drop k).map (Value.int .i64)) → Below w.heap.size w W → PutOut B l x w (.returned v') W := by
      intro h v' W hW hb
      refine ⟨v', rfl, ?_, hb⟩
      unfold ownI
      rw [hx, h, show (l.take k ++ x :: l.drop k).length = 0 + k + 1 + (n - k) by simp; omega]
      simpa using hW
    have HI := Lib.hid ins
    by_cases hlt : k < n
    · have c1 := ownI_cell HV.out hn hlt
      rcases Int.lt_trichotomy (nthI l k) x with hc | hc | hc
      · rw [insL_lt (by omega) hc] at hx
        have hx2 : insL l x = l.take (k + 1) ++ insL (l.drop (k + 1)) x := by
          rw [hx, List.take_succ_eq_append_getElem (by omega), nthI_eq (by omega), List.append_assoc]; rfl
        have HX := Lib.hid hx2
        have hall2 : ∀ j, j < k + 1 → nthI l j < x := fun j hj => by
          rcases Nat.lt_or_ge j k with h | h
          · exact hall j h
          · rwa [show j = k by omega]
        have HA := Lib.hid hall2
        clear hx hx2 ins hall hall2
        go_wp2
        go_round
        case rel => exact ⟨k + 1, by omega, by go_num, HX.out, HA.out⟩
        case measure => simp [intOf]; omega
      · rw [insL_eq (by omega) hc, List.take_append_drop] at hx
        have HX := Lib.hid hx
        rw [hc] at c1
        clear hx ins hall
        go_wp2
        go_ret
        exact ⟨_, rfl, by unfold ownI; rw [HX.out, hn]; exact HV.out, Below.refl _ _⟩
      · have hx2 := HI.out (insL_gt (by omega) hc)
        have HX := Lib.hid hx2
        have t1 : ¬ nthI l k < x := by omega
        have t2 : (nthI l k == x) = false := by simp; omega
        have hck : ¬ cap = k := by omega
        have hb0 : Below w.heap.size w (w.alloc (.cells #[] 3)) := (Below.refl _ _).alloc (Nat.le_refl _) _
        have HB0 := Lib.hid hb0
        have OL := Lib.hid (World.ownsRow_lit (e := 3) (size := 1) w #[] 0 (Nat.le_refl _) (by decide) (by simp))
        have TK := Lib.hid (List.take_of_length_le (i := n - k) (l := l.drop k) (by simp; omega))
        clear hx hx2 ins hall hb0
        go_wp2_with (at_builtin; first
          | (refine wpList_append_own _ rfl _ _ 32 rfl w.heap.size 3 i0 (.int .i64 0) 1 8 Tryz.underlying32 hi hz0 hz1 hz2 rfl (by decide) (.slice (some ⟨w.heap.size, 0, none⟩) 0 0) 0 [] rfl OL.out ⟨g, 0, none⟩ k cap (((l.drop 0).take k).map (Value.int .i64)) rfl (by simp; omega) (ownI_part (rowI_next HV.out HB0.out) 0 k (by omega)) (by intro u hu; obtain ⟨y, _, rfl⟩ := List.mem_map.1 hu; rfl) (by unfold maxLen; omega) (by omega) (by simp) ?_; intro v1 w1 hown1 hgrow1 _; go_must (have hb1 := HB0.out.grown hgrow1 (by simp) (fun k hk => by simp [Value.ownBlock] at hk; omega); have O1 := Lib.hid hown1; have B1 := Lib.hid hb1; have hs1 := hb1.size; clear hown1 hgrow1 hb1))
          | (refine wpList_append_own _ rfl _ _ 32 rfl w.heap.size 3 i0 (.int .i64 0) 1 8 Tryz.underlying32 hi hz0 hz1 hz2 rfl (by decide) v1 (0 + k) ([] ++ ((l.drop 0).take k).map (Value.int .i64)) rfl (O1.out.alloc _) ⟨w1.heap.size, 0, none⟩ 1 1 [.int .i64 x] rfl rfl (World.news_of_block (heap_alloc_new _ _)) (by simp [Value.oneCell']) (by unfold maxLen; omega) (by omega) (by simp; omega) ?_; intro v2 w2 hown2 hgrow2 _; go_must (have hb2 := (B1.out.alloc hs1 _).grown hgrow2 (by simp; omega) (fun k hk => (O1.out.lt k hk).1); have O2 := Lib.hid hown2; have B2 := Lib.hid hb2; have hs2 := hb2.size; clear hown2 hgrow2 hb2))
          | (refine wpList_append_own _ rfl _ _ 32 rfl w.heap.size 3 i0 (.int .i64 0) 1 8 Tryz.underlying32 hi hz0 hz1 hz2 rfl (by decide) v2 (0 + k + 1) ([] ++ ((l.drop 0).take k).map (Value.int .i64) ++ [.int .i64 x]) rfl O2.out ⟨g, k, none⟩ (n - k) (cap - k) ((l.drop k).map (Value.int .i64)) rfl (by simp; omega) (by have h := ownI_part (rowI_next HV.out B2.out) k (n - k) (by omega); rw [TK.out] at h; exact h) (by intro u hu; obtain ⟨y, _, rfl⟩ := List.mem_map.1 hu; rfl) (by unfold maxLen; omega) (by omega) (by omega) ?_; intro v3 w3 hown3 hgrow3 _; go_must (have hb3 := B2.out.grown hgrow3 (by omega) (fun k hk => (O2.out.lt k hk).1); have FI := Lib.hid (HX.out v3 w3 (row_base hown3 hB) hb3); clear hown3 hgrow3 hb3)))
        all_goals (go_ret; exact FI.out)
    · exfalso
      obtain ⟨i, hi1, hi2⟩ := htop
      have := hall i (by omega)
      omega

end Go.Proofs.YtgjiofkjogjhhaaGreatDoor.Rg

namespace Go.Proofs.YtgjiofkjogjhhaaGreatDoor.Rg
open Go.RowKit Go.Shelf

theorem EndsOk.reach {l : List R} {E : List Int} (h : EndsOk l E) {x : Int} (hx : x ≤ 1114112) : ∃ i, i < E.length ∧ x ≤ nthI E i := by
  obtain ⟨i, hi, he⟩ := List.mem_iff_getElem.1 h.top
  exact ⟨i, hi, by rw [nthI_eq hi, he]; exact hx⟩
theorem put1_len (E : List Int) (r : R) : (put1 E r).length ≤ E.length + 1 := by
  unfold put1; split
  · exact insL_len _ _
  · omega
theorem put2_len (E : List Int) (r : R) : (put2 E r).length ≤ E.length + 2 := by
  have h1 := put1_len E r
  have h2 := insL_len (put1 E r) (r.2 + 1)
  unfold put2; split <;> omega

def EndsOut (l : List R) (w : World) (e : Ending) (w' : World) : Prop := ∃ v E, e = .returned v ∧ ownI w' w.heap.size v E ∧ EndsOk l E ∧ E.length ≤ 2 + 2 * l.length ∧ Below w.heap.size w w'
def EndsRel (l : List R) (w : World) (s i : Value) (wr : World) : Prop :=
  ∃ (k : Nat) (E : List Int), i = .int .i64 k ∧ k ≤ l.length ∧ EndsOk (l.take k) E ∧ E.length ≤ 2 + 2 * k ∧ ownI wr w.heap.size s E ∧ Below w.heap.size w wr

set_option maxRecDepth 100000 in
set_option maxHeartbeats 4000000 in
theorem ends_any (l : List R) (v : Value) (w : World) (hv : RngsAt w v l) (hM : l.length ≤ 100000) :
    Calls Tryz.prog 79 #[v] w fun e w' => EndsOut l w e w' := by
  obtain ⟨ao, cap, rfl, hm, hcs⟩ := hv.shape
  have HC := Lib.hid hcs
  clear hcs hv
  go_enter Tryz.func79, Tryz.ntmps79
  go_wp2
  go_loopw [3, 4] (fun s i wr => EndsRel l w s i wr) (fun _ i _ => l.length - (intOf i).toNat)
  case atStart => exact ⟨0, [0, 1114112], rfl, Nat.zero_le _, EndsOk.start, by simp, World.ownsRow_lit (e := 3) (size := 1) w #[.int .i64 0, .int .i64 1114112] 2 (Nat.le_refl _) (by decide) (by simp), (Below.refl _ _).alloc (Nat.le_refl _) _⟩
  case round =>
    obtain ⟨k, E, rfl, hk, hok, hlen, hown, hb⟩ := hrel
    by_cases hlt : k < l.length
    · obtain ⟨g, rfl, c1, c2⟩ := HC.out k hlt
      replace c1 := cell_next c1 hb
      replace c2 := cell_next c2 hb
      have hst := hok.step (nth l k)
      rw [show l.take k ++ [nth l k] = l.take (k + 1) by rw [List.take_succ_eq_append_getElem hlt, nth_eq hlt]] at hst
      have hpl := put2_len E (nth l k)
      have put : ∀ E' x v' W, ownI W w.heap.size v' E' → (∃ i, i < E'.length ∧ x ≤ nthI E' i) → E'.length ≤ 1000000 → w.heap.size ≤ W.heap.size → Calls Tryz.prog 101 #[v', .int .i64 x] W fun e w' => PutOut w.heap.size E' x W e w' :=
        fun E' x v' W h1 h2 h3 h4 => rput_any w.heap.size E' x v' W h1 h4 h2 h3
      have nxt : ∀ v' W, ownI W w.heap.size v' (put2 E (nth l k)) → Below w.heap.size w W → EndsRel l w v' (.int .i64 ((k : Int) + 1)) W := fun v' W h1 h2 =>
        ⟨k + 1, _, by go_num, by omega, hst, by omega, h1, h2⟩
      have hok1 : EndsOk (l.take k) (put1 E (nth l k)) := by
        unfold put1; split
        · exact hok.ins (by omega) (by omega)
        · exact hok
      have hp1 := put1_len E (nth l k)
      have hsz := hb.size
      have NX := Lib.hid nxt
      have PU := Lib.hid put
      have HO := Lib.hid hown
      have HB := Lib.hid hb
      have HE := Lib.hid hok
      have HE1 := Lib.hid hok1
      clear hst put nxt hown hb hok hok1
      by_cases g1 : 0 < (nth l k).1 ∧ (nth l k).1 < 1114112 <;> by_cases g2 : 0 ≤ (nth l k).2 ∧ (nth l k).2 < 1114111
      · have q1 : put1 E (nth l k) = insL E (nth l k).1 := if_pos g1
        have q2 : put2 E (nth l k) = insL (insL E (nth l k).1) ((nth l k).2 + 1) := by unfold put2; rw [q1]; exact if_pos g2
        rw [q1] at HE1 hp1
        rw [q2] at NX
        clear q1 q2
        have P1 := Lib.hid (PU.out E (nth l k).1 u3 wr HO.out (HE.out.reach (by omega)) (by omega) hsz)
        go_wp2_with (first | (go_at_call 101; (with_reducible refine P1.out.mono ?_); rintro e w1 ⟨v1, rfl, hO1, hB1⟩; have d2 := cell_next c2 hB1; go_must (have hs1 := hB1.size; have P2 := Lib.hid (PU.out _ ((nth l k).2 + 1) v1 w1 hO1 (HE1.out.reach (by omega)) (by omega) (by omega)); have B1 := Lib.hid (HB.out.trans (hB1.mono hsz)); clear hO1 hB1)) | (go_at_call 101; refine P2.out.mono ?_; rintro e w2 ⟨v2, rfl, hO2, hB2⟩; go_must (have Z := Lib.hid (NX.out v2 w2 hO2 (B1.out.trans (hB2.mono (by omega)))); clear hO2 hB2)))
        all_goals (
          go_roundw
          case rel => exact Z.out
          case measure => simp [intOf]; omega)
      · have q1 : put1 E (nth l k) = insL E (nth l k).1 := if_pos g1
        have q2 : put2 E (nth l k) = insL E (nth l k).1 := by unfold put2; rw [q1]; exact if_neg g2
        rw [q1] at HE1 hp1
        rw [q2] at NX
        clear q1 q2
        have P1 := Lib.hid (PU.out E (nth l k).1 u3 wr HO.out (HE.out.reach (by omega)) (by omega) hsz)
        go_wp2_with (go_at_call 101; refine P1.out.mono ?_; rintro e w1 ⟨v1, rfl, hO1, hB1⟩; have d2 := cell_next c2 hB1; go_must (have Z := Lib.hid (NX.out v1 w1 hO1 (HB.out.trans (hB1.mono hsz))); clear hO1 hB1))
        all_goals (
          go_roundw
          case rel => exact Z.out
          case measure => simp [intOf]; omega)
      · have q1 : put1 E (nth l k) = E := if_neg g1
        have q2 : put2 E (nth l k) = insL (E) ((nth l k).2 + 1) := by unfold put2; rw [q1]; exact if_pos g2
        rw [q1] at HE1 hp1
        rw [q2] at NX
        clear q1 q2
        have P1 := Lib.hid (PU.out E ((nth l k).2 + 1) u3 wr HO.out (HE.out.reach (by omega)) (by omega) hsz)
        go_wp2_with (go_at_call 101; refine P1.out.mono ?_; rintro e w1 ⟨v1, rfl, hO1, hB1⟩; have d2 := cell_next c2 hB1; go_must (have Z := Lib.hid (NX.out v1 w1 hO1 (HB.out.trans (hB1.mono hsz))); clear hO1 hB1))
        all_goals (
          go_roundw
          case rel => exact Z.out
          case measure => simp [intOf]; omega)
      · have q1 : put1 E (nth l k) = E := if_neg g1
        have q2 : put2 E (nth l k) = E := by unfold put2; rw [q1]; exact if_neg g2
        rw [q1] at HE1 hp1
        rw [q2] at NX
        clear q1 q2
        go_wp2_with (fail)
        all_goals (
          go_roundw
          case rel => exact NX.out _ _ HO.out HB.out
          case measure => simp [intOf]; omega)
    · obtain rfl : k = l.length := by omega
      rw [List.take_length] at hok
      have HE := Lib.hid hok
      clear hok
      go_wp2
      go_ret
      exact ⟨_, E, rfl, hown, HE.out, hlen, hb⟩

/-- what is asked of a number, by its kind -/
def holdB (kind : Nat) (a b : List R) (c : Int) : Bool := match kind with
  | 1 => !inB a c
  | 2 => inB a c || inB b c
  | 3 => inB a c && inB b c
  | 4 => inB a c && !inB b c
  | _ => inB a c

set_option maxHeartbeats 1600000 in
theorem holds_any (kind : Nat) (hk : kind ≤ 4) (a b : List R) (c : Int) (va vb : Value) (w : World) (ha : RngsAt w va a) (hb : RngsAt w vb b) :
    Calls Tryz.prog 80 #[.int .i64 kind, va, vb, .int .i64 c] w fun e w' => e = .returned (.bool (holdB kind a b c)) ∧ w' = w := by
  have ca := rhas_any a c va w ha
  have cb := rhas_any b c vb w hb
  clear ha hb
  unfold holdB
  obtain ⟨x, hx⟩ : ∃ x, inB a c = x := ⟨_, rfl⟩
  obtain ⟨y, hy⟩ : ∃ y, inB b c = y := ⟨_, rfl⟩
  rw [hx] at ca ⊢
  rw [hy] at cb ⊢
  have CA := Lib.hid ca
  have CB := Lib.hid cb
  clear ca cb hx hy
  rcases (show kind = 0 ∨ kind = 1 ∨ kind = 2 ∨ kind = 3 ∨ kind = 4 by omega) with rfl | rfl | rfl | rfl | rfl
  all_goals (
    cases x <;> cases y
    all_goals (
      go_enter Tryz.func80, Tryz.ntmps80
      go_wp2_with (go_at_call 82; first | ((with_reducible refine CA.out.mono ?_); rintro e w' ⟨rfl, rfl⟩) | ((with_reducible refine CB.out.mono ?_); rintro e w' ⟨rfl, rfl⟩))
      go_ret
      exact ⟨rfl, rfl⟩))

end Go.Proofs.YtgjiofkjogjhhaaGreatDoor.Rg

namespace Go.Proofs.YtgjiofkjogjhhaaGreatDoor.Rg
open Go.RowKit

theorem add_pair (a : Addr) (i : Nat) : a.add (i * 2 + 1) = ⟨(a.add (i * 2)).block, (a.add (i * 2)).off + 1, none⟩ := by
  unfold Addr.add
  by_cases h : i * 2 = 0
  · simp [h]
  · simp [h]; omega
/-- 'append' of ranges that may be none -/
theorem wpList_app {W : World} {ops : Array Oper} {rest : List Oper} {o : Oper} {a : Act} {Q : Exit → Act → World → Prop} (hgd : o.guard = none) (s x : Operand)
    (ho : o.op = .call { callee := .builtin .append, args := #[s, x], argTypes := #[71, 71] }) (B : Nat) (v : Value) (n : Nat) (xs : List Value) (hs : a.eval s = v) (hown : W.ownsRow B 75 2 v n xs)
    (src : Value) (l : List R) (hx : a.eval x = src) (hsrc : RngsAt W src l) (hM : n + l.length ≤ 1000000) (hB : B ≤ W.heap.size)
    (h : ∀ v' w', w'.ownsRow B 75 2 v' (n + l.length) (xs ++ flatR l) → W.grownBy w' v.ownBlock → wpList Tryz.prog ops Q rest (a.put o.dst v') w') : wpList Tryz.prog ops Q (o :: rest) a W := by
  obtain ⟨i0, hi, hz0, hz1, hz2⟩ := info_parts infoR
  rcases hsrc with ⟨rfl, rfl⟩ | ⟨ad, cap, rfl, _, hc⟩
  · exact wpList_append_own_none hgd s x 71 ho B 75 i0 2 Tryz.underlying71 hi v n xs hs hown hx (h v W (by simpa [flatR] using hown) ⟨rfl, rfl, rfl, Nat.le_refl _, fun _ _ _ => rfl⟩)
  · refine wpList_append_own _ hgd s x 71 ho B 75 i0 (.agg #[.int .i64 0, .int .i64 0]) 2 16 Tryz.underlying71 hi hz0 hz1 hz2 rfl (by decide) v n xs hs hown ad l.length cap (flatR l) hx (flatR_len l) (fun j u hj => ?_) flatR_one (by unfold maxLen; omega) (by omega) hB fun v' w' h1 h2 _ => h v' w' h1 h2
    obtain ⟨i, hil, ⟨rfl, rfl⟩ | ⟨rfl, rfl⟩⟩ := flatR_cells hj
    · exact (hc i hil).1
    · rw [add_pair]; exact (hc i hil).2

end Go.Proofs.YtgjiofkjogjhhaaGreatDoor.Rg

namespace Go.Proofs.YtgjiofkjogjhhaaGreatDoor.Rg
open Go.RowKit Go.Shelf

theorem inB_const {all l : List R} {E : List Int} (h : EndsOk all E) (hl : ∀ r ∈ l, r ∈ all) {x y c : Int} (hx : x ∈ E) (hy : y ∈ E) (hgap : ∀ z ∈ E, z ≤ x ∨ y ≤ z) (h1 : x ≤ c) (h2 : c < y) : inB l c = inB l x := by
  have bx := h.bnd x hx
  have by' := h.bnd y hy
  unfold inB
  rw [show decide (0 ≤ c) = true by simp; omega, show decide (0 ≤ x) = true by simp; omega, show decide (c ≤ 1114111) = true by simp; omega, show decide (x ≤ 1114111) = true by simp; omega]
  congr 1
  unfold hasB
  rw [Bool.eq_iff_iff]
  simp only [List.any_eq_true, Bool.and_eq_true, decide_eq_true_eq]
  constructor
  · rintro ⟨r, hr, a1, a2⟩
    refine ⟨r, hr, ?_, by omega⟩
    rcases Int.lt_or_le 0 r.1 with h0 | h0
    · rcases hgap r.1 (h.los r (hl r hr) h0 (by omega)) with g | g <;> omega
    · omega
  · rintro ⟨r, hr, a1, a2⟩
    refine ⟨r, hr, by omega, ?_⟩
    rcases Int.lt_or_le r.2 c with h0 | h0
    · rcases hgap (r.2 + 1) (h.his r (hl r hr) (by omega) (by omega)) with g | g <;> omega
    · exact h0
theorem nthI_mem {E : List Int} {i : Nat} (h : i < E.length) : nthI E i ∈ E := by rw [nthI_eq h]; exact List.getElem_mem h
theorem nthI_lt {E : List Int} (h : E.Pairwise (· < ·)) {i j : Nat} (hij : i < j) (hj : j < E.length) : nthI E i < nthI E j := by
  rw [nthI_eq hj, nthI_eq (by omega)]
  exact List.pairwise_iff_getElem.1 h i j (by omega) hj hij
theorem gap_of {E : List Int} (h : E.Pairwise (· < ·)) {i : Nat} (hi : i + 1 < E.length) : ∀ z ∈ E, z ≤ nthI E i ∨ nthI E (i + 1) ≤ z := by
  intro z hz
  obtain ⟨j, hj, rfl⟩ := List.mem_iff_getElem.1 hz
  rw [← nthI_eq hj]
  rcases Nat.lt_trichotomy j i with h1 | h1 | h1
  · exact .inl (Int.le_of_lt (nthI_lt h h1 (by omega)))
  · subst h1; exact .inl (Int.le_refl _)
  · rcases Nat.lt_or_ge (i + 1) j with h2 | h2
    · exact .inr (Int.le_of_lt (nthI_lt h h2 hj))
    · rw [show j = i + 1 by omega]; exact .inr (Int.le_refl _)
theorem hold_const {a b : List R} {E : List Int} (h : EndsOk (a ++ b) E) (kind : Nat) {i : Nat} (hi : i + 1 < E.length) {c : Int} (h1 : nthI E i ≤ c) (h2 : c < nthI E (i + 1)) : holdB kind a b c = holdB kind a b (nthI E i) := by
  have ea := inB_const (l := a) h (fun r hr => List.mem_append_left _ hr) (nthI_mem (i := i) (by omega)) (nthI_mem hi) (gap_of h.sorted hi) h1 h2
  have eb := inB_const (l := b) h (fun r hr => List.mem_append_right _ hr) (nthI_mem (i := i) (by omega)) (nthI_mem hi) (gap_of h.sorted hi) h1 h2
  unfold holdB
  rw [ea, eb]
theorem EndsOk.first {l : List R} {E : List Int} (h : EndsOk l E) : 0 < E.length ∧ nthI E 0 = 0 := by
  obtain ⟨j, hj, he⟩ := List.mem_iff_getElem.1 h.zero
  have h0 : 0 < E.length := by omega
  refine ⟨h0, ?_⟩
  have hb := h.bnd _ (nthI_mem h0)
  rcases Nat.eq_zero_or_pos j with rfl | hp
  · rw [nthI_eq hj, he]
  · have := nthI_lt h.sorted hp hj
    rw [nthI_eq hj, he] at this
    omega
theorem EndsOk.last {l : List R} {E : List Int} (h : EndsOk l E) {i : Nat} (hi : i < E.length) (hl : ¬ i + 1 < E.length) : nthI E i = 1114112 := by
  obtain ⟨j, hj, he⟩ := List.mem_iff_getElem.1 h.top
  have hb := h.bnd _ (nthI_mem hi)
  rcases Nat.lt_or_ge j i with hp | hp
  · have := nthI_lt h.sorted hp hi
    rw [nthI_eq hj, he] at this
    omega
  · rw [show i = j by omega, nthI_eq hj, he]

structure SetR (H : Int → Bool) (E : List Int) (i : Nat) (out : List R) : Prop where
  set : setFrom 0 out
  below : ∀ r ∈ out, r.2 < nthI E i
  has : ∀ c, hasB out c = (decide (0 ≤ c) && decide (c < nthI E i) && H c)
  len : out.length ≤ i
/-- what is known of a step from one end to the next -/
structure Stp (H : Int → Bool) (E : List Int) (i : Nat) : Prop where
  lo : 0 ≤ nthI E i
  lt : nthI E i < nthI E (i + 1)
  hi : nthI E (i + 1) ≤ 1114112
  const : ∀ c, nthI E i ≤ c → c < nthI E (i + 1) → H c = H (nthI E i)
theorem SetR.no {H : Int → Bool} {E : List Int} {i : Nat} {out : List R} (h : SetR H E i out) (s : Stp H E i) (hn : H (nthI E i) = false) : SetR H E (i + 1) out := by
  refine ⟨h.set, fun r hr => by have := h.below r hr; have := s.lt; omega, fun c => ?_, by have := h.len; omega⟩
  have s1 := s.lo
  have s2 := s.lt
  rw [h.has]
  rcases Int.lt_or_le c (nthI E i) with hc | hc
  · rw [show decide (c < nthI E i) = true by simpa using hc, show decide (c < nthI E (i + 1)) = true by simp; omega]
  · rw [show decide (c < nthI E i) = false by simp; omega]
    rcases Int.lt_or_le c (nthI E (i + 1)) with hd | hd
    · rw [s.const c hc hd, hn]; simp
    · rw [show decide (c < nthI E (i + 1)) = false by simp; omega]
theorem step_has {H : Int → Bool} {E : List Int} {i : Nat} (s : Stp H E i) (hy : H (nthI E i) = true) (c : Int) : (decide (0 ≤ c) && decide (c < nthI E (i + 1)) && H c) = ((decide (0 ≤ c) && decide (c < nthI E i) && H c) || (decide (nthI E i ≤ c) && decide (c ≤ nthI E (i + 1) - 1))) := by
  have s1 := s.lo
  have s2 := s.lt
  rcases Int.lt_or_le c (nthI E i) with hc | hc
  · rw [show decide (c < nthI E i) = true by simpa using hc, show decide (c < nthI E (i + 1)) = true by simp; omega, show decide (nthI E i ≤ c) = false by simp; omega]; simp
  · rw [show decide (c < nthI E i) = false by simp; omega, show decide (nthI E i ≤ c) = true by simpa using hc, show decide (0 ≤ c) = true by simp; omega]
    rcases Int.lt_or_le c (nthI E (i + 1)) with hd | hd
    · rw [s.const c hc hd, hy, show decide (c < nthI E (i + 1)) = true by simpa using hd, show decide (c ≤ nthI E (i + 1) - 1) = true by simp; omega]; simp
    · rw [show decide (c < nthI E (i + 1)) = false by simp; omega, show decide (c ≤ nthI E (i + 1) - 1) = false by simp; omega]; simp
theorem SetR.ext {H : Int → Bool} {E : List Int} {i : Nat} {c : List R} {a b : Int} (h : SetR H E i (c ++ [(a, b)])) (s : Stp H E i) (hy : H (nthI E i) = true) (hb : b = nthI E i - 1) : SetR H E (i + 1) (c ++ [(a, nthI E (i + 1) - 1)]) := by
  have s1 := s.lo
  have s2 := s.lt
  have s3 := s.hi
  obtain ⟨p1, p2, p3, p4, p5⟩ := set_parts h.set
  simp only at p3 p4 p5
  refine ⟨set_last h.set (by omega) (by omega), fun r hr => ?_, fun x => ?_, by have := h.len; simp at this ⊢; omega⟩
  · rcases List.mem_append.1 hr with hr | hr
    · have := h.below r (List.mem_append_left _ hr); omega
    · simp at hr; subst hr; simp only; omega
  · rw [step_has s hy, ← h.has x, hasB_snoc, hasB_snoc, Bool.or_assoc]
    congr 1
    rw [Bool.eq_iff_iff]
    simp
    omega
theorem SetR.app {H : Int → Bool} {E : List Int} {i : Nat} {out : List R} (h : SetR H E i out) (s : Stp H E i) (hy : H (nthI E i) = true) (hn : ∀ c a b, out = c ++ [(a, b)] → b ≠ nthI E i - 1) : SetR H E (i + 1) (out ++ [(nthI E i, nthI E (i + 1) - 1)]) := by
  have s1 := s.lo
  have s2 := s.lt
  have s3 := s.hi
  refine ⟨set_snoc h.set (fun r hr => ?_) s1 (by simp only; omega) (by simp only; omega), fun r hr => ?_, fun x => ?_, by have := h.len; simp; omega⟩
  · rcases snoc_cases out with rfl | ⟨c, ⟨a, b⟩, rfl⟩
    · simp at hr
    · have hb := hn c a b rfl
      have hl := h.below (a, b) (by simp)
      simp only at hl ⊢
      obtain ⟨p1, p2, p3, p4, p5⟩ := set_parts h.set
      rcases List.mem_append.1 hr with hr | hr
      · have := p2 r hr; simp only at this p4; omega
      · simp at hr; subst hr; simp only; omega
  · rcases List.mem_append.1 hr with hr | hr
    · have := h.below r hr; omega
    · simp at hr; subst hr; simp only; omega
  · rw [step_has s hy, ← h.has x, hasB_snoc]

end Go.Proofs.YtgjiofkjogjhhaaGreatDoor.Rg

namespace Go.Proofs.YtgjiofkjogjhhaaGreatDoor.Rg
open Go.RowKit Go.Shelf

def SetRel (kind : Nat) (a b : List R) (E : List Int) (w3 : World) (s i : Value) (wr : World) : Prop :=
  ∃ (k : Nat) (out : List R), i = .int .i64 k ∧ k < E.length ∧ SetR (holdB kind a b) E k out ∧ wr.ownsRow w3.heap.size 75 2 s out.length (flatR out) ∧ (out = [] → s = .slice none 0 0) ∧ Below w3.heap.size w3 wr

set_option maxRecDepth 100000 in
set_option maxHeartbeats 8000000 in
theorem set_any (kind : Nat) (hkd : kind ≤ 4) (a b : List R) (va vb : Value) (w : World) (ha : RngsAt w va a) (hb : RngsAt w vb b) (hM : a.length + b.length ≤ 40000) :
    Calls Tryz.prog 56 #[.int .i64 kind, va, vb] w fun e w' => SetOut w (fun c => isC c && holdB kind a b c) (2 + 2 * (a.length + b.length)) e w' := by
  obtain ⟨i0, hi, hz0, hz1, hz2⟩ := info_parts infoR
  have HA := Lib.hid ha
  have HBB := Lib.hid hb
  have AN := Lib.hid (fun w1 v (h : RngsAt w1 v (a ++ b)) => ends_any (a ++ b) v w1 h (by simp; omega))
  have CO := Lib.hid (fun (E : List Int) (h : EndsOk (a ++ b) E) (i : Nat) (hi : i + 1 < E.length) (c : Int) h1 h2 => hold_const h kind hi (c := c) h1 h2)
  have HD := Lib.hid (fun c W (h : Below w.heap.size w W) => holds_any kind hkd a b c va vb W (ha.next h) (hb.next h))
  clear ha hb
  go_enter Tryz.func56, Tryz.ntmps56
  go_wp2_with (first
    | (at_builtin; first
      | (refine wpList_app rfl _ _ rfl w.heap.size (.slice none 0 0) 0 [] rfl (World.ownsRow_nil _ _ _ _) va a rfl HA.out (by omega) (Nat.le_refl _) ?_; intro v1 w1 hown1 hg1; go_must (have O1 := Lib.hid hown1; have B1 := Lib.hid ((Below.refl w.heap.size w).grown hg1 (Nat.le_refl _) (fun k hk => by simp [Value.ownBlock] at hk)); have s1 := B1.out.size; clear hown1 hg1))
      | (refine wpList_app rfl _ _ rfl w.heap.size v1 (0 + a.length) ([] ++ flatR a) rfl O1.out vb b rfl (HBB.out.next B1.out) (by omega) s1 ?_; intro v2 w2 hown2 hg2; go_must (have B2 := Lib.hid (B1.out.grown hg2 s1 (fun k hk => (O1.out.lt k hk).1)); have R2 := Lib.hid (rngs_of_row (v := v2) (l := a ++ b) (by rw [flatR_append]; simpa using hown2)); have s2 := B2.out.size; clear hown2 hg2)))
    | (go_at_call 79; refine (AN.out w2 v2 R2.out).mono ?_; rintro e w3 ⟨v3, E, rfl, hE, hok, hEl, hb3⟩; go_must (have B3 := Lib.hid (B2.out.trans (hb3.mono s2)); have s3 := B3.out.size; have OK := Lib.hid hok; rw [List.length_append] at hEl; obtain ⟨hE0, hE1⟩ := hok.first; have OE := Lib.hid hE; obtain ⟨ge, ce, rfl, _, _⟩ := hE.form hE0; clear hE hb3 hok)))
  go_loopw [9, 10] (fun s i wr => SetRel kind a b E w3 s i wr) (fun _ i _ => E.length - (intOf i).toNat)
  case atStart =>
    exact ⟨0, [], rfl, hE0, ⟨trivial, (by simp), fun c => by rw [hE1, hasB_nil]; have : (decide (0 ≤ c) && decide (c < 0)) = false := (by simp); rw [this]; rfl, Nat.le_refl _⟩, World.ownsRow_nil _ _ _ _, fun _ => rfl, Below.refl _ _⟩
  case round =>
    obtain ⟨k, out, rfl, hk, hR, hrow, hnil, hbw⟩ := hrel
    have hsz := hbw.size
    by_cases hlt : k + 1 < E.length
    · have OE' := rowI_next OE.out hbw
      have c1 := ownI_cell OE' rfl (i := k) (by omega)
      have c2 := ownI_cell OE' rfl (i := k + 1) hlt
      have hlt1 := nthI_lt OK.out.sorted (Nat.lt_succ_self k) hlt
      have hb1 := OK.out.bnd _ (nthI_mem (i := k) (by omega))
      have hb2 := OK.out.bnd _ (nthI_mem hlt)
      have hge := (ownI_cap OE').2.2.2
      have n1 : (k : Int) + 1 < (E.length : Int) := by omega
      have n2 : (k : Int) < (E.length : Int) := by omega
      have n3 : (0 : Int) ≤ (k : Int) + 1 := by omega
      have z1 : IntKind.i64.wrap ((k : Int) + 1) = (k : Int) + 1 := by rw [IntKind.wrap_i64]; omega
      have z3 : ((k : Int) + 1).toNat = k + 1 := by omega
      obtain ⟨b1, b2⟩ := hb1
      obtain ⟨b3, b4⟩ := hb2
      have z2 : IntKind.i64.wrap (nthI E (k + 1) - 1) = nthI E (k + 1) - 1 := by rw [IntKind.wrap_i64]; omega
      have z4 : IntKind.i64.wrap (nthI E k - 1) = nthI E k - 1 := by rw [IntKind.wrap_i64]; omega
      have st : Stp (holdB kind a b) E k := ⟨b1, hlt1, b4, fun c h1 h2 => CO.out E OK.out k hlt c h1 h2⟩
      have hd := HD.out (nthI E k) wr (B3.out.trans (hbw.mono s3))
      have HROW := Lib.hid hrow
      have HBW := Lib.hid hbw
      have hol := hR.len
      cases hh : holdB kind a b (nthI E k)
      · rw [hh] at hd
        have hn := hR.no st hh
        have HDD := Lib.hid hd
        have HN := Lib.hid hn
        have HNIL := Lib.hid hnil
        clear hd hn st hh hR hrow hbw hnil OE'
        go_wp2_with (go_at_call 80; refine HDD.out.mono ?_; rintro e w' ⟨rfl, hw⟩; subst hw)
        go_roundw
        case rel => exact ⟨k + 1, out, by go_num, hlt, HN.out, HROW.out, HNIL.out, HBW.out⟩
        case measure => simp [intOf]; omega
      · rw [hh] at hd
        have HDD := Lib.hid hd
        rcases snoc_cases out with rfl | ⟨c, ⟨x, y⟩, rfl⟩
        · obtain rfl := hnil rfl
          have hn := hR.app st hh (fun c a b e => by simp at e)
          have app : ∀ W v' w4, w4.ownsRow w3.heap.size 75 2 v' (0 + 1) ([] ++ [.int .i64 (nthI E k), .int .i64 (nthI E (k + 1) - 1)]) → W.grownBy w4 (Value.slice none 0 0).ownBlock → Below wr.heap.size wr W → SetRel kind a b E w3 v' (.int .i64 ((k : Int) + 1)) w4 := by
            intro W v' w4 hown hgr hW
            obtain ⟨r1, r2⟩ := app_row (G := []) (r := (nthI E k, nthI E (k + 1) - 1)) hown hgr (World.ownsRow_nil _ _ _ _) (hbw.trans (hW.mono hsz)) (by have := hW.size; omega)
            exact ⟨k + 1, _, by go_num, hlt, hn, r1, fun e => absurd e (by simp), r2⟩
          have AP := Lib.hid app
          clear hd hn st hh hR hrow hbw hnil OE' app
          go_wp2_with (go_at_call 80; refine HDD.out.mono ?_; rintro e w' ⟨rfl, hw⟩; subst hw)
          go_quiet (fail)
          go_wp2
          go_region_law (refine step_append_lies _ rfl (.tmp 69) (.tmp 81) 71 rfl w3.heap.size 75 i0 (.agg #[.int .i64 0, .int .i64 0]) 2 16 Tryz.underlying71 hi hz0 hz1 hz2 rfl (by decide) (.slice none 0 0) 0 [] rfl (World.ownsRow_nil _ _ _ _) ⟨w'.heap.size, 0, none⟩ 1 1 [.int .i64 (nthI E k), .int .i64 (nthI E (k + 1) - 1)] rfl rfl (two_new _ _ _ _ _ (by simp)) (by simp [Value.oneCell']) (by decide) (by unfold maxLen; omega) (by omega) (by simp; omega) _ rfl ?_; intro g cap w4 hown hgrow _ _; go_must (have ZZ := Lib.hid (AP.out _ _ _ hown hgrow ((below_drewN _ _).alloc (by simp) _)); clear hown hgrow))
          all_goals (
            go_wp2
            go_roundw
            case rel => exact ZZ.out
            case measure => simp [intOf]; omega)
        · have hcl : (c ++ [(x, y)]).length = c.length + 1 := by simp
          rw [hcl] at hrow hol
          obtain ⟨g2, cap2, rfl⟩ := ownsRow_succ hrow
          obtain ⟨d1, d2⟩ := rowR_last hrow
          have fz := hrow.frozenAt
          have hg2 := (hrow.lt g2 rfl).2
          have HROW2 := Lib.hid hrow
          have hyb := hR.below (x, y) (by simp)
          simp only at hyb
          obtain ⟨p1, p2, p3, p4, p5⟩ := set_parts hR.set
          simp only at p3 p4 p5
          by_cases hye : y = nthI E k - 1
          · have hn := hR.ext st hh hye
            have ext : ∀ W, Below wr.heap.size wr W → SetRel kind a b E w3 (.slice (some ⟨g2, 0, none⟩) (c.length + 1) cap2) (.int .i64 ((k : Int) + 1)) ((W.setCell ⟨g2, c.length * 2, none⟩ (.int .i64 x)).setCell ⟨g2, c.length * 2 + 1, none⟩ (.int .i64 (nthI E (k + 1) - 1))) := by
              intro W hW
              obtain ⟨r1, r2⟩ := rowR_store (rowR_next hrow hW) c.length x (nthI E (k + 1) - 1)
              rw [show (c ++ [(x, y)]).set c.length (x, nthI E (k + 1) - 1) = c ++ [(x, nthI E (k + 1) - 1)] by rw [List.set_append_right _ _ (Nat.le_refl _)]; simp] at r1
              exact ⟨k + 1, _, by go_num, hlt, hn, by simpa using r1, fun e => absurd e (by simp), (hbw.trans (hW.mono hsz)).grown r2 (by have := hW.size; omega) (fun k hk => by simp at hk; subst hk; exact (hrow.lt g2 rfl).1)⟩
            have EX := Lib.hid ext
            subst hye
            clear hd hn st hh hR hrow hbw hnil OE' ext p1 p2 hcl
            generalize hm : c.length = m at *
            have HM := Lib.hid hm
            clear hm
            have n5 : ¬ ((m : Int) < 0) := by omega
            have n6 : (0 : Int) ≤ m := by omega
            have n7 : (m : Int) < (m : Int) + 1 := by omega
            go_wp2_with (go_at_call 80; refine HDD.out.mono ?_; rintro e w' ⟨rfl, hw⟩; subst hw)
            go_quiet (fail)
            go_wp2
            go_region
            all_goals (
              go_wp2
              go_roundw
              case rel => exact EX.out _ (below_drewN _ _)
              case measure => simp [intOf]; omega)
          · have hn := hR.app st hh (fun c' a' b' e => by
              have := (List.append_inj' e rfl).2
              simp at this
              rw [← this.2]; exact hye)
            have app : ∀ W v' w4, w4.ownsRow w3.heap.size 75 2 v' (c.length + 1 + 1) (flatR (c ++ [(x, y)]) ++ [.int .i64 (nthI E k), .int .i64 (nthI E (k + 1) - 1)]) → W.grownBy w4 (Value.slice (some ⟨g2, 0, none⟩) (c.length + 1) cap2).ownBlock → Below wr.heap.size wr W → SetRel kind a b E w3 v' (.int .i64 ((k : Int) + 1)) w4 := by
              intro W v' w4 hown hgr hW
              obtain ⟨r1, r2⟩ := app_row (G := c ++ [(x, y)]) (r := (nthI E k, nthI E (k + 1) - 1)) (by simpa using hown) hgr (by simpa using rowR_next hrow hW) (hbw.trans (hW.mono hsz)) (by have := hW.size; omega)
              exact ⟨k + 1, _, by go_num, hlt, hn, r1, fun e => absurd e (by simp), r2⟩
            have AP := Lib.hid app
            have hye2 : (y == nthI E k - 1) = false := by simpa using hye
            clear hd hn st hh hR hrow hbw hnil OE' app p1 p2 hcl
            generalize hm : c.length = m at *
            have HM := Lib.hid hm
            clear hm
            have n5 : ¬ ((m : Int) < 0) := by omega
            have n6 : (0 : Int) ≤ m := by omega
            have n7 : (m : Int) < (m : Int) + 1 := by omega
            go_wp2_with (go_at_call 80; refine HDD.out.mono ?_; rintro e w' ⟨rfl, hw⟩; subst hw)
            go_quiet (fail)
            go_wp2
            go_region_law (refine step_append_lies _ rfl (.tmp 69) (.tmp 81) 71 rfl w3.heap.size 75 i0 (.agg #[.int .i64 0, .int .i64 0]) 2 16 Tryz.underlying71 hi hz0 hz1 hz2 rfl (by decide) (.slice (some ⟨g2, 0, none⟩) (m + 1) cap2) (m + 1) (flatR (c ++ [(x, y)])) rfl (rowR_next HROW2.out ((below_drewN _ _).alloc (by simp) _)) ⟨w'.heap.size, 0, none⟩ 1 1 [.int .i64 (nthI E k), .int .i64 (nthI E (k + 1) - 1)] rfl rfl (two_new _ _ _ _ _ (by simp)) (by simp [Value.oneCell']) (by decide) (by unfold maxLen; omega) (by omega) (by simp; omega) _ rfl ?_; intro g cap w4 hown hgrow _ _; go_must (have ZZ := Lib.hid (AP.out _ _ _ hown hgrow ((below_drewN _ _).alloc (by simp) _)); clear hown hgrow))
            all_goals (
              go_wp2
              go_roundw
              case rel => exact ZZ.out
              case measure => simp [intOf]; omega)
    · have he := OK.out.last hk hlt
      have fin : ∀ c, hasB out c = (isC c && holdB kind a b c) := fun c => by
        rw [hR.has, he, isC]
        congr 2
        rw [Bool.eq_iff_iff]; simp; omega
      have FI := Lib.hid fin
      have ST := Lib.hid hR.set
      have hol := hR.len
      have n9 : ¬ ((k : Int) + 1 < (E.length : Int)) := by omega
      have n8 : (k : Int) ≤ 1000000 := by omega
      clear hR fin
      go_wp2
      go_ret
      exact ⟨_, out, rfl, row_base hrow s3, ST.out, FI.out, by omega, B3.out.trans (hbw.mono s3)⟩

end Go.Proofs.YtgjiofkjogjhhaaGreatDoor.Rg

namespace Go.Proofs.YtgjiofkjogjhhaaGreatDoor.Rg
open Go.RowKit Go.Shelf

/-- is it a set -/
noncomputable def rightB (l : List R) : Bool := @decide (setFrom 0 l) (Classical.propDecidable _)
theorem rightB_iff (l : List R) : rightB l = true ↔ setFrom 0 l := by unfold rightB; exact @decide_eq_true_iff _ (Classical.propDecidable _)
theorem rightB_of {l : List R} {b : Bool} (h : b = true ↔ setFrom 0 l) : b = rightB l := by
  rw [Bool.eq_iff_iff, rightB_iff]; exact h
set_option maxHeartbeats 800000 in
theorem rright_all (l : List R) (v : Value) (w : World) (hv : RngsAt w v l) (hM : l.length ≤ 40000) : Calls Tryz.prog 38 #[v] w fun e w' => e = .returned (.bool (rightB l)) ∧ Below w.heap.size w w' := by
  have c1 := Lib.hid (set_any 0 (by omega) l [] v (.slice none 0 0) w hv (none_at w) (by simpa using hM))
  have c2 := Lib.hid (fun L v2 w1 (h : RngsAt w1 v2 L) (hb : Below w.heap.size w w1) => rsame_any l L v v2 w1 (hv.next hb) h)
  clear hv
  go_enter Tryz.func38, Tryz.ntmps38
  go_wp2_with (first
    | (go_at_call 56; refine c1.out.mono ?_; rintro e w1 ⟨v1, L, rfl, hr, h1, h2, h3, h4⟩; have C2 := Lib.hid (c2.out L v1 w1 (rngs_of_row hr) h4); have H1 := Lib.hid h1; have H2 := Lib.hid h2; have H4 := Lib.hid h4; clear h1 h2 h4 hr)
    | (go_at_call 55; refine C2.out.mono ?_; rintro e w2 ⟨rfl, hb2⟩))
  go_ret
  refine ⟨retB ?_, H4.out.trans (hb2.mono H4.out.size)⟩
  refine rightB_of ?_
  rw [decide_eq_true_iff]
  constructor
  · rintro rfl; exact H1.out
  · intro h
    refine uniq h H1.out fun c => ?_
    rw [H2.out]
    show hasB l c = (isC c && inB l c)
    rw [inB_isC, inB_set h]

end Go.Proofs.YtgjiofkjogjhhaaGreatDoor.Rg

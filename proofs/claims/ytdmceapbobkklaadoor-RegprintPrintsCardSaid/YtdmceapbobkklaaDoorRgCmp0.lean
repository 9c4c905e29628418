/- All numbers; ranges appended; a number of a set, counted from its list. -/
import Derived.Test.YtdmceapbobkklaaDoorRgOf
import Derived.Deep.DeepMust
namespace Go.Proofs.YtdmceapbobkklaaDoor.Rg
open Go.RowKit Go.Shelf

theorem set_at {l : List R} {k : Nat} {m : Int} (h : k < l.length) : setFrom m (l.drop k) ↔ (m ≤ (nth l k).1 ∧ (nth l k).1 ≤ (nth l k).2 ∧ (nth l k).2 ≤ 1114111 ∧ setFrom ((nth l k).2 + 2) (l.drop (k + 1))) := by
  rw [List.drop_eq_getElem_cons h, nth_eq h]; rfl

/-- is c one of all numbers -/
def isC (c : Int) : Bool := decide (0 ≤ c) && decide (c ≤ 1114111)
/-- a row of the call's own, to which a range has been appended -/
theorem app_row {W w3 : World} {B : Nat} {v v' : Value} {G : List R} {r : R} (hown : w3.ownsRow B 75 2 v' (G.length + 1) (flatR G ++ [.int .i64 r.1, .int .i64 r.2])) (hgr : W.grownBy w3 v.ownBlock) (hrow : W.ownsRow B 75 2 v G.length (flatR G)) {w1 : World} (hb : Below B w1 W) (hB : B ≤ W.heap.size) :
    w3.ownsRow B 75 2 v' (G ++ [r]).length (flatR (G ++ [r])) ∧ Below B w1 w3 := by
  refine ⟨by rw [flatR_snoc]; simpa using hown, hb.grown hgr hB fun k hk => (hrow.lt k hk).1⟩

theorem inB_isC (l : List R) (c : Int) : (isC c && inB l c) = inB l c := by
  unfold isC inB
  cases decide (0 ≤ c) <;> cases decide (c ≤ 1114111) <;> simp
theorem none_at (w : World) : RngsAt w (.slice none 0 0) [] := .inl ⟨rfl, rfl⟩

/-- a number of the set, counted from its list -/
structure Bnd (L : List R) (k : Nat) (n : Int) : Prop where
  lo : 0 ≤ (nth L k).1
  mid : (nth L k).1 ≤ (nth L k).2
  hi : (nth L k).2 ≤ 1114111
  cnt : n + ((nth L k).2 - (nth L k).1 + 1) ≤ 1114112
  rest : n + ((nth L k).2 - (nth L k).1 + 1) + cntL (L.drop (k + 1)) = cntL L
theorem bnd {L : List R} (h : setFrom 0 L) {k : Nat} (hk : k < L.length) {n : Int} (hn : n + cntL (L.drop k) = cntL L) : Bnd L k n := by
  have h1 := set_all h (L[k]) (List.getElem_mem hk)
  rw [← nth_eq hk] at h1
  rw [cnt_drop hk] at hn
  have h2 := cnt_bounds h (by omega)
  have h3 := cnt_bounds (set_drop (k + 1) h) (by omega)
  exact ⟨h1.1, h1.2.1, h1.2.2, by omega, by omega⟩

end Go.Proofs.YtdmceapbobkklaaDoor.Rg

/- Slices of ranges as a call meets them. -/
import Derived.Test.YtdmceapbobkklaaDoorInts
import Derived.Maps.AppendAt
import Derived.Laws.OwnMore
import Derived.Lib.OthersKept
import Derived.Lib.Hide
namespace Go.Proofs.YtdmceapbobkklaaDoor.Rg
open Go.RowKit

abbrev R := Int × Int
def flatR (l : List R) : List Value := l.flatMap fun p => [Value.int .i64 p.1, Value.int .i64 p.2]
theorem flatR_snoc (l : List R) (p : R) : flatR (l ++ [p]) = flatR l ++ [Value.int .i64 p.1, Value.int .i64 p.2] := by simp [flatR]
theorem flatR_append (l k : List R) : flatR (l ++ k) = flatR l ++ flatR k := by simp [flatR]
theorem flatR_len : ∀ l : List R, (flatR l).length = l.length * 2
  | [] => rfl
  | p :: r => by
    have := flatR_len r
    simp only [flatR, List.flatMap_cons, List.length_append, List.length_cons, List.length_nil] at this ⊢
    omega
/-- the i-th range -/
def nth (l : List R) (i : Nat) : R := l.getD i (0, 0)
theorem nth_eq {l : List R} {i : Nat} (h : i < l.length) : nth l i = l[i] := by simp [nth, List.getD, h]
theorem flatR_at : ∀ (l : List R) (i : Nat), i < l.length → (flatR l)[i * 2]? = some (.int .i64 (nth l i).1) ∧ (flatR l)[i * 2 + 1]? = some (.int .i64 (nth l i).2)
  | [], i, h => by simp at h
  | p :: r, 0, h => by simp [flatR, nth]
  | p :: r, i + 1, h => by
    have := flatR_at r i (by simpa using h)
    rw [show (i + 1) * 2 = (i * 2) + 1 + 1 by omega]
    simpa [flatR, nth] using this
theorem flatR_one {l : List R} : ∀ u ∈ flatR l, u.oneCell' = true := by
  intro u hu
  simp only [flatR, List.mem_flatMap, List.mem_cons, List.not_mem_nil, or_false] at hu
  obtain ⟨p, _, rfl | rfl⟩ := hu <;> simp [Value.oneCell']
theorem flatR_cells {l : List R} {j : Nat} {u : Value} (h : (flatR l)[j]? = some u) : ∃ i, i < l.length ∧ ((j = i * 2 ∧ u = .int .i64 (nth l i).1) ∨ (j = i * 2 + 1 ∧ u = .int .i64 (nth l i).2)) := by
  have hj : j < l.length * 2 := by rw [← flatR_len]; exact (List.getElem?_eq_some_iff.1 h).1
  have hi := flatR_at l (j / 2) (by omega)
  refine ⟨j / 2, by omega, ?_⟩
  rcases Nat.mod_two_eq_zero_or_one j with hm | hm
  · have e : j / 2 * 2 = j := by omega
    rw [e] at hi
    exact .inl ⟨by omega, by rw [hi.1] at h; exact (Option.some.inj h).symm⟩
  · have e : j / 2 * 2 + 1 = j := by omega
    rw [e] at hi
    exact .inr ⟨by omega, by rw [hi.2] at h; exact (Option.some.inj h).symm⟩

/-- a slice that reads as these ranges -/
def RngsAt (w : World) (v : Value) (l : List R) : Prop :=
  (v = .slice none 0 0 ∧ l = []) ∨ ∃ (a : Addr) (cap : Nat), v = .slice (some a) l.length cap ∧ l.length ≤ maxLen ∧ ∀ i, i < l.length → w.cell? (a.add (i * 2)) = some (.int .i64 (nth l i).1) ∧ w.cell? ⟨(a.add (i * 2)).block, (a.add (i * 2)).off + 1, none⟩ = some (.int .i64 (nth l i).2)

theorem RngsAt.next {w w' : World} {v : Value} {l : List R} (h : RngsAt w v l) (hb : Below w.heap.size w w') : RngsAt w' v l := by
  rcases h with h | ⟨a, cap, hv, hm, hc⟩
  · exact .inl h
  · exact .inr ⟨a, cap, hv, hm, fun i hi => ⟨cell_next (hc i hi).1 hb, cell_next (hc i hi).2 hb⟩⟩
theorem RngsAt.shape {w : World} {v : Value} {l : List R} (h : RngsAt w v l) :
    ∃ (ao : Option Addr) (cap : Nat), v = .slice ao l.length cap ∧ l.length ≤ 9223372036854775807 ∧ ∀ i, i < l.length → ∃ g, ao = some g ∧ w.cell? (g.add (i * 2)) = some (.int .i64 (nth l i).1) ∧ w.cell? ⟨(g.add (i * 2)).block, (g.add (i * 2)).off + 1, none⟩ = some (.int .i64 (nth l i).2) := by
  rcases h with ⟨rfl, rfl⟩ | ⟨a, cap, hv, hm, hc⟩
  · exact ⟨none, 0, rfl, by simp, fun i hi => by simp at hi⟩
  · exact ⟨some a, cap, hv, by unfold maxLen at hm; omega, fun i hi => ⟨a, rfl, hc i hi⟩⟩

theorem infoR : (Tryd.prog.info? 75).map (fun i => (i.zero, i.size, i.bytes)) = some (some (.agg #[.int .i64 0, .int .i64 0]), 2, 16) := by kernel_rfl

theorem add_zero (g i : Nat) : (⟨g, 0, none⟩ : Addr).add i = ⟨g, i, none⟩ := by
  unfold Addr.add; split
  · rename_i h0; subst h0; rfl
  · simp
/-- a slice that the call owns reads as its ranges -/
theorem rngs_of_row {w : World} {B : Nat} {v : Value} {l : List R} (h : w.ownsRow B 75 2 v l.length (flatR l)) : RngsAt w v l := by
  rcases h.2 with ⟨rfl, h0⟩ | ⟨g, cap, cur, rfl, _, hg, hn, hm, hcs, ht⟩
  · exact .inl ⟨rfl, List.eq_nil_of_length_eq_zero h0⟩
  · have hx : ∀ j x, (flatR l)[j]? = some x → w.cell? ⟨g, j, none⟩ = some x := fun j x hj => by
      rw [← ht, List.getElem?_take] at hj
      split at hj
      · simp [World.cell?, hg]; simpa using hj
      · cases hj
    refine .inr ⟨⟨g, 0, none⟩, cap, rfl, by omega, fun i hi => ?_⟩
    have := flatR_at l i hi
    rw [add_zero]
    refine ⟨hx _ _ this.1, ?_⟩
    exact hx _ _ this.2

theorem rowR_next {w w' : World} {B : Nat} {v : Value} {n : Nat} {xs : List Value} (h : w.ownsRow B 75 2 v n xs) (hb : Below w.heap.size w w') : w'.ownsRow B 75 2 v n xs := by
  refine h.kept (grown_below hb) ?_
  rcases h.2 with ⟨rfl, _⟩ | ⟨g, cap, cur, rfl, _⟩
  · exact .inl rfl
  · exact .inr (by simp [Value.ownBlock])

end Go.Proofs.YtdmceapbobkklaaDoor.Rg

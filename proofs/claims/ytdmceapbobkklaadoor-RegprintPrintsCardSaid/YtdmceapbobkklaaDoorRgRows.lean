/- Slices of ranges' slices. -/
import Derived.Test.YtdmceapbobkklaaDoorRgOf
import Derived.RangeFuncBox
import Derived.Deep.AppendLies
namespace Go.Proofs.YtdmceapbobkklaaDoor.Rg
open Go Go.RowKit Go.Shelf

theorem infoS : (Tryd.prog.info? 52).map (fun i => (i.zero, i.size, i.bytes)) = some (some (.slice none 0 0), 1, 24) := by kernel_rfl

/-- the i-th row -/
def nthL (L : List (List R)) (i : Nat) : List R := L.getD i []
theorem nthL_eq {L : List (List R)} {i : Nat} (h : i < L.length) : nthL L i = L[i] := by simp [nthL, List.getD, h]
/-- rows of two types are two rows -/
theorem row_apart {w : World} {B B' : Nat} {e e' : TypeId} {s s' n m : Nat} {v x : Value} {xs ys : List Value} (hne : e ≠ e') (h : w.ownsRow B e s v n xs) (k : w.ownsRow B' e' s' x m ys) : x.ownBlock = none ∨ x.ownBlock ≠ v.ownBlock := by
  rcases k.2 with ⟨rfl, _⟩ | ⟨g, cap, cur, rfl, _, hg, _⟩
  · exact .inl rfl
  · right
    intro he
    rcases h.2 with ⟨rfl, _⟩ | ⟨g', cap', cur', rfl, _, hg', _⟩
    · simp [Value.ownBlock] at he
    · simp only [Value.ownBlock, Option.some.injEq] at he
      subst he
      rw [hg] at hg'
      simp only [Option.some.injEq, Obj.cells.injEq] at hg'
      exact hne hg'.2.1.symm

/-- a slice of rows that the call owns, each of which it owns -/
structure RowsOwn (B : Nat) (w : World) (v : Value) (L : List (List R)) (xs : List Value) : Prop where
  own : w.ownsRow B 52 1 v L.length xs
  row : ∀ i, i < L.length → ∃ x, xs[i]? = some x ∧ w.ownsRow B 75 2 x (nthL L i).length (flatR (nthL L i))

theorem own_next {w w' : World} {B : Nat} {e : TypeId} {s n : Nat} {v : Value} {xs : List Value} (h : w.ownsRow B e s v n xs) (hb : Below w.heap.size w w') : w'.ownsRow B e s v n xs := by
  refine h.kept (grown_below hb) ?_
  rcases h.2 with ⟨rfl, _⟩ | ⟨g, cap, cur, rfl, _⟩
  · exact .inl rfl
  · exact .inr (by simp [Value.ownBlock])
theorem RowsOwn.next {B : Nat} {w w' : World} {v : Value} {L : List (List R)} {xs : List Value} (h : RowsOwn B w v L xs) (hb : Below w.heap.size w w') : RowsOwn B w' v L xs :=
  ⟨own_next h.own hb, fun i hi => by
    obtain ⟨x, h1, h2⟩ := h.row i hi
    exact ⟨x, h1, own_next h2 hb⟩⟩
theorem own_set {w : World} {B N : Nat} {e : TypeId} {s n : Nat} {v u : Value} {xs : List Value} (h : w.ownsRow B e s v n xs) (hN : N < B) : (w.setCell ⟨N, 0, none⟩ u).ownsRow B e s v n xs := by
  refine h.kept (grownBy_setCell' w N u) ?_
  rcases h.2 with ⟨rfl, _⟩ | ⟨g, cap, cur, rfl, hb, _⟩
  · exact .inl rfl
  · exact .inr (by simp [Value.ownBlock]; omega)
theorem RowsOwn.set {B N : Nat} {w : World} {v u : Value} {L : List (List R)} {xs : List Value} (h : RowsOwn B w v L xs) (hN : N < B) : RowsOwn B (w.setCell ⟨N, 0, none⟩ u) v L xs :=
  ⟨own_set h.own hN, fun i hi => by
    obtain ⟨x, h1, h2⟩ := h.row i hi
    exact ⟨x, h1, own_set h2 hN⟩⟩
theorem RowsOwn.nil (B : Nat) (w : World) : RowsOwn B w (.slice none 0 0) [] [] := ⟨World.ownsRow_nil _ _ _ _, fun i hi => by simp at hi⟩
/-- a row appended -/
theorem RowsOwn.app {B : Nat} {W w' : World} {v v' x : Value} {L : List (List R)} {l : List R} {xs : List Value} (h : RowsOwn B W v L xs) (hx : W.ownsRow B 75 2 x l.length (flatR l)) (hown : w'.ownsRow B 52 1 v' (L.length + 1) (xs ++ [x])) (hg : W.grownBy w' v.ownBlock) : RowsOwn B w' v' (L ++ [l]) (xs ++ [x]) := by
  have hl : xs.length = L.length := by have := h.own.1; omega
  refine ⟨by simpa using hown, fun i hi => ?_⟩
  rw [List.length_append, List.length_singleton] at hi
  rcases Nat.lt_or_ge i L.length with hlt | hge
  · obtain ⟨y, h1, h2⟩ := h.row i hlt
    refine ⟨y, by rw [List.getElem?_append_left (by omega)]; exact h1, ?_⟩
    rw [show nthL (L ++ [l]) i = nthL L i by simp [nthL, List.getElem?_append_left hlt]]
    exact h2.kept hg (row_apart (by decide) h.own h2)
  · obtain rfl : i = L.length := by omega
    refine ⟨x, by rw [← hl]; simp, ?_⟩
    rw [show nthL (L ++ [l]) L.length = l by simp [nthL]]
    exact hx.kept hg (row_apart (by decide) h.own hx)

/-- a slice that reads as these rows -/
def RowsAt (w : World) (v : Value) (L : List (List R)) : Prop :=
  (v = .slice none 0 0 ∧ L = []) ∨ ∃ (a : Addr) (cap : Nat), v = .slice (some a) L.length cap ∧ L.length ≤ maxLen ∧ ∀ i, i < L.length → ∃ x, w.cell? (a.add i) = some x ∧ RngsAt w x (nthL L i)
theorem RowsAt.next {w w' : World} {v : Value} {L : List (List R)} (h : RowsAt w v L) (hb : Below w.heap.size w w') : RowsAt w' v L := by
  rcases h with h | ⟨a, cap, hv, hm, hc⟩
  · exact .inl h
  · exact .inr ⟨a, cap, hv, hm, fun i hi => by obtain ⟨x, h1, h2⟩ := hc i hi; exact ⟨x, cell_next h1 hb, h2.next hb⟩⟩
theorem RowsAt.shape {w : World} {v : Value} {L : List (List R)} (h : RowsAt w v L) :
    ∃ (ao : Option Addr) (cap : Nat), v = .slice ao L.length cap ∧ L.length ≤ 9223372036854775807 ∧ ∀ i, i < L.length → ∃ g x, ao = some g ∧ w.cell? (g.add i) = some x ∧ RngsAt w x (nthL L i) := by
  rcases h with ⟨rfl, rfl⟩ | ⟨a, cap, hv, hm, hc⟩
  · exact ⟨none, 0, rfl, by simp, fun i hi => by simp at hi⟩
  · exact ⟨some a, cap, hv, by unfold maxLen at hm; omega, fun i hi => by obtain ⟨x, h1, h2⟩ := hc i hi; exact ⟨a, x, rfl, h1, h2⟩⟩
theorem RowsOwn.at' {B : Nat} {w : World} {v : Value} {L : List (List R)} {xs : List Value} (h : RowsOwn B w v L xs) : RowsAt w v L := by
  have hl : xs.length = L.length := by have := h.own.1; omega
  rcases h.own.2 with ⟨rfl, h0⟩ | ⟨g, cap, cur, rfl, _, hg, hn, hm, _, ht⟩
  · exact .inl ⟨rfl, List.eq_nil_of_length_eq_zero h0⟩
  · refine .inr ⟨⟨g, 0, none⟩, cap, rfl, by omega, fun i hi => ?_⟩
    obtain ⟨x, h1, h2⟩ := h.row i hi
    refine ⟨x, ?_, rngs_of_row h2⟩
    rw [add_zero]
    rw [← ht, List.getElem?_take] at h1
    split at h1
    · simp [World.cell?, hg]; simpa using h1
    · cases h1

theorem RowsOwn.base {B B' : Nat} {w : World} {v : Value} {L : List (List R)} {xs : List Value} (h : RowsOwn B w v L xs) (hb : B' ≤ B) : RowsOwn B' w v L xs :=
  ⟨row_base h.own hb, fun i hi => by
    obtain ⟨x, h1, h2⟩ := h.row i hi
    exact ⟨x, h1, row_base h2 hb⟩⟩

end Go.Proofs.YtdmceapbobkklaaDoor.Rg

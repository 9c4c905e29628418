/- Slices of pairs of numbers, as the call that made them meets them. -/
import Derived.Test.YtleejfkononjgaaDoorInts
import Derived.Maps.AppendAt
namespace Go.Proofs.YtleejfkononjgaaDoor
open Go.RowKit

def flat (l : List (Nat × Nat)) : List Value := l.flatMap fun p => [Value.int .i64 (p.1 : Nat), Value.int .i64 (p.2 : Nat)]
theorem flat_snoc (l : List (Nat × Nat)) (p : Nat × Nat) : flat (l ++ [p]) = flat l ++ [Value.int .i64 (p.1 : Nat), Value.int .i64 (p.2 : Nat)] := by simp [flat]
theorem flat_len : ∀ l : List (Nat × Nat), (flat l).length = l.length * 2
  | [] => rfl
  | p :: r => by
    have := flat_len r
    simp only [flat, List.flatMap_cons, List.length_append, List.length_cons, List.length_nil] at this ⊢
    omega
theorem flat_at : ∀ (l : List (Nat × Nat)) (i : Nat), i < l.length → (flat l)[i * 2]? = some (.int .i64 ((l.getD i (0, 0)).1 : Nat)) ∧ (flat l)[i * 2 + 1]? = some (.int .i64 ((l.getD i (0, 0)).2 : Nat))
  | [], i, h => by simp at h
  | p :: r, 0, h => by simp [flat]
  | p :: r, i + 1, h => by
    have := flat_at r i (by simpa using h)
    rw [show (i + 1) * 2 = (i * 2) + 1 + 1 by omega]
    simpa [flat] using this

/-- a slice that reads as these pairs -/
def PairsAt (w : World) (v : Value) (l : List (Nat × Nat)) : Prop :=
  (v = .slice none 0 0 ∧ l = []) ∨ ∃ (g : Nat) (cap : Nat), v = .slice (some ⟨g, 0, none⟩) l.length cap ∧ l.length ≤ maxLen ∧ ∀ i, i < l.length → w.cell? ⟨g, i * 2, none⟩ = some (.int .i64 ((l.getD i (0, 0)).1 : Nat)) ∧ w.cell? ⟨g, i * 2 + 1, none⟩ = some (.int .i64 ((l.getD i (0, 0)).2 : Nat))

theorem PairsAt.next {w w' : World} {v : Value} {l : List (Nat × Nat)} (h : PairsAt w v l) (hb : Below w.heap.size w w') : PairsAt w' v l := by
  rcases h with h | ⟨a, cap, hv, hm, hc⟩
  · exact .inl h
  · exact .inr ⟨a, cap, hv, hm, fun i hi => ⟨cell_next (hc i hi).1 hb, cell_next (hc i hi).2 hb⟩⟩
theorem PairsAt.shape {w : World} {v : Value} {l : List (Nat × Nat)} (h : PairsAt w v l) :
    ∃ (ao : Option Addr) (cap : Nat), v = .slice ao l.length cap ∧ l.length ≤ 9223372036854775807 ∧ ∀ i, i < l.length → ∃ g, ao = some ⟨g, 0, none⟩ ∧ w.cell? ⟨g, i * 2, none⟩ = some (.int .i64 ((l.getD i (0, 0)).1 : Nat)) ∧ w.cell? ⟨g, i * 2 + 1, none⟩ = some (.int .i64 ((l.getD i (0, 0)).2 : Nat)) := by
  rcases h with ⟨rfl, rfl⟩ | ⟨a, cap, hv, hm, hc⟩
  · exact ⟨none, 0, rfl, by simp, fun i hi => by simp at hi⟩
  · exact ⟨some ⟨a, 0, none⟩, cap, hv, by unfold maxLen at hm; omega, fun i hi => ⟨a, rfl, hc i hi⟩⟩

theorem infoP : (Tryd.prog.info? 43).map (fun i => (i.zero, i.size, i.bytes)) = some (some (.agg #[.int .i64 0, .int .i64 0]), 2, 16) := by kernel_rfl

/-- a slice that the call owns reads as its pairs -/
theorem pairs_of_row {w : World} {B : Nat} {v : Value} {l : List (Nat × Nat)} (h : w.ownsRow B 43 2 v l.length (flat l)) : PairsAt w v l := by
  rcases h.2 with ⟨rfl, h0⟩ | ⟨g, cap, cur, rfl, _, hg, hn, hm, hcs, ht⟩
  · exact .inl ⟨rfl, List.eq_nil_of_length_eq_zero h0⟩
  · have hx : ∀ j x, (flat l)[j]? = some x → w.cell? ⟨g, j, none⟩ = some x := fun j x hj => by
      rw [← ht, List.getElem?_take] at hj
      split at hj
      · simp [World.cell?, hg]; simpa using hj
      · cases hj
    refine .inr ⟨g, cap, rfl, by omega, fun i hi => ?_⟩
    have := flat_at l i hi
    exact ⟨hx _ _ this.1, hx _ _ this.2⟩

theorem cell_two_new (w : World) (x y : Value) (t : TypeId) : ∀ j u, [x, y][j]? = some u → (w.alloc (.cells #[x, y] t)).cell? ((⟨w.heap.size, 0, none⟩ : Addr).add j) = some u := by
  intro j u hj
  match j, hj with
  | 0, hj => simp at hj; subst hj; simp [Addr.add]
  | 1, hj => simp at hj; subst hj; simp [Addr.add]
  | j + 2, hj => simp at hj

/-- a variable of two cells of its own -/
def Box2 (W : World) (B : Nat) (t : TypeId) (a b : Value) : Prop := W.heap[B]? = some (.cells #[a, b] t (0, 0))
theorem Box2.lt {W : World} {B : Nat} {t : TypeId} {a b : Value} (h : Box2 W B t a b) : B < W.heap.size := (Array.getElem?_eq_some_iff.1 h).1
theorem Box2.cells {W : World} {B : Nat} {t : TypeId} {a b : Value} (h : Box2 W B t a b) : W.cell? ⟨B, 0, none⟩ = some a ∧ W.cell? ⟨B, 1, none⟩ = some b := by simp [World.cell?, show W.heap[B]? = _ from h]
theorem Box2.kept {W W' : World} {row : Option Nat} {B : Nat} {t : TypeId} {a b : Value} (h : Box2 W B t a b) (hg : W.grownBy W' row) (hne : some B ≠ row) : Box2 W' B t a b := (hg.block B h.lt hne).trans h
theorem Box2.not_row {W : World} {B : Nat} {t e : TypeId} {a b : Value} (h : Box2 W B t a b) (hte : t ≠ e) {base size k : Nat} {v : Value} {xs : List Value} (hr : W.ownsRow base e size v k xs) : some B ≠ v.ownBlock := by
  rcases hr.2 with ⟨rfl, _⟩ | ⟨g, cap, cur, rfl, _, hgb, _⟩
  · simp [Value.ownBlock]
  · intro e'
    obtain rfl : B = g := by simpa [Value.ownBlock] using e'
    rw [show W.heap[B]? = _ from h] at hgb
    simp at hgb; exact hte hgb.2

end Go.Proofs.YtleejfkononjgaaDoor

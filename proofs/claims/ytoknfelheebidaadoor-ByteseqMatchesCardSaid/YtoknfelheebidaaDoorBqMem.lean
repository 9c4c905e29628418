/- Rows of ranges as a call meets them. -/
import Derived.Test.YtoknfelheebidaaDoorBqSet
import Derived.RangeFuncBox
import Derived.Deep.AppendLies
namespace Go.Proofs.YtoknfelheebidaaDoor.Bq
open Go Go.RowKit Go.Shelf Go.Proofs.YtoknfelheebidaaDoor.Ut Go.Proofs.YtoknfelheebidaaDoor.Rg

theorem infoS : (Tryd.prog.info? 22).map (fun i => (i.zero, i.size, i.bytes)) = some (some (.slice none 0 0), 1, 24) := by kernel_rfl

/-- the i-th row -/
def nthL (L : List (List R)) (i : Nat) : List R := L.getD i []
theorem nthL_eq {L : List (List R)} {i : Nat} (h : i < L.length) : nthL L i = L[i] := by simp [nthL, List.getD, h]
theorem rowsL_len (C : List R) : (rowsL C).length = C.length := by simp [rowsL]
theorem rowsL_snoc (C : List R) (p : R) : rowsL (C ++ [p]) = rowsL C ++ [rowL p] := by simp [rowsL]
theorem rowsL_nth {C : List R} {i : Nat} (h : i < C.length) : nthL (rowsL C) i = rowL (Rg.nth C i) := by
  rw [nthL_eq (by rw [rowsL_len]; exact h), nth_eq h]; simp [rowsL]

/-- rows of two types are two rows -/
theorem row_apart {w : World} {B B' : Nat} {e e' : TypeId} {s s' n m : Nat} {v x : Value} {xs ys : List Value} (hne : e ≠ e') (h : w.ownsRow B e s v n xs) (k : w.ownsRow B' e' s' x m ys) : x.ownBlock = none ∨ x.ownBlock ≠ v.ownBlock := by
  rcases k.2 with ⟨rfl, _⟩ | ⟨g, cap, cur, rfl, _, hg, _⟩
  · exact .inl rfl
  · right
    intro he
    rcases h.2 with ⟨rfl, _⟩ | ⟨g', cap', cur', rfl, _, hg', _⟩
    · simp [Value.ownBlock] at he
    · simp only [Value.ownBlock, Option.some.injEq] at he
      subst he
      rw [hg] at hg'
      simp only [Option.some.injEq, Obj.cells.injEq] at hg'
      exact hne hg'.2.1.symm

/-- a slice of rows that the call owns, each of which it owns -/
structure RowsOwn (B : Nat) (w : World) (v : Value) (L : List (List R)) (xs : List Value) : Prop where
  own : w.ownsRow B 22 1 v L.length xs
  row : ∀ i, i < L.length → ∃ x, xs[i]? = some x ∧ w.ownsRow B 35 2 x (nthL L i).length (flatR (nthL L i))

theorem own_next {w w' : World} {B : Nat} {e : TypeId} {s n : Nat} {v : Value} {xs : List Value} (h : w.ownsRow B e s v n xs) (hb : Below w.heap.size w w') : w'.ownsRow B e s v n xs := by
  refine h.kept (grown_below hb) ?_
  rcases h.2 with ⟨rfl, _⟩ | ⟨g, cap, cur, rfl, _⟩
  · exact .inl rfl
  · exact .inr (by simp [Value.ownBlock])
theorem RowsOwn.next {B : Nat} {w w' : World} {v : Value} {L : List (List R)} {xs : List Value} (h : RowsOwn B w v L xs) (hb : Below w.heap.size w w') : RowsOwn B w' v L xs :=
  ⟨own_next h.own hb, fun i hi => by
    obtain ⟨x, h1, h2⟩ := h.row i hi
    exact ⟨x, h1, own_next h2 hb⟩⟩
theorem own_set {w : World} {B N : Nat} {e : TypeId} {s n : Nat} {v u : Value} {xs : List Value} (h : w.ownsRow B e s v n xs) (hN : N < B) : (w.setCell ⟨N, 0, none⟩ u).ownsRow B e s v n xs := by
  refine h.kept (grownBy_setCell' w N u) ?_
  rcases h.2 with ⟨rfl, _⟩ | ⟨g, cap, cur, rfl, hb, _⟩
  · exact .inl rfl
  · exact .inr (by simp [Value.ownBlock]; omega)
theorem RowsOwn.set {B N : Nat} {w : World} {v u : Value} {L : List (List R)} {xs : List Value} (h : RowsOwn B w v L xs) (hN : N < B) : RowsOwn B (w.setCell ⟨N, 0, none⟩ u) v L xs :=
  ⟨own_set h.own hN, fun i hi => by
    obtain ⟨x, h1, h2⟩ := h.row i hi
    exact ⟨x, h1, own_set h2 hN⟩⟩
theorem RowsOwn.nil (B : Nat) (w : World) : RowsOwn B w (.slice none 0 0) [] [] := ⟨World.ownsRow_nil _ _ _ _, fun i hi => by simp at hi⟩
/-- a row appended -/
theorem RowsOwn.app {B : Nat} {W w' : World} {v v' x : Value} {L : List (List R)} {l : List R} {xs : List Value} (h : RowsOwn B W v L xs) (hx : W.ownsRow B 35 2 x l.length (flatR l)) (hown : w'.ownsRow B 22 1 v' (L.length + 1) (xs ++ [x])) (hg : W.grownBy w' v.ownBlock) : RowsOwn B w' v' (L ++ [l]) (xs ++ [x]) := by
  have hl : xs.length = L.length := by have := h.own.1; omega
  refine ⟨by simpa using hown, fun i hi => ?_⟩
  rw [List.length_append, List.length_singleton] at hi
  rcases Nat.lt_or_ge i L.length with hlt | hge
  · obtain ⟨y, h1, h2⟩ := h.row i hlt
    refine ⟨y, by rw [List.getElem?_append_left (by omega)]; exact h1, ?_⟩
    rw [show nthL (L ++ [l]) i = nthL L i by simp [nthL, List.getElem?_append_left hlt]]
    exact h2.kept hg (row_apart (by decide) h.own h2)
  · obtain rfl : i = L.length := by omega
    refine ⟨x, by rw [← hl]; simp, ?_⟩
    rw [show nthL (L ++ [l]) L.length = l by simp [nthL]]
    exact hx.kept hg (row_apart (by decide) h.own hx)

/-- what a step may turn: the box of the rows, and slices of rows -/
structure Kp (N : Nat) (w w' : World) : Prop where
  os : w'.os = w.os
  tape : w'.tape = w.tape
  output : w'.output = w.output
  size : w.heap.size ≤ w'.heap.size
  block : ∀ k, k < w.heap.size → k ≠ N → (∀ cs fz, w.heap[k]? ≠ some (.cells cs 22 fz)) → w'.heap[k]? = w.heap[k]?
theorem Kp.refl (N : Nat) (w : World) : Kp N w w := ⟨rfl, rfl, rfl, Nat.le_refl _, fun _ _ _ _ => rfl⟩
theorem Kp.trans {N : Nat} {a b c : World} (h : Kp N a b) (k : Kp N b c) : Kp N a c :=
  ⟨k.os.trans h.os, k.tape.trans h.tape, k.output.trans h.output, Nat.le_trans h.size k.size, fun i hi hN ht => by
    have e := h.block i hi hN ht
    exact (k.block i (Nat.lt_of_lt_of_le hi h.size) hN (fun cs fz => by rw [e]; exact ht cs fz)).trans e⟩
theorem Kp.below {N : Nat} {w w' : World} (h : Below w.heap.size w w') : Kp N w w' := ⟨h.os, h.tape, h.output, h.size, fun k hk _ _ => h.block k hk⟩
theorem Kp.grown {N B s n : Nat} {w w' : World} {v : Value} {xs : List Value} (h : w.grownBy w' v.ownBlock) (ho : w.ownsRow B 22 s v n xs) : Kp N w w' :=
  ⟨h.os, h.tape, h.output, h.size, fun k hk _ ht => h.block k hk fun e => by
    rcases ho.2 with ⟨rfl, _⟩ | ⟨g, cap, cur, rfl, _, hg, _⟩
    · simp [Value.ownBlock] at e
    · simp only [Value.ownBlock, Option.some.injEq] at e
      subst e
      exact ht _ _ hg⟩
theorem Kp.set (N : Nat) (w : World) (u : Value) : Kp N w (w.setCell ⟨N, 0, none⟩ u) :=
  ⟨rfl, rfl, rfl, by simp [World.setCell], fun k _ hN _ => Below.heap_setCell _ _ _ _ hN⟩
theorem Kp.own {N B s n : Nat} {w w' : World} {v : Value} {xs : List Value} (h : Kp N w w') (ho : w.ownsRow B 35 s v n xs) (hN : N < B) : w'.ownsRow B 35 s v n xs := by
  refine ⟨ho.1, ?_⟩
  rcases ho.2 with hn | ⟨g, cap, cur, rfl, hb, hg, rest⟩
  · exact .inl hn
  · refine .inr ⟨g, cap, cur, rfl, hb, ?_, rest⟩
    rw [h.block g (Array.getElem?_eq_some_iff.1 hg).1 (by omega) (fun cs fz => by rw [hg]; simp)]
    exact hg
/-- a block of another type -/
theorem Kp.cells {N k : Nat} {w w' : World} {cs : Array Value} {t : TypeId} {fz : Nat × Nat} (h : Kp N w w') (hk : w.heap[k]? = some (.cells cs t fz)) (hN : k ≠ N) (ht : t ≠ 22) : w'.heap[k]? = some (.cells cs t fz) := by
  rw [h.block k (Array.getElem?_eq_some_iff.1 hk).1 hN (fun cs' fz' => by rw [hk]; simp; intro _ e; exact absurd e ht)]
  exact hk

/-- the function value of the parting function -/
def fv (N : Nat) : Value := .func (.func 15) #[] #[.pointer (some ⟨N, 0, none⟩), .pointer (some ⟨N + 1, 0, none⟩)]
/-- Of's two boxes and its rows -/
structure St (w : World) (C : List R) (W : World) : Prop where
  rows : ∃ v xs, Boxed W w.heap.size 24 v ∧ RowsOwn (w.heap.size + 2) W v (rowsL C) xs
  part : Boxed W (w.heap.size + 1) 38 (fv w.heap.size)
  below : Below w.heap.size w W
theorem box_next {W W' : World} {B : Nat} {t : TypeId} {v : Value} (h : Boxed W B t v) (hb : Below W.heap.size W W') : Boxed W' B t v := (hb.block B h.lt).trans h
theorem St.next {w W W' : World} {C : List R} (h : St w C W) (hb : Below W.heap.size W W') : St w C W' := by
  obtain ⟨v, xs, h1, h2⟩ := h.rows
  exact ⟨⟨v, xs, box_next h1 hb, h2.next hb⟩, box_next h.part hb, h.below.trans (hb.mono h.below.size)⟩
theorem St.size {w W : World} {C : List R} (h : St w C W) : w.heap.size + 2 ≤ W.heap.size := by have := h.part.lt; omega

theorem Part.width {lo hi : Int} {D : List R} (h : Part lo hi D) (hs : Span lo hi) (hl : lo ≤ hi) : (D.length : Int) ≤ hi - lo + 1 := by
  induction h with
  | one _ => simp; omega
  | @two lo hi at' C D hc h1 h2 ih1 ih2 =>
    obtain ⟨B, hb⟩ := cut_some hs hl hc
    obtain ⟨a1, a2⟩ := hb.between hl
    have e1 := ih1 (hs.sub (Int.le_refl lo) (show at' - 1 ≤ hi by omega)) (by omega)
    have e2 := ih2 (hs.sub (show lo ≤ at' by omega) (Int.le_refl hi)) (by omega)
    rw [List.length_append]; omega

end Go.Proofs.YtoknfelheebidaaDoor.Bq

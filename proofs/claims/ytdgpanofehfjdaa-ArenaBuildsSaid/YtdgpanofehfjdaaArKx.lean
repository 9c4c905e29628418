/- What a call may turn, told by the blocks. -/
import Derived.Test.YtdgpanofehfjdaaArBox
namespace Go.Proofs.Ytdgpanofehfjdaa.Ar
open Go Go.RowKit Go.Shelf
open Go.Proofs.Ytdgpanofehfjdaa.Rg (R RngsAt RowsAt nthL add_zero own_next RowsOwn flatR)

/-- nothing that stood has changed but blocks of which U speaks -/
structure Kx (U : Nat → Prop) (w w' : World) : Prop where
  os : w'.os = w.os
  tape : w'.tape = w.tape
  output : w'.output = w.output
  size : w.heap.size ≤ w'.heap.size
  block : ∀ k, k < w.heap.size → ¬ U k → w'.heap[k]? = w.heap[k]?
theorem Kx.refl (U : Nat → Prop) (w : World) : Kx U w w := ⟨rfl, rfl, rfl, Nat.le_refl _, fun _ _ _ => rfl⟩
theorem Kx.trans {U : Nat → Prop} {a b c : World} (h : Kx U a b) (k : Kx U b c) : Kx U a c :=
  ⟨k.os.trans h.os, k.tape.trans h.tape, k.output.trans h.output, Nat.le_trans h.size k.size, fun i hi h1 => (k.block i (Nat.lt_of_lt_of_le hi h.size) h1).trans (h.block i hi h1)⟩
theorem Kx.mono {U V : Nat → Prop} {w w' : World} (h : Kx U w w') (hU : ∀ k, k < w.heap.size → U k → V k) : Kx V w w' :=
  ⟨h.os, h.tape, h.output, h.size, fun k hk hn => h.block k hk fun hu => hn (hU k hk hu)⟩
theorem Kx.of_below {U : Nat → Prop} {w w' : World} (h : Below w.heap.size w w') : Kx U w w' := ⟨h.os, h.tape, h.output, h.size, fun k hk _ => h.block k hk⟩
theorem Kx.below {U : Nat → Prop} {B : Nat} {w w' : World} (h : Kx U w w') (hB : B ≤ w.heap.size) (hU : ∀ k, k < B → ¬ U k) : Below B w w' := ⟨h.os, h.tape, h.output, h.size, fun k hk => h.block k (by omega) (hU k hk)⟩
theorem Kx.of_grown {U : Nat → Prop} {o : Option Nat} {w w' : World} (h : w.grownBy w' o) (hU : ∀ k, o = some k → U k) : Kx U w w' := ⟨h.os, h.tape, h.output, h.size, fun k hk hn => h.block k hk fun e => hn (hU k e.symm)⟩
theorem Kx.of_set {U : Nat → Prop} {w : World} {b o : Nat} {u : Value} (hU : U b) : Kx U w (w.setCell ⟨b, o, none⟩ u) :=
  ⟨rfl, rfl, rfl, by simp [World.setCell], fun k _ hn => Below.heap_setCell _ _ _ _ (fun e => hn (e ▸ hU))⟩
theorem Kx.own {U : Nat → Prop} {w w' : World} {B : Nat} {e : TypeId} {s n : Nat} {v : Value} {xs : List Value} (h : Kx U w w') (ho : w.ownsRow B e s v n xs) (hU : ∀ k, v.ownBlock = some k → ¬ U k) : w'.ownsRow B e s v n xs := by
  refine ⟨ho.1, ?_⟩
  rcases ho.2 with hn | ⟨g, cap, cur, rfl, hb, hg, rest⟩
  · exact .inl hn
  · refine .inr ⟨g, cap, cur, rfl, hb, ?_, rest⟩
    rw [h.block g (Array.getElem?_eq_some_iff.1 hg).1 (hU g rfl)]
    exact hg
theorem Kx.cell {U : Nat → Prop} {w w' : World} {a : Addr} {v : Value} (h : Kx U w w') (hc : w.cell? a = some v) (hU : ¬ U a.block) : w'.cell? a = some v :=
  (World.cell?_of_block (h.block _ (cell_lt hc) hU)).trans hc
theorem TBox.kx {U : Nat → Prop} {W W' : World} {b : Nat} {vn vs : Value} {r : Int} (h : TBox W b vn vs r) (hk : Kx U W W') (hU : ¬ U b) : TBox W' b vn vs r := ⟨hk.cell h.c0 hU, hk.cell h.c1 hU, hk.cell h.c2 hU⟩
/-- a row's numbers, the others not told yet -/
def cellsL (l : List Int) (n : Nat) : List Value := l.map (Value.int .i64) ++ List.replicate (n - l.length) (.int .i64 0)
theorem cellsL_start (n : Nat) : (madeCells (Value.int .i64 0).cells (n * 1)).toList = cellsL [] n := by
  show (madeCells #[Value.int .i64 0] (n * 1)).toList = _
  rw [toList_madeCells_one, Nat.mul_one]; simp [cellsL]
theorem cellsL_at {l : List Int} {n i : Nat} (h : i < l.length) : (cellsL l n)[i]? = some (.int .i64 (l.getD i 0)) := by
  unfold cellsL
  rw [List.getElem?_append_left (by simpa using h)]
  simp [h]
theorem cellsL_next {l : List Int} {n : Nat} (h : l.length < n) : (cellsL l n)[l.length]? = some (.int .i64 0) := by
  unfold cellsL
  rw [List.getElem?_append_right (by simp), List.getElem?_replicate, if_pos (by simp; omega)]
theorem cellsL_set {l : List Int} {n : Nat} (x : Int) (h : l.length < n) : (cellsL l n).set l.length (.int .i64 x) = cellsL (l ++ [x]) n := by
  unfold cellsL
  rw [List.set_append_right _ _ (by simp), List.length_map, Nat.sub_self, show n - l.length = (n - (l ++ [x]).length) + 1 by simp; omega, List.replicate_succ, List.set_cons_zero, List.map_append, List.append_assoc]
  rfl

end Go.Proofs.Ytdgpanofehfjdaa.Ar

/- Trees among a row's arguments: what they give to a walk. -/
import Derived.Test.YtdmceapbobkklaaDoorArBox
import Derived.Test.YtdmceapbobkklaaDoorRgApp
import Derived.Deep.SlicePairs
import Derived.ChangeSlices
import Derived.Carry
import Derived.OpenShut
import Derived.ChangeArms
import Derived.Deep.Slices
import Derived.DataReads
import Derived.WideShapes
namespace Go.Proofs.YtdmceapbobkklaaDoor.Ar
open Go Go.RowKit Go.Shelf Go.ChangeShapes Go.WideShapes Go.Deep
open Go.Proofs.YtdmceapbobkklaaDoor.Rg (R RngsAt RowsAt nthL nth add_zero own_next add_pair)

set_option maxRecDepth 4000
theorem add_nxt (a : Addr) (m o : Nat) : a.add (m + (o + 1)) = ⟨(a.add m).block, (a.add m).off + (o + 1), none⟩ := by
  unfold Addr.add
  by_cases h : m = 0
  · simp [h]
  · simp [h]; omega
section
variable {H : Type} {enc : TypeId × Value → H} {W : World} {base : Nat} {sp : Nat → Bool} {held : Bool} {fuel : Nat} {cs : List Value} {x : DataW H × List MemPlace}
theorem int_cell {t : TypeId} (ht : Tryd.prog.underlying t = some (.int .i64)) {u : Value} {y : Option (DataW H × List MemPlace)} (h : DataW.trod enc Tryd.prog W base sp held fuel t [u] = y) (hy : y ≠ none) : ∃ n : Int, u = .int .i64 n := by
  obtain ⟨z, rfl⟩ := Option.ne_none_iff_exists'.1 hy
  obtain ⟨n, hn, _, _⟩ := DataW.trod_int ht h
  exact ⟨n, by simpa using hn⟩
/-- a slice of ranges, by its cell -/
theorem rngs_cell (h : DataW.trod enc Tryd.prog W base sp held fuel 52 cs = some x) : ∃ v l, cs = [v] ∧ RngsAt W v l := by
  rcases open_slice_pairs Tryd.underlying52 Tryd.underlying75 (by kernel_rfl) rfl rfl (by kernel_rfl) (by kernel_rfl) h with ⟨hcs, _⟩ | ⟨a, len', cap', m, n, V0, V1, D0, D1, P0, P1, hcs, _, hl, hm, hmm, _, hi⟩
  · exact ⟨_, [], hcs, .inl ⟨rfl, rfl⟩⟩
  · have hlm : len' ≤ m := by rw [hmm]; split <;> omega
    refine ⟨_, (List.range len').map fun i => (intOf (V0 i), intOf (V1 i)), hcs, .inr ⟨a, cap', by simp, by simp; omega, fun i hil => ?_⟩⟩
    have hil' : i < len' := by simpa using hil
    obtain ⟨h1, h2, h3, h4⟩ := hi i (by omega)
    obtain ⟨p, hp, _, _⟩ := DataW.trod_int Tryd.underlying3 h3
    obtain ⟨q, hq, _, _⟩ := DataW.trod_int Tryd.underlying3 h4
    have ex : V0 i = .int .i64 p := by simpa using hp
    have ey : V1 i = .int .i64 q := by simpa using hq
    have hn : nth ((List.range len').map fun i => (intOf (V0 i), intOf (V1 i))) i = (p, q) := by
      simp [nth, List.getD, hil', ex, ey, intOf]
    rw [hn]
    refine ⟨by rw [h1, ex], ?_⟩
    rw [add_pair] at h2
    rw [h2, ey]
/-- a slice of slices of ranges -/
theorem rows_cell (h : DataW.trod enc Tryd.prog W base sp held fuel 23 cs = some x) : ∃ v L, cs = [v] ∧ RowsAt W v L := by
  rcases open_slice1 Tryd.underlying23 (by kernel_rfl) h with ⟨hcs, _⟩ | ⟨a, len, cap, m, n, V, D, Pl, hcs, _, hl, hm, hmm, _, hi⟩
  · exact ⟨_, [], hcs, .inl ⟨rfl, rfl⟩⟩
  · have hlm : len ≤ m := by rw [hmm]; split <;> omega
    have hex : ∀ i, ∃ l : List R, i < len → RngsAt W (V i) l := fun i => by
      by_cases hil : i < len
      · obtain ⟨_, h2⟩ := hi i (by omega)
        obtain ⟨v, l, hv, hr⟩ := rngs_cell h2
        simp only [List.cons.injEq, and_true] at hv
        subst hv
        exact ⟨l, fun _ => hr⟩
      · exact ⟨[], fun h => absurd h hil⟩
    obtain ⟨f, hf⟩ := Classical.skolem.1 hex
    refine ⟨_, (List.range len).map f, hcs, .inr ⟨a, cap, by simp, by simp; omega, fun i hil => ?_⟩⟩
    have hil' : i < len := by simpa using hil
    refine ⟨V i, (hi i (by omega)).1, ?_⟩
    have : nthL ((List.range len).map f) i = f i := by simp [nthL, List.getD, hil']
    rw [this]
    exact hf i hil'
/-- six numbers -/
theorem node_cells (h : DataW.trod enc Tryd.prog W base sp held fuel 56 cs = some x) : ∃ n : Nd, cs = cellsN n := by
  obtain ⟨xs, k, _, _, hl, hxl, hf⟩ := DataW.trod_struct Tryd.underlying56 h
  rw [show Tryd.prog.cellsOf 56 = 6 by kernel_rfl] at hl
  have hci : Tryd.prog.cellsOf 3 = 1 := by kernel_rfl
  match cs, hl, xs, hxl with
  | [c0, c1, c2, c3, c4, c5], _, [y0, y1, y2, y3, y4, y5], _ =>
    have g0 : DataW.trod enc Tryd.prog W base sp held k 3 ((([c0, c1, c2, c3, c4, c5] : List Value).drop 0).take (Tryd.prog.cellsOf 3)) = some y0 := hf 0 _ rfl
    have g1 : DataW.trod enc Tryd.prog W base sp held k 3 ((([c0, c1, c2, c3, c4, c5] : List Value).drop 1).take (Tryd.prog.cellsOf 3)) = some y1 := hf 1 _ rfl
    have g2 : DataW.trod enc Tryd.prog W base sp held k 3 ((([c0, c1, c2, c3, c4, c5] : List Value).drop 2).take (Tryd.prog.cellsOf 3)) = some y2 := hf 2 _ rfl
    have g3 : DataW.trod enc Tryd.prog W base sp held k 3 ((([c0, c1, c2, c3, c4, c5] : List Value).drop 3).take (Tryd.prog.cellsOf 3)) = some y3 := hf 3 _ rfl
    have g4 : DataW.trod enc Tryd.prog W base sp held k 3 ((([c0, c1, c2, c3, c4, c5] : List Value).drop 4).take (Tryd.prog.cellsOf 3)) = some y4 := hf 4 _ rfl
    have g5 : DataW.trod enc Tryd.prog W base sp held k 3 ((([c0, c1, c2, c3, c4, c5] : List Value).drop 5).take (Tryd.prog.cellsOf 3)) = some y5 := hf 5 _ rfl
    rw [hci] at g0 g1 g2 g3 g4 g5
    obtain ⟨n0, rfl⟩ := int_cell Tryd.underlying3 g0 (by simp)
    obtain ⟨n1, rfl⟩ := int_cell Tryd.underlying3 g1 (by simp)
    obtain ⟨n2, rfl⟩ := int_cell Tryd.underlying3 g2 (by simp)
    obtain ⟨n3, rfl⟩ := int_cell Tryd.underlying3 g3 (by simp)
    obtain ⟨n4, rfl⟩ := int_cell Tryd.underlying3 g4 (by simp)
    obtain ⟨n5, rfl⟩ := int_cell Tryd.underlying3 g5 (by simp)
    exact ⟨⟨n0, n1, n2, n3, n4, n5⟩, rfl⟩
/-- a slice of nodes -/
theorem nodes_cell (h : DataW.trod enc Tryd.prog W base sp held fuel 22 cs = some x) : ∃ v l, cs = [v] ∧ NodesAt W v l := by
  rcases open_slice Tryd.underlying22 h with ⟨hcs, _⟩ | ⟨a, len, cap, m, n, D, Pl, hcs, _, hl, hm, hmm, _, hi⟩
  · exact ⟨_, [], hcs, .inl ⟨rfl, rfl⟩⟩
  · have hlm : len ≤ m := by rw [hmm]; split <;> omega
    have hex : ∀ i, ∃ n : Nd, i < len → NodeAt W (a.add (i * 6)) n := fun i => by
      by_cases hil : i < len
      · obtain ⟨cs', h1, h2⟩ := hi i (by omega)
        obtain ⟨nn, rfl⟩ := node_cells h2
        rw [show Tryd.prog.cellsOf 56 = 6 by kernel_rfl] at h1
        obtain ⟨_, _, hc⟩ := World.cells?_some h1
        have k0 := hc 0 (by omega)
        have k1 := hc 1 (by omega)
        have k2 := hc 2 (by omega)
        have k3 := hc 3 (by omega)
        have k4 := hc 4 (by omega)
        have k5 := hc 5 (by omega)
        rw [add_add] at k0 k1 k2 k3 k4 k5
        rw [Nat.add_zero] at k0
        rw [add_nxt] at k1 k2 k3 k4 k5
        exact ⟨nn, fun _ => ⟨k0, k1, k2, k3, k4, k5⟩⟩
      · exact ⟨default, fun h => absurd h hil⟩
    obtain ⟨f, hf⟩ := Classical.skolem.1 hex
    refine ⟨_, (List.range len).map f, hcs, .inr ⟨a, cap, by simp, by simp; omega, fun i hil => ?_⟩⟩
    have hil' : i < len := by simpa using hil
    have : nd ((List.range len).map f) i = f i := by simp [nd, List.getD, hil']
    rw [this]
    exact hf i hil'
/-- a tree's three cells -/
theorem tree_cells (h : DataW.trod enc Tryd.prog W base sp held fuel 25 cs = some x) : ∃ vn vs, ∃ t : Tr, cs = [vn, vs, .int .i64 t.root] ∧ NodesAt W vn t.ns ∧ RowsAt W vs t.sets := by
  obtain ⟨xs, k, _, _, hl, hxl, hf⟩ := DataW.trod_struct Tryd.underlying25 h
  rw [show Tryd.prog.cellsOf 25 = 3 by kernel_rfl] at hl
  match cs, hl, xs, hxl with
  | [c0, c1, c2], _, [y0, y1, y2], _ =>
    have g0 : DataW.trod enc Tryd.prog W base sp held k 22 ((([c0, c1, c2] : List Value).drop 0).take (Tryd.prog.cellsOf 22)) = some y0 := hf 0 _ rfl
    have g1 : DataW.trod enc Tryd.prog W base sp held k 23 ((([c0, c1, c2] : List Value).drop 1).take (Tryd.prog.cellsOf 23)) = some y1 := hf 1 _ rfl
    have g2 : DataW.trod enc Tryd.prog W base sp held k 3 ((([c0, c1, c2] : List Value).drop 2).take (Tryd.prog.cellsOf 3)) = some y2 := hf 2 _ rfl
    rw [show Tryd.prog.cellsOf 22 = 1 by kernel_rfl] at g0
    rw [show Tryd.prog.cellsOf 23 = 1 by kernel_rfl] at g1
    rw [show Tryd.prog.cellsOf 3 = 1 by kernel_rfl] at g2
    obtain ⟨vn, l, e0, hn⟩ := nodes_cell (x := y0) g0
    obtain ⟨vs, L, e1, hs⟩ := rows_cell (x := y1) g1
    obtain ⟨r, rfl⟩ := int_cell Tryd.underlying3 g2 (by simp)
    have e0' : c0 = vn := by simpa using e0
    have e1' : c1 = vs := by simpa using e1
    subst e0' e1'
    exact ⟨c0, c1, ⟨l, L, r⟩, rfl, hn, hs⟩
end

section
variable {H : Type} {enc : TypeId × Value → H} {W : World} {v : Value} {d : DataW H} {ps : List MemPlace} {base b2 : Nat} {sp : Nat → Bool} {held : Bool}
theorem tree_of_trod (ho : Value.okWide Tryd.prog W .any b2 25 v) (h : DataW.Trod enc Tryd.prog W base sp held 25 v d ps) : ∃ t, TreeAt W v t := by
  obtain ⟨⟨cs⟩, rfl, _⟩ := okWide_struct Tryd.underlying25 ho
  obtain ⟨fuel, hf⟩ := h
  obtain ⟨vn, vs, t, e, hn, hs⟩ := tree_cells hf
  have e' : cs = [vn, vs, .int .i64 t.root] := by simpa [Value.cells] using e
  subst e'
  exact ⟨t, vn, vs, rfl, hn, hs⟩
end

end Go.Proofs.YtdmceapbobkklaaDoor.Ar

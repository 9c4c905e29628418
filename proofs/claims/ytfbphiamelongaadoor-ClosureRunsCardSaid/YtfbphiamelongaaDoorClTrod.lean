/- Automata among a row's arguments: what they give to a walk. -/
import Derived.Test.YtfbphiamelongaaDoorClMem
import Derived.Test.YtfbphiamelongaaDoorCardKit
import Derived.Test.YtfbphiamelongaaDoorIntsCard
import Derived.Deep.SlicePairs
import Derived.ChangeSlices
import Derived.Carry
import Derived.OpenShut
import Derived.ChangeArms
import Derived.Deep.Slices
import Derived.DataReads
import Derived.WideShapes
namespace Go.Proofs.YtfbphiamelongaaDoor.Cl
open Go Go.RowKit Go.ChangeShapes Go.WideShapes Go.Deep

set_option maxRecDepth 4000
theorem add_add' (a : Addr) (m o : Nat) : a.add (m + (o + 1)) = ⟨(a.add m).block, (a.add m).off + (o + 1), none⟩ := by
  unfold Addr.add
  by_cases h : m = 0
  · simp [h]
  · simp [h]; omega
/-- tags are numbers that an int may be -/
def TagsHi (l : List St) : Prop := ∀ i, i < l.length → (st l i).tag ≤ 9223372036854775807
section
variable {H : Type} {enc : TypeId × Value → H} {W : World} {base : Nat} {sp : Nat → Bool} {held : Bool} {fuel : Nat} {cs : List Value} {x : DataW H × List MemPlace}
theorem int_cell {u : Value} {y : Option (DataW H × List MemPlace)} (h : DataW.trod enc Tryd.prog W base sp held fuel 3 [u] = y) (hy : y ≠ none) : ∃ n : Int, u = .int .i64 n ∧ n ≤ 9223372036854775807 := by
  obtain ⟨z, rfl⟩ := Option.ne_none_iff_exists'.1 hy
  obtain ⟨n, hn, _, hw⟩ := DataW.trod_int Tryd.underlying3 h
  exact ⟨n, by simpa using hn, (bounds_i64 hw).2⟩
/-- a slice of numbers, by its cell -/
theorem ints_cell (h : DataW.trod enc Tryd.prog W base sp held fuel 25 cs = some x) : ∃ ao cap l, cs = [.slice ao (l : List Int).length cap] ∧ IntsAt W (.slice ao l.length cap) l := by
  rcases open_slice1 Tryd.underlying25 (by kernel_rfl) h with ⟨hcs, _⟩ | ⟨a, len, cap, m, n, V, D, Pl, hcs, _, hl, hm, hmm, _, hi⟩
  · exact ⟨none, 0, [], hcs, .inl ⟨rfl, rfl⟩⟩
  · have hlm : len ≤ m := by rw [hmm]; split <;> omega
    refine ⟨some a, cap, (List.range len).map fun i => intOf (V i), by simpa using hcs, .inr ⟨a, cap, rfl, by simp; omega, fun i hil => ?_⟩⟩
    have hil' : i < len := by simpa using hil
    obtain ⟨h1, h2⟩ := hi i (by omega)
    obtain ⟨p, hp, _⟩ := int_cell h2 (by simp)
    rw [h1]
    simp [List.getD, hil', hp, intOf]
/-- a state's five cells -/
theorem state_cells (h : DataW.trod enc Tryd.prog W base sp held fuel 56 cs = some x) : ∃ (s : St) (eo : Option Addr) (ec : Nat), cs = [.int .i64 s.lo, .int .i64 s.hi, .int .i64 s.to, .slice eo s.eps.length ec, .int .i64 s.tag] ∧ IntsAt W (.slice eo s.eps.length ec) s.eps ∧ s.tag ≤ 9223372036854775807 := by
  obtain ⟨xs, k, _, _, hl, hxl, hf⟩ := DataW.trod_struct Tryd.underlying56 h
  rw [show Tryd.prog.cellsOf 56 = 5 by kernel_rfl] at hl
  have hci : Tryd.prog.cellsOf 3 = 1 := by kernel_rfl
  match cs, hl, xs, hxl with
  | [c0, c1, c2, c3, c4], _, [y0, y1, y2, y3, y4], _ =>
    have g0 : DataW.trod enc Tryd.prog W base sp held k 3 ((([c0, c1, c2, c3, c4] : List Value).drop 0).take (Tryd.prog.cellsOf 3)) = some y0 := hf 0 _ rfl
    have g1 : DataW.trod enc Tryd.prog W base sp held k 3 ((([c0, c1, c2, c3, c4] : List Value).drop 1).take (Tryd.prog.cellsOf 3)) = some y1 := hf 1 _ rfl
    have g2 : DataW.trod enc Tryd.prog W base sp held k 3 ((([c0, c1, c2, c3, c4] : List Value).drop 2).take (Tryd.prog.cellsOf 3)) = some y2 := hf 2 _ rfl
    have g3 : DataW.trod enc Tryd.prog W base sp held k 25 ((([c0, c1, c2, c3, c4] : List Value).drop 3).take (Tryd.prog.cellsOf 25)) = some y3 := hf 3 _ rfl
    have g4 : DataW.trod enc Tryd.prog W base sp held k 3 ((([c0, c1, c2, c3, c4] : List Value).drop 4).take (Tryd.prog.cellsOf 3)) = some y4 := hf 4 _ rfl
    rw [hci] at g0 g1 g2 g4
    rw [show Tryd.prog.cellsOf 25 = 1 by kernel_rfl] at g3
    obtain ⟨n0, rfl, _⟩ := int_cell g0 (by simp)
    obtain ⟨n1, rfl, _⟩ := int_cell g1 (by simp)
    obtain ⟨n2, rfl, _⟩ := int_cell g2 (by simp)
    obtain ⟨n4, rfl, h4⟩ := int_cell g4 (by simp)
    obtain ⟨ao, cap, l, e3, hi⟩ := ints_cell (x := y3) g3
    have e3' : c3 = .slice ao l.length cap := by simpa using e3
    subst e3'
    exact ⟨⟨n0, n1, n2, l, n4⟩, ao, cap, rfl, hi, h4⟩
/-- a slice of states -/
theorem states_cell (h : DataW.trod enc Tryd.prog W base sp held fuel 22 cs = some x) : ∃ v l, cs = [v] ∧ StsAt W v l ∧ TagsHi l := by
  rcases open_slice Tryd.underlying22 h with ⟨hcs, _⟩ | ⟨a, len, cap, m, n, D, Pl, hcs, _, hl, hm, hmm, _, hi⟩
  · exact ⟨_, [], hcs, .inl ⟨rfl, rfl⟩, fun i hi => by simp at hi⟩
  · have hlm : len ≤ m := by rw [hmm]; split <;> omega
    have hex : ∀ i, ∃ s : St, i < len → (∃ eo ec, StIn W (a.add (i * 5)) s eo ec) ∧ s.tag ≤ 9223372036854775807 := fun i => by
      by_cases hil : i < len
      · obtain ⟨cs', h1, h2⟩ := hi i (by omega)
        obtain ⟨s, eo, ec, rfl, hs, ht⟩ := state_cells h2
        rw [show Tryd.prog.cellsOf 56 = 5 by kernel_rfl] at h1
        obtain ⟨_, _, hc⟩ := World.cells?_some h1
        have k0 := hc 0 (by omega)
        have k1 := hc 1 (by omega)
        have k2 := hc 2 (by omega)
        have k3 := hc 3 (by omega)
        have k4 := hc 4 (by omega)
        rw [add_add] at k0 k1 k2 k3 k4
        rw [Nat.add_zero] at k0
        rw [add_add'] at k1 k2 k3 k4
        exact ⟨s, fun _ => ⟨⟨eo, ec, ⟨k0, k1, k2, k3, k4, hs⟩⟩, ht⟩⟩
      · exact ⟨default, fun h => absurd h hil⟩
    obtain ⟨f, hf⟩ := Classical.skolem.1 hex
    have e : ∀ i, i < len → st ((List.range len).map f) i = f i := fun i hil => by simp [st, List.getD, hil]
    refine ⟨_, (List.range len).map f, hcs, .inr ⟨a, cap, by simp, by simp; omega, fun i hil => ?_⟩, fun i hil => ?_⟩
    · have hil' : i < len := by simpa using hil
      rw [e i hil']
      exact (hf i hil').1
    · have hil' : i < len := by simpa using hil
      rw [e i hil']
      exact (hf i hil').2
end
section
variable {H : Type} {enc : TypeId × Value → H} {W : World} {v : Value} {d : DataW H} {ps : List MemPlace} {base b2 : Nat} {sp : Nat → Bool} {held : Bool}
theorem nfa_of_trod (ho : Value.okWide Tryd.prog W .any b2 24 v) (h : DataW.Trod enc Tryd.prog W base sp held 24 v d ps) : ∃ a l, NfaAt W v a l ∧ TagsHi l := by
  obtain ⟨⟨cs⟩, rfl, _⟩ := okWide_struct Tryd.underlying24 ho
  obtain ⟨fuel, hf⟩ := h
  obtain ⟨xs, k, _, _, hl, hxl, hf⟩ := DataW.trod_struct Tryd.underlying24 hf
  rw [show Tryd.prog.cellsOf 24 = 2 by kernel_rfl] at hl
  match cs, hl, xs, hxl with
  | [c0, c1], _, [y0, y1], _ =>
    have g0 : DataW.trod enc Tryd.prog W base sp held k 3 ((([c0, c1] : List Value).drop 0).take (Tryd.prog.cellsOf 3)) = some y0 := hf 0 _ rfl
    have g1 : DataW.trod enc Tryd.prog W base sp held k 22 ((([c0, c1] : List Value).drop 1).take (Tryd.prog.cellsOf 22)) = some y1 := hf 1 _ rfl
    rw [show Tryd.prog.cellsOf 3 = 1 by kernel_rfl] at g0
    rw [show Tryd.prog.cellsOf 22 = 1 by kernel_rfl] at g1
    obtain ⟨n0, rfl, _⟩ := int_cell g0 (by simp)
    obtain ⟨u, l, e1, hs, ht⟩ := states_cell (x := y1) g1
    have e1' : c1 = u := by simpa using e1
    subst e1'
    exact ⟨n0, l, ⟨c1, rfl, hs⟩, ht⟩
end

end Go.Proofs.YtfbphiamelongaaDoor.Cl

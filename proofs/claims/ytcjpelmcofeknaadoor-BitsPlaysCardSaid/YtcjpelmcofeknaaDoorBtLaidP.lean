/- The first law's calls among a row's arguments, and its walk, as its card asks it. -/
import Derived.Test.YtcjpelmcofeknaaDoorBtPlay
import Derived.Test.YtcjpelmcofeknaaDoorBtTabL
import Derived.Test.YtcjpelmcofeknaaDoorCardKit
import Derived.Test.YtcjpelmcofeknaaDoorIntsCard
import Derived.Deep.SlicePairs
import Derived.ChangeSlices
import Derived.Carry
import Derived.OpenShut
import Derived.ChangeArms
import Derived.Deep.Slices
import Derived.DataReads
import Derived.WideShapes
namespace Go.Proofs.YtcjpelmcofeknaaDoor.Bt
open Go Go.RowKit Go.ChangeShapes Go.WideShapes Go.Deep Go.Shelf

set_option maxRecDepth 4000
theorem add_nxt (a : Addr) (m o : Nat) : a.add (m + (o + 1)) = ⟨(a.add m).block, (a.add m).off + (o + 1), none⟩ := by
  unfold Addr.add
  by_cases h : m = 0
  · simp [h]
  · simp [h]; omega
section
variable {H : Type} {enc : TypeId × Value → H} {W : World} {base : Nat} {sp : Nat → Bool} {held : Bool} {fuel : Nat} {cs : List Value} {x : DataW H × List MemPlace}
theorem int_cell {t : TypeId} (ht : Tryd.prog.underlying t = some (.int .i64)) {u : Value} {y : Option (DataW H × List MemPlace)} (h : DataW.trod enc Tryd.prog W base sp held fuel t [u] = y) (hy : y ≠ none) : ∃ n : Int, u = .int .i64 n := by
  obtain ⟨z, rfl⟩ := Option.ne_none_iff_exists'.1 hy
  obtain ⟨n, hn, _, _⟩ := DataW.trod_int ht h
  exact ⟨n, by simpa using hn⟩
/-- a slice of numbers, by its cell -/
theorem ints_cell (h : DataW.trod enc Tryd.prog W base sp held fuel 28 cs = some x) : ∃ v l, cs = [v] ∧ IntsAt W v l := by
  rcases open_ints Tryd.underlying28 Tryd.underlying3 cellsInt h with ⟨hcs, _⟩ | ⟨a, len', cap', zs, hcs, _, hl, hm, hz, _, hcell, _⟩
  · exact ⟨_, [], hcs, .inl ⟨rfl, rfl⟩⟩
  · have hzl : len' ≤ zs.length := by rw [hz]; split <;> omega
    have hll : (zs.take len').length = len' := by rw [List.length_take]; omega
    refine ⟨_, zs.take len', hcs, .inr ⟨a, cap', by rw [hll], by omega, fun i hi => ?_⟩⟩
    rw [hcell i (by omega)]
    rw [hll] at hi
    simp [List.getD, hi]
/-- a call's three cells -/
theorem act_cells (h : DataW.trod enc Tryd.prog W base sp held fuel 31 cs = some x) : ∃ p : PA, cs = [.int .i64 p.k, .int .i64 p.n, p.v] ∧ IntsAt W p.v p.l := by
  obtain ⟨xs, k, _, _, hl, hxl, hf⟩ := DataW.trod_struct Tryd.underlying31 h
  rw [show Tryd.prog.cellsOf 31 = 3 by kernel_rfl] at hl
  match cs, hl, xs, hxl with
  | [c0, c1, c2], _, [y0, y1, y2], _ =>
    have g0 : DataW.trod enc Tryd.prog W base sp held k 3 ((([c0, c1, c2] : List Value).drop 0).take (Tryd.prog.cellsOf 3)) = some y0 := hf 0 _ rfl
    have g1 : DataW.trod enc Tryd.prog W base sp held k 3 ((([c0, c1, c2] : List Value).drop 1).take (Tryd.prog.cellsOf 3)) = some y1 := hf 1 _ rfl
    have g2 : DataW.trod enc Tryd.prog W base sp held k 28 ((([c0, c1, c2] : List Value).drop 2).take (Tryd.prog.cellsOf 28)) = some y2 := hf 2 _ rfl
    rw [show Tryd.prog.cellsOf 3 = 1 by kernel_rfl] at g0 g1
    rw [show Tryd.prog.cellsOf 28 = 1 by kernel_rfl] at g2
    obtain ⟨m, rfl⟩ := int_cell Tryd.underlying3 g0 (by simp)
    obtain ⟨n, rfl⟩ := int_cell Tryd.underlying3 g1 (by simp)
    obtain ⟨v, l, e, hi⟩ := ints_cell (x := y2) g2
    have e' : c2 = v := by simpa using e
    subst e'
    exact ⟨⟨m, n, c2, l⟩, rfl, hi⟩
end

theorem acts_of_trod {H : Type} {enc : TypeId × Value → H} {W : World} {v : Value} {d : DataW H} {ps : List MemPlace} {base b2 : Nat} {sp : Nat → Bool} {held : Bool} (ho : Value.okWide Tryd.prog W .any b2 22 v) (h : DataW.Trod enc Tryd.prog W base sp held 22 v d ps) : ∃ l, ActsAt W v l := by
  obtain ⟨a0, len0, cap0, rfl⟩ := okWide_slice Tryd.underlying22 ho
  obtain ⟨fuel, hf⟩ := h
  rcases open_slice Tryd.underlying22 hf with ⟨hcs, _⟩ | ⟨a, len, cap, m, n, D, Pl, hcs, _, hl, hm, hmm, _, hi⟩
  · exact ⟨[], .inl ⟨by simpa [Value.cells] using hcs, rfl⟩⟩
  · have hv : Value.slice a0 len0 cap0 = .slice (some a) len cap := by simpa [Value.cells] using hcs
    rw [hv]
    have hlm : len ≤ m := by rw [hmm]; split <;> omega
    have hex : ∀ i, ∃ x : PA, i < len → W.cell? (a.add (i * 3)) = some (.int .i64 x.k) ∧ W.cell? ⟨(a.add (i * 3)).block, (a.add (i * 3)).off + 1, none⟩ = some (.int .i64 x.n) ∧ W.cell? ⟨(a.add (i * 3)).block, (a.add (i * 3)).off + 2, none⟩ = some x.v ∧ IntsAt W x.v x.l := fun i => by
      by_cases hil : i < len
      · obtain ⟨cs', h1, h2⟩ := hi i (by omega)
        obtain ⟨p, rfl, r⟩ := act_cells h2
        rw [show Tryd.prog.cellsOf 31 = 3 by kernel_rfl] at h1
        obtain ⟨_, _, hc⟩ := World.cells?_some h1
        have k0 := hc 0 (by omega)
        have k1 := hc 1 (by omega)
        have k2 := hc 2 (by omega)
        rw [add_add] at k0 k1 k2
        rw [Nat.add_zero] at k0
        rw [add_nxt] at k1 k2
        exact ⟨p, fun _ => ⟨k0, k1, k2, r⟩⟩
      · exact ⟨⟨0, 0, .slice none 0 0, []⟩, fun h => absurd h hil⟩
    obtain ⟨f, hf'⟩ := Classical.skolem.1 hex
    refine ⟨(List.range len).map f, .inr ⟨a, cap, by simp, by simp; omega, fun i hil => ?_⟩⟩
    have hil' : i < len := by simpa using hil
    have : ((List.range len).map f)[i] = f i := by simp
    rw [this]
    exact hf' i hil'

theorem walkPlays (rm : Int) (acts : List PA) (v : Value) (ask : Int) (W : World) (_ : -9223372036854775808 ≤ rm) (_ : rm ≤ 9223372036854775807) (hl : ActsAt W v acts) (_ : -9223372036854775808 ≤ ask) (_ : ask ≤ 9223372036854775807) (h : Tab W) : Calls Tryd.prog 3 #[.int .i64 rm, v, .int .i64 ask] W fun e W' => e = .returned (.bool true) ∧ Below W.heap.size W W' := plays_any rm ask v acts W h hl

end Go.Proofs.YtcjpelmcofeknaaDoor.Bt

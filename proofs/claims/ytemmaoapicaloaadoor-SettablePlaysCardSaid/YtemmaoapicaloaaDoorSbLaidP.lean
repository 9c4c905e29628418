/- The first law's arguments, and its walk, as its card asks it. -/
import Derived.Test.YtemmaoapicaloaaDoorSbPlay
import Derived.Test.YtemmaoapicaloaaDoorBtTabL
import Derived.Test.YtemmaoapicaloaaDoorCardKit
import Derived.Test.YtemmaoapicaloaaDoorIntsCard
import Derived.Deep.SlicePairs
import Derived.ChangeSlices
import Derived.Carry
import Derived.OpenShut
import Derived.ChangeArms
import Derived.Deep.Slices
import Derived.DataReads
import Derived.WideShapes
namespace Go.Proofs.YtemmaoapicaloaaDoor.Sp
open Go Go.RowKit Go.ChangeShapes Go.WideShapes Go.Deep Go.Shelf
open Go.Proofs.YtemmaoapicaloaaDoor.Bt (Tab)

set_option maxRecDepth 4000
section
variable {H : Type} {enc : TypeId × Value → H} {W : World} {base : Nat} {sp : Nat → Bool} {held : Bool} {fuel : Nat} {cs : List Value} {x : DataW H × List MemPlace}
/-- a slice of numbers, by its cell -/
theorem ints_cell (h : DataW.trod enc Tryd.prog W base sp held fuel 27 cs = some x) : ∃ v l, cs = [v] ∧ IntsAt W v l := by
  rcases open_ints Tryd.underlying27 Tryd.underlying3 cellsInt h with ⟨hcs, _⟩ | ⟨a, len', cap', zs, hcs, _, hl, hm, hz, _, hcell, _⟩
  · exact ⟨_, [], hcs, .inl ⟨rfl, rfl⟩⟩
  · have hzl : len' ≤ zs.length := by rw [hz]; split <;> omega
    have hll : (zs.take len').length = len' := by rw [List.length_take]; omega
    refine ⟨_, zs.take len', hcs, .inr ⟨a, cap', by rw [hll], by omega, fun i hi => ?_⟩⟩
    rw [hcell i (by omega)]
    rw [hll] at hi
    simp [List.getD, hi]
theorem u8_cell (h : DataW.trod enc Tryd.prog W base sp held fuel 5 cs = some x) : ∃ n : Nat, cs = [.int .u8 (n : Nat)] ∧ n ≤ 255 := by
  obtain ⟨n, hn, _, wf⟩ := DataW.trod_int Tryd.underlying5 h
  have hb := bounds_u8 wf
  refine ⟨n.toNat, ?_, by omega⟩
  rw [show ((n.toNat : Nat) : Int) = n by omega]
  simpa using hn
end

theorem lists_of_trod {H : Type} {enc : TypeId × Value → H} {W : World} {v : Value} {d : DataW H} {ps : List MemPlace} {base b2 : Nat} {sp : Nat → Bool} {held : Bool} (ho : Value.okWide Tryd.prog W .any b2 23 v) (h : DataW.Trod enc Tryd.prog W base sp held 23 v d ps) : ∃ l, Sb.LsAt W v l := by
  obtain ⟨a0, len0, cap0, rfl⟩ := okWide_slice Tryd.underlying23 ho
  obtain ⟨fuel, hf⟩ := h
  rcases open_slice Tryd.underlying23 hf with ⟨hcs, _⟩ | ⟨a, len, cap, m, n, D, Pl, hcs, _, hl, hm, hmm, _, hi⟩
  · exact ⟨[], .inl ⟨by simpa [Value.cells] using hcs, rfl⟩⟩
  · have hv : Value.slice a0 len0 cap0 = .slice (some a) len cap := by simpa [Value.cells] using hcs
    rw [hv]
    have hlm : len ≤ m := by rw [hmm]; split <;> omega
    have hex : ∀ i, ∃ y : List Int, i < len → ∃ x, W.cell? (a.add i) = some x ∧ IntsAt W x y := fun i => by
      by_cases hil : i < len
      · obtain ⟨cs', h1, h2⟩ := hi i (by omega)
        obtain ⟨x, l, rfl, hx⟩ := ints_cell h2
        rw [show Tryd.prog.cellsOf 27 = 1 by kernel_rfl, Nat.mul_one] at h1
        obtain ⟨_, _, hc⟩ := World.cells?_some h1
        have k0 := hc 0 (by omega)
        rw [add_add, Nat.add_zero] at k0
        exact ⟨l, fun _ => ⟨x, by simpa using k0, hx⟩⟩
      · exact ⟨[], fun h => absurd h hil⟩
    obtain ⟨f, hf'⟩ := Classical.skolem.1 hex
    refine ⟨(List.range len).map f, .inr ⟨a, cap, by simp, by simp; omega, fun i hil => ?_⟩⟩
    have hil' : i < len := by simpa using hil
    have : ((List.range len).map f).getD i [] = f i := by simp [List.getD, hil']
    rw [this]
    exact hf' i hil'
theorem u8s_of_trod {H : Type} {enc : TypeId × Value → H} {W : World} {v : Value} {d : DataW H} {ps : List MemPlace} {base b2 : Nat} {sp : Nat → Bool} {held : Bool} (ho : Value.okWide Tryd.prog W .any b2 22 v) (h : DataW.Trod enc Tryd.prog W base sp held 22 v d ps) : ∃ l, Sb.U8At W v l := by
  obtain ⟨a0, len0, cap0, rfl⟩ := okWide_slice Tryd.underlying22 ho
  obtain ⟨fuel, hf⟩ := h
  rcases open_slice Tryd.underlying22 hf with ⟨hcs, _⟩ | ⟨a, len, cap, m, n, D, Pl, hcs, _, hl, hm, hmm, _, hi⟩
  · exact ⟨[], .inl ⟨by simpa [Value.cells] using hcs, rfl⟩⟩
  · have hv : Value.slice a0 len0 cap0 = .slice (some a) len cap := by simpa [Value.cells] using hcs
    rw [hv]
    have hlm : len ≤ m := by rw [hmm]; split <;> omega
    have hex : ∀ i, ∃ y : Nat, i < len → W.cell? (a.add i) = some (.int .u8 (y : Nat)) ∧ y ≤ 255 := fun i => by
      by_cases hil : i < len
      · obtain ⟨cs', h1, h2⟩ := hi i (by omega)
        obtain ⟨x, rfl, hx⟩ := u8_cell h2
        rw [show Tryd.prog.cellsOf 5 = 1 by kernel_rfl, Nat.mul_one] at h1
        obtain ⟨_, _, hc⟩ := World.cells?_some h1
        have k0 := hc 0 (by omega)
        rw [add_add, Nat.add_zero] at k0
        exact ⟨x, fun _ => ⟨by simpa using k0, hx⟩⟩
      · exact ⟨0, fun h => absurd h hil⟩
    obtain ⟨f, hf'⟩ := Classical.skolem.1 hex
    refine ⟨(List.range len).map f, .inr ⟨a, cap, by simp, by simp; omega, fun i hil => ?_⟩⟩
    have hil' : i < len := by simpa using hil
    have : ((List.range len).map f).getD i 0 = f i := by simp [List.getD, hil']
    rw [this]
    exact hf' i hil'

theorem st_of_laid {W : World} (h : laidMet Tryd.prog [("math/bits.deBruijn64tab", Rows.laid_math_bits_deBruijn64tab)] W) : Tab W := Bt.st_of_laid h
theorem walkPlays (most : Int) (rs : List Nat) (rv : Value) (l : List (List Int)) (lv : Value) (W : World) (_ : -9223372036854775808 ≤ most) (_ : most ≤ 9223372036854775807) (hr : Sb.U8At W rv rs) (hl : Sb.LsAt W lv l) (hT : Tab W) :
    Calls Tryd.prog 3 #[.int .i64 most, rv, lv] W fun e w' => e = .returned (.bool true) ∧ Below W.heap.size W w' := Sb.plays_any most rv rs lv l W hT hr hl

end Go.Proofs.YtemmaoapicaloaaDoor.Sp

/- A slice of ranges among a row's arguments: what it gives to a walk. -/
import Derived.Test.YtchfpokhngbpmaaRgApp
import Derived.Deep.SlicePairs
import Derived.ChangeSlices
import Derived.WideShapes
import Derived.Carry
import Derived.OpenShut
namespace Go.Proofs.Ytchfpokhngbpmaa.Rg
open Go.RowKit Go.ChangeShapes Go.WideShapes Go.Deep

theorem rngs_of_trod {H : Type} {enc : TypeId × Value → H} {W : World} {v : Value} {d : DataW H} {ps : List MemPlace} {base b2 : Nat} (ho : Value.okWide Try.prog W .any b2 22 v)
    (h : DataW.Trod enc Try.prog W base (fun _ => true) true 22 v d ps) : ∃ l : List R, RngsAt W v l := by
  obtain ⟨a0, len, cap, rfl⟩ := okWide_slice Try.underlying22 ho
  obtain ⟨fuel, hf⟩ := h
  rcases open_slice_pairs Try.underlying22 Try.underlying39 (by kernel_rfl) rfl rfl (by kernel_rfl) (by kernel_rfl) hf with ⟨hcs, _⟩ | ⟨a, len', cap', m, n, V0, V1, D0, D1, P0, P1, hcs, _, hl, hm, hmm, _, hi⟩
  · refine ⟨[], .inl ⟨?_, rfl⟩⟩
    simpa [Value.cells] using hcs
  · have hv : Value.slice a0 len cap = .slice (some a) len' cap' := by simpa [Value.cells] using hcs
    have hmc : m = cap' := by simpa using hmm
    refine ⟨(List.range len').map fun i => (intOf (V0 i), intOf (V1 i)), .inr ⟨a, cap', by rw [hv]; simp, by simp; omega, fun i hil => ?_⟩⟩
    have hil' : i < len' := by simpa using hil
    obtain ⟨h1, h2, h3, h4⟩ := hi i (by omega)
    obtain ⟨x, hx, _, _⟩ := DataW.trod_int Try.underlying3 h3
    obtain ⟨y, hy, _, _⟩ := DataW.trod_int Try.underlying3 h4
    have ex : V0 i = .int .i64 x := by simpa using hx
    have ey : V1 i = .int .i64 y := by simpa using hy
    have hn : nth ((List.range len').map fun i => (intOf (V0 i), intOf (V1 i))) i = (x, y) := by
      simp [nth, List.getD, hil', ex, ey, intOf]
    rw [hn]
    refine ⟨by rw [h1, ex], ?_⟩
    rw [add_pair] at h2
    rw [h2, ey]

end Go.Proofs.Ytchfpokhngbpmaa.Rg

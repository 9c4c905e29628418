/- A slice of numbers among a row's arguments: what it gives to a walk. -/
import Derived.Test.YtemmaoapicaloaaDoorInts
import Derived.Test.YtemmaoapicaloaaDoorCardKit
import Derived.ChangeSlices
import Derived.WideShapes
import Derived.Carry
import Derived.OpenShut
namespace Go.Proofs.YtemmaoapicaloaaDoor
open Go.RowKit Go.ChangeShapes Go.WideShapes

theorem cellsInt : Tryd.prog.cellsOf 3 = 1 := by kernel_rfl
theorem wf_i64 {x : Int} (h : (Lit.int .i64 x).wf = true) : -9223372036854775808 ≤ x ∧ x ≤ 9223372036854775807 := bounds_i64 h

set_option maxRecDepth 100000 in
theorem ints_of_trod {H : Type} {enc : TypeId × Value → H} {W : World} {v : Value} {d : DataW H} {ps : List MemPlace} {base b2 : Nat} (ho : Value.okWide Tryd.prog W .any b2 27 v)
    (h : DataW.Trod enc Tryd.prog W base (fun _ => true) true 27 v d ps) : ∃ l : List Int, IntsAt W v l ∧ ∀ x ∈ l, -9223372036854775808 ≤ x ∧ x ≤ 9223372036854775807 := by
  obtain ⟨a0, len, cap, rfl⟩ := okWide_slice Tryd.underlying27 ho
  obtain ⟨fuel, hf⟩ := h
  rcases open_ints Tryd.underlying27 Tryd.underlying3 cellsInt hf with ⟨hcs, hx⟩ | ⟨a, len', cap', zs, hcs, _, hl, hm, hz, hx, hcell, hw⟩
  · refine ⟨[], .inl ⟨?_, rfl⟩, by simp⟩
    simpa [Value.cells] using hcs
  · have hv : Value.slice a0 len cap = .slice (some a) len' cap' := by simpa [Value.cells] using hcs
    have hzl : zs.length = cap' := by simpa using hz
    have hll : (zs.take len').length = len' := by rw [List.length_take]; omega
    refine ⟨zs.take len', .inr ⟨a, cap', by rw [hv, hll], by omega, fun i hi => ?_⟩, fun x hx => wf_i64 (hw x (List.mem_of_mem_take hx))⟩
    rw [hcell i (by omega)]
    rw [hll] at hi
    simp [List.getD, hi]

end Go.Proofs.YtemmaoapicaloaaDoor

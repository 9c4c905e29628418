/- What the rows' listed variable gives: the library's table. -/
import Derived.Test.YtemmaoapicaloaaDoorBtAll
import Derived.Test.YtemmaoapicaloaaDoorRows
import Derived.Deep.Strs
import Derived.Stop.LaidErr
import Derived.OpenShut
import Derived.Deep.Slices
namespace Go.Proofs.YtemmaoapicaloaaDoor.Bt
open Go Go.RowKit Go.Deep

theorem gTab : Tryd.prog.globalNamed "math/bits.deBruijn64tab" = some 0 := by kernel_rfl
theorem gTabType : (Tryd.prog.globals[0]?).map (·.type) = some 65 := by kernel_rfl
theorem cellsB : Tryd.prog.cellsOf 5 = 1 := by kernel_rfl
theorem laid_is {H : Type} : (Rows.laid_math_bits_deBruijn64tab : DataW H) = .agg (Lib.deBruijn64tab.map fun n : Nat => .lit (.int .u8 (n : Int))) := rfl
theorem take_one {cs : List Value} {j : Nat} {v : Value} (h : (cs.drop j).take 1 = [v]) : cs[j]? = some v := by
  have := congrArg (·[0]?) h
  simp only [List.getElem?_cons_zero] at this
  rw [List.getElem?_take, if_pos (by omega), List.getElem?_drop] at this
  simpa using this

theorem st_of_laid {W : World} (h : laidMet Tryd.prog [("math/bits.deBruijn64tab", Rows.laid_math_bits_deBruijn64tab)] W) : Tab W := by
  rw [laid_is] at h
  obtain ⟨ps, ⟨g', t', cs, fuel, p, q, hg', ht', hvar, hd, _, _⟩, _⟩ := h
  obtain rfl := Option.some.inj (gTab.symm.trans hg')
  obtain rfl := Option.some.inj (gTabType.symm.trans ht')
  obtain ⟨xs, m, _, hx, hl, hxl, hg⟩ := DataW.trod_array Tryd.underlying65 hd
  simp only [Prod.mk.injEq, DataW.agg.injEq] at hx
  rw [cellsB] at hg
  intro j hj
  have h1 := hg j (by simpa [Lib.deBruijn64tab] using hj)
  have h2 : (xs.map (·.1))[j]? = some (.lit (.int .u8 ((Lib.deBruijn64tab.getD j 0 : Nat) : Int))) := by
    rw [← hx.1, List.getElem?_map, List.getElem?_eq_getElem hj]
    simp [List.getD, hj]
  rw [List.getElem?_map] at h2
  obtain ⟨⟨z, zp⟩, hz, hz2⟩ := Option.map_eq_some_iff.1 h2
  simp only at hz2
  subst hz2
  rw [hz] at h1
  obtain ⟨a0, e0, z0, _⟩ := DataW.trod_int Tryd.underlying5 h1
  simp only [Prod.mk.injEq, DataW.lit.injEq, Lit.int.injEq, true_and] at z0
  have hcell := take_one (by rw [Nat.mul_one] at e0; exact e0)
  rw [← z0.1] at hcell
  rw [show (⟨0, j, none⟩ : Addr) = ⟨0, 0 + j, none⟩ by rw [Nat.zero_add], World.var?_cell gTab hvar (0 + j), Nat.zero_add]
  simpa using hcell

end Go.Proofs.YtemmaoapicaloaaDoor.Bt

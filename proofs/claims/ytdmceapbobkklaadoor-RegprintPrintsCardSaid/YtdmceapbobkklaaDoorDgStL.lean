/- The tables of digits, out of a row's listed variables. -/
import Derived.Test.YtdmceapbobkklaaDoorDgSt0
import Derived.Test.YtdmceapbobkklaaDoorRows
import Derived.Stop.LaidErr
namespace Go.Proofs.YtdmceapbobkklaaDoor.Dg
open Go.RowKit

theorem gTab : Tryd.prog.globalNamed "spool/digit.digits16" = some 0 := by kernel_rfl
theorem gTabType : (Tryd.prog.globals[0]?).map (·.type) = some 106 := by kernel_rfl
theorem cells22 : Tryd.prog.cellsOf 106 = 22 := by kernel_rfl
theorem cellsU8 : Tryd.prog.cellsOf 5 = 1 := by kernel_rfl
theorem gPow : Tryd.prog.globalNamed "internal/strconv.uint64pow10" = some 1 := by kernel_rfl
theorem gPowType : (Tryd.prog.globals[1]?).map (·.type) = some 116 := by kernel_rfl
theorem cells20 : Tryd.prog.cellsOf 116 = 20 := by kernel_rfl
theorem cellsU64 : Tryd.prog.cellsOf 109 = 1 := by kernel_rfl

theorem tab_of {W : World} (h : Lib.TabIs Tryd.prog W "spool/digit.digits16" .u8 (tab.map fun c => (c.toNat : Int))) : Tab W := by
  intro k hk
  have := h.cell gTab k (by simpa [tab] using hk)
  rw [this]
  congr 2
  simp [List.getD, List.getElem?_map]
  cases e : tab[k]? <;> simp

theorem st_of_laid {W : World} (h : laidMet Tryd.prog [("math/bits.deBruijn32tab", Rows.laid_math_bits_deBruijn32tab), ("math/bits.deBruijn64tab", Rows.laid_math_bits_deBruijn64tab), ("internal/strconv.uint64pow10", Rows.laid_internal_strconv_uint64pow10), ("spool/digit.digits16", Rows.laid_spool_digit_digits16)] W) : St W :=
  ⟨tab_of (Lib.tabIs_of_head (rest := []) gTab gTabType Tryd.underlying106 Tryd.underlying5 cellsU8 cells22 h.tail.tail.tail),
   Lib.tabIs_of_head gPow gPowType Tryd.underlying116 Tryd.underlying109 cellsU64 cells20 h.tail.tail⟩

end Go.Proofs.YtdmceapbobkklaaDoor.Dg

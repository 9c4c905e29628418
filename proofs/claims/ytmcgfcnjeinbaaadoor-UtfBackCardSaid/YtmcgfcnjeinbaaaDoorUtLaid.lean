/- What the rows' listed variables give to the walks of the laws of utf: the two tables of the library's decoding. -/
import Derived.Test.YtmcgfcnjeinbaaaDoorUtLaws
import Derived.Test.YtmcgfcnjeinbaaaDoorRows
import Derived.Lib.LaidU8T
namespace Go.Proofs.YtmcgfcnjeinbaaaDoor.Ut
open Go.RowKit

theorem u8types : U8Types Tryd.prog Tryd.lays260_ren := U8Types.of260 Tryd.lays260
theorem u8extra : U8Extra Tryd.prog Tryd.lays260_ren where
  n3 := by kernel_rfl
  n4 := by kernel_rfl
  y3 := by kernel_rfl
  y4 := by kernel_rfl
  c5 := by kernel_rfl
  c119 := by kernel_rfl
  c138 := by kernel_rfl
theorem first_is : Rows.laid_unicode_utf8_first = Lib.firstData := by kernel_rfl
theorem accept_is : (Rows.laid_unicode_utf8_acceptRanges : DataW Unit) = Lib.acceptData := by kernel_rfl

theorem st_of_laid {W : World} (h : laidMet Tryd.prog [("unicode/utf8.acceptRanges", Rows.laid_unicode_utf8_acceptRanges), ("unicode/utf8.first", Rows.laid_unicode_utf8_first)] W) : Tabs W :=
  utf8Tabs_of_readsT u8types u8extra (first_is ▸ Lib.laidMet.reads h (List.mem_cons_of_mem _ List.mem_cons_self)) (accept_is ▸ Lib.laidMet.reads h List.mem_cons_self)

end Go.Proofs.YtmcgfcnjeinbaaaDoor.Ut

/- What the rows' listed variables, and the arguments of two numbers, give to the walks of the laws of place. -/
import Derived.Test.YteimahbfjgcpiaaDoorPlLaws3
import Derived.Test.YteimahbfjgcpiaaDoorRows
import Derived.Test.YteimahbfjgcpiaaDoorCardKit
import Derived.Stop.LaidErr
import Derived.Lib.LaidTab
import Derived.Lib.SmallJoins
import Derived.Lib.LaidU8T
import Derived.ChangeSlices
import Derived.WideShapes
import Derived.Carry
import Derived.OpenShut
namespace Go.Proofs.YteimahbfjgcpiaaDoor.Pl
open Go.RowKit Go.ChangeShapes Go.WideShapes Go.Joins

/-- an array of texts that reads as these texts holds them, cell for cell -/
theorem texts_of_reads {H : Type} {enc : TypeId × Value → H} {P : Program} {w : World} {base : Nat} {sp : Nat → Bool} {held : Bool} {fuel : Nat} {t e : TypeId} {n : Nat} {cs : List Value} {ss : List (List UInt8)} {p : List MemPlace}
    (ht : P.underlying t = some (.array n e)) (he : P.underlying e = some .string) (hce : P.cellsOf e = 1) (hct : P.cellsOf t = n)
    (h : DataW.trod enc P w base sp held fuel t cs = some (.agg (ss.map fun s => .lit (.string s)), p)) (i : Nat) (hi : i < n) :
    cs[i]? = some (.string ⟨(ss.getD i []).toArray⟩) := by
  obtain ⟨xs, m, _, hx, hl, hxl, hg⟩ := DataW.trod_array ht h
  simp only [Prod.mk.injEq, DataW.agg.injEq] at hx
  have h1 := hg i hi
  rw [hce, Nat.mul_one, List.getElem?_eq_getElem (by omega)] at h1
  obtain ⟨s, hs, hd, _⟩ := DataW.trod_string he h1
  have hs' : cs[i]? = some (.string s) := by
    have := congrArg (·[0]?) hs
    simpa [List.getElem?_take, List.getElem?_drop] using this
  have h2 : (xs.map (·.1))[i]? = some (.lit (.string s.data.toList)) := by
    rw [List.getElem?_map, List.getElem?_eq_getElem (by omega), hd]; rfl
  rw [← hx.1, List.getElem?_map] at h2
  obtain ⟨z, hz, hz2⟩ := Option.map_eq_some_iff.1 h2
  simp only [DataW.lit.injEq, Lit.string.injEq] at hz2
  rw [hs', List.getD_eq_getElem?_getD, hz, Option.getD_some, hz2]
theorem texts_of_head {P : Program} {W : World} {name : String} {ss : List (List UInt8)} {rest : List (String × DataW Unit)} {g : Nat} {t e : TypeId} {n : Nat}
    (hg : P.globalNamed name = some g) (hty : (P.globals[g]?).map (·.type) = some t) (ht : P.underlying t = some (.array n e)) (he : P.underlying e = some .string) (hce : P.cellsOf e = 1) (hct : P.cellsOf t = n)
    (h : laidMet P ((name, .agg (ss.map fun s => .lit (.string s))) :: rest) W) (i : Nat) (hi : i < n) : W.cell? ⟨g, i, none⟩ = some (.string ⟨(ss.getD i []).toArray⟩) := by
  obtain ⟨ps, ⟨g', t', cs, fuel, p, q, hg', ht', hvar, hd, _, _⟩, _⟩ := h
  obtain rfl := Option.some.inj (hg.symm.trans hg')
  obtain rfl := Option.some.inj (hty.symm.trans ht')
  rw [World.var?_cell hg hvar i]
  simpa using texts_of_reads ht he hce hct hd i hi

theorem gWords : Tryd.prog.globalNamed "spool/place.words" = some 0 := by kernel_rfl
theorem gWordsType : (Tryd.prog.globals[0]?).map (·.type) = some 44 := by kernel_rfl
theorem cells19 : Tryd.prog.cellsOf 44 = 19 := by kernel_rfl
theorem cellsStr : Tryd.prog.cellsOf 9 = 1 := by kernel_rfl
theorem gPow : Tryd.prog.globalNamed "internal/strconv.uint64pow10" = some 2 := by kernel_rfl
theorem gPowType : (Tryd.prog.globals[2]?).map (·.type) = some 61 := by kernel_rfl
theorem cells20 : Tryd.prog.cellsOf 61 = 20 := by kernel_rfl
theorem cellsU64 : Tryd.prog.cellsOf 54 = 1 := by kernel_rfl

theorem st_of_laid {W : World} (h : laidMet Tryd.prog [("math/bits.deBruijn32tab", Rows.laid_math_bits_deBruijn32tab), ("math/bits.deBruijn64tab", Rows.laid_math_bits_deBruijn64tab), ("internal/strconv.uint64pow10", Rows.laid_internal_strconv_uint64pow10), ("spool/place.words", Rows.laid_spool_place_words)] W) : St W :=
  ⟨texts_of_head (ss := wordTab) (rest := []) gWords gWordsType Tryd.underlying44 Tryd.underlying9 cellsStr cells19 h.tail.tail.tail,
   Lib.tabIs_of_head gPow gPowType Tryd.underlying61 Tryd.underlying54 cellsU64 cells20 h.tail.tail⟩

section
variable {H : Type} {enc : TypeId × Value → H} {W : World} {v : Value} {d : DataW H} {ps : List MemPlace} {base b2 : Nat} {sp : Nat → Bool} {held : Bool}
theorem two_of_trod (ho : Value.okWide Tryd.prog W .any b2 22 v) (h : DataW.Trod enc Tryd.prog W base sp held 22 v d ps) :
    ∃ x y : Int, v = .agg #[.int .i64 x, .int .i64 y] ∧ (-9223372036854775808 ≤ x ∧ x ≤ 9223372036854775807) ∧ (-9223372036854775808 ≤ y ∧ y ≤ 9223372036854775807) := by
  obtain ⟨⟨cs⟩, rfl, hsz⟩ : ∃ cs, v = .agg cs ∧ cs.size = Tryd.prog.cellsOf 22 := by
    simp only [Value.okWide, Tryd.underlying22] at ho
    obtain ⟨cs, h1, h2, _⟩ := ho
    exact ⟨cs, h1, h2⟩
  rw [show Tryd.prog.cellsOf 22 = 2 by kernel_rfl] at hsz
  match cs, hsz with
  | [c0, c1], _ =>
    obtain ⟨fuel, hf⟩ := h
    obtain ⟨xs, m, _, _, _, hxl, hg⟩ := DataW.trod_array Tryd.underlying22 hf
    have h0 := hg 0 (by omega)
    have h1 := hg 1 (by omega)
    rw [show Tryd.prog.cellsOf 3 = 1 by kernel_rfl, List.getElem?_eq_getElem (by omega)] at h0 h1
    obtain ⟨x, hx, _, wx⟩ := DataW.trod_int Tryd.underlying3 h0
    obtain ⟨y, hy, _, wy⟩ := DataW.trod_int Tryd.underlying3 h1
    have ex : c0 = .int .i64 x := by simpa [Value.cells] using hx
    have ey : c1 = .int .i64 y := by simpa [Value.cells] using hy
    exact ⟨x, y, by rw [ex, ey], bounds_i64 wx, bounds_i64 wy⟩

theorem fault_of_trod (ho : Value.okWide Tryd.prog W .any b2 34 v) (h : DataW.Trod enc Tryd.prog W base sp held 34 v d ps) :
    ∃ x y : Int, v = .agg #[.int .i64 x, .int .i64 y] ∧ (-9223372036854775808 ≤ x ∧ x ≤ 9223372036854775807) ∧ (-9223372036854775808 ≤ y ∧ y ≤ 9223372036854775807) := by
  obtain ⟨v0, v1, y0, y1, n, rfl, _, _, h0, h1⟩ := open_agg2 Tryd.underlying34 (by kernel_rfl) (by kernel_rfl) ho h
  obtain ⟨x, hx, _, wx⟩ := DataW.trod_int Tryd.underlying32 h0
  obtain ⟨y, hy, _, wy⟩ := DataW.trod_int Tryd.underlying3 h1
  have ex : v0 = .int .i64 x := by simpa using hx
  have ey : v1 = .int .i64 y := by simpa using hy
  exact ⟨x, y, by rw [ex, ey], bounds_i64 wx, bounds_i64 wy⟩
end

end Go.Proofs.YteimahbfjgcpiaaDoor.Pl

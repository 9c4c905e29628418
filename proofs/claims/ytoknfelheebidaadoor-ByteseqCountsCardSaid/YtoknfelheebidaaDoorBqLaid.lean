/- What the row's listed variable, and a slice of ranges among its arguments, give to the walks of the laws of byteseq. -/
import Derived.Test.YtoknfelheebidaaDoorBqLaws
import Derived.Test.YtoknfelheebidaaDoorBqLaws2
import Derived.Test.YtoknfelheebidaaDoorRows
import Derived.Test.YtoknfelheebidaaDoorCardKit
import Derived.Test.YtoknfelheebidaaDoorRgTrod
import Derived.Deep.Strs
import Derived.Stop.LaidErr
namespace Go.Proofs.YtoknfelheebidaaDoor.Bq
open Go Go.RowKit Go.Deep Go.ChangeShapes Go.WideShapes Go.Proofs.YtoknfelheebidaaDoor.Rg

theorem part_one {cs : List Value} {j k o : Nat} {v : Value} (hk : o < k) (h : (((cs.drop j).take k).drop o).take 1 = [v]) : cs[j + o]? = some v := by
  have := congrArg (·[0]?) h
  simp only [List.getElem?_cons_zero] at this
  rw [List.getElem?_take, if_pos (by omega), List.getElem?_drop, List.getElem?_take, if_pos (by omega), List.getElem?_drop] at this
  simpa using this

theorem gSpans : Tryd.prog.globalNamed "spool/byteseq.spans" = some 0 := by kernel_rfl
theorem gSpansType : (Tryd.prog.globals[0]?).map (·.type) = some 42 := by kernel_rfl
theorem cells2 : Tryd.prog.cellsOf 35 = 2 := by kernel_rfl
theorem cellsI : Tryd.prog.cellsOf 3 = 1 := by kernel_rfl
theorem laid_is {H : Type} : (Rows.laid_spool_byteseq_spans : DataW H) = .agg (spansL.map fun r => .agg [.lit (.int .i64 r.1), .lit (.int .i64 r.2)]) := rfl

theorem row_of {H : Type} {enc : TypeId × Value → H} {w : World} {base : Nat} {sp : Nat → Bool} {held : Bool} {fuel i : Nat} {cs : List Value} {r : R} {p : List MemPlace}
    (h : DataW.trod enc Tryd.prog w base sp held fuel 35 ((cs.drop (i * 2)).take 2) = some (.agg [.lit (.int .i64 r.1), .lit (.int .i64 r.2)], p)) :
    cs[i * 2]? = some (.int .i64 r.1) ∧ cs[i * 2 + 1]? = some (.int .i64 r.2) := by
  obtain ⟨y0, y1, n, hx, hl, h0, h1⟩ := Go.ChangeShapes.trod_struct2 Tryd.underlying35 h
  obtain ⟨a0, e0, z0, _⟩ := DataW.trod_int Tryd.underlying3 h0
  obtain ⟨a1, e1, z1, _⟩ := DataW.trod_int Tryd.underlying3 h1
  rw [cellsI] at e0 e1
  subst z0 z1
  simp only [Prod.mk.injEq, DataW.agg.injEq, List.cons.injEq, DataW.lit.injEq, Lit.int.injEq, true_and, and_true] at hx
  obtain ⟨⟨q0, q1⟩, _⟩ := hx
  rw [q0, q1]
  exact ⟨by simpa using part_one (o := 0) (by omega) e0, part_one (o := 1) (by omega) e1⟩

theorem st_of_laid {W : World} (h : laidMet Tryd.prog [("spool/byteseq.spans", Rows.laid_spool_byteseq_spans)] W) : Tab W := by
  rw [laid_is] at h
  obtain ⟨ps, ⟨g', t', cs, fuel, p, q, hg', ht', hvar, hd, _, _⟩, _⟩ := h
  obtain rfl := Option.some.inj (gSpans.symm.trans hg')
  obtain rfl := Option.some.inj (gSpansType.symm.trans ht')
  obtain ⟨xs, m, _, hx, hl, hxl, hg⟩ := DataW.trod_array Tryd.underlying42 hd
  simp only [Prod.mk.injEq, DataW.agg.injEq] at hx
  rw [cells2] at hg
  intro j v hj
  obtain ⟨i, hi, hc⟩ := flatR_cells hj
  have hi5 : i < 5 := hi
  have h1 := hg i hi5
  have h2 : (xs.map (·.1))[i]? = some (.agg [.lit (.int .i64 (Rg.nth spansL i).1), .lit (.int .i64 (Rg.nth spansL i).2)]) := by
    rw [← hx.1, List.getElem?_map, nth_eq hi, List.getElem?_eq_getElem hi]; rfl
  rw [List.getElem?_map] at h2
  obtain ⟨⟨z, zp⟩, hz, hz2⟩ := Option.map_eq_some_iff.1 h2
  simp only at hz2
  subst hz2
  rw [hz] at h1
  obtain ⟨c0, c1⟩ := row_of h1
  rw [World.var?_cell gSpans hvar (0 + j)]
  rw [Nat.zero_add]
  rcases hc with ⟨rfl, rfl⟩ | ⟨rfl, rfl⟩
  · simpa using c0
  · simpa using c1

theorem walkMatches (l : List R) (v : Value) (s : ByteArray) (c : Int) (W : World) (hv : RngsAt W v l) (hs : s.size ≤ maxLen) (_ : -9223372036854775808 ≤ c) (_ : c ≤ 9223372036854775807) (h : Tab W) : Calls Tryd.prog 3 #[v, .string s, .int .i64 c] W fun e W' => e = .returned (.bool true) ∧ Below W.heap.size W W' := lawMatches_any l v s c W hv hs h
theorem walkCounts (l : List R) (v : Value) (W : World) (hv : RngsAt W v l) (h : Tab W) : Calls Tryd.prog 4 #[v] W fun e W' => e = .returned (.bool true) ∧ Below W.heap.size W W' := lawCounts_any l v W hv h
theorem rngs_of_trod {H : Type} {enc : TypeId × Value → H} {W : World} {v : Value} {d : DataW H} {ps : List MemPlace} {base b2 : Nat} (ho : Value.okWide Tryd.prog W .any b2 22 v)
    (h : DataW.Trod enc Tryd.prog W base (fun _ => true) true 22 v d ps) : ∃ l : List R, RngsAt W v l := Rg.rngs_of_trod ho h

end Go.Proofs.YtoknfelheebidaaDoor.Bq

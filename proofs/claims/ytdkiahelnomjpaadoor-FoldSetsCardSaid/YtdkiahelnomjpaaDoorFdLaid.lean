/- What the row's listed variable, and a slice of ranges among its arguments, give to the walks of the laws of fold. -/
import Derived.Test.YtdkiahelnomjpaaDoorFdLaws2
import Derived.Test.YtdkiahelnomjpaaDoorRows
import Derived.Test.YtdkiahelnomjpaaDoorCardKit
import Derived.Test.YtdkiahelnomjpaaDoorRgTrod
import Derived.Deep.Strs
import Derived.Stop.LaidErr
namespace Go.Proofs.YtdkiahelnomjpaaDoor.Fd
open Go.RowKit Go.Deep Go.Proofs.YtdkiahelnomjpaaDoor.Rg

theorem take_one {cs : List Value} {j k : Nat} {v : Value} (hk : 1 ≤ k) (h : ((cs.drop j).take k).take 1 = [v]) : cs[j]? = some v := by
  have := congrArg (·[0]?) h
  simp only [List.getElem?_cons_zero] at this
  rw [List.getElem?_take, if_pos (by omega), List.getElem?_take, if_pos (by omega), List.getElem?_drop] at this
  simpa using this
theorem part_one {cs : List Value} {j k o : Nat} {v : Value} (hk : o < k) (h : (((cs.drop j).take k).drop o).take 1 = [v]) : cs[j + o]? = some v := by
  have := congrArg (·[0]?) h
  simp only [List.getElem?_cons_zero] at this
  rw [List.getElem?_take, if_pos (by omega), List.getElem?_drop, List.getElem?_take, if_pos (by omega), List.getElem?_drop] at this
  simpa using this

theorem gPairs : Tryd.prog.globalNamed "spool/fold.pairs" = some 0 := by kernel_rfl
theorem gPairsType : (Tryd.prog.globals[0]?).map (·.type) = some 40 := by kernel_rfl
theorem cells21 : Tryd.prog.cellsOf 40 = 21 := by kernel_rfl
theorem cells3 : Tryd.prog.cellsOf 39 = 3 := by kernel_rfl
theorem cellsI : Tryd.prog.cellsOf 3 = 1 := by kernel_rfl
theorem laid_is {H : Type} : (Rows.laid_spool_fold_pairs : DataW H) = .agg (tab.map fun r => .agg [.lit (.int .i64 r.1), .lit (.int .i64 r.2.1), .lit (.int .i64 r.2.2)]) := rfl

theorem row_of {H : Type} {enc : TypeId × Value → H} {w : World} {base : Nat} {sp : Nat → Bool} {held : Bool} {fuel i : Nat} {cs : List Value} {r : Rw} {p : List MemPlace}
    (h : DataW.trod enc Tryd.prog w base sp held fuel 39 ((cs.drop (i * 3)).take 3) = some (.agg [.lit (.int .i64 r.1), .lit (.int .i64 r.2.1), .lit (.int .i64 r.2.2)], p)) :
    cs[i * 3]? = some (.int .i64 r.1) ∧ cs[i * 3 + 1]? = some (.int .i64 r.2.1) ∧ cs[i * 3 + 2]? = some (.int .i64 r.2.2) := by
  obtain ⟨y0, y1, y2, n, hx, hl, h0, h1, h2⟩ := trod_struct3 Tryd.underlying39 h
  obtain ⟨a0, e0, z0, _⟩ := DataW.trod_int Tryd.underlying3 h0
  obtain ⟨a1, e1, z1, _⟩ := DataW.trod_int Tryd.underlying3 h1
  obtain ⟨a2, e2, z2, _⟩ := DataW.trod_int Tryd.underlying3 h2
  rw [cellsI] at e0 e1 e2
  subst z0 z1 z2
  simp only [Prod.mk.injEq, DataW.agg.injEq, List.cons.injEq, DataW.lit.injEq, Lit.int.injEq, true_and, and_true] at hx
  obtain ⟨⟨q0, q1, q2⟩, _⟩ := hx
  rw [q0, q1, q2]
  exact ⟨by simpa using part_one (o := 0) (by omega) e0, part_one (o := 1) (by omega) e1, part_one (o := 2) (by omega) e2⟩

theorem tabCells_at (j : Nat) (v : Value) (h : tabCells[j]? = some v) : ∃ i r, i < 7 ∧ tab[i]? = some r ∧ ((j = i * 3 ∧ v = .int .i64 r.1) ∨ (j = i * 3 + 1 ∧ v = .int .i64 r.2.1) ∨ (j = i * 3 + 2 ∧ v = .int .i64 r.2.2)) := by
  have hj : j < 21 := (List.getElem?_eq_some_iff.1 h).1
  obtain rfl | rfl | rfl | rfl | rfl | rfl | rfl | rfl | rfl | rfl | rfl | rfl | rfl | rfl | rfl | rfl | rfl | rfl | rfl | rfl | rfl : j = 0 ∨ j = 1 ∨ j = 2 ∨ j = 3 ∨ j = 4 ∨ j = 5 ∨ j = 6 ∨ j = 7 ∨ j = 8 ∨ j = 9 ∨ j = 10 ∨ j = 11 ∨ j = 12 ∨ j = 13 ∨ j = 14 ∨ j = 15 ∨ j = 16 ∨ j = 17 ∨ j = 18 ∨ j = 19 ∨ j = 20 := by omega
  · exact ⟨0, _, by omega, rfl, .inl ⟨rfl, (Option.some.inj h).symm⟩⟩
  · exact ⟨0, _, by omega, rfl, .inr (.inl ⟨rfl, (Option.some.inj h).symm⟩)⟩
  · exact ⟨0, _, by omega, rfl, .inr (.inr ⟨rfl, (Option.some.inj h).symm⟩)⟩
  · exact ⟨1, _, by omega, rfl, .inl ⟨rfl, (Option.some.inj h).symm⟩⟩
  · exact ⟨1, _, by omega, rfl, .inr (.inl ⟨rfl, (Option.some.inj h).symm⟩)⟩
  · exact ⟨1, _, by omega, rfl, .inr (.inr ⟨rfl, (Option.some.inj h).symm⟩)⟩
  · exact ⟨2, _, by omega, rfl, .inl ⟨rfl, (Option.some.inj h).symm⟩⟩
  · exact ⟨2, _, by omega, rfl, .inr (.inl ⟨rfl, (Option.some.inj h).symm⟩)⟩
  · exact ⟨2, _, by omega, rfl, .inr (.inr ⟨rfl, (Option.some.inj h).symm⟩)⟩
  · exact ⟨3, _, by omega, rfl, .inl ⟨rfl, (Option.some.inj h).symm⟩⟩
  · exact ⟨3, _, by omega, rfl, .inr (.inl ⟨rfl, (Option.some.inj h).symm⟩)⟩
  · exact ⟨3, _, by omega, rfl, .inr (.inr ⟨rfl, (Option.some.inj h).symm⟩)⟩
  · exact ⟨4, _, by omega, rfl, .inl ⟨rfl, (Option.some.inj h).symm⟩⟩
  · exact ⟨4, _, by omega, rfl, .inr (.inl ⟨rfl, (Option.some.inj h).symm⟩)⟩
  · exact ⟨4, _, by omega, rfl, .inr (.inr ⟨rfl, (Option.some.inj h).symm⟩)⟩
  · exact ⟨5, _, by omega, rfl, .inl ⟨rfl, (Option.some.inj h).symm⟩⟩
  · exact ⟨5, _, by omega, rfl, .inr (.inl ⟨rfl, (Option.some.inj h).symm⟩)⟩
  · exact ⟨5, _, by omega, rfl, .inr (.inr ⟨rfl, (Option.some.inj h).symm⟩)⟩
  · exact ⟨6, _, by omega, rfl, .inl ⟨rfl, (Option.some.inj h).symm⟩⟩
  · exact ⟨6, _, by omega, rfl, .inr (.inl ⟨rfl, (Option.some.inj h).symm⟩)⟩
  · exact ⟨6, _, by omega, rfl, .inr (.inr ⟨rfl, (Option.some.inj h).symm⟩)⟩

theorem st_of_laid {W : World} (h : laidMet Tryd.prog [("spool/fold.pairs", Rows.laid_spool_fold_pairs)] W) : Tab W := by
  rw [laid_is] at h
  obtain ⟨ps, ⟨g', t', cs, fuel, p, q, hg', ht', hvar, hd, _, _⟩, _⟩ := h
  obtain rfl := Option.some.inj (gPairs.symm.trans hg')
  obtain rfl := Option.some.inj (gPairsType.symm.trans ht')
  obtain ⟨xs, m, _, hx, hl, hxl, hg⟩ := DataW.trod_array Tryd.underlying40 hd
  simp only [Prod.mk.injEq, DataW.agg.injEq] at hx
  rw [cells3] at hg
  intro j v hj
  obtain ⟨i, r, hi, hr, hc⟩ := tabCells_at j v hj
  have h1 := hg i hi
  have h2 : (xs.map (·.1))[i]? = some (.agg [.lit (.int .i64 r.1), .lit (.int .i64 r.2.1), .lit (.int .i64 r.2.2)]) := by
    rw [← hx.1, List.getElem?_map, hr]; rfl
  rw [List.getElem?_map] at h2
  obtain ⟨⟨z, zp⟩, hz, hz2⟩ := Option.map_eq_some_iff.1 h2
  simp only at hz2
  subst hz2
  rw [hz] at h1
  obtain ⟨c0, c1, c2⟩ := row_of h1
  rw [World.var?_cell gPairs hvar (0 + j)]
  rw [Nat.zero_add]
  rcases hc with ⟨rfl, rfl⟩ | ⟨rfl, rfl⟩ | ⟨rfl, rfl⟩
  · simpa using c0
  · simpa using c1
  · simpa using c2

theorem walkPairs (c : Int) (W : World) (_ : -9223372036854775808 ≤ c) (_ : c ≤ 9223372036854775807) (h : Tab W) : Calls Tryd.prog 3 #[.int .i64 c] W fun e W' => e = .returned (.bool true) ∧ Below W.heap.size W W' := lawPairs_any c W h
theorem walkTexts (a b : ByteArray) (W : World) (_ : a.size ≤ maxLen) (_ : b.size ≤ maxLen) (h : Tab W) : Calls Tryd.prog 5 #[.string a, .string b] W fun e W' => e = .returned (.bool true) ∧ Below W.heap.size W W' := lawTexts_any a b W h
theorem walkSets (l : List R) (v : Value) (c : Int) (W : World) (hv : RngsAt W v l) (_ : -9223372036854775808 ≤ c) (_ : c ≤ 9223372036854775807) (h : Tab W) : Calls Tryd.prog 4 #[v, .int .i64 c] W fun e W' => e = .returned (.bool true) ∧ Below W.heap.size W W' := lawSets_any l v c W hv h
theorem rngs_of_trod {H : Type} {enc : TypeId × Value → H} {W : World} {v : Value} {d : DataW H} {ps : List MemPlace} {base b2 : Nat} (ho : Value.okWide Tryd.prog W .any b2 27 v)
    (h : DataW.Trod enc Tryd.prog W base (fun _ => true) true 27 v d ps) : ∃ l : List R, RngsAt W v l := Rg.rngs_of_trod ho h

end Go.Proofs.YtdkiahelnomjpaaDoor.Fd

/- Collect, and the set of a name. -/
import Derived.Test.YtenmjnopbbingaaDoorNmHas
import Derived.Maps.AppendAt
namespace Go.Proofs.YtenmjnopbbingaaDoor.Nm
open Go.RowKit Go.Shelf Go.Proofs.YtenmjnopbbingaaDoor.Rg

attribute [local go_sem] Oper.semAt_some

theorem flatR_one' (x y : Int) : flatR [(x, y)] = [.int .i64 x, .int .i64 y] := rfl
theorem row_cells {W : World} {B n : Nat} {v : Value} {xs : List Value} (h : W.ownsRow B 40 2 v n xs) {j : Nat} (hj : v.ownBlock = some j) : B ≤ j ∧ ∃ (cs : Array Value) (t : TypeId) (fz : Nat × Nat), W.heap[j]? = some (Obj.cells cs t fz) ∧ ¬ TyN t := by
  rcases h.2 with ⟨rfl, _⟩ | ⟨g, cap, cur, rfl, hb, hg, _⟩
  · simp [Value.ownBlock] at hj
  · obtain rfl : g = j := by simpa [Value.ownBlock] using hj
    exact ⟨hb, _, _, _, hg, by unfold TyN; decide⟩

def Got (w : World) (pre : List R) (W : World) : Prop := ∃ v, Boxed W w.heap.size 23 v ∧ W.ownsRow w.heap.size 40 2 v pre.length (flatR pre) ∧ True
theorem got_own (w : World) : Own (Got w) := holdsRow_own w.heap.size w.heap.size 23 40 2 (fun pre : List R => pre.length) flatR (fun _ _ => True)

set_option maxRecDepth 100000 in
set_option maxHeartbeats 4000000 in
theorem append_seq (nm : ByteArray) (v0 : Value) (Bn : Nat) (w : World) (hT : Tab w) (hs : StrsAt w v0 [nm]) (hB0 : Boxed w Bn 31 v0) :
    Calls Tryd.prog 29 #[.slice none 0 0, .func (.func 30) #[] #[.pointer (some ⟨Bn, 0, none⟩)]] w fun e w' =>
      ∃ v', e = .returned v' ∧ w'.ownsRow w.heap.size 40 2 v' (eachN nm).length (flatR (eachN nm)) ∧ Below w.heap.size w w' := by
  obtain ⟨i0, hi, hz0, hz1, hz2⟩ := info_parts infoR
  have HT := Lib.hid hT
  have HS := Lib.hid hs
  have HX := Lib.hid (eachN_ok nm).1
  clear hT hs
  refine (callsIn_wide (n := 9)).1 (callsIn_of_wp_marks Tryd.func29 rfl trivial ?_ rfl)
  simp only [Tryd.ntmps29, List.size_toArray, List.length_cons, List.length_nil, Nat.reduceAdd, Nat.reduceSub, Array.replicate_succ, Array.replicate_zero, List.push_toArray, List.append_toArray, List.nil_append, List.cons_append]
  have bL := Boxed.new w 23 (.slice none 0 0)
  have hB := (Below.refl w.heap.size w).alloc (Nat.le_refl _) (.cells #[.slice none 0 0] 23)
  have hs1 : w.heap.size + 1 ≤ (w.alloc (.cells #[.slice none 0 0] 23)).heap.size := by simp
  have g0 : Got w [] (w.alloc (.cells #[.slice none 0 0] 23)) := ⟨_, bL, World.ownsRow_nil _ _ _ _, trivial⟩
  clear bL
  gi_wp2
  generalize w.alloc (.cells #[.slice none 0 0] 23) = V at *
  have ctr := ctr_all 5 [nm] okd_all
  refine range_law (Ty := TyN) (n₀ := w.heap.size) (gf := 30) (lb := #[.pointer (some ⟨Bn, 0, none⟩)]) rfl (enters_of Tryd.func30 (by kernel_rfl) rfl) (enc := rV) (X := eachN nm)
    (fun W1 hW => ctr w W1 _ _ HT.out (hB.trans (hW.mono hB.size)) HS.out (((hB.trans (hW.mono hB.size)).block _ hB0.lt).trans hB0)) hB.size rfl
    (fun pre W => Got w pre W ∧ Below w.heap.size w W)
    (fun _ _ => False)
    (OwnFrom.and (Own.from (got_own w) _) (ownFrom_below (Nat.le_refl _) (by omega)))
    (fun _ _ _ _ hs _ _ => hs.elim)
    ⟨g0, hB⟩
    (fun x a' W => ∃ Bx, BoxR W Bx x ∧ a' = { tmps := #[.slice none 0 0, .func (.func 30) #[] #[.pointer (some ⟨Bn, 0, none⟩)], .pointer (some ⟨w.heap.size, 0, none⟩), undef, .slice none 0 0, .pointer (some ⟨Bx, 0, none⟩), .func (.func 30) #[] #[.pointer (some ⟨Bn, 0, none⟩)], rV x, undef, undef, undef, undef, undef], defers := [] })
    ?hAx ?assign ?body ?done ?stop
  case hAx =>
    rintro x a' _ A C row ⟨Bx, h1, h2⟩ hg hr
    exact ⟨Bx, h1.kept hg (fun r e => (hr r e).2), h2⟩
  case assign =>
    rintro l2 pre ⟨x, y⟩ W4 K ⟨⟨v, b1, hr, _⟩, hb4⟩ hK
    simp only [rV] at hK ⊢
    gi_wp2
    have hal := (Below.refl W4.heap.size W4).alloc (Nat.le_refl _) (.cells #[.int .i64 x, .int .i64 y] 40)
    exact hK _ _ (Keeps.of_below hal hb4.size) ⟨⟨v, b1.alloc _, hr.alloc _, trivial⟩, hb4.alloc hb4.size _⟩ ⟨W4.heap.size, World.alloc_heap_new W4 _, rfl⟩
  case body =>
    rintro l2 pre ⟨x, y⟩ a' W4 ⟨⟨v, b1, hr, _⟩, hb4⟩ ⟨Bx, bX, rfl⟩ hlen
    obtain ⟨hx1, hx2⟩ := bX.cells
    simp only at hx1 hx2
    have c1 := b1.cell
    have hlim := HX.out
    simp only [rV]
    gi_wp2_with (gi_at_builtin; go_must (refine wpListIn_append_own _ rfl _ _ 23 rfl w.heap.size 40 i0 (.agg #[.int .i64 0, .int .i64 0]) 2 16 Tryd.underlying23 hi hz0 hz1 hz2 rfl (by decide) _ pre.length (flatR pre) rfl (hr.alloc _) ⟨W4.heap.size, 0, none⟩ 1 1 [.int .i64 x, .int .i64 y] rfl rfl (two_new _ _ _ _ _ (by simp)) (by simp [Value.oneCell']) (by unfold maxLen; omega) (by omega) (by have := hb4.size; simp; omega) ?_); intro v' w2 hown' hgrow _; obtain ⟨g', cap', rfl⟩ := ownsRow_succ hown'; obtain ⟨hv1, hv2, hr2, hk2, hb2⟩ := b1.appended (by decide) hr hb4.size (Nat.le_refl _) hown' hgrow; have hc1 := hv1.cell; have hf1 := hv1.frozen)
    have k1 : Keeps TyN w.heap.size V.heap.size W4 (W4.alloc (.cells #[.int .i64 x, .int .i64 y] 40)) := Keeps.of_below ((Below.refl _ _).alloc (Nat.le_refl _) _) hb4.size
    have k2 : Keeps TyN w.heap.size V.heap.size (W4.alloc (.cells #[.int .i64 x, .int .i64 y] 40)) w2 := Keeps.of_grown hgrow (by have := hb4.size; simp; omega) (fun j e => row_cells (hr.alloc _) e)
    exact ⟨(k1.trans k2).trans (Keeps.setCell hv1 (Nat.le_refl _) (by unfold TyN; decide) _), ⟨_, hv2, by simpa [flatR_snoc] using hr2, trivial⟩, hb4.trans hb2⟩
  case done =>
    rintro W5 ⟨⟨v, b1, hr, _⟩, hb5⟩ hd
    have c1 := b1.cell
    gi_wp2
    refine ⟨by simp, .inl ⟨_, _, rfl, run_takeDeferred hd, ?_⟩⟩
    exact ⟨_, results_tmp rfl _ _ _, v, rfl, ownsRow_putObj hr _ hd rfl, hb5.grown (grownBy_putObj' _ V.heap.size (.deferred none)) hb5.size (fun k e => by cases e; omega)⟩
  case stop =>
    rintro pre W5 _ h _
    exact h.elim

theorem collect_any (nm : ByteArray) (v0 : Value) (Bn : Nat) (w : World) (hT : Tab w) (hs : StrsAt w v0 [nm]) (hB0 : Boxed w Bn 31 v0) :
    Calls Tryd.prog 19 #[.func (.func 30) #[] #[.pointer (some ⟨Bn, 0, none⟩)]] w fun e w' =>
      ∃ v', e = .returned v' ∧ w'.ownsRow w.heap.size 40 2 v' (eachN nm).length (flatR (eachN nm)) ∧ Below w.heap.size w w' := by
  have c1 := Lib.hid (append_seq nm v0 Bn w hT hs hB0)
  clear hT hs hB0
  go_enter Tryd.func19, Tryd.ntmps19
  go_wp2_with (go_at_call 29; (with_reducible refine c1.out.mono ?_); rintro e w1 ⟨v', rfl, hr, hb⟩)
  go_ret
  exact ⟨_, rfl, hr, hb⟩

/-- what Of tells -/
def OfOut (w : World) (nm : ByteArray) (e : Ending) (w' : World) : Prop :=
  ∃ v L, e = .returned (.tuple #[v, .bool (decide (0 < (eachN nm).length))]) ∧ w'.ownsRow w.heap.size 40 2 v L.length (flatR L) ∧ setFrom 0 L ∧ (∀ c, hasB L c = hasN nm c) ∧ L.length ≤ 30 ∧ Below w.heap.size w w'
set_option maxHeartbeats 1000000 in
theorem of_name (nm : ByteArray) (w : World) (hT : Tab w) : Calls Tryd.prog 7 #[.string nm] w fun e w' => OfOut w nm e w' := by
  have bS := Boxed.new w 9 (.string nm)
  have s1 := Lib.hid (strs_one bS.cell)
  have HT := Lib.hid hT
  have hb1 := (Below.refl w.heap.size w).alloc (Nat.le_refl _) (.cells #[.string nm] 9)
  have hb2 := hb1.alloc (by simp) (.cells #[.slice (some ⟨w.heap.size, 0, none⟩) 1 1] 31)
  have bN := Boxed.new (w.alloc (.cells #[.string nm] 9)) 31 (.slice (some ⟨w.heap.size, 0, none⟩) 1 1)
  have cC := Lib.hid (collect_any nm _ _ _ (hT.next hb2) (strs_one (bS.alloc (.cells #[.slice (some ⟨w.heap.size, 0, none⟩) 1 1] 31)).cell) bN)
  have hlen := (eachN_ok nm).1
  have HB2 := Lib.hid hb2
  simp only [World.size_alloc] at cC
  clear bS hb1 hb2 bN hT
  go_enter Tryd.func7, Tryd.ntmps7
  go_wp2_with (first
    | (go_at_call 20; (with_reducible refine (each_any _ _ _ _ s1.out).mono ?_); rintro e w1 ⟨rfl, rfl⟩)
    | (go_at_call 19; (refine cC.out.mono ?_); rintro e w2 ⟨v', rfl, hr, hb⟩; go_must (obtain ⟨ao, cap, rfl, _, _⟩ := (rngs_of_row hr).shape; have HR := Lib.hid hr; have HB3 := Lib.hid (HB2.out.trans (hb.mono (show w.heap.size ≤ w.heap.size + 1 + 1 by omega))); clear hr hb))
    | (go_at_call 21; (refine (of_any _ _ _ (rngs_of_row HR.out) (by omega)).mono ?_); rintro e w3 ⟨v3, L, rfl, h1, h2, h3, h4, h5⟩))
  go_ret2
  exact ⟨v3, L, rfl, row_base h1 HB3.out.size, h2, h3, by omega, HB3.out.trans (h5.mono HB3.out.size)⟩

end Go.Proofs.YtenmjnopbbingaaDoor.Nm

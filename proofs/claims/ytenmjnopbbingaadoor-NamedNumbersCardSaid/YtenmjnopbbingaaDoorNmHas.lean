/- Is a number in a name's set: the program's. -/
import Derived.Test.YtenmjnopbbingaaDoorNmEach
namespace Go.Proofs.YtenmjnopbbingaaDoor.Nm
open Go.RowKit Go.Shelf Go.Proofs.YtenmjnopbbingaaDoor.Rg

attribute [local go_sem] Oper.semAt_some

theorem strs_one {W : World} {b : Nat} {nm : ByteArray} (h : W.cell? ⟨b, 0, none⟩ = some (.string nm)) : StrsAt W (.slice (some ⟨b, 0, none⟩) 1 1) [nm] :=
  .inr ⟨_, 1, rfl, by unfold maxLen; simp, fun i hi => by
    obtain rfl : i = 0 := by simpa using hi
    rw [add_zero]; simpa using h⟩
theorem has_no {nm : ByteArray} {c : Int} (h : ∀ y ∈ eachN nm, ¬ (y.1 ≤ c ∧ c ≤ y.2)) : hasN nm c = false := by
  rw [← hasN_eq, Bool.eq_false_iff]
  intro hb
  unfold hasB at hb
  rw [List.any_eq_true] at hb
  obtain ⟨y, hy, h2⟩ := hb
  simp only [Bool.and_eq_true, decide_eq_true_eq] at h2
  exact h y hy h2
theorem has_yes {nm : ByteArray} {c : Int} {pre : List R} (hp : pre <+: eachN nm) {y : R} (hy : y ∈ pre) (h : y.1 ≤ c ∧ c ≤ y.2) : hasN nm c = true := by
  rw [← hasN_eq]
  unfold hasB
  rw [List.any_eq_true]
  exact ⟨y, hp.subset hy, by simpa using h⟩

/-- no range that has come has c -/
def NoneIn (c : Int) (pre : List R) : Prop := ∀ y ∈ pre, ¬ (y.1 ≤ c ∧ c ≤ y.2)
theorem NoneIn.more {c : Int} {pre : List R} {x : R} (h : NoneIn c pre) (hx : ¬ (x.1 ≤ c ∧ c ≤ x.2)) : NoneIn c (pre ++ [x]) := fun y hy =>
  (List.mem_append.1 hy).elim (h y) (fun e => by obtain rfl : y = x := (by simpa using e); exact hx)
def SomeIn (c : Int) (pre : List R) : Prop := ∃ y ∈ pre, y.1 ≤ c ∧ c ≤ y.2
theorem own_size {β : Type} (B T : Nat) : OwnFrom B (fun (_ : β) W => T ≤ W.heap.size) := fun _ _ _ _ h hg _ => Nat.le_trans h hg.size

set_option maxRecDepth 100000 in
set_option maxHeartbeats 4000000 in
theorem has_any (nm : ByteArray) (c : Int) (w : World) (hT : Tab w) : Calls Tryd.prog 23 #[.string nm, .int .i64 c] w fun e w' => e = .returned (.bool (hasN nm c)) ∧ Below w.heap.size w w' := by
  have HT := Lib.hid hT
  clear hT
  refine (callsIn_wide (n := 9)).1 (callsIn_of_wp_marks Tryd.func23 rfl trivial ?_ rfl)
  simp only [Tryd.ntmps23, List.size_toArray, List.length_cons, List.length_nil, Nat.reduceAdd, Nat.reduceSub, Array.replicate_succ, Array.replicate_zero, List.push_toArray, List.append_toArray, List.nil_append, List.cons_append]
  have bC := Boxed.new w 3 (.int .i64 c)
  have bR := Boxed.new (w.alloc (.cells #[.int .i64 c] 3)) 4 (.bool false)
  have bS := Boxed.new ((w.alloc (.cells #[.int .i64 c] 3)).alloc (.cells #[.bool false] 4)) 9 (.string nm)
  have bN := Boxed.new (((w.alloc (.cells #[.int .i64 c] 3)).alloc (.cells #[.bool false] 4)).alloc (.cells #[.string nm] 9)) 31 (.slice (some ⟨w.heap.size + 1 + 1, 0, none⟩) 1 1)
  have hB : Below w.heap.size w ((((w.alloc (.cells #[.int .i64 c] 3)).alloc (.cells #[.bool false] 4)).alloc (.cells #[.string nm] 9)).alloc (.cells #[.slice (some ⟨w.heap.size + 1 + 1, 0, none⟩) 1 1] 31)) :=
    ((((Below.refl _ w).alloc (Nat.le_refl _) _).alloc (by simp) _).alloc (by simp; omega) _).alloc (by simp; omega) _
  simp only [World.size_alloc] at bR bS bN
  have bS' := bS.alloc (.cells #[.slice (some ⟨w.heap.size + 1 + 1, 0, none⟩) 1 1] 31)
  have bR' := (bR.alloc (.cells #[.string nm] 9)).alloc (.cells #[.slice (some ⟨w.heap.size + 1 + 1, 0, none⟩) 1 1] 31)
  have bC' := ((bC.alloc (.cells #[.bool false] 4)).alloc (.cells #[.string nm] 9)).alloc (.cells #[.slice (some ⟨w.heap.size + 1 + 1, 0, none⟩) 1 1] 31)
  have sS := Lib.hid (strs_one bS.cell)
  have hs4 : ((((w.alloc (.cells #[.int .i64 c] 3)).alloc (.cells #[.bool false] 4)).alloc (.cells #[.string nm] 9)).alloc (.cells #[.slice (some ⟨w.heap.size + 1 + 1, 0, none⟩) 1 1] 31)).heap.size = w.heap.size + 4 := by simp
  replace hs4 := Nat.le_of_eq hs4.symm
  clear bC bR bS
  gi_wp2_with (refine ⟨trivial, ?_⟩; gi_at_call 20; refine (callsIn_wide.2 (each_any _ _ _ _ sS.out)).mono ?_; rintro e W3 ⟨rfl, rfl⟩)
  generalize (((w.alloc (.cells #[.int .i64 c] 3)).alloc (.cells #[.bool false] 4)).alloc (.cells #[.string nm] 9)).alloc (.cells #[.slice (some ⟨w.heap.size + 1 + 1, 0, none⟩) 1 1] 31) = V at *
  clear sS
  have ctr := ctr_all 5 [nm] okd_all
  have HT2 := Lib.hid (HT.out.next hB)
  have rB : ∀ {W W' : World} {b : Nat} {t : TypeId} {v : Value}, Boxed W b t v → W.grownBy W' none → Boxed W' b t v := fun h hg => box_kept h hg (fun r e => by cases e)
  refine range_law (Ty := TyN) (n₀ := V.heap.size) (gf := 30) (lb := #[.pointer (some ⟨w.heap.size + 1 + 1 + 1, 0, none⟩)]) rfl (enters_of Tryd.func30 (by kernel_rfl) rfl) (enc := rV) (X := eachN nm)
    (fun W1 hW => ctr V W1 _ _ HT2.out hW (strs_one bS'.cell) ((hW.block _ bN.lt).trans bN)) (Nat.le_refl _) rfl
    (fun pre W => NoneIn c pre ∧ Boxed W w.heap.size 3 (.int .i64 c) ∧ Boxed W (w.heap.size + 1) 4 (.bool false) ∧ Below w.heap.size w W ∧ V.heap.size ≤ W.heap.size)
    (fun pre W => SomeIn c pre ∧ Boxed W (w.heap.size + 1) 4 (.bool true) ∧ Below w.heap.size w W)
    (OwnFrom.and (ownFrom_pure _ _) (OwnFrom.and (Own.from (boxed_own _ _ _) _) (OwnFrom.and (Own.from (boxed_own _ _ _) _) (OwnFrom.and (ownFrom_below (Nat.le_refl _) (by omega)) (own_size _ _)))))
    (OwnFrom.and (ownFrom_pure _ _) (OwnFrom.and (Own.from (boxed_own _ _ _) _) (ownFrom_below (Nat.le_refl _) (by omega))))
    ⟨fun y hy => (by cases hy), bC', bR', hB, Nat.le_refl _⟩
    (fun x a' W => ∃ Bx, BoxR W Bx x ∧ a' = { tmps := #[.string nm, .int .i64 c, undef, .pointer (some ⟨w.heap.size, 0, none⟩), .pointer (some ⟨w.heap.size + 1, 0, none⟩), .pointer (some ⟨Bx, 0, none⟩), .string nm, .slice (some ⟨w.heap.size + 1 + 1, 0, none⟩) 1 1, .func (.func 30) #[] #[.pointer (some ⟨w.heap.size + 1 + 1 + 1, 0, none⟩)], rV x, undef, undef, undef, undef, undef, undef, undef, undef, undef, undef], defers := [] })
    ?hAx ?assign ?body ?done ?stop
  case hAx =>
    rintro x a' _ A C row ⟨Bx, h1, h2⟩ hg hr
    exact ⟨Bx, h1.kept hg (fun r e => (hr r e).2), h2⟩
  case assign =>
    rintro l2 pre ⟨x, y⟩ W4 K ⟨hp, b1, b2, hb4, hV⟩ hK
    simp only [rV] at hK ⊢
    have hz := b2.lt
    gi_wp2
    have hal := (Below.refl W4.heap.size W4).alloc (Nat.le_refl _) (.cells #[.int .i64 x, .int .i64 y] 40)
    exact hK _ _ (Keeps.of_below hal hV) ⟨hp, b1.alloc _, b2.alloc _, hb4.alloc hb4.size _, by simp; omega⟩ ⟨W4.heap.size, World.alloc_heap_new W4 _, rfl⟩
  case body =>
    rintro l2 pre ⟨x, y⟩ a' W4 ⟨hp, b1, b2, hb4, hV⟩ ⟨Bx, bX, rfl⟩ hlen
    obtain ⟨hx1, hx2⟩ := bX.cells
    simp only at hx1 hx2
    have c1 := b1.cell
    have c2 := b2.cell
    have f2 := b2.frozen
    simp only [rV]
    by_cases g1 : x ≤ c
    · by_cases g2 : c ≤ y
      · gi_wp2
        exact ⟨KeepsFrom.of_grownBy (grownBy_setCell' _ _ _) (fun j e => by cases e; omega), ⟨(x, y), List.mem_append.2 (.inr (List.mem_singleton.2 rfl)), g1, g2⟩, b2.set _, hb4.setCell (p := ⟨w.heap.size + 1, 0, none⟩) (by simp) _⟩
      · gi_wp2
        exact ⟨Keeps.refl _, hp.more (fun h => by have h2 := h.2; simp only at h2; omega), b1, b2, hb4, hV⟩
    · gi_wp2
      exact ⟨Keeps.refl _, hp.more (fun h => by have h1 := h.1; simp only at h1; omega), b1, b2, hb4, hV⟩
  case done =>
    rintro W5 ⟨hp, b1, b2, hb5, hV⟩ hd
    have hn := has_no hp
    have c2 := b2.cell
    have f2 := b2.frozen
    gi_wp2
    have hd' := (KeepsOthers.setCell W5 ⟨w.heap.size + 1, 0, none⟩ (.bool false)).same _ _ hd rfl
    refine ⟨by simp, .inl ⟨_, _, rfl, run_takeDeferred hd', ?_⟩⟩
    have c5 := (box_kept (b2.set (.bool false)) (grownBy_putObj' _ V.heap.size (.deferred none)) (fun r e => by cases e; exact ⟨_, hd', rfl⟩)).cell
    have hb6 := hb5.setCell (p := ⟨w.heap.size + 1, 0, none⟩) (by simp) (.bool false)
    refine ⟨.bool false, ?_, by rw [hn], hb6.grown (grownBy_putObj' _ V.heap.size (.deferred none)) hb6.size (fun k e => by cases e; omega)⟩
    simp [results, Tryd.f23, go_sem, c5]
  case stop =>
    rintro pre W5 hpre ⟨⟨y, hy, hyc⟩, b2, hb5⟩ hd
    have hn := has_yes hpre hy hyc
    gi_wp2
    refine ⟨by simp, .inl ⟨_, _, rfl, run_takeDeferred hd, ?_⟩⟩
    have c5 := (box_kept b2 (grownBy_putObj' _ V.heap.size (.deferred none)) (fun r e => by cases e; exact ⟨_, hd, rfl⟩)).cell
    refine ⟨.bool true, ?_, by rw [hn], hb5.grown (grownBy_putObj' _ V.heap.size (.deferred none)) hb5.size (fun k e => by cases e; omega)⟩
    simp [results, Tryd.f23, go_sem, c5]

end Go.Proofs.YtenmjnopbbingaaDoor.Nm

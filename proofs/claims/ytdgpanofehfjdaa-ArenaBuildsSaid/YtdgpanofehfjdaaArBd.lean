/- The builder: its box, its nodes, its sets. -/
import Derived.Test.YtdgpanofehfjdaaArMay
import Derived.Test.YtdgpanofehfjdaaArClone
import Derived.Test.YtdgpanofehfjdaaArThr
import Derived.Deep.RegionLaw
import Derived.Deep.RegionHeld3
import Derived.Deep.AppendLies
import Derived.Shelf.RegionOpen
namespace Go.Proofs.Ytdgpanofehfjdaa.Ar
open Go Go.RowKit Go.Shelf
open Go.Proofs.Ytdgpanofehfjdaa.Rg (R RngsAt RowsAt nthL add_zero own_next RowsOwn flatR infoS row_apart)

/-- blocks of types of which U does not speak -/
theorem rows_kx {U : Nat → Prop} {w w' : World} {B : Nat} {v : Value} {L : List (List R)} {xs : List Value} (h : RowsOwn B w v L xs) (k : Kx U w w')
    (hU : ∀ b, U b → ∀ cs fz, w.heap[b]? ≠ some (.cells cs 37 fz) ∧ w.heap[b]? ≠ some (.cells cs 55 fz)) : RowsOwn B w' v L xs := by
  have hb : ∀ {e : TypeId} {s n : Nat} {u : Value} {ys : List Value}, w.ownsRow B e s u n ys → (e = 37 ∨ e = 55) → ∀ g, u.ownBlock = some g → ¬ U g := by
    intro e s n u ys ho he g hg hu
    rcases ho.2 with ⟨rfl, _⟩ | ⟨g', cap, cur, rfl, _, hgg, _⟩
    · cases hg
    · simp only [Value.ownBlock, Option.some.injEq] at hg
      subst hg
      rcases he with rfl | rfl
      · exact (hU _ hu _ _).1 hgg
      · exact (hU _ hu _ _).2 hgg
  refine ⟨k.own h.own (hb h.own (.inl rfl)), fun i hi => ?_⟩
  obtain ⟨x, h1, h2⟩ := h.row i hi
  exact ⟨x, h1, k.own h2 (hb h2 (.inr rfl))⟩

/-- a builder's box, its nodes and its sets -/
structure Bd (B : Nat) (w : World) (bb : Nat) (ns : List Nd) (S : List (List R)) (nv sv : Value) (xs : List Value) : Prop where
  base : B ≤ bb
  box : w.heap[bb]? = some (.cells #[nv, sv] 69 (0, 0))
  nodes : w.ownsRow B 41 6 nv ns.length (flatN ns)
  sets : RowsOwn B w sv S xs
section
variable {B bb : Nat} {w w' : World} {ns : List Nd} {S : List (List R)} {nv sv : Value} {xs : List Value}
theorem Bd.lt (h : Bd B w bb ns S nv sv xs) : bb < w.heap.size := (Array.getElem?_eq_some_iff.1 h.box).1
theorem Bd.cell0 (h : Bd B w bb ns S nv sv xs) : w.cell? ⟨bb, 0, none⟩ = some nv := by simp [World.cell?, h.box]
theorem Bd.cell1 (h : Bd B w bb ns S nv sv xs) : w.cell? ⟨bb, 1, none⟩ = some sv := by simp [World.cell?, h.box]
theorem Bd.next (h : Bd B w bb ns S nv sv xs) (hb : Below w.heap.size w w') : Bd B w' bb ns S nv sv xs :=
  ⟨h.base, (hb.block _ h.lt).trans h.box, own_next h.nodes hb, h.sets.next hb⟩
theorem Bd.shapeN (h : Bd B w bb ns S nv sv xs) : ∃ (ao : Option Addr) (cap : Nat), nv = .slice ao ns.length cap := by
  obtain ⟨ao, cap, e, _, _⟩ := (nodes_of_row h.nodes).shape
  exact ⟨ao, cap, e⟩
theorem Bd.shapeS (h : Bd B w bb ns S nv sv xs) : ∃ (ao : Option Addr) (cap : Nat), sv = .slice ao S.length cap := by
  obtain ⟨ao, cap, e, _, _⟩ := (h.sets.at').shape
  exact ⟨ao, cap, e⟩
theorem Bd.ne0 (h : Bd B w bb ns S nv sv xs) : nv.ownBlock ≠ some bb := by
  rcases h.nodes.2 with ⟨rfl, _⟩ | ⟨g, cap, cur, rfl, _, hg, _⟩
  · simp [Value.ownBlock]
  · intro e
    obtain rfl : g = bb := by simpa [Value.ownBlock] using e
    rw [h.box] at hg
    simp at hg
theorem Bd.ne1 (h : Bd B w bb ns S nv sv xs) : sv.ownBlock ≠ some bb := by
  rcases h.sets.own.2 with ⟨rfl, _⟩ | ⟨g, cap, cur, rfl, _, hg, _⟩
  · simp [Value.ownBlock]
  · intro e
    obtain rfl : g = bb := by simpa [Value.ownBlock] using e
    rw [h.box] at hg
    simp at hg
end
/-- the blocks that a new node turns, and those that a new set turns -/
def UN (bb : Nat) (nv : Value) : Nat → Prop := fun b => b = bb ∨ nv.ownBlock = some b
def UB (bb : Nat) (nv sv : Value) : Nat → Prop := fun b => b = bb ∨ nv.ownBlock = some b ∨ sv.ownBlock = some b
theorem UN.type {B bb : Nat} {w : World} {ns : List Nd} {S : List (List R)} {nv sv : Value} {xs : List Value} (h : Bd B w bb ns S nv sv xs) :
    ∀ b, UN bb nv b → ∀ cs fz, w.heap[b]? ≠ some (.cells cs 37 fz) ∧ w.heap[b]? ≠ some (.cells cs 55 fz) := by
  rintro b (rfl | hb) cs fz
  · rw [h.box]; exact ⟨by simp, by simp⟩
  · rcases h.nodes.2 with ⟨rfl, _⟩ | ⟨g, cap, cur, rfl, _, hg, _⟩
    · cases hb
    · simp only [Value.ownBlock, Option.some.injEq] at hb
      subst hb
      rw [hg]; exact ⟨by simp, by simp⟩
/-- a node more -/
def NodeStep (B : Nat) (w : World) (bb : Nat) (ns : List Nd) (S : List (List R)) (nv sv : Value) (xs : List Value) (n : Nd) (w' : World) : Prop :=
  ∃ nv', Bd B w' bb (ns ++ [n]) S nv' sv xs ∧ Kx (UN bb nv) w w' ∧ ∀ k, nv'.ownBlock = some k → nv.ownBlock = some k ∨ w.heap.size ≤ k
theorem set_grown (w : World) (b o : Nat) (v : Value) : w.grownBy (w.setCell ⟨b, o, none⟩ v) (some b) := ⟨rfl, rfl, rfl, by simp, fun k _ hk => heap_setCell_other w ⟨b, o, none⟩ k _ (fun e => hk (by simp [e]))⟩
theorem noded {B bb g cap : Nat} {w W w1 : World} {ns : List Nd} {S : List (List R)} {nv sv : Value} {xs : List Value} {n : Nd} (hp : Bd B w bb ns S nv sv xs) (hb : Below w.heap.size w W)
    (hown : w1.ownsRow B 41 6 (.slice (some ⟨g, 0, none⟩) (ns.length + 1) cap) (ns.length + 1) (flatN ns ++ cellsN n)) (hg : W.grownBy w1 nv.ownBlock) (hat : nv.ownBlock = some g ∨ g = W.heap.size) :
    w1.cell? ⟨bb, 0, none⟩ = some nv ∧ w1.frozen? ⟨bb, 0, none⟩ = false ∧
      NodeStep B w bb ns S nv sv xs n (w1.setCell ⟨bb, 0, none⟩ (.slice (some ⟨g, 0, none⟩) (ns.length + 1) cap)) ∧
      (w1.setCell ⟨bb, 0, none⟩ (.slice (some ⟨g, 0, none⟩) (ns.length + 1) cap)).cell? ⟨bb, 0, none⟩ = some (.slice (some ⟨g, 0, none⟩) (ns.length + 1) cap) := by
  have hW := hp.next hb
  have hlt := hW.lt
  have hsz := hb.size
  have hbx : w1.heap[bb]? = some (.cells #[nv, sv] 69 (0, 0)) := (hg.block bb hlt (Ne.symm hW.ne0)).trans hW.box
  have hne : bb ≠ g := by
    rintro rfl
    rcases hat with h | h
    · exact hW.ne0 h
    · omega
  have hset := set_grown w1 bb 0 (.slice (some ⟨g, 0, none⟩) (ns.length + 1) cap)
  have hbox := heap_setCell_same w1 bb 0 #[nv, sv] 69 (.slice (some ⟨g, 0, none⟩) (ns.length + 1) cap) hbx
  have hk1 : Kx (UN bb nv) W w1 := Kx.of_grown hg (fun k hk => .inr hk)
  have hk : Kx (UN bb nv) w (w1.setCell ⟨bb, 0, none⟩ (.slice (some ⟨g, 0, none⟩) (ns.length + 1) cap)) := ((Kx.of_below hb).trans hk1).trans (Kx.of_set (.inl rfl))
  refine ⟨by simp [World.cell?, hbx], frozen_of_row w1 bb 0 _ _ hbx, ⟨.slice (some ⟨g, 0, none⟩) (ns.length + 1) cap, ⟨hp.base, ?_, ?_, ?_⟩, hk, ?_⟩, ?_⟩
  · simpa using hbox
  · rw [flatN_snoc, List.length_append, List.length_singleton]
    exact hown.kept hset (.inr (by simp [Value.ownBlock]; exact fun h => hne h.symm))
  · exact rows_kx hp.sets hk (UN.type hp)
  · intro k hk
    simp only [Value.ownBlock, Option.some.injEq] at hk
    subst hk
    rcases hat with h | h
    · exact .inl h
    · exact .inr (by omega)
  · simp only [World.cell?]
    rw [hbox]; simp

set_option maxRecDepth 100000 in
set_option maxHeartbeats 1000000 in
theorem room_any {B bb : Nat} {ns : List Nd} {S : List (List R)} {nv sv : Value} {xs : List Value} (k m : Nat) (w : World) (h : Bd B w bb ns S nv sv xs) (h1 : ns.length + k ≤ 4096) (h2 : S.length + m ≤ 4096) :
    Calls Try.prog 56 #[.pointer (some ⟨bb, 0, none⟩), .int .i64 k, .int .i64 m] w fun e w' => e = .returned (.bool true) ∧ w' = w := by
  have c0 := h.cell0
  have c1 := h.cell1
  have hlt := h.lt
  obtain ⟨ao, cap, rfl⟩ := h.shapeN
  obtain ⟨so, scap, rfl⟩ := h.shapeS
  clear h
  go_enter Try.func56, Try.ntmps56
  go_wp2
  go_ret
  first
    | exact ⟨rfl, rfl⟩
    | (refine ⟨ret_b ?_, rfl⟩; simp; omega)

set_option maxRecDepth 100000 in
set_option maxHeartbeats 4000000 in
theorem node_ok {B bb : Nat} {ns : List Nd} {S : List (List R)} {nv sv : Value} {xs : List Value} (n : Nd) (w : World) (h : Bd B w bb ns S nv sv xs) (h1 : ns.length + 1 ≤ 4096) (h2 : S.length ≤ 4096) (hn : nodeB n ns.length S.length = true) :
    Calls Try.prog 41 #[.pointer (some ⟨bb, 0, none⟩), aggN n] w fun e w' => e = .returned (.int .i64 ns.length) ∧ NodeStep B w bb ns S nv sv xs n w' := by
  obtain ⟨i0, hi, hz0, hz1, hz2⟩ := info_parts infoN
  have c0 := h.cell0
  have c1 := h.cell1
  have hlt := h.lt
  have hbase := h.base
  have HB := Lib.hid h
  obtain ⟨ao, cap, rfl⟩ := h.shapeN
  obtain ⟨so, scap, rfl⟩ := h.shapeS
  have CR := Lib.hid (fun W (hb : Below w.heap.size w W) => show Calls Try.prog 56 #[.pointer (some ⟨bb, 0, none⟩), .int .i64 1, .int .i64 0] W (fun e w' => e = .returned (.bool true) ∧ w' = W) from room_any 1 0 W (h.next hb) h1 (by omega))
  have CM := Lib.hid (fun W => may_any n ns.length S.length W)
  rw [hn] at CM
  have BW := Lib.hid (fun o => (Below.refl w.heap.size w).alloc (Nat.le_refl _) o)
  unfold aggN at *
  clear h hn
  go_enter Try.func41, Try.ntmps41
  go_wp2
  go_region_held3 (fun W => W.cell? ⟨bb, 0, none⟩ = some (.slice ao ns.length cap) ∧ W.cell? ⟨bb, 1, none⟩ = some (.slice so S.length scap) ∧ W.cell? ⟨w.heap.size, 0, none⟩ = some (.int .i64 n.op) ∧ W.cell? ⟨w.heap.size, 1, none⟩ = some (.int .i64 n.a) ∧ W.cell? ⟨w.heap.size, 2, none⟩ = some (.int .i64 n.b) ∧ W.cell? ⟨w.heap.size, 3, none⟩ = some (.int .i64 n.lo) ∧ W.cell? ⟨w.heap.size, 4, none⟩ = some (.int .i64 n.hi) ∧ W.cell? ⟨w.heap.size, 5, none⟩ = some (.int .i64 n.set) ∧ Below w.heap.size w W) (first | exact ⟨by assumption, by assumption, by assumption, by assumption, by assumption, by assumption, by assumption, by assumption, by assumption⟩ | (refine ⟨by go_keep, by go_keep, by go_keep, by go_keep, by go_keep, by go_keep, by go_keep, by go_keep, (BW.out _).trans (below_drew _)⟩) | go_keep)
    (first
      | (go_at_call 56; ((with_reducible refine (CR.out _ (by first | assumption | exact (BW.out _).trans (below_drew _))).mono ?_); rintro e w1 ⟨rfl, rfl⟩))
      | (go_at_call 32; ((with_reducible refine (CM.out _).mono ?_); rintro e w1 ⟨rfl, hb1⟩); go_must (have B6 := Below.trans ((BW.out (.cells #[.int .i64 n.op, .int .i64 n.a, .int .i64 n.b, .int .i64 n.lo, .int .i64 n.hi, .int .i64 n.set] 41)).trans (below_drew _)) (hb1.mono (by simp)); have p0 := cell_next c0 B6; have p1 := cell_next c1 B6; have p2 := cell_next (a := ⟨w.heap.size, 0, none⟩) (v := .int .i64 n.op) (by simp) hb1; have p3 := cell_next (a := ⟨w.heap.size, 1, none⟩) (v := .int .i64 n.a) (by simp) hb1; have p4 := cell_next (a := ⟨w.heap.size, 2, none⟩) (v := .int .i64 n.b) (by simp) hb1; have p5 := cell_next (a := ⟨w.heap.size, 3, none⟩) (v := .int .i64 n.lo) (by simp) hb1; have p6 := cell_next (a := ⟨w.heap.size, 4, none⟩) (v := .int .i64 n.hi) (by simp) hb1; have p7 := cell_next (a := ⟨w.heap.size, 5, none⟩) (v := .int .i64 n.set) (by simp) hb1; clear hb1))
      | fail)
  go_wp2
  have hbn : ∀ o, Below w.heap.size w (w1.alloc o).drew := fun o => (B6.trans (((Below.refl w1.heap.size w1).alloc (Nat.le_refl _) o).mono B6.size)).trans (below_drew _)
  have HBN := Lib.hid hbn
  have pA : ∀ (cs : Array Value) (t : TypeId), (w1.alloc (.cells cs t)).cell? ⟨bb, 0, none⟩ = some (.slice ao ns.length cap) := fun cs t => cell_next p0 ((Below.refl _ _).alloc (Nat.le_refl _) _)
  have hs6 := B6.size
  clear hbn
  go_region_law (refine step_append_lies _ rfl (.tmp 27) (.tmp 29) 22 rfl B 41 i0 (.agg #[.int .i64 0, .int .i64 0, .int .i64 0, .int .i64 0, .int .i64 0, .int .i64 0]) 6 48 Try.underlying22 hi hz0 hz1 hz2 rfl (by decide) (.slice ao ns.length cap) ns.length (flatN ns) rfl (own_next HB.out.nodes (HBN.out _)) ⟨w1.heap.size, 0, none⟩ 1 1 [.int .i64 n.op, .int .i64 n.a, .int .i64 n.b, .int .i64 n.lo, .int .i64 n.hi, .int .i64 n.set] rfl rfl (World.news_of_block (World.alloc_heap_new w1 _)) (by simp [Value.oneCell']) (by decide) (by unfold maxLen; omega) (by omega) (by simp; omega) _ rfl ?_; intro g cap2 w3 hown hg hat _; go_must (obtain ⟨y1, y2, y3, y4⟩ := noded (n := n) HB.out (HBN.out _) hown hg hat; have Y3 := Lib.hid y3; clear y3 hown hg hat))
  all_goals (
    go_wp2
    go_ret
    exact ⟨by simp, Y3.out⟩)

end Go.Proofs.Ytdgpanofehfjdaa.Ar

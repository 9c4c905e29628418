/- A set added to a builder. -/
import Derived.Test.YtdgpanofehfjdaaArBd
import Derived.Test.YtdgpanofehfjdaaRgOf
import Derived.Laws.EntriesVeiled
namespace Go.Proofs.Ytdgpanofehfjdaa.Ar
open Go Go.RowKit Go.Shelf
open Go.Proofs.Ytdgpanofehfjdaa.Rg (R RngsAt RowsAt nthL add_zero own_next RowsOwn flatR infoS row_apart)

set_option maxRecDepth 100000 in
set_option maxHeartbeats 4000000 in
theorem node_no {B bb : Nat} {ns : List Nd} {S : List (List R)} {nv sv : Value} {xs : List Value} (n : Nd) (w : World) (h : Bd B w bb ns S nv sv xs) (h1 : ns.length + 1 ≤ 4096) (h2 : S.length ≤ 4096) (hn : nodeB n ns.length S.length = false) :
    Calls Try.prog 41 #[.pointer (some ⟨bb, 0, none⟩), aggN n] w fun e w' => e = .returned (.int .i64 (-1)) ∧ Below w.heap.size w w' := by
  have c0 := h.cell0
  have c1 := h.cell1
  have hlt := h.lt
  have hbase := h.base
  have HB := Lib.hid h
  obtain ⟨ao, cap, rfl⟩ := h.shapeN
  obtain ⟨so, scap, rfl⟩ := h.shapeS
  have CR := Lib.hid (fun W (hb : Below w.heap.size w W) => show Calls Try.prog 56 #[.pointer (some ⟨bb, 0, none⟩), .int .i64 1, .int .i64 0] W (fun e w' => e = .returned (.bool true) ∧ w' = W) from room_any 1 0 W (h.next hb) h1 (by omega))
  have CM := Lib.hid (fun W => may_any n ns.length S.length W)
  rw [hn] at CM
  have BW := Lib.hid (fun o => (Below.refl w.heap.size w).alloc (Nat.le_refl _) o)
  unfold aggN at *
  clear h hn
  go_enter Try.func41, Try.ntmps41
  go_wp2
  go_region_held3 (fun W => W.cell? ⟨bb, 0, none⟩ = some (.slice ao ns.length cap) ∧ W.cell? ⟨bb, 1, none⟩ = some (.slice so S.length scap) ∧ W.cell? ⟨w.heap.size, 0, none⟩ = some (.int .i64 n.op) ∧ W.cell? ⟨w.heap.size, 1, none⟩ = some (.int .i64 n.a) ∧ W.cell? ⟨w.heap.size, 2, none⟩ = some (.int .i64 n.b) ∧ W.cell? ⟨w.heap.size, 3, none⟩ = some (.int .i64 n.lo) ∧ W.cell? ⟨w.heap.size, 4, none⟩ = some (.int .i64 n.hi) ∧ W.cell? ⟨w.heap.size, 5, none⟩ = some (.int .i64 n.set) ∧ Below w.heap.size w W) (first | exact ⟨by assumption, by assumption, by assumption, by assumption, by assumption, by assumption, by assumption, by assumption, by assumption⟩ | (refine ⟨by go_keep, by go_keep, by go_keep, by go_keep, by go_keep, by go_keep, by go_keep, by go_keep, (BW.out _).trans (below_drew _)⟩) | go_keep)
    (first
      | (go_at_call 56; ((with_reducible refine (CR.out _ (by first | assumption | exact (BW.out _).trans (below_drew _))).mono ?_); rintro e w1 ⟨rfl, rfl⟩))
      | (go_at_call 32; ((with_reducible refine (CM.out _).mono ?_); rintro e w1 ⟨rfl, hb1⟩); go_must (have B6 := Below.trans ((BW.out (.cells #[.int .i64 n.op, .int .i64 n.a, .int .i64 n.b, .int .i64 n.lo, .int .i64 n.hi, .int .i64 n.set] 41)).trans (below_drew _)) (hb1.mono (by simp)); have p0 := cell_next c0 B6; have p1 := cell_next c1 B6; have p2 := cell_next (a := ⟨w.heap.size, 0, none⟩) (v := .int .i64 n.op) (by simp) hb1; have p3 := cell_next (a := ⟨w.heap.size, 1, none⟩) (v := .int .i64 n.a) (by simp) hb1; have p4 := cell_next (a := ⟨w.heap.size, 2, none⟩) (v := .int .i64 n.b) (by simp) hb1; have p5 := cell_next (a := ⟨w.heap.size, 3, none⟩) (v := .int .i64 n.lo) (by simp) hb1; have p6 := cell_next (a := ⟨w.heap.size, 4, none⟩) (v := .int .i64 n.hi) (by simp) hb1; have p7 := cell_next (a := ⟨w.heap.size, 5, none⟩) (v := .int .i64 n.set) (by simp) hb1; clear hb1))
      | fail)
  go_wp2
  go_ret
  exact ⟨rfl, B6⟩

set_option maxRecDepth 100000 in
set_option maxHeartbeats 1000000 in
theorem len_any {B bb : Nat} {ns : List Nd} {S : List (List R)} {nv sv : Value} {xs : List Value} (w : World) (h : Bd B w bb ns S nv sv xs) :
    Calls Try.prog 26 #[.pointer (some ⟨bb, 0, none⟩)] w fun e w' => e = .returned (.int .i64 ns.length) ∧ w' = w := by
  have c0 := h.cell0
  have hlt := h.lt
  obtain ⟨ao, cap, rfl⟩ := h.shapeN
  clear h
  go_enter Try.func26, Try.ntmps26
  go_wp2
  go_ret
  exact ⟨rfl, rfl⟩
set_option maxRecDepth 100000 in
set_option maxHeartbeats 1000000 in
theorem len_nil (w : World) : Calls Try.prog 26 #[.pointer none] w fun e w' => e = .returned (.int .i64 0) ∧ w' = w := by
  go_enter Try.func26, Try.ntmps26
  go_wp2
  go_ret
  exact ⟨rfl, rfl⟩
theorem bd_new (w : World) : Bd w.heap.size (w.alloc (.cells #[.slice none 0 0, .slice none 0 0] 69)) w.heap.size [] [] (.slice none 0 0) (.slice none 0 0) [] :=
  ⟨Nat.le_refl _, World.alloc_heap_new w _, World.ownsRow_nil _ _ _ _, RowsOwn.nil _ _⟩
set_option maxRecDepth 100000 in
set_option maxHeartbeats 1000000 in
theorem new_any (w : World) : Calls Try.prog 16 #[] w fun e w' => e = .returned (.pointer (some ⟨w.heap.size, 0, none⟩)) ∧ Bd w.heap.size w' w.heap.size [] [] (.slice none 0 0) (.slice none 0 0) [] ∧ Below w.heap.size w w' := by
  go_enter Try.func16, Try.ntmps16
  go_wp2
  go_ret
  exact ⟨rfl, bd_new w, (Below.refl _ _).alloc (Nat.le_refl _) _⟩

end Go.Proofs.Ytdgpanofehfjdaa.Ar

namespace Go.Proofs.Ytdgpanofehfjdaa.Ar
open Go Go.RowKit Go.Shelf
open Go.Proofs.Ytdgpanofehfjdaa.Rg (R RngsAt RowsAt nthL add_zero own_next RowsOwn flatR infoS row_apart row_base SetOut of_any inB hasB setFrom rngs_of_row)

def US (bb : Nat) (sv : Value) : Nat → Prop := fun b => b = bb ∨ sv.ownBlock = some b
/-- a builder's state behind a call -/
def BStep (B : Nat) (w : World) (bb : Nat) (nv sv : Value) (ns' : List Nd) (S' : List (List R)) (w' : World) : Prop :=
  ∃ nv' sv' xs', Bd B w' bb ns' S' nv' sv' xs' ∧ Kx (UB bb nv sv) w w' ∧ (∀ k, nv'.ownBlock = some k → nv.ownBlock = some k ∨ w.heap.size ≤ k) ∧ (∀ k, sv'.ownBlock = some k → sv.ownBlock = some k ∨ w.heap.size ≤ k)
theorem NodeStep.step {B bb : Nat} {w w' : World} {ns : List Nd} {S : List (List R)} {nv sv : Value} {xs : List Value} {n : Nd} (h : NodeStep B w bb ns S nv sv xs n w') : BStep B w bb nv sv (ns ++ [n]) S w' := by
  obtain ⟨nv', h1, h2, h3⟩ := h
  exact ⟨nv', sv, xs, h1, h2.mono (fun k _ h => h.elim .inl fun h => .inr (.inl h)), h3, fun k hk => .inl hk⟩
/-- a set more in the row of sets, no node yet -/
theorem setted {B bb g cap : Nat} {w W w1 : World} {ns : List Nd} {S : List (List R)} {nv sv x : Value} {xs : List Value} {L : List R} (hp : Bd B w bb ns S nv sv xs) (hb : Below w.heap.size w W)
    (hx : W.ownsRow B 55 2 x L.length (flatR L))
    (hown : w1.ownsRow B 37 1 (.slice (some ⟨g, 0, none⟩) (S.length + 1) cap) (S.length + 1) (xs ++ [x])) (hg : W.grownBy w1 sv.ownBlock) (hat : sv.ownBlock = some g ∨ g = W.heap.size) :
    w1.cell? ⟨bb, 1, none⟩ = some sv ∧ w1.frozen? ⟨bb, 1, none⟩ = false ∧
      Bd B (w1.setCell ⟨bb, 1, none⟩ (.slice (some ⟨g, 0, none⟩) (S.length + 1) cap)) bb ns (S ++ [L]) nv (.slice (some ⟨g, 0, none⟩) (S.length + 1) cap) (xs ++ [x]) ∧
      Kx (US bb sv) w (w1.setCell ⟨bb, 1, none⟩ (.slice (some ⟨g, 0, none⟩) (S.length + 1) cap)) ∧ (sv.ownBlock = some g ∨ w.heap.size ≤ g) := by
  have hW := hp.next hb
  have hlt := hW.lt
  have hsz := hb.size
  have hbx : w1.heap[bb]? = some (.cells #[nv, sv] 69 (0, 0)) := (hg.block bb hlt (Ne.symm hW.ne1)).trans hW.box
  have hne : bb ≠ g := by
    rintro rfl
    rcases hat with h | h
    · exact hW.ne1 h
    · omega
  have hset := set_grown w1 bb 1 (.slice (some ⟨g, 0, none⟩) (S.length + 1) cap)
  have hbox := heap_setCell_same w1 bb 1 #[nv, sv] 69 (.slice (some ⟨g, 0, none⟩) (S.length + 1) cap) hbx
  have hk1 : Kx (US bb sv) W w1 := Kx.of_grown hg (fun k hk => .inr hk)
  have hk : Kx (US bb sv) w (w1.setCell ⟨bb, 1, none⟩ (.slice (some ⟨g, 0, none⟩) (S.length + 1) cap)) := ((Kx.of_below hb).trans hk1).trans (Kx.of_set (.inl rfl))
  refine ⟨by simp [World.cell?, hbx], frozen_of_row w1 bb 1 _ _ hbx, ⟨hp.base, ?_, ?_, ?_⟩, hk, ?_⟩
  · simpa using hbox
  · refine (hW.nodes.kept hg ?_).kept hset ?_
    · exact row_apart (by decide) hW.sets.own hW.nodes
    · exact .inr hW.ne0
  · have r1 := hW.sets.app hx hown hg
    refine ⟨r1.own.kept hset ?_, fun i hi => ?_⟩
    · exact .inr (by simp [Value.ownBlock]; exact fun h => hne h.symm)
    · obtain ⟨y, h1, h2⟩ := r1.row i hi
      refine ⟨y, h1, h2.kept hset ?_⟩
      rcases h2.2 with ⟨rfl, _⟩ | ⟨g', cap', cur, rfl, _, hgg, _⟩
      · exact .inl rfl
      · right
        intro e
        obtain rfl : g' = bb := by simpa [Value.ownBlock] using e
        rw [hbx] at hgg
        simp at hgg
  · rcases hat with h | h
    · exact .inl h
    · exact .inr (by omega)

theorem set_fin {B bb g n cap : Nat} {w W w' : World} {ns : List Nd} {S : List (List R)} {nv sv : Value} {xs : List Value} {m : Nd} (hk : Kx (US bb sv) w W) (hat : sv.ownBlock = some g ∨ w.heap.size ≤ g)
    (h : NodeStep B W bb ns S nv (.slice (some ⟨g, 0, none⟩) n cap) xs m w') : BStep B w bb nv sv (ns ++ [m]) S w' := by
  obtain ⟨nv', h1, h2, h3⟩ := h
  have hs := hk.size
  refine ⟨nv', _, xs, h1, (hk.mono (fun k _ h => h.elim .inl fun h => .inr (.inr h))).trans (h2.mono (fun k _ h => h.elim .inl fun h => .inr (.inl h))), fun k hk => (h3 k hk).imp id (fun h => by omega), fun k hk => ?_⟩
  simp only [Value.ownBlock, Option.some.injEq] at hk
  subst hk
  exact hat
/-- a node of the last set -/
def setN (s : Nat) : Nd := ⟨2, 0, 0, 0, 0, s⟩
theorem setN_ok (i s : Nat) : nodeB (setN s) i (s + 1 : Nat) = true := by
  unfold nodeB setN; simp; omega
/-- what Set tells -/
def SetBd (B : Nat) (w : World) (bb : Nat) (ns : List Nd) (S : List (List R)) (nv sv : Value) (l : List R) (e : Ending) (w' : World) : Prop :=
  e = .returned (.int .i64 ns.length) ∧ ∃ L, setFrom 0 L ∧ (∀ c, hasB L c = inB l c) ∧ L.length ≤ l.length ∧ BStep B w bb nv sv (ns ++ [setN S.length]) (S ++ [L]) w'

set_option maxRecDepth 100000 in
set_option maxHeartbeats 4000000 in
theorem set_any {B bb : Nat} {ns : List Nd} {S : List (List R)} {nv sv : Value} {xs : List Value} (l : List R) (v : Value) (w : World) (h : Bd B w bb ns S nv sv xs) (hv : RngsAt w v l) (h1 : ns.length + 1 ≤ 4096) (h2 : S.length + 1 ≤ 4096) (hl : l.length ≤ 1000) :
    Calls Try.prog 43 #[.pointer (some ⟨bb, 0, none⟩), v] w (SetBd B w bb ns S nv sv l) := by
  obtain ⟨i0, hi, hz0, hz1, hz2⟩ := info_parts infoS
  have c0 := h.cell0
  have c1 := h.cell1
  have hlt := h.lt
  have hbase := h.base
  have HB := Lib.hid h
  obtain ⟨ao, cap, rfl⟩ := h.shapeN
  obtain ⟨so, scap, rfl⟩ := h.shapeS
  have CR := Lib.hid (show Calls Try.prog 56 #[.pointer (some ⟨bb, 0, none⟩), .int .i64 1, .int .i64 1] w (fun e w' => e = .returned (.bool true) ∧ w' = w) from room_any 1 1 w h h1 h2)
  have c2 := Lib.hid (fun W (hb : Below w.heap.size w W) => of_any l v W (hv.next hb) (by omega))
  have CN := Lib.hid (fun (W : World) (L : List R) (sv' : Value) (xs' : List Value) (hW : Bd B W bb ns (S ++ [L]) (.slice ao ns.length cap) sv' xs') => show Calls Try.prog 41 #[.pointer (some ⟨bb, 0, none⟩), .agg #[.int .i64 2, .int .i64 0, .int .i64 0, .int .i64 0, .int .i64 0, .int .i64 S.length]] W (fun e w' => e = .returned (.int .i64 ns.length) ∧ NodeStep B W bb ns (S ++ [L]) (.slice ao ns.length cap) sv' xs' (setN S.length) w') from node_ok (setN S.length) W hW h1 (by simp; omega) (by rw [List.length_append]; exact setN_ok _ _))
  clear h hv
  go_enter Try.func43, Try.ntmps43
  go_wp2_with (go_at_call 56; (with_reducible refine CR.out.mono ?_); rintro e w1 ⟨rfl, hw⟩; subst w1)
  go_region_law (first
    | (refine step_append_lies _ rfl (.tmp 12) (.tmp 15) 23 rfl B 37 i0 (.slice none 0 0) 1 24 Try.underlying23 hi hz0 hz1 hz2 rfl (by decide) (.slice so S.length scap) S.length xs (by rfl) (own_next HB.out.sets.own (B3.out _)) ⟨w2.heap.size, 0, none⟩ 1 1 [.slice xo L.length xcap] (by rfl) rfl (World.news_of_block (World.alloc_heap_new w2 _)) (by simp [Value.oneCell']) (by decide) (by unfold maxLen; omega) (by omega) (by have := B2.out.size; simp; omega) _ rfl ?_; intro g cap2 w3 hown hg hat _; go_must (obtain ⟨y1, y2, y3, y4, y5⟩ := setted (L := L) HB.out (B3.out _) ((row_base HX.out (show B ≤ w.heap.size by omega)).alloc _) hown hg hat; have y6 := y3.cell0; have y7 := y3.cell1; have Y3 := Lib.hid y3; have Y4 := Lib.hid y4; have Y5 := Lib.hid y5; clear y3 y4 y5 hown hg hat))
    | ((have hg := c2); clear hg; go_simp; go_wp2_with (go_at_call 57; (with_reducible refine (c2.out _ (by first | exact below_drew _ | exact Below.refl _ _)).mono ?_); rintro e w2 ⟨x, L, rfl, hx, hL1, hL2, hL3, h3⟩; go_must (obtain ⟨xo, xcap, rfl, _, _⟩ := (rngs_of_row hx).shape; have HX := Lib.hid hx; have HL := Lib.hid (And.intro hL1 hL2); have hb2 : Below w.heap.size w w2 := (below_drew _).trans h3; have q3 := cell_next c1 hb2; have q6 : ∀ (cs : Array Value) (t : TypeId), (w2.alloc (.cells cs t)).cell? ⟨bb, 1, none⟩ = some (.slice so S.length scap) := (fun cs t => cell_next q3 ((Below.refl _ _).alloc (Nat.le_refl _) _)); have B2 := Lib.hid hb2; have B3 := Lib.hid (fun o => hb2.trans (((Below.refl w2.heap.size w2).alloc (Nat.le_refl _) o).mono hb2.size)); clear hx hL1 hL2 h3 hb2 c2)))
    | fail)
  all_goals (
    generalize w3.setCell ⟨bb, 1, none⟩ (.slice (some ⟨g, 0, none⟩) (S.length + 1) cap2) = W3 at *
    go_wp2_with (go_at_call 41; (with_reducible refine (CN.out _ L _ _ Y3.out).mono ?_); rintro e w4 ⟨rfl, hs⟩; go_must (have HS4 := Lib.hid hs; clear hs))
    go_ret
    exact ⟨rfl, L, HL.out.1, HL.out.2, hL3, set_fin Y4.out Y5.out HS4.out⟩)

end Go.Proofs.Ytdgpanofehfjdaa.Ar

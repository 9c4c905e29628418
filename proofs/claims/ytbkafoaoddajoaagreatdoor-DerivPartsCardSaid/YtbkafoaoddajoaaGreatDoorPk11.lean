/- A tree's node read into a book: those of parts. -/
import Derived.Test.YtbkafoaoddajoaaGreatDoorPk10

namespace Go.Proofs.YtbkafoaoddajoaaGreatDoor.Dv
open Go Go.RowKit Go.Shelf Go.Maps
open Go.Proofs.YtbkafoaoddajoaaGreatDoor.Ar (timesB Nd nd nodeB nodeB_ways NRow cellsN aggN flatN Book WfN Wf NodeAt node_new nodes_of_row Tr Ok TreeAt NodesAt)
open Go.Proofs.YtbkafoaoddajoaaGreatDoor.Rg (R RngsAt RowsAt nthL add_zero own_next)

section
variable {w0 w w' w1 w2 : World} {bb M Md : Nat} {B : Bk} {gd gt gm gn : Nat} {vn vs : Value} {t : Tr} {D : Mm}
/-- a node's box, apart from the book -/
structure Nb (bb M Md N : Nat) (n : Nd) (X : World) : Prop where
  box : NBox X N n
  rows : ¬ rowsOf X bb N
  n1 : N ≠ bb
  n2 : N ≠ M
  n3 : N ≠ Md
theorem Nb.fm {N : Nat} {n : Nd} {X Y : World} (h : Nb bb M Md N n X) (k : Fm bb M Md X Y) : Nb bb M Md N n Y := by
  have hl := (Array.getElem?_eq_some_iff.1 h.box).1
  exact ⟨(k.block N hl h.n1 h.n2 h.n3 h.rows).trans h.box, fun hr => (k.rows N hr).elim h.rows (fun e => by omega), h.n1, h.n2, h.n3⟩
theorem nb_new (h : MkAt w0 bb M Md gd gt gm gn vn vs t B D w) (n : Nd) : Nb bb M Md w.heap.size n ((w.alloc (.cells #[.int .i64 n.op, .int .i64 n.a, .int .i64 n.b, .int .i64 n.lo, .int .i64 n.hi, .int .i64 n.set] 35)).drew) := by
  obtain ⟨l1, l2, l3, _⟩ := h.ltAll
  have hb : Below w.heap.size w ((w.alloc (.cells #[.int .i64 n.op, .int .i64 n.a, .int .i64 n.b, .int .i64 n.lo, .int .i64 n.hi, .int .i64 n.set] 35)).drew) := ((Below.refl w.heap.size w).alloc (Nat.le_refl _) _).trans (below_drew _)
  exact ⟨(nbox_new w n).below (below_drew _), young h.book (fun hr => (rowsOf_same (hb.block bb l1) _).1 hr) (Nat.le_refl _), by omega, by omega, by omega⟩
theorem eMade : Enters Tryz.prog 47 := enters_of Tryz.func47 (by kernel_rfl) rfl

set_option maxRecDepth 100000 in
set_option maxHeartbeats 8000000 in
theorem made_cat (h : MkAt w0 bb M Md gd gt gm gn vn vs t B D w) (hN : t.ns.length ≤ 4096) {i : Nat} (hi : i < t.ns.length) (hx : D.lookup i = none) (hop : (nd t.ns i).op = 3) {a b : Nat} (ha : (nd t.ns i).a = (a : Nat)) (hb : (nd t.ns i).b = (b : Nat)) {p q : Bk × Mm × Nat} {r : Bk × Nat}
    (K1 : ∀ X, MkAt w0 bb M Md gd gt gm gn vn vs t B D X → Calls Tryz.prog 47 #[.int .i64 (a : Nat), .pointer (some ⟨gd, 0, none⟩), .pointer (some ⟨gt, 0, none⟩), .pointer (some ⟨gm, 0, none⟩), .pointer (some ⟨gn, 0, none⟩)] X (MadeAt w0 bb M Md gd gt gm gn vn vs t X p))
    (K2 : ∀ X, MkAt w0 bb M Md gd gt gm gn vn vs t p.1 p.2.1 X → Calls Tryz.prog 47 #[.int .i64 (b : Nat), .pointer (some ⟨gd, 0, none⟩), .pointer (some ⟨gt, 0, none⟩), .pointer (some ⟨gm, 0, none⟩), .pointer (some ⟨gn, 0, none⟩)] X (MadeAt w0 bb M Md gd gt gm gn vn vs t X q))
    (K3 : ∀ X, BookAt w0 bb M q.1 X → Calls Tryz.prog 80 #[.pointer (some ⟨bb, 0, none⟩), .int .i64 (p.2.2 : Nat), .int .i64 (q.2.2 : Nat)] X (OpAt w0 bb M X r))
    (hr : r.2 < 1000000) (hl : q.2.1.length < 1000000) (hn : q.2.1.lookup i = none) :
    Calls Tryz.prog 47 #[.int .i64 (i : Nat), .pointer (some ⟨gd, 0, none⟩), .pointer (some ⟨gt, 0, none⟩), .pointer (some ⟨gm, 0, none⟩), .pointer (some ⟨gn, 0, none⟩)] w (MadeAt w0 bb M Md gd gt gm gn vn vs t w (r.1, (i, r.2) :: q.2.1, r.2)) := by
  have hE : ∀ (args : Array Value) (w : World), (callFunc 80 args).run Tryz.prog w = .ok (.enter 80 args) w := eCatB
  have hE2 : ∀ (args : Array Value) (w : World), (callFunc 47 args).run Tryz.prog w = .ok (.enter 47 args) w := eMade
  obtain ⟨c1, c2, c3, c4, c5⟩ := h.cells
  obtain ⟨c, hlk0⟩ := ilook_out h.done (by omega) hx
  have hlk := hlk0 w (Below.refl _ _)
  clear hlk0
  have d1 := cell_lt c1
  have d2 := cell_lt c2
  have d4 := cell_lt c4
  have d5 := cell_lt c5
  obtain ⟨l1, l2, l3, l4, l5, l6⟩ := h.ltAll
  obtain ⟨ao, cap, so, scap, hv, hm, hm2, hns, _⟩ := h.tree.shape
  simp only [Value.agg.injEq, Array.mk.injEq, List.cons.injEq, and_true] at hv
  obtain ⟨rfl, rfl⟩ := hv
  obtain ⟨ga, rfl, hnd⟩ := hns i hi
  have hnd' := hnd.same (l6.block _ (cell_lt hnd.c0))
  obtain ⟨q0, q1, q2, q3, q4, q5⟩ := hnd'
  have hii : (i : Int) < (t.ns.length : Int) := by omega
  have BW := Lib.hid (fun o => (Below.refl w.heap.size w).alloc (Nat.le_refl _) o)
  have hm1 := fun W N => byBook W bb _ _ N fCat
  have hm2 := fun W N => nilBook W bb _ _ N fCat
  rw [hop] at q0
  rw [ha] at q1
  rw [hb] at q2
  generalize nd t.ns i = n at *
  have BD := Lib.hid ((BW.out (.cells #[.int .i64 3, .int .i64 (a : Nat), .int .i64 (b : Nat), .int .i64 n.lo, .int .i64 n.hi, .int .i64 n.set] 35)).trans (below_drew _))
  have NB := Lib.hid (nb_new h ⟨3, (a : Nat), (b : Nat), n.lo, n.hi, n.set⟩)
  have HD := Lib.hid (h.next BD.out)
  have C1 := Lib.hid (K1 _ HD.out)
  have C2 := Lib.hid K2
  have C3 := Lib.hid K3
  have HNN := Lib.hid hn
  have FD := Lib.hid (Fm.of_below BD.out l1 : Fm bb M Md w _)
  unfold MadeAt at C1 C2
  unfold OpAt at C3
  clear h hns hx hm hnd K1 K2 K3 hn ha hb
  go_enter Tryz.func47, Tryz.ntmps47
  go_wp2
  go_region_held3 (fun X => X.cell? ⟨gm, 0, none⟩ = some (.iface 53 (.pointer (some ⟨bb, 0, none⟩))) ∧ X.cell? ⟨gn, 0, none⟩ = some (.func (.func 47) #[] #[.pointer (some ⟨gd, 0, none⟩), .pointer (some ⟨gt, 0, none⟩), .pointer (some ⟨gm, 0, none⟩), .pointer (some ⟨gn, 0, none⟩)]) ∧ X.cell? ⟨w.heap.size, 1, none⟩ = some (.int .i64 (a : Nat)) ∧ X.cell? ⟨w.heap.size, 2, none⟩ = some (.int .i64 (b : Nat))) (first | exact ⟨by assumption, by assumption, by assumption, by assumption⟩ | go_keep)
    (first
      | (go_at_fn 47; ((with_reducible refine C1.out.mono ?_); rintro e w1 ⟨rfl, h1, k1⟩); go_must (have nb := NB.out.fm k1; obtain ⟨_, _, _, u4, u5⟩ := h1.cells; have u6 := nb.box.at'.c1; have u7 := nb.box.at'.c2; have H1 := Lib.hid h1; have NB1 := Lib.hid nb; have F1 := Lib.hid (FD.out.trans k1); clear h1 k1 nb C1))
      | (go_at_fn 47; ((with_reducible refine (C2.out _ H1.out).mono ?_); rintro e w2 ⟨rfl, h2, k2⟩); go_must (have nb := NB1.out.fm k2; obtain ⟨_, _, _, t4, t5⟩ := h2.cells; have t6 := nb.box.at'.c1; have t7 := nb.box.at'.c2; have H2 := Lib.hid h2; have NB2 := Lib.hid nb; have F2 := Lib.hid (F1.out.trans k2); clear h2 k2 nb C2 u4 u5 u6 u7))
      | (go_at_fn 80; ((with_reducible refine (C3.out _ H2.out.book).mono ?_); rintro e w3 ⟨rfl, h3, k3⟩); go_must (have H3 := Lib.hid (H2.out.kb h3 k3); have nb := NB2.out.fm (Fm.of_fz k3); obtain ⟨v1, _, _, v4, v5⟩ := H3.out.cells; have v6 := nb.box.at'.c1; have v7 := nb.box.at'.c2; have F3 := Lib.hid (F2.out.trans (Fm.of_fz k3)); clear h3 k3 nb C3 t4 t5 t6 t7))
      | fail)
  all_goals
    obtain ⟨w4, hrun, hM4, hF4⟩ := H3.out.note (i := i) (x := r.2) (by omega) hr hl HNN.out
    have HM4 := Lib.hid hM4
    have HF4 := Lib.hid (F3.out.trans hF4)
    clear hM4 hF4 hlk c1 c2 c3 c4 c5
    go_wp2
    go_ret
    exact ⟨rfl, HM4.out, HF4.out⟩

set_option maxRecDepth 100000 in
set_option maxHeartbeats 8000000 in
theorem made_alt (h : MkAt w0 bb M Md gd gt gm gn vn vs t B D w) (hN : t.ns.length ≤ 4096) {i : Nat} (hi : i < t.ns.length) (hx : D.lookup i = none) (hop : (nd t.ns i).op = 4) {a b : Nat} (ha : (nd t.ns i).a = (a : Nat)) (hb : (nd t.ns i).b = (b : Nat)) {p q : Bk × Mm × Nat} {r : Bk × Nat}
    (K1 : ∀ X, MkAt w0 bb M Md gd gt gm gn vn vs t B D X → Calls Tryz.prog 47 #[.int .i64 (a : Nat), .pointer (some ⟨gd, 0, none⟩), .pointer (some ⟨gt, 0, none⟩), .pointer (some ⟨gm, 0, none⟩), .pointer (some ⟨gn, 0, none⟩)] X (MadeAt w0 bb M Md gd gt gm gn vn vs t X p))
    (K2 : ∀ X, MkAt w0 bb M Md gd gt gm gn vn vs t p.1 p.2.1 X → Calls Tryz.prog 47 #[.int .i64 (b : Nat), .pointer (some ⟨gd, 0, none⟩), .pointer (some ⟨gt, 0, none⟩), .pointer (some ⟨gm, 0, none⟩), .pointer (some ⟨gn, 0, none⟩)] X (MadeAt w0 bb M Md gd gt gm gn vn vs t X q))
    (K3 : ∀ X, BookAt w0 bb M q.1 X → Calls Tryz.prog 59 #[.pointer (some ⟨bb, 0, none⟩), .int .i64 (p.2.2 : Nat), .int .i64 (q.2.2 : Nat)] X (OpAt w0 bb M X r))
    (hr : r.2 < 1000000) (hl : q.2.1.length < 1000000) (hn : q.2.1.lookup i = none) :
    Calls Tryz.prog 47 #[.int .i64 (i : Nat), .pointer (some ⟨gd, 0, none⟩), .pointer (some ⟨gt, 0, none⟩), .pointer (some ⟨gm, 0, none⟩), .pointer (some ⟨gn, 0, none⟩)] w (MadeAt w0 bb M Md gd gt gm gn vn vs t w (r.1, (i, r.2) :: q.2.1, r.2)) := by
  have hE : ∀ (args : Array Value) (w : World), (callFunc 59 args).run Tryz.prog w = .ok (.enter 59 args) w := eAltB
  have hE2 : ∀ (args : Array Value) (w : World), (callFunc 47 args).run Tryz.prog w = .ok (.enter 47 args) w := eMade
  obtain ⟨c1, c2, c3, c4, c5⟩ := h.cells
  obtain ⟨c, hlk0⟩ := ilook_out h.done (by omega) hx
  have hlk := hlk0 w (Below.refl _ _)
  clear hlk0
  have d1 := cell_lt c1
  have d2 := cell_lt c2
  have d4 := cell_lt c4
  have d5 := cell_lt c5
  obtain ⟨l1, l2, l3, l4, l5, l6⟩ := h.ltAll
  obtain ⟨ao, cap, so, scap, hv, hm, hm2, hns, _⟩ := h.tree.shape
  simp only [Value.agg.injEq, Array.mk.injEq, List.cons.injEq, and_true] at hv
  obtain ⟨rfl, rfl⟩ := hv
  obtain ⟨ga, rfl, hnd⟩ := hns i hi
  have hnd' := hnd.same (l6.block _ (cell_lt hnd.c0))
  obtain ⟨q0, q1, q2, q3, q4, q5⟩ := hnd'
  have hii : (i : Int) < (t.ns.length : Int) := by omega
  have BW := Lib.hid (fun o => (Below.refl w.heap.size w).alloc (Nat.le_refl _) o)
  have hm1 := fun W N => byBook W bb _ _ N fAlt
  have hm2 := fun W N => nilBook W bb _ _ N fAlt
  rw [hop] at q0
  rw [ha] at q1
  rw [hb] at q2
  generalize nd t.ns i = n at *
  have BD := Lib.hid ((BW.out (.cells #[.int .i64 4, .int .i64 (a : Nat), .int .i64 (b : Nat), .int .i64 n.lo, .int .i64 n.hi, .int .i64 n.set] 35)).trans (below_drew _))
  have NB := Lib.hid (nb_new h ⟨4, (a : Nat), (b : Nat), n.lo, n.hi, n.set⟩)
  have HD := Lib.hid (h.next BD.out)
  have C1 := Lib.hid (K1 _ HD.out)
  have C2 := Lib.hid K2
  have C3 := Lib.hid K3
  have HNN := Lib.hid hn
  have FD := Lib.hid (Fm.of_below BD.out l1 : Fm bb M Md w _)
  unfold MadeAt at C1 C2
  unfold OpAt at C3
  clear h hns hx hm hnd K1 K2 K3 hn ha hb
  go_enter Tryz.func47, Tryz.ntmps47
  go_wp2
  go_region_held3 (fun X => X.cell? ⟨gm, 0, none⟩ = some (.iface 53 (.pointer (some ⟨bb, 0, none⟩))) ∧ X.cell? ⟨gn, 0, none⟩ = some (.func (.func 47) #[] #[.pointer (some ⟨gd, 0, none⟩), .pointer (some ⟨gt, 0, none⟩), .pointer (some ⟨gm, 0, none⟩), .pointer (some ⟨gn, 0, none⟩)]) ∧ X.cell? ⟨w.heap.size, 1, none⟩ = some (.int .i64 (a : Nat)) ∧ X.cell? ⟨w.heap.size, 2, none⟩ = some (.int .i64 (b : Nat))) (first | exact ⟨by assumption, by assumption, by assumption, by assumption⟩ | go_keep)
    (first
      | (go_at_fn 47; ((with_reducible refine C1.out.mono ?_); rintro e w1 ⟨rfl, h1, k1⟩); go_must (have nb := NB.out.fm k1; obtain ⟨_, _, _, u4, u5⟩ := h1.cells; have u6 := nb.box.at'.c1; have u7 := nb.box.at'.c2; have H1 := Lib.hid h1; have NB1 := Lib.hid nb; have F1 := Lib.hid (FD.out.trans k1); clear h1 k1 nb C1))
      | (go_at_fn 47; ((with_reducible refine (C2.out _ H1.out).mono ?_); rintro e w2 ⟨rfl, h2, k2⟩); go_must (have nb := NB1.out.fm k2; obtain ⟨_, _, _, t4, t5⟩ := h2.cells; have t6 := nb.box.at'.c1; have t7 := nb.box.at'.c2; have H2 := Lib.hid h2; have NB2 := Lib.hid nb; have F2 := Lib.hid (F1.out.trans k2); clear h2 k2 nb C2 u4 u5 u6 u7))
      | (go_at_fn 59; ((with_reducible refine (C3.out _ H2.out.book).mono ?_); rintro e w3 ⟨rfl, h3, k3⟩); go_must (have H3 := Lib.hid (H2.out.kb h3 k3); have nb := NB2.out.fm (Fm.of_fz k3); obtain ⟨v1, _, _, v4, v5⟩ := H3.out.cells; have v6 := nb.box.at'.c1; have v7 := nb.box.at'.c2; have F3 := Lib.hid (F2.out.trans (Fm.of_fz k3)); clear h3 k3 nb C3 t4 t5 t6 t7))
      | fail)
  all_goals
    obtain ⟨w4, hrun, hM4, hF4⟩ := H3.out.note (i := i) (x := r.2) (by omega) hr hl HNN.out
    have HM4 := Lib.hid hM4
    have HF4 := Lib.hid (F3.out.trans hF4)
    clear hM4 hF4 hlk c1 c2 c3 c4 c5
    go_wp2
    go_ret
    exact ⟨rfl, HM4.out, HF4.out⟩
end
end Go.Proofs.YtbkafoaoddajoaaGreatDoor.Dv

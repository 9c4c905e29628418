/- A new part's number. What a book is asked: Empty, Cat, Alt, Rep, fewer. -/
import Derived.Test.YtbkafoaoddajoaaGreatDoorPk05

namespace Go.Proofs.YtbkafoaoddajoaaGreatDoor.Dv
open Go Go.RowKit Go.Shelf Go.Maps
open Go.Proofs.YtbkafoaoddajoaaGreatDoor.Ar (Nd nd nodeB NRow cellsN aggN flatN flatN_snoc Book WfN Wf kl key_mk lawN zeroInt kl_inj book_put wf_nat lit_inj infoN)
open Go.Proofs.YtbkafoaoddajoaaGreatDoor.Rg (R RngsAt RowsAt nthL add_zero own_next)

/-- while the part and its mark are appended -/
structure Mid (w0 w : World) (bb M : Nat) (B : Bk) (n : Nd) (pv sv bv : Value) (xs : List Value) (v1 : Value) (P1 : List Nd) (v2 : Value) (P2 : List Bool) (X : World) : Prop where
  kb : Kb w0 bb M w X
  bk : BkAt w0 bb M B pv sv bv xs w
  box : X.heap[bb]? = some (.cells #[pv, sv, bv, .map (some M), .bool B.full] 58 (0, 0))
  parts : X.ownsRow w0.heap.size 35 6 v1 P1.length (flatN P1)
  sets : X.ownsRow w0.heap.size 51 1 sv B.sets.length xs
  bare : X.ownsRow w0.heap.size 4 1 v2 P2.length (P2.map Value.bool)
  map : Book M (B.parts ++ [n]) X
  node : Ar.NodeAt X ⟨w.heap.size, 0, none⟩ n
  above : w.heap.size < X.heap.size
  kz : ∀ k, k < w.heap.size → k ≠ bb → k ≠ M → ¬ rowsOf w bb k → X.heap[k]? = w.heap[k]?
  r1 : ∀ g, v1.ownBlock = some g → rowsOf w bb g ∨ w.heap.size ≤ g
  r2 : ∀ g, v2.ownBlock = some g → rowsOf w bb g ∨ w.heap.size ≤ g
def Sn (w : World) (bb : Nat) (n : Nd) (pv bv : Value) (W : World) : Prop := W.cell? ⟨bb, 0, none⟩ = some pv ∧ W.cell? ⟨bb, 2, none⟩ = some bv ∧ W.cell? ⟨w.heap.size, 0, none⟩ = some (.int .i64 n.op) ∧ W.cell? ⟨w.heap.size, 1, none⟩ = some (.int .i64 n.a) ∧ W.cell? ⟨w.heap.size, 2, none⟩ = some (.int .i64 n.b) ∧ W.cell? ⟨w.heap.size, 3, none⟩ = some (.int .i64 n.lo) ∧ W.cell? ⟨w.heap.size, 4, none⟩ = some (.int .i64 n.hi) ∧ W.cell? ⟨w.heap.size, 5, none⟩ = some (.int .i64 n.set)
section
variable {w0 w X Y : World} {bb M : Nat} {B : Bk} {n : Nd} {pv sv bv v1 v2 : Value} {xs : List Value} {P1 : List Nd} {P2 : List Bool}
theorem Mid.s (h : Mid w0 w bb M B n pv sv bv xs v1 P1 v2 P2 X) : Sn w bb n pv bv X :=
  ⟨by simp [World.cell?, h.box], by simp [World.cell?, h.box], h.node.c0, h.node.c1, h.node.c2, h.node.c3, h.node.c4, h.node.c5⟩
theorem Mid.size0 (h : Mid w0 w bb M B n pv sv bv xs v1 P1 v2 P2 X) : w0.heap.size ≤ X.heap.size := by have := h.bk.below.size; have := h.above; omega
theorem Mid.next (h : Mid w0 w bb M B n pv sv bv xs v1 P1 v2 P2 X) (hb : Below X.heap.size X Y) : Mid w0 w bb M B n pv sv bv xs v1 P1 v2 P2 Y :=
  ⟨h.kb.trans (Kg.of_below hb), h.bk, (hb.block _ (Array.getElem?_eq_some_iff.1 h.box).1).trans h.box, own_next h.parts hb, own_next h.sets hb, own_next h.bare hb, ⟨h.map.nodup, h.map.wf, by
    obtain ⟨D, h1, h2⟩ := h.map.map
    exact ⟨D, (Kg.of_below hb : Kg 0 (fun _ => False) (fun _ => False) X Y).map h1 id, h2⟩⟩, h.node.next hb, Nat.lt_of_lt_of_le h.above hb.size, fun k hk h1 h2 h3 => (hb.block k (by have := h.above; omega)).trans (h.kz k hk h1 h2 h3), h.r1, h.r2⟩
theorem Mid.alloc (h : Mid w0 w bb M B n pv sv bv xs v1 P1 v2 P2 X) (o : Obj) : Mid w0 w bb M B n pv sv bv xs v1 P1 v2 P2 (X.alloc o) := h.next ((Below.refl _ _).alloc (Nat.le_refl _) o)
theorem old_row {e : TypeId} {s m N : Nat} {v : Value} {ys : List Value} (h : w.ownsRow N e s v m ys) {g : Nat} (hg : v.ownBlock = some g) : g < w.heap.size := by
  obtain ⟨_, cs, hh⟩ := row_block h hg
  exact (Array.getElem?_eq_some_iff.1 hh).1
theorem Mid.news (h : Mid w0 w bb M B n pv sv bv xs v1 P1 v2 P2 X) (hg : X.grownBy Y pv.ownBlock) {N : Nat} {o : Obj} (hN : X.heap[N]? = some o) (hge : w.heap.size ≤ N) : Y.heap[N]? = some o :=
  (hg.block N (Array.getElem?_eq_some_iff.1 hN).1 (fun e => by have := old_row h.bk.parts e.symm; omega)).trans hN
/-- another row is appended to -/
theorem Mid.grown (h : Mid w0 w bb M B n pv sv bv xs v1 P1 v2 P2 X) {e : TypeId} {s m : Nat} {v : Value} {ys : List Value} (hr : X.ownsRow w0.heap.size e s v m ys) (ho : ∀ g, v.ownBlock = some g → g < w.heap.size) (hq : ∀ g, v.ownBlock = some g → rowsOf w bb g) (he : Tb e) (hg : X.grownBy Y v.ownBlock) :
    Kb w0 bb M w Y ∧ Y.heap[bb]? = some (.cells #[pv, sv, bv, .map (some M), .bool B.full] 58 (0, 0)) ∧ Book M (B.parts ++ [n]) Y ∧ Ar.NodeAt Y ⟨w.heap.size, 0, none⟩ n ∧ w.heap.size < Y.heap.size ∧ (∀ k, k < w.heap.size → k ≠ bb → k ≠ M → ¬ rowsOf w bb k → Y.heap[k]? = w.heap[k]?) := by
  have hbb : v.ownBlock ≠ some bb := fun hv => by
    obtain ⟨_, cs, hh⟩ := row_block hr hv
    rw [h.box] at hh
    simp only [Option.some.injEq, Obj.cells.injEq] at hh
    rcases he with rfl | rfl | rfl
    · exact absurd hh.2.1 (by decide)
    · exact absurd hh.2.1 (by decide)
    · exact absurd hh.2.1 (by decide)
  refine ⟨h.kb.trans (Kg.of_grown hg fun g hv => ?_), ?_, ⟨h.map.nodup, h.map.wf, ?_⟩, ?_, Nat.lt_of_lt_of_le h.above hg.size, fun k hk h1 h2 h3 => (hg.block k (by have := h.above; omega) (fun e => h3 (hq k e.symm))).trans (h.kz k hk h1 h2 h3)⟩
  · obtain ⟨h1, cs, hh⟩ := row_block hr hv
    exact ⟨h1, .inr ⟨cs, e, _, hh, he⟩⟩
  · exact (hg.block bb (Array.getElem?_eq_some_iff.1 h.box).1 (Ne.symm hbb)).trans h.box
  · obtain ⟨D, h1, h2⟩ := h.map.map
    exact ⟨D, (Kg.of_grown (N0 := 0) (U := fun k => v.ownBlock = some k) (T := fun _ => False) hg (fun g hv => ⟨Nat.zero_le _, .inl hv⟩)).map h1 (map_ne_row h1 hr), h2⟩
  · exact h.node.same (hg.block _ h.above (fun hv => Nat.lt_irrefl _ (ho _ hv.symm)))
theorem Mid.appN {g cap : Nat} (h : Mid w0 w bb M B n pv sv bv xs pv B.parts v2 P2 X) (hown : Y.ownsRow w0.heap.size 35 6 (.slice (some ⟨g, 0, none⟩) (B.parts.length + 1) cap) (B.parts.length + 1) (flatN B.parts ++ cellsN n)) (hg : X.grownBy Y pv.ownBlock) (hat : pv.ownBlock = some g ∨ g = X.heap.size) :
    Mid w0 w bb M B n pv sv bv xs (.slice (some ⟨g, 0, none⟩) (B.parts.length + 1) cap) (B.parts ++ [n]) v2 P2 Y := by
  obtain ⟨h1, h2, h3, h4, h5, h6⟩ := h.grown h.parts (fun g hv => old_row h.bk.parts hv) (fun g hv => (h.bk.rows g).2 (.inl hv)) (.inl rfl) hg
  exact ⟨h1, h.bk, h2, by rw [flatN_snoc, List.length_append, List.length_singleton]; exact hown, h.sets.kept hg (Rg.row_apart (by decide) h.parts h.sets), h.bare.kept hg (Rg.row_apart (by decide) h.parts h.bare), h3, h4, h5, h6, fun g' hv => by
    simp only [Value.ownBlock, Option.some.injEq] at hv
    subst hv
    exact hat.imp (fun e => (h.bk.rows _).2 (.inl e)) (fun e => by have := h.above; omega), h.r2⟩
theorem Mid.appB {g cap : Nat} {e : Bool} (h : Mid w0 w bb M B n pv sv bv xs v1 P1 bv B.bare X) (hown : Y.ownsRow w0.heap.size 4 1 (.slice (some ⟨g, 0, none⟩) (B.bare.length + 1) cap) (B.bare.length + 1) (B.bare.map Value.bool ++ [.bool e])) (hg : X.grownBy Y bv.ownBlock) (hat : bv.ownBlock = some g ∨ g = X.heap.size) :
    Mid w0 w bb M B n pv sv bv xs v1 P1 (.slice (some ⟨g, 0, none⟩) (B.bare.length + 1) cap) (B.bare ++ [e]) Y := by
  obtain ⟨h1, h2, h3, h4, h5, h6⟩ := h.grown h.bare (fun g hv => old_row h.bk.bare hv) (fun g hv => (h.bk.rows g).2 (.inr (.inr hv))) (.inr (.inr rfl)) hg
  exact ⟨h1, h.bk, h2, h.parts.kept hg (Rg.row_apart (by decide) h.bare h.parts), h.sets.kept hg (Rg.row_apart (by decide) h.bare h.sets), by rw [List.map_append, List.length_append, List.length_singleton]; exact hown, h3, h4, h5, h6, h.r1, fun g' hv => by
    simp only [Value.ownBlock, Option.some.injEq] at hv
    subst hv
    exact hat.imp (fun e => (h.bk.rows _).2 (.inr (.inr e))) (fun e => by have := h.above; omega)⟩
theorem Mid.box0 (h : Mid w0 w bb M B n pv sv bv xs v1 P1 v2 P2 X) : X.cell? ⟨bb, 0, none⟩ = some pv ∧ X.frozen? ⟨bb, 0, none⟩ = false := ⟨by simp [World.cell?, h.box], frozen_of_row X bb 0 _ _ h.box⟩
theorem Mid.box2 (h : Mid w0 w bb M B n pv sv bv xs v1 P1 v2 P2 X) (v : Value) : (X.setCell ⟨bb, 0, none⟩ v).cell? ⟨bb, 2, none⟩ = some bv ∧ (X.setCell ⟨bb, 0, none⟩ v).frozen? ⟨bb, 2, none⟩ = false := by
  have hb := heap_setCell_same X bb 0 _ 58 v h.box
  exact ⟨by rw [World.cell?, hb]; rfl, frozen_of_row _ bb 2 _ _ hb⟩
theorem Mid.fin {e : Bool} (h : Mid w0 w bb M B n pv sv bv xs v1 (B.parts ++ [n]) v2 (B.bare ++ [e]) X) :
    OpAt w0 bb M w ({ B with parts := B.parts ++ [n], bare := B.bare ++ [e] }, B.parts.length) (.returned (.int .i64 (B.parts.length : Nat))) ((X.setCell ⟨bb, 0, none⟩ v1).setCell ⟨bb, 2, none⟩ v2) := by
  have k1 : Kg w0.heap.size (fun k => k = bb) (fun _ => False) X (X.setCell ⟨bb, 0, none⟩ v1) := Kg.of_set h.bk.base rfl
  have k2 : Kg w0.heap.size (fun k => k = bb) (fun _ => False) (X.setCell ⟨bb, 0, none⟩ v1) ((X.setCell ⟨bb, 0, none⟩ v1).setCell ⟨bb, 2, none⟩ v2) := Kg.of_set h.bk.base rfl
  have k := k1.trans k2
  have hb := heap_setCell_same _ bb 2 _ 58 v2 (heap_setCell_same X bb 0 _ 58 v1 h.box)
  have hx : ∀ {e : TypeId} {s m : Nat} {v : Value} {ys : List Value}, X.ownsRow w0.heap.size e s v m ys → e ≠ 58 → ∀ g, v.ownBlock = some g → ¬ g = bb := fun hr he g hv e => by
    obtain ⟨_, cs, hh⟩ := row_block hr hv
    rw [e, h.box] at hh
    simp only [Option.some.injEq, Obj.cells.injEq] at hh
    exact he hh.2.1.symm
  have hk := h.kb.trans (k.mono (fun _ _ h => .inl h) (fun _ h => h.elim))
  refine ⟨rfl, ⟨v1, sv, v2, xs, hk.since h.bk.below rfl, h.bk.base, h.bk.baseM, by simpa using hb, k.own h.parts id (hx h.parts (by decide)), k.own h.sets id (hx h.sets (by decide)), h.bk.row, k.own h.bare id (hx h.bare (by decide)), h.map.nodup, h.map.wf, ?_⟩, hk.os, hk.tape, hk.output, hk.size, fun i hi h1 h2 h3 => ((Below.heap_setCell _ _ _ _ h1).trans (Below.heap_setCell _ _ _ _ h1)).trans (h.kz i hi h1 h2 h3), fun i hi => ?_⟩
  · obtain ⟨D, h1, h2⟩ := h.map.map
    exact ⟨D, k.map h1 (fun e => h.bk.ne e.symm), h2⟩
  · obtain ⟨p, s, b, m, f, t, z, e, hr⟩ := hi
    rw [hb] at e
    simp at e
    obtain ⟨⟨rfl, rfl, rfl, _⟩, _⟩ := e
    rcases hr with hr | hr | hr
    · exact h.r1 i hr
    · exact .inl ((h.bk.rows i).2 (.inr (.inl hr)))
    · exact h.r2 i hr
end

set_option maxRecDepth 100000 in
set_option maxHeartbeats 4000000 in
theorem number_new {w0 w : World} {bb M : Nat} {B : Bk} (n : Nd) (e : Bool) (h : BookAt w0 bb M B w) (hn : WfN n) (hs : B.parts.length < 12288) (hb : B.bare.length = B.parts.length) (hm : n ∉ B.parts) :
    Calls Tryz.prog 46 #[.pointer (some ⟨bb, 0, none⟩), aggN n, .bool e] w (OpAt w0 bb M w ({ B with parts := B.parts ++ [n], bare := B.bare ++ [e] }, B.parts.length)) := by
  obtain ⟨i0, hi, hz0, hz1, hz2⟩ := info_parts infoN
  obtain ⟨j0, hj, hy0, hy1, hy2⟩ := info_parts infoB
  obtain ⟨pv, sv, bv, xs, h⟩ := h
  have HB := Lib.hid h
  have c3 := h.cell3
  have c0 := h.cell0
  have c2 := h.cell2
  have hlt := h.lt
  have hbase := h.base
  obtain ⟨D, hown, hhas, hat, hsize⟩ := h.map.map
  obtain ⟨c, hw⟩ := look_no hown hhas hn hm
  have BW := Lib.hid (fun o => (Below.refl w.heap.size w).alloc (Nat.le_refl _) o)
  have hL := fun k => hw ((w.alloc (.cells #[.int .i64 n.op, .int .i64 n.a, .int .i64 n.b, .int .i64 n.lo, .int .i64 n.hi, .int .i64 n.set] 35)).drewN k) ((BW.out _).trans ((Rg.below_drewN _ k).mono (by simp)))
  have hT := hown.tidy lawN
  have hkey := key_mk hn
  have hh : Maps.has D (kl n) = false := by rw [← Bool.not_eq_true, hhas n hn]; exact hm
  have hput := fun w3 (h3 : w3.ownsMap Tryz.prog 35 (plainElem Tryz.prog 3) M (B.parts.length + 1) (D.put (kl n) (.lit (.int .i64 (B.parts.length : Int))))) => book_put (w3 := w3) h.map.nodup h.map.wf hn hT hh hhas hat hsize h3
  have HPUT := Lib.hid hput
  have hwn : Wf ((B.parts.length : Nat) : Int) := wf_nat (by omega)
  obtain ⟨ao, cap, hpv, hl, _⟩ := (Ar.nodes_of_row h.parts).shape
  subst hpv
  have hne : ((B.parts.length : Int) == 12288) = false := by simp; omega
  have HOWN := Lib.hid hown
  have hbl : B.bare.length < 12288 := by omega
  clear hb
  unfold aggN at *
  clear h hhas hat hsize hw hm hT hh hput hown
  go_enter Tryz.func46, Tryz.ntmps46
  go_wp2
  go_quiet (fail)
  go_wp2
  have hb1 : Below w.heap.size w ((w.alloc (.cells #[.int .i64 n.op, .int .i64 n.a, .int .i64 n.b, .int .i64 n.lo, .int .i64 n.hi, .int .i64 n.set] 35)).drewN nq) := (BW.out _).trans ((Rg.below_drewN _ _).mono (by simp))
  have p0 := (Ar.node_new w n 35).next (Rg.below_drewN _ nq)
  generalize (w.alloc (.cells #[.int .i64 n.op, .int .i64 n.a, .int .i64 n.b, .int .i64 n.lo, .int .i64 n.hi, .int .i64 n.set] 35)).drewN nq = W1 at *
  obtain ⟨q0, q1, q2, q3, q4, q5⟩ := p0
  have d3 := cell_next c3 hb1
  have d0 := cell_next c0 hb1
  have d2 := cell_next c2 hb1
  obtain ⟨w3, hrun, hown3, hturn⟩ := ((Kg.of_below (hb1.trans ((Rg.below_drewN W1 1).mono hb1.size)) : Kg 0 (fun _ => False) (fun _ => False) w W1.drew).map HOWN.out id).store lawN Tryz.underlying56 (by unfold maxLen; omega) hkey (plainElem_int Tryz.underlying3 hwn)
  have HT := Lib.hid (Kg.of_turned (N0 := w0.heap.size) (U := fun k => k = M) (T := fun _ => False) hturn HB.out.baseM rfl)
  have HQ := Lib.hid (show Ar.NodeAt W1.drew ⟨w.heap.size, 0, none⟩ n from ⟨q0, q1, q2, q3, q4, q5⟩)
  have k3 : Kg 0 (fun k => k = M) (fun _ => False) W1.drew w3 := Kg.of_turned hturn (Nat.zero_le _) rfl
  have hMlt := HB.out.ltM
  have hne1 : ¬ bb = M := HB.out.ne
  have hne2 : ¬ w.heap.size = M := by omega
  have e3 := k3.cell (show W1.drew.cell? ⟨bb, 3, none⟩ = _ from d3) hne1 (fun _ _ _ _ h => h)
  have e0 := k3.cell (show W1.drew.cell? ⟨bb, 0, none⟩ = _ from d0) hne1 (fun _ _ _ _ h => h)
  have e2 := k3.cell (show W1.drew.cell? ⟨bb, 2, none⟩ = _ from d2) hne1 (fun _ _ _ _ h => h)
  have r0 := k3.cell (show W1.drew.cell? ⟨w.heap.size, 0, none⟩ = _ from q0) hne2 (fun _ _ _ _ h => h)
  have r1 := k3.cell (show W1.drew.cell? ⟨w.heap.size, 1, none⟩ = _ from q1) hne2 (fun _ _ _ _ h => h)
  have r2 := k3.cell (show W1.drew.cell? ⟨w.heap.size, 2, none⟩ = _ from q2) hne2 (fun _ _ _ _ h => h)
  have r3 := k3.cell (show W1.drew.cell? ⟨w.heap.size, 3, none⟩ = _ from q3) hne2 (fun _ _ _ _ h => h)
  have r4 := k3.cell (show W1.drew.cell? ⟨w.heap.size, 4, none⟩ = _ from q4) hne2 (fun _ _ _ _ h => h)
  have r5 := k3.cell (show W1.drew.cell? ⟨w.heap.size, 5, none⟩ = _ from q5) hne2 (fun _ _ _ _ h => h)
  have HO := Lib.hid hown3
  have HB1 := Lib.hid hb1
  have K3 := Lib.hid k3
  clear hturn hown3 hb1 hL k3
  go_region_held3 (fun W => W.cell? ⟨bb, 3, none⟩ = some (.map (some M)) ∧ W.cell? ⟨w.heap.size, 0, none⟩ = some (.int .i64 n.op) ∧ W.cell? ⟨w.heap.size, 1, none⟩ = some (.int .i64 n.a) ∧ W.cell? ⟨w.heap.size, 2, none⟩ = some (.int .i64 n.b) ∧ W.cell? ⟨w.heap.size, 3, none⟩ = some (.int .i64 n.lo) ∧ W.cell? ⟨w.heap.size, 4, none⟩ = some (.int .i64 n.hi) ∧ W.cell? ⟨w.heap.size, 5, none⟩ = some (.int .i64 n.set)) (first | exact ⟨by assumption, by assumption, by assumption, by assumption, by assumption, by assumption, by assumption⟩)
    (first | fail)
  clear hrun c3 c0 c2 d3 d0 d2 q0 q1 q2 q3 q4 q5 e3
  go_wp2
  have hm0 : Mid w0 w bb M B n (.slice ao B.parts.length cap) sv bv xs (.slice ao B.parts.length cap) B.parts bv B.bare w3.drew := by
    have hbW : Below w.heap.size w W1.drew := HB1.out.trans ((Rg.below_drewN W1 1).mono HB1.out.size)
    have hB1 := HB.out.next hbW
    have kk := K3.out
    have hsz : w.heap.size < W1.drew.heap.size := cell_lt (show W1.drew.cell? ⟨w.heap.size, 0, none⟩ = _ from HQ.out.c0)
    have hnM : ∀ {e : TypeId} {s m : Nat} {v : Value} {ys : List Value}, W1.drew.ownsRow w0.heap.size e s v m ys → ∀ g, v.ownBlock = some g → ¬ g = M := fun hr g hv e => by
      obtain ⟨D', h1, _⟩ := hB1.map.map
      exact map_ne_row h1 hr (e ▸ hv)
    have k4 : Kg w0.heap.size (fun k => k = M) (fun _ => False) W1.drew w3 := HT.out
    exact ((⟨(Kg.of_below hbW).trans (k4.mono (fun _ _ h => .inr h) (fun _ h => h.elim)), HB.out, k4.heap hB1.box HB.out.ne (fun _ _ _ _ h => h), k4.own hB1.parts id (hnM hB1.parts), k4.own hB1.sets id (hnM hB1.sets), k4.own hB1.bare id (hnM hB1.bare), HPUT.out _ HO.out, HQ.out.same (k4.block _ hsz (.inr ⟨by show ¬ w.heap.size = M; have := HB.out.ltM; omega, fun _ _ _ _ h => h⟩)), Nat.lt_of_lt_of_le hsz k4.size, fun k hk h1 h2 _ => (k4.block k (Nat.lt_of_lt_of_le hk hbW.size) (.inr ⟨h2, fun _ _ _ _ h => h⟩)).trans (hbW.block k hk), fun g hv => .inl ((HB.out.rows g).2 (.inl hv)), fun g hv => .inl ((HB.out.rows g).2 (.inr (.inr hv)))⟩ : Mid w0 w bb M B n (.slice ao B.parts.length cap) sv bv xs (.slice ao B.parts.length cap) B.parts bv B.bare w3).next (Rg.below_drewN w3 1))
  have HM := Lib.hid hm0
  have hS := hm0.s
  have hab := hm0.above
  clear hm0
  refine wp_region_noPanic ?_
  refine begin_anyT (S := Sn w bb n (.slice ao B.parts.length cap) bv) 18 (by kernel_rfl) ?_
  generalize w3.drew = W0 at *
  refine anyT_free (i := 0) (v := ?_) rfl (by kernel_rfl) (by kernel_rfl) (by kernel_rfl) (by kernel_rfl) (fun _ _ _ h => h) (Or.inl ⟨by rfl, ?_⟩) (fun _ => hS) ?_
  rotate_left
  · (intro W _; go_simp <;> with_reducible rfl)
  simp only [Act.put, List.getElem_toArray, List.getElem_cons_zero, List.setIfInBounds_toArray, List.set_cons_zero, List.set_cons_succ]
  refine anyT_free (i := 1) (v := ?_) rfl (by kernel_rfl) (by kernel_rfl) (by kernel_rfl) (by kernel_rfl) (fun _ _ _ h => h) (Or.inl ⟨by rfl, ?_⟩) (fun _ => hS) ?_
  rotate_left
  · (intro W _; go_simp <;> with_reducible rfl)
  simp only [Act.put, List.getElem_toArray, List.getElem_cons_succ, List.getElem_cons_zero, List.setIfInBounds_toArray, List.set_cons_zero, List.set_cons_succ]
  refine anyT_free (i := 2) (v := ?_) rfl (by kernel_rfl) (by kernel_rfl) (by kernel_rfl) (by kernel_rfl) (fun _ _ _ h => h) (Or.inl ⟨by rfl, ?_⟩) (fun _ => hS) ?_
  rotate_left
  · (intro W _; go_simp <;> with_reducible rfl)
  simp only [Act.put, List.getElem_toArray, List.getElem_cons_succ, List.getElem_cons_zero, List.setIfInBounds_toArray, List.set_cons_zero, List.set_cons_succ]
  refine anyT_free (i := 3) (v := ?_) rfl (by kernel_rfl) (by kernel_rfl) (by kernel_rfl) (by kernel_rfl) (fun _ _ _ h => h) (Or.inl ⟨by rfl, ?_⟩) (fun _ => hS) ?_
  rotate_left
  · (intro W _; go_simp <;> with_reducible rfl)
  simp only [Act.put, List.getElem_toArray, List.getElem_cons_succ, List.getElem_cons_zero, List.setIfInBounds_toArray, List.set_cons_zero, List.set_cons_succ]
  refine anyT_free (i := 4) (v := ?_) rfl (by kernel_rfl) (by kernel_rfl) (by kernel_rfl) (by kernel_rfl) (fun _ _ _ h => h) (Or.inl ⟨by rfl, ?_⟩) (fun _ => hS) ?_
  rotate_left
  · (intro W _; go_simp <;> with_reducible rfl)
  simp only [Act.put, List.getElem_toArray, List.getElem_cons_succ, List.getElem_cons_zero, List.setIfInBounds_toArray, List.set_cons_zero, List.set_cons_succ]
  refine anyT_take (i := 5) (v := ?_) rfl (by kernel_rfl) (by kernel_rfl) (by kernel_rfl) (by kernel_rfl) (fun _ _ _ h => h) (Or.inl ⟨by rfl, ?_⟩) hS ?_
  rotate_left
  · (intro W hSw; unfold Sn at hSw; go_simp <;> with_reducible rfl)
  simp only [Act.put, List.getElem_toArray, List.getElem_cons_succ, List.getElem_cons_zero, List.setIfInBounds_toArray, List.set_cons_zero, List.set_cons_succ]
  refine anyT_take (i := 6) (v := ?_) rfl (by kernel_rfl) (by kernel_rfl) (by kernel_rfl) (by kernel_rfl) (fun _ _ _ h => h) (Or.inl ⟨by rfl, ?_⟩) hS ?_
  rotate_left
  · (intro W hSw; unfold Sn at hSw; go_simp <;> with_reducible rfl)
  simp only [Act.put, List.getElem_toArray, List.getElem_cons_succ, List.getElem_cons_zero, List.setIfInBounds_toArray, List.set_cons_zero, List.set_cons_succ]
  refine anyT_free (i := 9) (v := ?_) rfl (by kernel_rfl) (by kernel_rfl) (by kernel_rfl) (by kernel_rfl) (fun _ _ _ h => h) (Or.inl ⟨by rfl, ?_⟩) (fun _ => hS) ?_
  rotate_left
  · (intro W _; go_simp <;> with_reducible rfl)
  simp only [Act.put, List.getElem_toArray, List.getElem_cons_succ, List.getElem_cons_zero, List.setIfInBounds_toArray, List.set_cons_zero, List.set_cons_succ]
  refine anyT_free (i := 10) (v := ?_) rfl (by kernel_rfl) (by kernel_rfl) (by kernel_rfl) (by kernel_rfl) (fun _ _ _ h => h) (Or.inl ⟨by rfl, ?_⟩) (fun _ => hS) ?_
  rotate_left
  · (intro W _; go_simp <;> with_reducible rfl)
  simp only [Act.put, List.getElem_toArray, List.getElem_cons_succ, List.getElem_cons_zero, List.setIfInBounds_toArray, List.set_cons_zero, List.set_cons_succ]
  refine anyT_free (i := 11) (v := ?_) rfl (by kernel_rfl) (by kernel_rfl) (by kernel_rfl) (by kernel_rfl) (fun _ _ _ h => h) (Or.inl ⟨by rfl, ?_⟩) (fun _ => hS) ?_
  rotate_left
  · (intro W _; go_simp <;> with_reducible rfl)
  simp only [Act.put, List.getElem_toArray, List.getElem_cons_succ, List.getElem_cons_zero, List.setIfInBounds_toArray, List.set_cons_zero, List.set_cons_succ]
  refine anyT_take (i := 12) (v := ?_) rfl (by kernel_rfl) (by kernel_rfl) (by kernel_rfl) (by kernel_rfl) (fun _ _ _ h => h) (Or.inl ⟨by rfl, ?_⟩) hS ?_
  rotate_left
  · (intro W hSw; unfold Sn at hSw; go_simp <;> with_reducible rfl)
  simp only [Act.put, List.getElem_toArray, List.getElem_cons_succ, List.getElem_cons_zero, List.setIfInBounds_toArray, List.set_cons_zero, List.set_cons_succ]
  refine anyT_free (i := 13) (v := ?_) rfl (by kernel_rfl) (by kernel_rfl) (by kernel_rfl) (by kernel_rfl) (fun _ _ _ h => h) (Or.inl ⟨by rfl, ?_⟩) (fun _ => hS) ?_
  rotate_left
  · (intro W _; go_simp <;> with_reducible rfl)
  simp only [Act.put, List.getElem_toArray, List.getElem_cons_succ, List.getElem_cons_zero, List.setIfInBounds_toArray, List.set_cons_zero, List.set_cons_succ]
  refine anyT_ready (rs := [7, 14]) (by kernel_rfl) (by simp) ?_
  refine AllT.cons rfl ?_ ?_
  · intro K hK
    simp only [List.getElem_toArray, List.getElem_cons_succ, List.getElem_cons_zero]
    have hSa := (HM.out.alloc (.cells #[.int .i64 n.op, .int .i64 n.a, .int .i64 n.b, .int .i64 n.lo, .int .i64 n.hi, .int .i64 n.set] 35)).s
    go_simp
    refine hK.out _ _ (fun _ => hSa) ?_
    clear hK K
    try simp only [Act.put, List.getElem_toArray, List.getElem_cons_succ, List.getElem_cons_zero, List.setIfInBounds_toArray, List.set_cons_zero, List.set_cons_succ]
    replace HM := Lib.hid (HM.out.alloc (.cells #[.int .i64 n.op, .int .i64 n.a, .int .i64 n.b, .int .i64 n.lo, .int .i64 n.hi, .int .i64 n.set] 35))
    replace hS := hSa
    refine anyT_ready (rs := [8, 14]) (by kernel_rfl) (by simp) ?_
    refine AllT.cons rfl ?_ ?_
    · intro K hK
      refine step_append_lies _ (by rfl) (.tmp 46) (.tmp 48) 22 (by rfl) w0.heap.size 35 i0 (.agg #[.int .i64 0, .int .i64 0, .int .i64 0, .int .i64 0, .int .i64 0, .int .i64 0]) 6 48 Tryz.underlying22 hi hz0 hz1 hz2 rfl (by decide) (.slice ao B.parts.length cap) B.parts.length (flatN B.parts) (by rfl) HM.out.parts ⟨W0.heap.size, 0, none⟩ 1 1 [.int .i64 n.op, .int .i64 n.a, .int .i64 n.b, .int .i64 n.lo, .int .i64 n.hi, .int .i64 n.set] (by rfl) (by rfl) (World.news_of_block (World.alloc_heap_new W0 _)) (by simp [Value.oneCell']) (by decide) (by unfold maxLen; omega) (by omega) HM.out.size0 _ rfl ?_
      intro g cap1 X2 hown hg hat _
      have HM2 := HM.out.appN hown hg hat
      have hS2 := HM2.s
      refine hK.out _ _ (fun _ => hS2) ?_
      clear hK K
      try simp only [Act.put, List.getElem_toArray, List.getElem_cons_succ, List.getElem_cons_zero, List.setIfInBounds_toArray, List.set_cons_zero, List.set_cons_succ]
      refine anyT_ready (rs := [14]) (by kernel_rfl) (by simp) ?_
      refine AllT.cons rfl ?_ AllT.nil
      intro K hK
      simp only [List.getElem_toArray, List.getElem_cons_succ, List.getElem_cons_zero]
      have hSb := (HM2.alloc (.cells #[.bool e] 4)).s
      go_simp
      refine hK.out _ _ (fun _ => hSb) ?_
      clear hK K
      try simp only [Act.put, List.getElem_toArray, List.getElem_cons_succ, List.getElem_cons_zero, List.setIfInBounds_toArray, List.set_cons_zero, List.set_cons_succ]
      replace HM2 := HM2.alloc (.cells #[.bool e] 4)
      refine anyT_ready (rs := [15]) (by kernel_rfl) (by simp) ?_
      refine AllT.cons rfl ?_ AllT.nil
      intro K hK
      refine step_append_lies _ (by rfl) (.tmp 53) (.tmp 55) 40 (by rfl) w0.heap.size 4 j0 (.bool false) 1 1 Tryz.underlying40 hj hy0 hy1 hy2 rfl (by decide) bv B.bare.length (B.bare.map Value.bool) (by rfl) HM2.bare ⟨X2.heap.size, 0, none⟩ 1 1 [.bool e] (by rfl) (by rfl) (World.news_of_block (World.alloc_heap_new X2 _)) (by simp [Value.oneCell']) (by decide) (by unfold maxLen; omega) (by omega) HM2.size0 _ rfl ?_
      intro g' cap2 X4 hown' hg' hat' _
      have HM4 := HM2.appB hown' hg' hat'
      have hS4 := HM4.s
      refine hK.out _ _ (fun _ => hS4) ?_
      clear hK K
      try simp only [Act.put, List.getElem_toArray, List.getElem_cons_succ, List.getElem_cons_zero, List.setIfInBounds_toArray, List.set_cons_zero, List.set_cons_succ]
      have FI := Lib.hid HM4.fin
      obtain ⟨f0, f1⟩ := HM4.box0
      obtain ⟨f2, f3⟩ := HM4.box2 (.slice (some ⟨g, 0, none⟩) (B.parts.length + 1) cap1)
      have hS := hS4
      clear hS2 hS4
      refine anyT_free (i := 16) (v := ?_) rfl (by kernel_rfl) (by kernel_rfl) (by kernel_rfl) (by kernel_rfl) (fun _ _ _ h => h) (Or.inl ⟨by rfl, ?_⟩) (fun _ => hS) ?_
      rotate_left
      · (intro W _; go_simp <;> with_reducible rfl)
      simp only [Act.put, List.getElem_toArray, List.getElem_cons_succ, List.getElem_cons_zero, List.setIfInBounds_toArray, List.set_cons_zero, List.set_cons_succ]
      refine anyT_free (i := 17) (v := ?_) rfl (by kernel_rfl) (by kernel_rfl) (by kernel_rfl) (by kernel_rfl) (fun _ _ _ h => h) (Or.inl ⟨by rfl, ?_⟩) (fun _ => hS) ?_
      rotate_left
      · (intro W _; go_simp <;> with_reducible rfl)
      simp only [Act.put, List.getElem_toArray, List.getElem_cons_succ, List.getElem_cons_zero, List.setIfInBounds_toArray, List.set_cons_zero, List.set_cons_succ]
      refine anyT_ready (rs := [18]) (by kernel_rfl) (by simp) ?_
      refine AllT.cons rfl ?_ AllT.nil
      intro K hK
      simp only [List.getElem_toArray, List.getElem_cons_succ, List.getElem_cons_zero]
      go_simp
      refine hK.out _ _ (fun h => by cases h) ?_
      clear hK K
      try simp only [Act.put, List.getElem_toArray, List.getElem_cons_succ, List.getElem_cons_zero, List.setIfInBounds_toArray, List.set_cons_zero, List.set_cons_succ]
      refine anyT_free (i := 19) (v := ?_) rfl (by kernel_rfl) (by kernel_rfl) (by kernel_rfl) (by kernel_rfl) (fun _ _ _ h => h) (Or.inl ⟨by rfl, ?_⟩) (fun h => by cases h) ?_
      rotate_left
      · (intro W _; go_simp <;> with_reducible rfl)
      simp only [Act.put, List.getElem_toArray, List.getElem_cons_succ, List.getElem_cons_zero, List.setIfInBounds_toArray, List.set_cons_zero, List.set_cons_succ]
      refine anyT_free (i := 20) (v := ?_) rfl (by kernel_rfl) (by kernel_rfl) (by kernel_rfl) (by kernel_rfl) (fun _ _ _ h => h) (Or.inl ⟨by rfl, ?_⟩) (fun h => by cases h) ?_
      rotate_left
      · (intro W _; go_simp <;> with_reducible rfl)
      simp only [Act.put, List.getElem_toArray, List.getElem_cons_succ, List.getElem_cons_zero, List.setIfInBounds_toArray, List.set_cons_zero, List.set_cons_succ]
      refine anyT_ready (rs := [21]) (by kernel_rfl) (by simp) ?_
      refine AllT.cons rfl ?_ AllT.nil
      intro K hK
      simp only [List.getElem_toArray, List.getElem_cons_succ, List.getElem_cons_zero]
      go_simp
      refine hK.out _ _ (fun h => by cases h) ?_
      clear hK K
      try simp only [Act.put, List.getElem_toArray, List.getElem_cons_succ, List.getElem_cons_zero, List.setIfInBounds_toArray, List.set_cons_zero, List.set_cons_succ]
      refine anyT_done (by kernel_rfl) ?_ _
      refine NoPanic.normal ?_
      go_wp2
      go_ret
      exact ⟨rfl, FI.out.2⟩
    refine AllT.cons rfl ?_ AllT.nil
    intro K hK
    simp only [List.getElem_toArray, List.getElem_cons_succ, List.getElem_cons_zero]
    have hSb := (HM.out.alloc (.cells #[.bool e] 4)).s
    go_simp
    refine hK.out _ _ (fun _ => hSb) ?_
    clear hK K
    try simp only [Act.put, List.getElem_toArray, List.getElem_cons_succ, List.getElem_cons_zero, List.setIfInBounds_toArray, List.set_cons_zero, List.set_cons_succ]
    replace HM := Lib.hid (HM.out.alloc (.cells #[.bool e] 4))
    refine anyT_ready (rs := [8]) (by kernel_rfl) (by simp) ?_
    refine AllT.cons rfl ?_ AllT.nil
    intro K hK
    refine step_append_lies _ (by rfl) (.tmp 46) (.tmp 48) 22 (by rfl) w0.heap.size 35 i0 (.agg #[.int .i64 0, .int .i64 0, .int .i64 0, .int .i64 0, .int .i64 0, .int .i64 0]) 6 48 Tryz.underlying22 hi hz0 hz1 hz2 rfl (by decide) (.slice ao B.parts.length cap) B.parts.length (flatN B.parts) (by rfl) HM.out.parts ⟨W0.heap.size, 0, none⟩ 1 1 [.int .i64 n.op, .int .i64 n.a, .int .i64 n.b, .int .i64 n.lo, .int .i64 n.hi, .int .i64 n.set] (by rfl) (by rfl) (World.news_of_block ((heap_alloc_old _ _ (by simp)).trans (World.alloc_heap_new W0 _))) (by simp [Value.oneCell']) (by decide) (by unfold maxLen; omega) (by omega) HM.out.size0 _ rfl ?_
    intro g cap1 X2 hown hg hat _
    have HM2 := HM.out.appN hown hg hat
    have hS2 := HM2.s
    refine hK.out _ _ (fun _ => hS2) ?_
    clear hK K
    try simp only [Act.put, List.getElem_toArray, List.getElem_cons_succ, List.getElem_cons_zero, List.setIfInBounds_toArray, List.set_cons_zero, List.set_cons_succ]
    refine anyT_ready (rs := [15]) (by kernel_rfl) (by simp) ?_
    refine AllT.cons rfl ?_ AllT.nil
    intro K hK
    refine step_append_lies _ (by rfl) (.tmp 53) (.tmp 55) 40 (by rfl) w0.heap.size 4 j0 (.bool false) 1 1 Tryz.underlying40 hj hy0 hy1 hy2 rfl (by decide) bv B.bare.length (B.bare.map Value.bool) (by rfl) HM2.bare ⟨W0.heap.size + 1, 0, none⟩ 1 1 [.bool e] (by rfl) (by rfl) (World.news_of_block (HM.out.news hg (by have := World.alloc_heap_new (W0.alloc (.cells #[.int .i64 n.op, .int .i64 n.a, .int .i64 n.b, .int .i64 n.lo, .int .i64 n.hi, .int .i64 n.set] 35)) (.cells #[.bool e] 4); simpa using this) (by omega))) (by simp [Value.oneCell']) (by decide) (by unfold maxLen; omega) (by omega) HM2.size0 _ rfl ?_
    intro g' cap2 X4 hown' hg' hat' _
    have HM4 := HM2.appB hown' hg' hat'
    have hS4 := HM4.s
    refine hK.out _ _ (fun _ => hS4) ?_
    clear hK K
    try simp only [Act.put, List.getElem_toArray, List.getElem_cons_succ, List.getElem_cons_zero, List.setIfInBounds_toArray, List.set_cons_zero, List.set_cons_succ]
    have FI := Lib.hid HM4.fin
    obtain ⟨f0, f1⟩ := HM4.box0
    obtain ⟨f2, f3⟩ := HM4.box2 (.slice (some ⟨g, 0, none⟩) (B.parts.length + 1) cap1)
    have hS := hS4
    clear hS2 hS4
    refine anyT_free (i := 16) (v := ?_) rfl (by kernel_rfl) (by kernel_rfl) (by kernel_rfl) (by kernel_rfl) (fun _ _ _ h => h) (Or.inl ⟨by rfl, ?_⟩) (fun _ => hS) ?_
    rotate_left
    · (intro W _; go_simp <;> with_reducible rfl)
    simp only [Act.put, List.getElem_toArray, List.getElem_cons_succ, List.getElem_cons_zero, List.setIfInBounds_toArray, List.set_cons_zero, List.set_cons_succ]
    refine anyT_free (i := 17) (v := ?_) rfl (by kernel_rfl) (by kernel_rfl) (by kernel_rfl) (by kernel_rfl) (fun _ _ _ h => h) (Or.inl ⟨by rfl, ?_⟩) (fun _ => hS) ?_
    rotate_left
    · (intro W _; go_simp <;> with_reducible rfl)
    simp only [Act.put, List.getElem_toArray, List.getElem_cons_succ, List.getElem_cons_zero, List.setIfInBounds_toArray, List.set_cons_zero, List.set_cons_succ]
    refine anyT_ready (rs := [18]) (by kernel_rfl) (by simp) ?_
    refine AllT.cons rfl ?_ AllT.nil
    intro K hK
    simp only [List.getElem_toArray, List.getElem_cons_succ, List.getElem_cons_zero]
    go_simp
    refine hK.out _ _ (fun h => by cases h) ?_
    clear hK K
    try simp only [Act.put, List.getElem_toArray, List.getElem_cons_succ, List.getElem_cons_zero, List.setIfInBounds_toArray, List.set_cons_zero, List.set_cons_succ]
    refine anyT_free (i := 19) (v := ?_) rfl (by kernel_rfl) (by kernel_rfl) (by kernel_rfl) (by kernel_rfl) (fun _ _ _ h => h) (Or.inl ⟨by rfl, ?_⟩) (fun h => by cases h) ?_
    rotate_left
    · (intro W _; go_simp <;> with_reducible rfl)
    simp only [Act.put, List.getElem_toArray, List.getElem_cons_succ, List.getElem_cons_zero, List.setIfInBounds_toArray, List.set_cons_zero, List.set_cons_succ]
    refine anyT_free (i := 20) (v := ?_) rfl (by kernel_rfl) (by kernel_rfl) (by kernel_rfl) (by kernel_rfl) (fun _ _ _ h => h) (Or.inl ⟨by rfl, ?_⟩) (fun h => by cases h) ?_
    rotate_left
    · (intro W _; go_simp <;> with_reducible rfl)
    simp only [Act.put, List.getElem_toArray, List.getElem_cons_succ, List.getElem_cons_zero, List.setIfInBounds_toArray, List.set_cons_zero, List.set_cons_succ]
    refine anyT_ready (rs := [21]) (by kernel_rfl) (by simp) ?_
    refine AllT.cons rfl ?_ AllT.nil
    intro K hK
    simp only [List.getElem_toArray, List.getElem_cons_succ, List.getElem_cons_zero]
    go_simp
    refine hK.out _ _ (fun h => by cases h) ?_
    clear hK K
    try simp only [Act.put, List.getElem_toArray, List.getElem_cons_succ, List.getElem_cons_zero, List.setIfInBounds_toArray, List.set_cons_zero, List.set_cons_succ]
    refine anyT_done (by kernel_rfl) ?_ _
    refine NoPanic.normal ?_
    go_wp2
    go_ret
    exact ⟨rfl, FI.out.2⟩
  refine AllT.cons rfl ?_ AllT.nil
  intro K hK
  simp only [List.getElem_toArray, List.getElem_cons_succ, List.getElem_cons_zero]
  have hSb := (HM.out.alloc (.cells #[.bool e] 4)).s
  go_simp
  refine hK.out _ _ (fun _ => hSb) ?_
  clear hK K
  try simp only [Act.put, List.getElem_toArray, List.getElem_cons_succ, List.getElem_cons_zero, List.setIfInBounds_toArray, List.set_cons_zero, List.set_cons_succ]
  replace HM := Lib.hid (HM.out.alloc (.cells #[.bool e] 4))
  refine anyT_ready (rs := [7]) (by kernel_rfl) (by simp) ?_
  refine AllT.cons rfl ?_ AllT.nil
  intro K hK
  simp only [List.getElem_toArray, List.getElem_cons_succ, List.getElem_cons_zero]
  have hSa := (HM.out.alloc (.cells #[.int .i64 n.op, .int .i64 n.a, .int .i64 n.b, .int .i64 n.lo, .int .i64 n.hi, .int .i64 n.set] 35)).s
  go_simp
  refine hK.out _ _ (fun _ => hSa) ?_
  clear hK K
  try simp only [Act.put, List.getElem_toArray, List.getElem_cons_succ, List.getElem_cons_zero, List.setIfInBounds_toArray, List.set_cons_zero, List.set_cons_succ]
  replace HM := Lib.hid (HM.out.alloc (.cells #[.int .i64 n.op, .int .i64 n.a, .int .i64 n.b, .int .i64 n.lo, .int .i64 n.hi, .int .i64 n.set] 35))
  refine anyT_ready (rs := [8]) (by kernel_rfl) (by simp) ?_
  refine AllT.cons rfl ?_ AllT.nil
  intro K hK
  refine step_append_lies _ (by rfl) (.tmp 46) (.tmp 48) 22 (by rfl) w0.heap.size 35 i0 (.agg #[.int .i64 0, .int .i64 0, .int .i64 0, .int .i64 0, .int .i64 0, .int .i64 0]) 6 48 Tryz.underlying22 hi hz0 hz1 hz2 rfl (by decide) (.slice ao B.parts.length cap) B.parts.length (flatN B.parts) (by rfl) HM.out.parts ⟨W0.heap.size + 1, 0, none⟩ 1 1 [.int .i64 n.op, .int .i64 n.a, .int .i64 n.b, .int .i64 n.lo, .int .i64 n.hi, .int .i64 n.set] (by rfl) (by rfl) (World.news_of_block (by have := World.alloc_heap_new (W0.alloc (.cells #[.bool e] 4)) (.cells #[.int .i64 n.op, .int .i64 n.a, .int .i64 n.b, .int .i64 n.lo, .int .i64 n.hi, .int .i64 n.set] 35); simpa using this)) (by simp [Value.oneCell']) (by decide) (by unfold maxLen; omega) (by omega) HM.out.size0 _ rfl ?_
  intro g cap1 X2 hown hg hat _
  have HM2 := HM.out.appN hown hg hat
  have hS2 := HM2.s
  refine hK.out _ _ (fun _ => hS2) ?_
  clear hK K
  try simp only [Act.put, List.getElem_toArray, List.getElem_cons_succ, List.getElem_cons_zero, List.setIfInBounds_toArray, List.set_cons_zero, List.set_cons_succ]
  refine anyT_ready (rs := [15]) (by kernel_rfl) (by simp) ?_
  refine AllT.cons rfl ?_ AllT.nil
  intro K hK
  refine step_append_lies _ (by rfl) (.tmp 53) (.tmp 55) 40 (by rfl) w0.heap.size 4 j0 (.bool false) 1 1 Tryz.underlying40 hj hy0 hy1 hy2 rfl (by decide) bv B.bare.length (B.bare.map Value.bool) (by rfl) HM2.bare ⟨W0.heap.size, 0, none⟩ 1 1 [.bool e] (by rfl) (by rfl) (World.news_of_block (HM.out.news hg ((heap_alloc_old _ _ (by simp)).trans (World.alloc_heap_new W0 _)) (by omega))) (by simp [Value.oneCell']) (by decide) (by unfold maxLen; omega) (by omega) HM2.size0 _ rfl ?_
  intro g' cap2 X4 hown' hg' hat' _
  have HM4 := HM2.appB hown' hg' hat'
  have hS4 := HM4.s
  refine hK.out _ _ (fun _ => hS4) ?_
  clear hK K
  try simp only [Act.put, List.getElem_toArray, List.getElem_cons_succ, List.getElem_cons_zero, List.setIfInBounds_toArray, List.set_cons_zero, List.set_cons_succ]
  have FI := Lib.hid HM4.fin
  obtain ⟨f0, f1⟩ := HM4.box0
  obtain ⟨f2, f3⟩ := HM4.box2 (.slice (some ⟨g, 0, none⟩) (B.parts.length + 1) cap1)
  have hS := hS4
  clear hS2 hS4
  refine anyT_free (i := 16) (v := ?_) rfl (by kernel_rfl) (by kernel_rfl) (by kernel_rfl) (by kernel_rfl) (fun _ _ _ h => h) (Or.inl ⟨by rfl, ?_⟩) (fun _ => hS) ?_
  rotate_left
  · (intro W _; go_simp <;> with_reducible rfl)
  simp only [Act.put, List.getElem_toArray, List.getElem_cons_succ, List.getElem_cons_zero, List.setIfInBounds_toArray, List.set_cons_zero, List.set_cons_succ]
  refine anyT_free (i := 17) (v := ?_) rfl (by kernel_rfl) (by kernel_rfl) (by kernel_rfl) (by kernel_rfl) (fun _ _ _ h => h) (Or.inl ⟨by rfl, ?_⟩) (fun _ => hS) ?_
  rotate_left
  · (intro W _; go_simp <;> with_reducible rfl)
  simp only [Act.put, List.getElem_toArray, List.getElem_cons_succ, List.getElem_cons_zero, List.setIfInBounds_toArray, List.set_cons_zero, List.set_cons_succ]
  refine anyT_ready (rs := [18]) (by kernel_rfl) (by simp) ?_
  refine AllT.cons rfl ?_ AllT.nil
  intro K hK
  simp only [List.getElem_toArray, List.getElem_cons_succ, List.getElem_cons_zero]
  go_simp
  refine hK.out _ _ (fun h => by cases h) ?_
  clear hK K
  try simp only [Act.put, List.getElem_toArray, List.getElem_cons_succ, List.getElem_cons_zero, List.setIfInBounds_toArray, List.set_cons_zero, List.set_cons_succ]
  refine anyT_free (i := 19) (v := ?_) rfl (by kernel_rfl) (by kernel_rfl) (by kernel_rfl) (by kernel_rfl) (fun _ _ _ h => h) (Or.inl ⟨by rfl, ?_⟩) (fun h => by cases h) ?_
  rotate_left
  · (intro W _; go_simp <;> with_reducible rfl)
  simp only [Act.put, List.getElem_toArray, List.getElem_cons_succ, List.getElem_cons_zero, List.setIfInBounds_toArray, List.set_cons_zero, List.set_cons_succ]
  refine anyT_free (i := 20) (v := ?_) rfl (by kernel_rfl) (by kernel_rfl) (by kernel_rfl) (by kernel_rfl) (fun _ _ _ h => h) (Or.inl ⟨by rfl, ?_⟩) (fun h => by cases h) ?_
  rotate_left
  · (intro W _; go_simp <;> with_reducible rfl)
  simp only [Act.put, List.getElem_toArray, List.getElem_cons_succ, List.getElem_cons_zero, List.setIfInBounds_toArray, List.set_cons_zero, List.set_cons_succ]
  refine anyT_ready (rs := [21]) (by kernel_rfl) (by simp) ?_
  refine AllT.cons rfl ?_ AllT.nil
  intro K hK
  simp only [List.getElem_toArray, List.getElem_cons_succ, List.getElem_cons_zero]
  go_simp
  refine hK.out _ _ (fun h => by cases h) ?_
  clear hK K
  try simp only [Act.put, List.getElem_toArray, List.getElem_cons_succ, List.getElem_cons_zero, List.setIfInBounds_toArray, List.set_cons_zero, List.set_cons_succ]
  refine anyT_done (by kernel_rfl) ?_ _
  refine NoPanic.normal ?_
  go_wp2
  go_ret
  exact ⟨rfl, FI.out.2⟩

end Go.Proofs.YtbkafoaoddajoaaGreatDoor.Dv

namespace Go.Proofs.YtbkafoaoddajoaaGreatDoor.Dv
open Go Go.RowKit Go.Shelf Go.Maps
open Go.Proofs.YtbkafoaoddajoaaGreatDoor.Ar (Nd nd nodeB NRow cellsN aggN flatN Book WfN Wf)
open Go.Proofs.YtbkafoaoddajoaaGreatDoor.Rg (R RngsAt RowsAt nthL add_zero own_next)

theorem number_any {w0 w : World} {bb M : Nat} {B : Bk} (n : Nd) (e : Bool) (h : BookAt w0 bb M B w) (g : Good B) (hn : WfN n) :
    Calls Tryz.prog 46 #[.pointer (some ⟨bb, 0, none⟩), aggN n, .bool e] w (OpAt w0 bb M w (number B n e)) := by
  unfold number
  split
  · exact number_old n e h hn (by assumption)
  · split
    · exact number_full n e h hn (by assumption) (by assumption)
    · exact number_new n e h hn (by have := g.small; omega) g.len (by assumption)
theorem wf_i {x : Int} (h : -1000000 ≤ x ∧ x ≤ 1000000) : Wf x := WalkArith.wf_i64 (by omega)
theorem wfN_of {n : Nd} (h : ∀ x, x ∈ [n.op, n.a, n.b, n.lo, n.hi, n.set] → -1000000 ≤ x ∧ x ≤ 1000000) : WfN n :=
  ⟨wf_i (h _ (by simp)), wf_i (h _ (by simp)), wf_i (h _ (by simp)), wf_i (h _ (by simp)), wf_i (h _ (by simp)), wf_i (h _ (by simp))⟩

set_option maxHeartbeats 800000 in
theorem empty_any (bb : Nat) (w : World) : Calls Tryz.prog 122 #[.pointer (some ⟨bb, 0, none⟩)] w fun e w' => e = .returned (.int .i64 1) ∧ w' = w := by
  go_enter Tryz.func122, Tryz.ntmps122
  go_wp2
  go_ret
  exact ⟨rfl, rfl⟩

/-- a part's mark, in memory -/
theorem BkAt.bareAt {w0 w : World} {bb M : Nat} {B : Bk} {pv sv bv : Value} {xs : List Value} (h : BkAt w0 bb M B pv sv bv xs w) (g : Good B) {x : Nat} (hx : x < B.parts.length) :
    ∃ gb cap, bv = .slice (some ⟨gb, 0, none⟩) B.parts.length cap ∧ B.parts.length ≤ 9223372036854775807 ∧ w.cell? ⟨gb, x, none⟩ = some (.bool (bareAt B x)) := by
  have hl : x < B.bare.length := by rw [g.len]; exact hx
  obtain ⟨gb, cap, rfl, _, _⟩ := h.bare.form (by omega)
  refine ⟨gb, cap, by rw [g.len], by have := g.small; omega, ?_⟩
  rw [h.bare.cellAt x (by simpa using hl)]
  simp [Dv.bareAt, hl, List.getD]

theorem nz {x : Nat} (h : x ≠ 0) : ((x : Int) == 0) = false := by simp; omega
theorem n1 {x : Nat} (h : x ≠ 1) : ((x : Int) == 1) = false := by simp; omega
set_option maxRecDepth 100000 in
set_option maxHeartbeats 4000000 in
theorem cat_any {w0 w : World} {bb M : Nat} {B : Bk} (h : BookAt w0 bb M B w) (g : Good B) {x y : Nat} (hx : x < B.parts.length) (hy : y < B.parts.length) :
    Calls Tryz.prog 80 #[.pointer (some ⟨bb, 0, none⟩), .int .i64 (x : Nat), .int .i64 (y : Nat)] w (OpAt w0 bb M w (catF B x y)) := by
  have HB := Lib.hid h
  unfold catF
  by_cases x0 : x = 0
  · subst x0
    rw [if_pos (.inl rfl)]
    clear h g
    go_enter Tryz.func80, Tryz.ntmps80
    go_wp2
    go_ret
    exact .same HB.out (Below.refl _ _)
  · by_cases y0 : y = 0
    · subst y0
      rw [if_pos (.inr rfl)]
      have fx := nz x0
      clear h g
      go_enter Tryz.func80, Tryz.ntmps80
      go_wp2
      go_ret
      exact .same HB.out (Below.refl _ _)
    · rw [if_neg (by omega)]
      have fx := nz x0
      have fy := nz y0
      by_cases x1 : x = 1
      · subst x1
        rw [if_pos rfl]
        clear h g
        go_enter Tryz.func80, Tryz.ntmps80
        go_wp2
        go_ret
        exact .same HB.out (Below.refl _ _)
      · rw [if_neg x1]
        have fx1 := n1 x1
        by_cases y1 : y = 1
        · subst y1
          rw [if_pos rfl]
          clear h g
          go_enter Tryz.func80, Tryz.ntmps80
          go_wp2
          go_ret
          exact .same HB.out (Below.refl _ _)
        · rw [if_neg y1]
          have fy1 := n1 y1
          have hs := g.small
          have cn := fun e => number_any (nCat x y) e h g (wfN_of (by simp [nCat]; omega))
          obtain ⟨pv, sv, bv, xs, h⟩ := h
          have c2 := h.cell2
          obtain ⟨gb, cap, rfl, hl, hcx⟩ := h.bareAt g hx
          obtain ⟨gb', cap', he, _, hcy⟩ := h.bareAt g hy
          simp only [Value.slice.injEq, Option.some.injEq, Addr.mk.injEq] at he
          obtain ⟨⟨rfl, _⟩, _, rfl⟩ := he
          have hlt := h.lt
          have hn : nCat x y = ⟨3, x, y, 0, 0, 0⟩ := rfl
          generalize nCat x y = nn at *
          generalize hBx : bareAt B x = bx at *
          generalize hBy : bareAt B y = by' at *
          clear h g hBx hBy
          cases bx
          · have CN := Lib.hid (cn false)
            rw [hn] at CN
            unfold aggN at CN
            rw [Bool.false_and, hn]
            clear cn hn
            go_enter Tryz.func80, Tryz.ntmps80
            go_wp2_with (go_at_call 46; (with_reducible refine CN.out.mono ?_); rintro e w1 ⟨rfl, h1⟩; go_must (have H1 := Lib.hid h1; clear h1))
            go_ret
            exact ⟨rfl, H1.out⟩
          · have CN := Lib.hid (cn by')
            rw [hn] at CN
            unfold aggN at CN
            rw [Bool.true_and, hn]
            clear cn hn
            go_enter Tryz.func80, Tryz.ntmps80
            go_wp2_with (go_at_call 46; (with_reducible refine CN.out.mono ?_); rintro e w1 ⟨rfl, h1⟩; go_must (have H1 := Lib.hid h1; clear h1))
            go_ret
            exact ⟨rfl, H1.out⟩

theorem pne {x y : Nat} (h : x ≠ y) : ((x : Int) == (y : Int)) = false := by simp; omega
set_option maxRecDepth 100000 in
set_option maxHeartbeats 4000000 in
theorem alt_up {w0 w : World} {bb M : Nat} {B : Bk} (h : BookAt w0 bb M B w) (g : Good B) {p q : Nat} (hp : p < B.parts.length) (hlt0 : q < p) :
    Calls Tryz.prog 59 #[.pointer (some ⟨bb, 0, none⟩), .int .i64 (q : Nat), .int .i64 (p : Nat)] w (OpAt w0 bb M w (altG B p q)) := by
  have HB := Lib.hid h
  have hq : q < B.parts.length := by omega
  have hpq : p ≠ q := by omega
  have d1 : (q : Int) < p := by omega
  have d2 : ¬ (p : Int) < q := by omega
  have f1 := pne hpq
  unfold altG
  clear hlt0
  by_cases q0 : q = 0
  · subst q0
    rw [if_pos (.inr (.inl rfl))]
    have f0 := nz hpq
    clear h g hpq
    go_enter Tryz.func59, Tryz.ntmps59
    go_wp2
    go_ret
    exact .same HB.out (Below.refl _ _)
  · have f2 := nz q0
    have hs := g.small
    have cn := fun e => number_any (nAlt p q) e h g (wfN_of (by simp [nAlt]; omega))
    obtain ⟨pv, sv, bv, xs, h⟩ := h
    have c2 := h.cell2
    obtain ⟨gb, cap, rfl, hl, hcx⟩ := h.bareAt g hp
    obtain ⟨gb', cap', he, _, hcy⟩ := h.bareAt g hq
    simp only [Value.slice.injEq, Option.some.injEq, Addr.mk.injEq] at he
    obtain ⟨⟨rfl, _⟩, _, rfl⟩ := he
    have hlt := h.lt
    have hn : nAlt p q = ⟨4, p, q, 0, 0, 0⟩ := rfl
    generalize nAlt p q = nn at *
    generalize hBx : bareAt B p = bx at *
    generalize hBy : bareAt B q = by' at *
    by_cases q1 : q = 1
    · subst q1
      cases bx
      · rw [if_neg (by simp [hpq, q0])]
        have CN := Lib.hid (cn by')
        have f3 := n1 hpq
        rw [show (((1 : Nat)) : Int) = 1 from rfl] at hn
        rw [hn] at CN
        unfold aggN at CN
        rw [Bool.false_or, hn]
        clear cn hn h g hBx hBy hpq
        go_enter Tryz.func59, Tryz.ntmps59
        go_wp2_with (go_at_call 46; (with_reducible refine CN.out.mono ?_); rintro e w1 ⟨rfl, h1⟩; go_must (have H1 := Lib.hid h1; clear h1))
        go_ret
        exact ⟨rfl, H1.out⟩
      · rw [if_pos (.inr (.inr ⟨rfl, rfl⟩))]
        have f3 := n1 hpq
        clear cn hn h g hBx hBy hpq
        go_enter Tryz.func59, Tryz.ntmps59
        go_wp2
        go_ret
        exact .same HB.out (Below.refl _ _)
    · rw [if_neg (by omega)]
      have f3 := n1 q1
      cases bx
      · have CN := Lib.hid (cn by')
        rw [hn] at CN
        unfold aggN at CN
        rw [Bool.false_or, hn]
        clear cn hn h g hBx hBy hpq
        go_enter Tryz.func59, Tryz.ntmps59
        go_wp2_with (go_at_call 46; (with_reducible refine CN.out.mono ?_); rintro e w1 ⟨rfl, h1⟩; go_must (have H1 := Lib.hid h1; clear h1))
        go_ret
        exact ⟨rfl, H1.out⟩
      · have CN := Lib.hid (cn true)
        rw [hn] at CN
        unfold aggN at CN
        rw [Bool.true_or, hn]
        clear cn hn h g hBx hBy hpq
        go_enter Tryz.func59, Tryz.ntmps59
        go_wp2_with (go_at_call 46; (with_reducible refine CN.out.mono ?_); rintro e w1 ⟨rfl, h1⟩; go_must (have H1 := Lib.hid h1; clear h1))
        go_ret
        exact ⟨rfl, H1.out⟩
set_option maxRecDepth 100000 in
set_option maxHeartbeats 4000000 in
theorem alt_dn {w0 w : World} {bb M : Nat} {B : Bk} (h : BookAt w0 bb M B w) (g : Good B) {p q : Nat} (hp : p < B.parts.length) (hlt0 : q < p) :
    Calls Tryz.prog 59 #[.pointer (some ⟨bb, 0, none⟩), .int .i64 (p : Nat), .int .i64 (q : Nat)] w (OpAt w0 bb M w (altG B p q)) := by
  have HB := Lib.hid h
  have hq : q < B.parts.length := by omega
  have hpq : p ≠ q := by omega
  have d1 : (q : Int) < p := by omega
  have d2 : ¬ (p : Int) < q := by omega
  have f1 := pne hpq
  unfold altG
  clear hlt0
  by_cases q0 : q = 0
  · subst q0
    rw [if_pos (.inr (.inl rfl))]
    have f0 := nz hpq
    clear h g hpq
    go_enter Tryz.func59, Tryz.ntmps59
    go_wp2
    go_ret
    exact .same HB.out (Below.refl _ _)
  · have f2 := nz q0
    have hs := g.small
    have cn := fun e => number_any (nAlt p q) e h g (wfN_of (by simp [nAlt]; omega))
    obtain ⟨pv, sv, bv, xs, h⟩ := h
    have c2 := h.cell2
    obtain ⟨gb, cap, rfl, hl, hcx⟩ := h.bareAt g hp
    obtain ⟨gb', cap', he, _, hcy⟩ := h.bareAt g hq
    simp only [Value.slice.injEq, Option.some.injEq, Addr.mk.injEq] at he
    obtain ⟨⟨rfl, _⟩, _, rfl⟩ := he
    have hlt := h.lt
    have hn : nAlt p q = ⟨4, p, q, 0, 0, 0⟩ := rfl
    generalize nAlt p q = nn at *
    generalize hBx : bareAt B p = bx at *
    generalize hBy : bareAt B q = by' at *
    by_cases q1 : q = 1
    · subst q1
      cases bx
      · rw [if_neg (by simp [hpq, q0])]
        have CN := Lib.hid (cn by')
        have f3 := n1 hpq
        rw [show (((1 : Nat)) : Int) = 1 from rfl] at hn
        rw [hn] at CN
        unfold aggN at CN
        rw [Bool.false_or, hn]
        clear cn hn h g hBx hBy hpq
        go_enter Tryz.func59, Tryz.ntmps59
        go_wp2_with (go_at_call 46; (with_reducible refine CN.out.mono ?_); rintro e w1 ⟨rfl, h1⟩; go_must (have H1 := Lib.hid h1; clear h1))
        go_ret
        exact ⟨rfl, H1.out⟩
      · rw [if_pos (.inr (.inr ⟨rfl, rfl⟩))]
        have f3 := n1 hpq
        clear cn hn h g hBx hBy hpq
        go_enter Tryz.func59, Tryz.ntmps59
        go_wp2
        go_ret
        exact .same HB.out (Below.refl _ _)
    · rw [if_neg (by omega)]
      have f3 := n1 q1
      cases bx
      · have CN := Lib.hid (cn by')
        rw [hn] at CN
        unfold aggN at CN
        rw [Bool.false_or, hn]
        clear cn hn h g hBx hBy hpq
        go_enter Tryz.func59, Tryz.ntmps59
        go_wp2_with (go_at_call 46; (with_reducible refine CN.out.mono ?_); rintro e w1 ⟨rfl, h1⟩; go_must (have H1 := Lib.hid h1; clear h1))
        go_ret
        exact ⟨rfl, H1.out⟩
      · have CN := Lib.hid (cn true)
        rw [hn] at CN
        unfold aggN at CN
        rw [Bool.true_or, hn]
        clear cn hn h g hBx hBy hpq
        go_enter Tryz.func59, Tryz.ntmps59
        go_wp2_with (go_at_call 46; (with_reducible refine CN.out.mono ?_); rintro e w1 ⟨rfl, h1⟩; go_must (have H1 := Lib.hid h1; clear h1))
        go_ret
        exact ⟨rfl, H1.out⟩

set_option maxRecDepth 100000 in
set_option maxHeartbeats 4000000 in
theorem alt_any {w0 w : World} {bb M : Nat} {B : Bk} (h : BookAt w0 bb M B w) (g : Good B) {x y : Nat} (hx : x < B.parts.length) (hy : y < B.parts.length) :
    Calls Tryz.prog 59 #[.pointer (some ⟨bb, 0, none⟩), .int .i64 (x : Nat), .int .i64 (y : Nat)] w (OpAt w0 bb M w (altF B x y)) := by
  unfold altF
  rcases Nat.lt_trichotomy x y with hl | rfl | hl
  · rw [Nat.max_eq_right (Nat.le_of_lt hl), Nat.min_eq_left (Nat.le_of_lt hl)]
    exact alt_up h g hy hl
  · rw [Nat.max_self, Nat.min_self]
    unfold altG
    rw [if_pos (.inl rfl)]
    have HB := Lib.hid h
    have d2 : ¬ (x : Int) < x := by omega
    clear h g hx hy
    go_enter Tryz.func59, Tryz.ntmps59
    go_wp2
    go_ret
    exact .same HB.out (Below.refl _ _)
  · rw [Nat.max_eq_left (Nat.le_of_lt hl), Nat.min_eq_right (Nat.le_of_lt hl)]
    exact alt_dn h g hx hl

end Go.Proofs.YtbkafoaoddajoaaGreatDoor.Dv

/- A book in memory; what a call may turn, told by blocks and by their types. A part's number. A region in whatever order, whose loads read cells that its last operations turn: a condition that holds until the first of these comes up. -/
import Derived.Test.YtbkafoaoddajoaaGreatDoorPk03
import Derived.Test.YtbkafoaoddajoaaGreatDoorPk04
import Derived.Deep.RegionLaw
import Derived.Deep.RegionHeld3
import Derived.Deep.AppendLies
import Derived.Deep.QuietTactic
import Derived.BigQuiet
import Derived.Deep.DeepMust
import Derived.Shelf.RegionOpen
import Derived.StillTailTactics
import Derived.OrdersHeld

namespace Go.Proofs.YtbkafoaoddajoaaGreatDoor.Dv
open Go Go.RowKit Go.Shelf Go.Maps
open Go.Proofs.YtbkafoaoddajoaaGreatDoor.Ar (Nd nd nodeB NRow cellsN aggN flatN Book WfN)
open Go.Proofs.YtbkafoaoddajoaaGreatDoor.Rg (R RngsAt RowsAt nthL add_zero own_next)

/-- nothing that stood has changed but, from block N0 on, blocks of which U speaks, and cells of types of which T speaks -/
structure Kg (N0 : Nat) (U : Nat → Prop) (T : TypeId → Prop) (w w' : World) : Prop where
  os : w'.os = w.os
  tape : w'.tape = w.tape
  output : w'.output = w.output
  size : w.heap.size ≤ w'.heap.size
  block : ∀ k, k < w.heap.size → (k < N0 ∨ (¬ U k ∧ ∀ cs t fz, w.heap[k]? = some (.cells cs t fz) → ¬ T t)) → w'.heap[k]? = w.heap[k]?
section
variable {N0 : Nat} {U V : Nat → Prop} {T S : TypeId → Prop} {w w' w1 w2 : World}
theorem Kg.refl : Kg N0 U T w w := ⟨rfl, rfl, rfl, Nat.le_refl _, fun _ _ _ => rfl⟩
theorem Kg.trans (h : Kg N0 U T w w1) (k : Kg N0 U T w1 w2) : Kg N0 U T w w2 :=
  ⟨k.os.trans h.os, k.tape.trans h.tape, k.output.trans h.output, Nat.le_trans h.size k.size, fun i hi hc => by
    have e := h.block i hi hc
    rw [← e]
    exact k.block i (Nat.lt_of_lt_of_le hi h.size) (hc.imp id fun c => ⟨c.1, fun cs t fz hh => c.2 cs t fz (e ▸ hh)⟩)⟩
theorem Kg.mono (h : Kg N0 U T w w') (hU : ∀ k, k < w.heap.size → U k → V k) (hT : ∀ t, T t → S t) : Kg N0 V S w w' :=
  ⟨h.os, h.tape, h.output, h.size, fun k hk hc => h.block k hk (hc.imp id fun c => ⟨fun hu => c.1 (hU k hk hu), fun cs t fz hh ht => c.2 cs t fz hh (hT t ht)⟩)⟩
theorem Kg.of_below (h : Below w.heap.size w w') : Kg N0 U T w w' := ⟨h.os, h.tape, h.output, h.size, fun k hk _ => h.block k hk⟩
theorem Kg.below (h : Kg N0 U T w w') (hN : N0 ≤ w.heap.size) : Below N0 w w' := ⟨h.os, h.tape, h.output, h.size, fun k hk => h.block k (by omega) (.inl hk)⟩
theorem Kg.since (h : Kg N0 U T w w') {w0 : World} (h0 : Below w0.heap.size w0 w) (hN : N0 = w0.heap.size) : Below w0.heap.size w0 w' := h0.trans (hN ▸ h.below (hN ▸ h0.size))
theorem Kg.of_grown {o : Option Nat} (h : w.grownBy w' o) (hU : ∀ g, o = some g → N0 ≤ g ∧ (U g ∨ ∃ cs t fz, w.heap[g]? = some (.cells cs t fz) ∧ T t)) : Kg N0 U T w w' :=
  ⟨h.os, h.tape, h.output, h.size, fun k hk hc => h.block k hk fun e => by
    obtain ⟨h1, h2⟩ := hU k e.symm
    rcases hc with hc | hc
    · omega
    · rcases h2 with h2 | ⟨cs, t, fz, h3, h4⟩
      · exact hc.1 h2
      · exact hc.2 cs t fz h3 h4⟩
theorem Kg.of_set {b o : Nat} {u : Value} (hN : N0 ≤ b) (hU : U b) : Kg N0 U T w (w.setCell ⟨b, o, none⟩ u) :=
  ⟨rfl, rfl, rfl, by simp [World.setCell], fun k _ hc => Below.heap_setCell _ _ _ _ (by rintro rfl; exact hc.elim (fun h => Nat.not_lt.2 hN h) (fun h => h.1 hU))⟩
theorem Kg.of_turned {M : Nat} (h : w.mapTurned w' M) (hN : N0 ≤ M) (hU : U M) : Kg N0 U T w w' := by
  obtain ⟨es, clock, es', clock', hb, rfl⟩ := h
  exact ⟨rfl, rfl, rfl, by simp [ChangeMaps.setBlock], fun k _ hc => ChangeMaps.heap_setBlock_other hb _ (by rintro rfl; exact hc.elim (fun h => Nat.not_lt.2 hN h) (fun h => h.1 hU))⟩
theorem Kg.cell (h : Kg N0 U T w w') {a : Addr} {v : Value} (hc : w.cell? a = some v) (hU : ¬ U a.block) (hT : ∀ cs t fz, w.heap[a.block]? = some (.cells cs t fz) → ¬ T t) : w'.cell? a = some v :=
  (World.cell?_of_block (h.block _ (cell_lt hc) (.inr ⟨hU, hT⟩))).trans hc
theorem Kg.own {B : Nat} {e : TypeId} {s n : Nat} {v : Value} {xs : List Value} (h : Kg N0 U T w w') (ho : w.ownsRow B e s v n xs) (hT : ¬ T e) (hU : ∀ k, v.ownBlock = some k → ¬ U k) : w'.ownsRow B e s v n xs := by
  refine ⟨ho.1, ?_⟩
  rcases ho.2 with hn | ⟨g, cap, cur, rfl, hb, hg, rest⟩
  · exact .inl hn
  · refine .inr ⟨g, cap, cur, rfl, hb, ?_, rest⟩
    rw [h.block g (Array.getElem?_eq_some_iff.1 hg).1 (.inr ⟨hU g rfl, fun cs t fz hh => by rw [hg] at hh; simp only [Option.some.injEq, Obj.cells.injEq] at hh; exact hh.2.1 ▸ hT⟩)]
    exact hg
theorem Kg.heap (h : Kg N0 U T w w') {k : Nat} {o : Obj} (hk : w.heap[k]? = some o) (hU : ¬ U k) (hT : ∀ cs t fz, o = .cells cs t fz → ¬ T t) : w'.heap[k]? = some o :=
  (h.block k (Array.getElem?_eq_some_iff.1 hk).1 (.inr ⟨hU, fun cs t fz hh => hT cs t fz (by rw [hk] at hh; simpa using hh)⟩)).trans hk
theorem Kg.old (h : Kg N0 U T w w') {k : Nat} {o : Obj} (hk : w.heap[k]? = some o) (hN : k < N0) : w'.heap[k]? = some o := (h.block k (Array.getElem?_eq_some_iff.1 hk).1 (.inl hN)).trans hk
theorem Kg.map {H : Type} {M : Nat} {kt : TypeId} {Rd : Value → Option (DataW H × List MemPlace)} {n : Nat} {D : DataW H} {P : Program} (h : Kg N0 U T w w') (hm : w.ownsMap P kt Rd M n D) (hU : ¬ U M) : w'.ownsMap P kt Rd M n D := by
  obtain ⟨es, clock, hb, r⟩ := hm
  exact ⟨es, clock, h.heap hb hU (fun _ _ _ e => by cases e), r⟩
end

/-- the types of a book's rows -/
def Tb (t : TypeId) : Prop := t = 35 ∨ t = 51 ∨ t = 4
def Ub (bb M : Nat) : Nat → Prop := fun k => k = bb ∨ k = M
abbrev Kb (w0 : World) (bb M : Nat) (w w' : World) : Prop := Kg w0.heap.size (Ub bb M) Tb w w'

/-- a book's box, its rows, and its map -/
structure BkAt (w0 : World) (bb M : Nat) (B : Bk) (pv sv bv : Value) (xs : List Value) (w : World) : Prop where
  below : Below w0.heap.size w0 w
  base : w0.heap.size ≤ bb
  baseM : w0.heap.size ≤ M
  box : w.heap[bb]? = some (.cells #[pv, sv, bv, .map (some M), .bool B.full] 58 (0, 0))
  parts : w.ownsRow w0.heap.size 35 6 pv B.parts.length (flatN B.parts)
  sets : w.ownsRow w0.heap.size 51 1 sv B.sets.length xs
  row : ∀ i, i < B.sets.length → ∃ x, xs[i]? = some x ∧ RngsAt w0 x (nthL B.sets i)
  bare : w.ownsRow w0.heap.size 4 1 bv B.bare.length (B.bare.map Value.bool)
  map : Book M B.parts w
def BookAt (w0 : World) (bb M : Nat) (B : Bk) (w : World) : Prop := ∃ pv sv bv xs, BkAt w0 bb M B pv sv bv xs w
section
variable {w0 w w' : World} {bb M : Nat} {B : Bk} {pv sv bv : Value} {xs : List Value}
theorem BkAt.lt (h : BkAt w0 bb M B pv sv bv xs w) : bb < w.heap.size := (Array.getElem?_eq_some_iff.1 h.box).1
theorem BkAt.ltM (h : BkAt w0 bb M B pv sv bv xs w) : M < w.heap.size := by
  obtain ⟨D, h1, _⟩ := h.map.map
  exact h1.lt
theorem BkAt.ne (h : BkAt w0 bb M B pv sv bv xs w) : bb ≠ M := by
  obtain ⟨D, h1, _⟩ := h.map.map
  obtain ⟨es, clock, hb, _⟩ := h1
  rintro rfl
  rw [h.box] at hb; cases hb
theorem BkAt.cell0 (h : BkAt w0 bb M B pv sv bv xs w) : w.cell? ⟨bb, 0, none⟩ = some pv := by simp [World.cell?, h.box]
theorem BkAt.cell1 (h : BkAt w0 bb M B pv sv bv xs w) : w.cell? ⟨bb, 1, none⟩ = some sv := by simp [World.cell?, h.box]
theorem BkAt.cell2 (h : BkAt w0 bb M B pv sv bv xs w) : w.cell? ⟨bb, 2, none⟩ = some bv := by simp [World.cell?, h.box]
theorem BkAt.cell3 (h : BkAt w0 bb M B pv sv bv xs w) : w.cell? ⟨bb, 3, none⟩ = some (.map (some M)) := by simp [World.cell?, h.box]
theorem BkAt.cell4 (h : BkAt w0 bb M B pv sv bv xs w) : w.cell? ⟨bb, 4, none⟩ = some (.bool B.full) := by simp [World.cell?, h.box]
/-- memory that has but grown keeps a book -/
theorem BkAt.next (h : BkAt w0 bb M B pv sv bv xs w) (hb : Below w.heap.size w w') : BkAt w0 bb M B pv sv bv xs w' :=
  ⟨h.below.trans (hb.mono h.below.size), h.base, h.baseM, (hb.block _ h.lt).trans h.box, own_next h.parts hb, own_next h.sets hb, h.row, own_next h.bare hb, ⟨h.map.nodup, h.map.wf, by
    obtain ⟨D, h1, h2⟩ := h.map.map
    exact ⟨D, (Kg.of_below hb : Kg 0 (fun _ => False) (fun _ => False) w w').map h1 id, h2⟩⟩⟩
/-- what turns blocks of other types alone keeps a book -/
theorem BkAt.keep {N0 : Nat} {U : Nat → Prop} {T : TypeId → Prop} (h : BkAt w0 bb M B pv sv bv xs w) (k : Kg N0 U T w w') (hN : N0 = w0.heap.size) (hb : ¬ U bb) (hM : ¬ U M) (hT : ∀ t, Tb t ∨ t = 58 → ¬ T t)
    (hr : ∀ g, pv.ownBlock = some g ∨ sv.ownBlock = some g ∨ bv.ownBlock = some g → ¬ U g) : BkAt w0 bb M B pv sv bv xs w' :=
  ⟨k.since h.below hN, h.base, h.baseM, k.heap h.box hb (fun _ _ _ e => by cases e; exact hT _ (.inr rfl)), k.own h.parts (hT _ (.inl (.inl rfl))) (fun g hg => hr g (.inl hg)), k.own h.sets (hT _ (.inl (.inr (.inl rfl)))) (fun g hg => hr g (.inr (.inl hg))), h.row,
    k.own h.bare (hT _ (.inl (.inr (.inr rfl)))) (fun g hg => hr g (.inr (.inr hg))), ⟨h.map.nodup, h.map.wf, by
    obtain ⟨D, h1, h2⟩ := h.map.map
    exact ⟨D, k.map h1 hM, h2⟩⟩⟩
theorem row_block {e : TypeId} {s n N : Nat} {v : Value} {ys : List Value} (h : w.ownsRow N e s v n ys) {g : Nat} (hg : v.ownBlock = some g) : N ≤ g ∧ ∃ cs, w.heap[g]? = some (.cells cs e (0, 0)) := by
  rcases h.2 with ⟨rfl, _⟩ | ⟨g', cap, cur, rfl, hb, hh, _⟩
  · cases hg
  · simp only [Value.ownBlock, Option.some.injEq] at hg
    subst hg
    exact ⟨hb, _, hh⟩
theorem BkAt.ne_row (h : BkAt w0 bb M B pv sv bv xs w) {e : TypeId} {s n N : Nat} {v : Value} {ys : List Value} (hr : w.ownsRow N e s v n ys) (he : e ≠ 58) : v.ownBlock ≠ some bb := fun hg => by
  obtain ⟨_, cs, hh⟩ := row_block hr hg
  rw [h.box] at hh
  simp only [Option.some.injEq, Obj.cells.injEq] at hh
  exact he hh.2.1.symm
theorem map_ne_row {H : Type} {M : Nat} {kt : TypeId} {Rd : Value → Option (DataW H × List MemPlace)} {m : Nat} {D : DataW H} {P : Program} (hm : w.ownsMap P kt Rd M m D) {e : TypeId} {s n N : Nat} {v : Value} {ys : List Value} (hr : w.ownsRow N e s v n ys) : v.ownBlock ≠ some M := fun hg => by
  obtain ⟨_, cs, hh⟩ := row_block hr hg
  obtain ⟨es, clock, hb, _⟩ := hm
  rw [hb] at hh; cases hh
end

/-- the blocks of a book's rows -/
def rowsOf (w : World) (bb k : Nat) : Prop := ∃ p s b m f t z, w.heap[bb]? = some (.cells #[p, s, b, m, f] t z) ∧ (p.ownBlock = some k ∨ s.ownBlock = some k ∨ b.ownBlock = some k)
/-- nothing that stood has changed but a book's own blocks; its rows lie where they lay, or in new blocks -/
structure Fz (bb M : Nat) (w w' : World) : Prop where
  os : w'.os = w.os
  tape : w'.tape = w.tape
  output : w'.output = w.output
  size : w.heap.size ≤ w'.heap.size
  block : ∀ k, k < w.heap.size → k ≠ bb → k ≠ M → ¬ rowsOf w bb k → w'.heap[k]? = w.heap[k]?
  rows : ∀ k, rowsOf w' bb k → rowsOf w bb k ∨ w.heap.size ≤ k
section
variable {w0 w w' w1 w2 : World} {bb M : Nat} {B : Bk} {pv sv bv : Value} {xs : List Value}
theorem Fz.trans (h : Fz bb M w w1) (k : Fz bb M w1 w2) : Fz bb M w w2 :=
  ⟨k.os.trans h.os, k.tape.trans h.tape, k.output.trans h.output, Nat.le_trans h.size k.size, fun i hi h1 h2 h3 => (k.block i (Nat.lt_of_lt_of_le hi h.size) h1 h2 (fun hr => (h.rows i hr).elim h3 (fun hge => by omega))).trans (h.block i hi h1 h2 h3),
    fun i hi => (k.rows i hi).elim (fun h' => h.rows i h') (fun h' => .inr (Nat.le_trans h.size h'))⟩
theorem rowsOf_same (h : w'.heap[bb]? = w.heap[bb]?) (k : Nat) : rowsOf w' bb k ↔ rowsOf w bb k := by unfold rowsOf; rw [h]
theorem Fz.of_below (h : Below w.heap.size w w') (hb : bb < w.heap.size) : Fz bb M w w' :=
  ⟨h.os, h.tape, h.output, h.size, fun k hk _ _ _ => h.block k hk, fun k hk => .inl ((rowsOf_same (h.block bb hb) k).1 hk)⟩
theorem BkAt.rows (h : BkAt w0 bb M B pv sv bv xs w) (k : Nat) : rowsOf w bb k ↔ pv.ownBlock = some k ∨ sv.ownBlock = some k ∨ bv.ownBlock = some k := by
  constructor
  · rintro ⟨p, s, b, m, f, t, z, e, hr⟩
    rw [h.box] at e
    simp only [Option.some.injEq, Obj.cells.injEq, Array.mk.injEq, List.cons.injEq] at e
    obtain ⟨⟨rfl, rfl, rfl, _⟩, _⟩ := e
    exact hr
  · intro hr
    exact ⟨_, _, _, _, _, _, _, h.box, hr⟩
theorem BkAt.rowTb (h : BkAt w0 bb M B pv sv bv xs w) {k : Nat} (hk : rowsOf w bb k) : w0.heap.size ≤ k ∧ ∃ cs t fz, w.heap[k]? = some (.cells cs t fz) ∧ Tb t := by
  rcases (h.rows k).1 hk with hk | hk | hk
  · obtain ⟨h1, cs, h2⟩ := row_block h.parts hk; exact ⟨h1, cs, _, _, h2, .inl rfl⟩
  · obtain ⟨h1, cs, h2⟩ := row_block h.sets hk; exact ⟨h1, cs, _, _, h2, .inr (.inl rfl)⟩
  · obtain ⟨h1, cs, h2⟩ := row_block h.bare hk; exact ⟨h1, cs, _, _, h2, .inr (.inr rfl)⟩
theorem Fz.kb (k : Fz bb M w w') (h : BookAt w0 bb M B w) : Kb w0 bb M w w' := by
  obtain ⟨pv, sv, bv, xs, h⟩ := h
  refine ⟨k.os, k.tape, k.output, k.size, fun i hi hc => k.block i hi ?_ ?_ ?_⟩
  · rintro rfl
    have := h.base
    rcases hc with hc | hc
    · omega
    · exact hc.1 (.inl rfl)
  · rintro rfl
    have := h.baseM
    rcases hc with hc | hc
    · omega
    · exact hc.1 (.inr rfl)
  · intro hr
    obtain ⟨h1, cs, t, fz, h2, h3⟩ := h.rowTb hr
    rcases hc with hc | hc
    · omega
    · exact hc.2 cs t fz h2 h3
theorem BookAt.lt (h : BookAt w0 bb M B w) : bb < w.heap.size := by
  obtain ⟨pv, sv, bv, xs, h⟩ := h
  exact h.lt
end
/-- what a call on a book tells -/
def OpAt (w0 : World) (bb M : Nat) (w : World) (p : Bk × Nat) (e : Ending) (w' : World) : Prop := e = .returned (.int .i64 (p.2 : Nat)) ∧ BookAt w0 bb M p.1 w' ∧ Fz bb M w w'
theorem OpAt.same {w0 w w' : World} {bb M : Nat} {B : Bk} {x : Nat} (h : BookAt w0 bb M B w) (hb : Below w.heap.size w w') : OpAt w0 bb M w (B, x) (.returned (.int .i64 (x : Nat))) w' := by
  obtain ⟨pv, sv, bv, xs, h⟩ := h
  exact ⟨rfl, ⟨pv, sv, bv, xs, h.next hb⟩, Fz.of_below hb h.lt⟩

end Go.Proofs.YtbkafoaoddajoaaGreatDoor.Dv

namespace Go.Proofs.YtbkafoaoddajoaaGreatDoor.Dv
open Go Go.RowKit Go.Shelf Go.Maps
open Go.Proofs.YtbkafoaoddajoaaGreatDoor.Ar (Nd nd nodeB NRow cellsN aggN flatN flatN_snoc Book WfN Wf kl key_mk lawN zeroInt kl_inj book_put wf_nat lit_inj infoN)
open Go.Proofs.YtbkafoaoddajoaaGreatDoor.Rg (R RngsAt RowsAt nthL add_zero own_next)

theorem infoB : (Tryz.prog.info? 4).map (fun i => (i.zero, i.size, i.bytes)) = some (some (.bool false), 1, 1) := by kernel_rfl

set_option maxRecDepth 100000 in
set_option maxHeartbeats 4000000 in
/-- a part that is there -/
theorem number_old {w0 w : World} {bb M : Nat} {B : Bk} (n : Nd) (e : Bool) (h : BookAt w0 bb M B w) (hn : WfN n) (hm : n ∈ B.parts) :
    Calls Tryz.prog 46 #[.pointer (some ⟨bb, 0, none⟩), aggN n, .bool e] w (OpAt w0 bb M w (B, B.parts.idxOf n)) := by
  obtain ⟨pv, sv, bv, xs, h⟩ := h
  have HB := Lib.hid h
  have c3 := h.cell3
  have hlt := h.lt
  obtain ⟨D, hown, hhas, hat, hsize⟩ := h.map.map
  have hkey := key_mk hn
  have hh : Maps.has D (kl n) = true := (hhas n hn).2 hm
  have hx := List.idxOf_lt_length_of_mem hm
  have hi : B.parts[B.parts.idxOf n]? = some n := by rw [List.getElem?_eq_getElem hx, List.getElem_idxOf hx]
  have hlk := hat _ n hi
  generalize B.parts.idxOf n = i at *
  have hw : ∀ W, Below w.heap.size w W → (Instr.lookup 56 (.map (some M)) (aggN n) true).run Tryz.prog W = .ok (.tuple #[.int .i64 (i : Int), .bool true]) W := fun W hb => by
    have hown' := ((Kg.of_below hb : Kg 0 (fun _ => False) (fun _ => False) w W)).map hown id
    obtain ⟨v, ps, h1, h2⟩ := hown'.look_ok lawN Tryz.underlying56 (zeroInt W) (zd := .lit (.int .i64 0)) (zp := []) (plainElem_int Tryz.underlying3 (by decide)) hkey
    obtain ⟨c, rfl, hc, _⟩ := plainElem_int_inv Tryz.underlying3 h2
    rw [hlk] at hc
    have hc' : (i : Int) = c := by have := (Prod.mk.inj hc).1; simpa using this
    rw [h1, hh, hc']
  have BW := Lib.hid (fun o => (Below.refl w.heap.size w).alloc (Nat.le_refl _) o)
  have hL := fun k => hw ((w.alloc (.cells #[.int .i64 n.op, .int .i64 n.a, .int .i64 n.b, .int .i64 n.lo, .int .i64 n.hi, .int .i64 n.set] 35)).drewN k) ((BW.out _).trans ((Rg.below_drewN _ k).mono (by simp)))
  unfold aggN at *
  clear h hown hhas hat hsize hh hi hlk hkey hw hx hm
  go_enter Tryz.func46, Tryz.ntmps46
  go_wp2
  go_quiet (fail)
  go_wp2
  go_ret
  exact .same ⟨pv, sv, bv, xs, HB.out⟩ ((BW.out _).trans ((Rg.below_drewN _ _).mono (by simp)))

/-- the look-up of a part that is not there -/
theorem look_no {w : World} {M : Nat} {H : List Nd} {n : Nd} {D : DataW Unit} (hown : w.ownsMap Tryz.prog 35 (plainElem Tryz.prog 3) M H.length D) (hhas : ∀ n, WfN n → (Maps.has D (kl n) = true ↔ n ∈ H)) (hn : WfN n) (hm : n ∉ H) :
    ∃ c, ∀ W, Below w.heap.size w W → (Instr.lookup 56 (.map (some M)) (aggN n) true).run Tryz.prog W = .ok (.tuple #[.int .i64 c, .bool false]) W := by
  have hkey := key_mk hn
  have hh : Maps.has D (kl n) = false := by rw [← Bool.not_eq_true, hhas n hn]; exact hm
  have key : ∀ W, Below w.heap.size w W → ∃ c ps, (Instr.lookup 56 (.map (some M)) (aggN n) true).run Tryz.prog W = .ok (.tuple #[.int .i64 c, .bool false]) W ∧ (D.atKey (kl n) (.lit (.int .i64 0)), ps) = ((DataW.lit (.int .i64 c) : DataW Unit), ([] : List MemPlace)) := fun W hb => by
    have hown' := ((Kg.of_below hb : Kg 0 (fun _ => False) (fun _ => False) w W)).map hown id
    obtain ⟨v, ps, h1, h2⟩ := hown'.look_ok lawN Tryz.underlying56 (zeroInt W) (zd := .lit (.int .i64 0)) (zp := []) (plainElem_int Tryz.underlying3 (by decide)) hkey
    obtain ⟨c, rfl, hc, _⟩ := plainElem_int_inv Tryz.underlying3 h2
    exact ⟨c, ps, by rw [h1, hh], hc⟩
  obtain ⟨c, ps, _, hc⟩ := key w (Below.refl _ _)
  refine ⟨c, fun W hb => ?_⟩
  obtain ⟨d, ps', h1, hd⟩ := key W hb
  have e1 := (Prod.mk.inj hc).1
  rw [(Prod.mk.inj hd).1] at e1
  have e2 : d = c := by simpa using e1
  rw [h1, e2]

theorem fz_full {w0 w : World} {bb M : Nat} {B : Bk} {pv sv bv : Value} {xs : List Value} (h : BkAt w0 bb M B pv sv bv xs w) : Fz bb M w (w.setCell ⟨bb, 4, none⟩ (.bool true)) := by
  have hbox := heap_setCell_same w bb 4 _ 58 (.bool true) h.box
  refine ⟨rfl, rfl, rfl, by simp [World.setCell], fun k _ hk _ _ => Below.heap_setCell _ _ _ _ hk, fun k hk => .inl ((h.rows k).2 ?_)⟩
  obtain ⟨p, s, b, m, f, t, z, e, hr⟩ := hk
  rw [hbox] at e
  simp at e
  obtain ⟨⟨rfl, rfl, rfl, _⟩, _⟩ := e
  exact hr
set_option maxRecDepth 100000 in
set_option maxHeartbeats 4000000 in
/-- a part more than there may be -/
theorem number_full {w0 w : World} {bb M : Nat} {B : Bk} (n : Nd) (e : Bool) (h : BookAt w0 bb M B w) (hn : WfN n) (hs : B.parts.length = 12288) (hm : n ∉ B.parts) :
    Calls Tryz.prog 46 #[.pointer (some ⟨bb, 0, none⟩), aggN n, .bool e] w (OpAt w0 bb M w ({ B with full := true }, 0)) := by
  obtain ⟨pv, sv, bv, xs, h⟩ := h
  have HB := Lib.hid h
  have c3 := h.cell3
  have c0 := h.cell0
  have c4 := h.cell4
  have hlt := h.lt
  have hfz : w.frozen? ⟨bb, 4, none⟩ = false := frozen_of_row w bb 4 _ _ h.box
  obtain ⟨D, hown, hhas, hat, hsize⟩ := h.map.map
  obtain ⟨c, hw⟩ := look_no hown hhas hn hm
  have BW := Lib.hid (fun o => (Below.refl w.heap.size w).alloc (Nat.le_refl _) o)
  have hL := fun k => hw ((w.alloc (.cells #[.int .i64 n.op, .int .i64 n.a, .int .i64 n.b, .int .i64 n.lo, .int .i64 n.hi, .int .i64 n.set] 35)).drewN k) ((BW.out _).trans ((Rg.below_drewN _ k).mono (by simp)))
  obtain ⟨ao, cap, rfl, hl, _⟩ := (Ar.nodes_of_row h.parts).shape
  rw [hs] at c0 hl
  have HE := Lib.hid hs
  have done : ∀ W, Below w.heap.size w W → BookAt w0 bb M { B with full := true } (W.setCell ⟨bb, 4, none⟩ (.bool true)) ∧ Fz bb M w (W.setCell ⟨bb, 4, none⟩ (.bool true)) := fun W hb => by
    have hW := HB.out.next hb
    have ks : Kg w0.heap.size (fun k => k = bb) (fun _ => False) W (W.setCell ⟨bb, 4, none⟩ (.bool true)) := Kg.of_set hW.base rfl
    refine ⟨⟨_, sv, bv, xs, ks.since hW.below rfl, hW.base, hW.baseM, ?_, ks.own hW.parts id (fun g hg e => hW.ne_row hW.parts (by decide) (e ▸ hg)), ks.own hW.sets id (fun g hg e => hW.ne_row hW.sets (by decide) (e ▸ hg)), hW.row, ks.own hW.bare id (fun g hg e => hW.ne_row hW.bare (by decide) (e ▸ hg)), hW.map.nodup, hW.map.wf, ?_⟩, (Fz.of_below hb HB.out.lt).trans (fz_full hW)⟩
    · have := heap_setCell_same W bb 4 _ 58 (.bool true) hW.box
      simpa using this
    · obtain ⟨D, h1, h2⟩ := hW.map.map
      exact ⟨D, ks.map h1 (fun e => hW.ne e.symm), h2⟩
  have DONE := Lib.hid done
  unfold aggN at *
  clear h hown hhas hat hsize hw hm done hs
  go_enter Tryz.func46, Tryz.ntmps46
  go_wp2
  go_quiet (fail)
  go_wp2
  go_ret
  exact ⟨rfl, DONE.out _ ((BW.out _).trans ((Rg.below_drewN _ _).mono (by simp)))⟩

end Go.Proofs.YtbkafoaoddajoaaGreatDoor.Dv

namespace Go.Proofs.YtbkafoaoddajoaaGreatDoor.Dv
open Go

section
variable {P : Program} {ops : Array Oper} {Q : Exit → Act → World → Prop} {md : Region.Mode} {S : World → Prop} {s : Nat}

/-- in whatever order, and as long as number s has not come up S holds -/
def anyT (P : Program) (md : Region.Mode) (ops : Array Oper) (Q : Exit → Act → World → Prop) (S : World → Prop) (s : Nat) : Nat → Array Bool → Act → World → Prop
  | 0, l, a, w => Region.ready md ops l = [] ∧ Q .normal a w
  | f + 1, l, a, w => (Region.ready md ops l = [] → Q .normal a w) ∧
    ∀ i, i ∈ Region.ready md ops l → wpOp P ops Q i (fun b v => ((l.setIfInBounds i true).getD s true = false → S v) ∧ anyT P md ops Q S s f (l.setIfInBounds i true) b v) a w
theorem any_of_anyT : ∀ (f : Nat) (l : Array Bool) (a : Act) (w : World), anyT P md ops Q S s f l a w → wpAny P md ops Q f l a w
  | 0, _, _, _, h => h
  | f + 1, _, _, _, h => ⟨h.1, fun i hi => wpOp_mono (fun b v k => any_of_anyT f _ b v k.2) (h.2 i hi)⟩

/-- does number s wait for number i -/
def waits (md : Region.Mode) (ops : Array Oper) (s i : Nat) : Bool := match ops[s]? with
  | some o => o.after.any fun e => Region.binds md e && e.on == i
  | none => false
theorem not_ready {l : Array Bool} {i : Nat} (hw : waits md ops s i = true) (hi : l.getD i true = false) : s ∉ Region.ready md ops l := by
  intro h
  obtain ⟨_, o, ho, hall⟩ := mem_ready.1 h
  unfold waits at hw
  rw [ho] at hw
  obtain ⟨e, he, hb⟩ := Array.any_eq_true'.1 hw
  rw [Bool.and_eq_true, beq_iff_eq] at hb
  have h1 := hall e he hb.1
  rw [hb.2] at h1
  rcases Nat.lt_or_ge i l.size with h' | h'
  · simp [h'] at hi h1
    rw [hi] at h1; cases h1
  · simp [Array.getElem?_eq_none h'] at h1

theorem anyT_first {i : Nat} {oi : Oper} {v : Value} (hi : ops[i]? = some oi) (hsel : ∀ (j : Nat) (o : Oper) cs b, ops[j]? = some o → o.op ≠ .select cs b)
    (hQ : ∀ c a w, Q (.panic c) (a.put oi.dst v) w → Q (.panic c) a w) (hsw : waits md ops s i = true) (hsi : i ≠ s) :
    ∀ (f : Nat) (l : Array Bool) (a : Act) (w : World),
      (∀ j oj, ops[j]? = some oj → j ≠ i → l.getD j true = false → (∀ e ∈ oj.after, Region.binds md e = true → e.on ≠ i) → oi.apart ops oj = true) →
      i ∈ Region.ready md ops l → YieldsIf P ops S oi v a → S w → l.getD s true = false →
      anyT P md ops Q S s f (l.setIfInBounds i true) (a.put oi.dst v) w → anyT P md ops Q S s (f + 1) l a w := by
  intro f
  induction f with
  | zero =>
    intro l a w _ hr hy hS _ H
    refine ⟨fun h => (by rw [h] at hr; cases hr), fun j hj => ?_⟩
    by_cases hji : j = i
    · subst hji; exact hy.wpOp hi hS ⟨fun _ => hS, H⟩
    · have := ready_mono hj hji
      rw [H.1] at this
      cases this
  | succ f ih =>
    intro l a w hfree hr hy hS hl H
    refine ⟨fun h => (by rw [h] at hr; cases hr), fun j hj => ?_⟩
    have hli := (mem_ready.1 hr).1
    by_cases hji : j = i
    · subst hji; exact hy.wpOp hi hS ⟨fun _ => hS, H⟩
    · have hjs : j ≠ s := fun e => not_ready hsw hli (e ▸ hj)
      have h1 := H.2 j (ready_mono hj hji)
      obtain ⟨hjun, oj, hoj, hall⟩ := mem_ready.1 hj
      have hno : ∀ e ∈ oj.after, Region.binds md e = true → e.on ≠ i := fun e he hb heq => by
        have h2 := hall e he hb
        rw [heq] at h2
        rcases Nat.lt_or_ge i l.size with h' | h'
        · simp [h'] at hli h2; rw [hli] at h2; cases h2
        · simp [Array.getElem?_eq_none h'] at h2
      have h2 := wpOp_putIf hoj (hfree j oj hoj hji hjun hno) (fun cs b => hsel i oi cs b hi) (fun cs b => hsel j oj cs b hoj) hQ hy h1
      have hfree' : ∀ k ok, ops[k]? = some ok → k ≠ i → (l.setIfInBounds j true).getD k true = false → (∀ e ∈ ok.after, Region.binds md e = true → e.on ≠ i) → oi.apart ops ok = true := fun k ok hk hki hun hn => by
        refine hfree k ok hk hki ?_ hn
        by_cases hjk : j = k
        · subst hjk; exact hjun
        · rw [getD_set_ne true hjk] at hun; exact hun
      have hl' : (l.setIfInBounds j true).getD s true = false := by rw [getD_set_ne true hjs]; exact hl
      have hl2 : ((l.setIfInBounds i true).setIfInBounds j true).getD s true = false := by rw [getD_set_ne true hjs, getD_set_ne true hsi]; exact hl
      refine wpOp_mono (fun b u h3 => ⟨fun _ => h3.2.1 hl2, ih (l.setIfInBounds j true) b u hfree' (ready_mono hr (Ne.symm hji)) h3.1 (h3.2.1 hl2) hl' ?_⟩) h2
      rw [Array.setIfInBounds_comm _ _ hji]
      exact h3.2.2

/-- what yields its value in whatever world -/
theorem anyT_first' {i : Nat} {oi : Oper} {v : Value} (hi : ops[i]? = some oi) (hsel : ∀ (j : Nat) (o : Oper) cs b, ops[j]? = some o → o.op ≠ .select cs b)
    (hQ : ∀ c a w, Q (.panic c) (a.put oi.dst v) w → Q (.panic c) a w) (hsi : i ≠ s) :
    ∀ (f : Nat) (l : Array Bool) (a : Act) (w : World),
      (∀ j oj, ops[j]? = some oj → j ≠ i → l.getD j true = false → (∀ e ∈ oj.after, Region.binds md e = true → e.on ≠ i) → oi.apart ops oj = true) →
      i ∈ Region.ready md ops l → YieldsIf P ops (fun _ => True) oi v a → (l.getD s true = false → S w) →
      anyT P md ops Q S s f (l.setIfInBounds i true) (a.put oi.dst v) w → anyT P md ops Q S s (f + 1) l a w := by
  intro f
  induction f with
  | zero =>
    intro l a w _ hr hy hS H
    refine ⟨fun h => (by rw [h] at hr; cases hr), fun j hj => ?_⟩
    by_cases hji : j = i
    · subst hji; exact hy.wpOp hi trivial ⟨fun h => hS (by rwa [getD_set_ne true hsi] at h), H⟩
    · have := ready_mono hj hji
      rw [H.1] at this
      cases this
  | succ f ih =>
    intro l a w hfree hr hy hS H
    refine ⟨fun h => (by rw [h] at hr; cases hr), fun j hj => ?_⟩
    have hli := (mem_ready.1 hr).1
    by_cases hji : j = i
    · subst hji; exact hy.wpOp hi trivial ⟨fun h => hS (by rwa [getD_set_ne true hsi] at h), H⟩
    · have h1 := H.2 j (ready_mono hj hji)
      obtain ⟨hjun, oj, hoj, hall⟩ := mem_ready.1 hj
      have hno : ∀ e ∈ oj.after, Region.binds md e = true → e.on ≠ i := fun e he hb heq => by
        have h2 := hall e he hb
        rw [heq] at h2
        rcases Nat.lt_or_ge i l.size with h' | h'
        · simp [h'] at hli h2; rw [hli] at h2; cases h2
        · simp [Array.getElem?_eq_none h'] at h2
      have h2 := wpOp_putIf hoj (hfree j oj hoj hji hjun hno) (fun cs b => hsel i oi cs b hi) (fun cs b => hsel j oj cs b hoj) hQ hy h1
      have hfree' : ∀ k ok, ops[k]? = some ok → k ≠ i → (l.setIfInBounds j true).getD k true = false → (∀ e ∈ ok.after, Region.binds md e = true → e.on ≠ i) → oi.apart ops ok = true := fun k ok hk hki hun hn => by
        refine hfree k ok hk hki ?_ hn
        by_cases hjk : j = k
        · subst hjk; exact hjun
        · rw [getD_set_ne true hjk] at hun; exact hun
      have hc : ((l.setIfInBounds i true).setIfInBounds j true).getD s true = (l.setIfInBounds j true).getD s true := by
        rw [Array.setIfInBounds_comm _ _ (Ne.symm hji), getD_set_ne true hsi]
      refine wpOp_mono (fun b u h3 => ⟨fun h => h3.2.1 (by rw [hc]; exact h), ih (l.setIfInBounds j true) b u hfree' (ready_mono hr (Ne.symm hji)) h3.1 (fun h => h3.2.1 (by rw [hc]; exact h)) ?_⟩) h2
      rw [Array.setIfInBounds_comm _ _ hji]
      exact h3.2.2
theorem anyT_free {i : Nat} {oi : Oper} {v : Value} {f : Nat} {l : Array Bool} {a : Act} {w : World} (hi : ops[i]? = some oi)
    (hs : Region.noSelect ops = true) (hf : Region.free md ops l i = true) (hr : (Region.ready md ops l).contains i = true) (hw : (!(i == s)) = true)
    (hQ : ∀ c a w, Q (.panic c) (a.put oi.dst v) w → Q (.panic c) a w) (hy : YieldsIf P ops (fun _ => True) oi v a) (hS : l.getD s true = false → S w)
    (h : anyT P md ops Q S s f (l.setIfInBounds i true) (a.put oi.dst v) w) : anyT P md ops Q S s (f + 1) l a w := by
  simp only [Bool.not_eq_true', beq_eq_false_iff_ne] at hw
  exact anyT_first' hi (Region.noSelect_spec hs) hQ hw f l a w (Region.free_spec hi hf) (by simpa using hr) hy hS h
theorem anyT_take {i : Nat} {oi : Oper} {v : Value} {f : Nat} {l : Array Bool} {a : Act} {w : World} (hi : ops[i]? = some oi)
    (hs : Region.noSelect ops = true) (hf : Region.free md ops l i = true) (hr : (Region.ready md ops l).contains i = true) (hw : (waits md ops s i && !(i == s) && !(l.getD s true)) = true)
    (hQ : ∀ c a w, Q (.panic c) (a.put oi.dst v) w → Q (.panic c) a w) (hy : YieldsIf P ops S oi v a) (hS : S w)
    (h : anyT P md ops Q S s f (l.setIfInBounds i true) (a.put oi.dst v) w) : anyT P md ops Q S s (f + 1) l a w := by
  simp only [Bool.and_eq_true, Bool.not_eq_true', beq_eq_false_iff_ne] at hw
  exact anyT_first hi (Region.noSelect_spec hs) hQ hw.1.1 hw.1.2 f l a w (Region.free_spec hi hf) (by simpa using hr) hy hS hw.2 h
/-- each of the operations rs comes up next -/
def AllT (P : Program) (md : Region.Mode) (ops : Array Oper) (Q : Exit → Act → World → Prop) (S : World → Prop) (s : Nat) (f : Nat) (l : Array Bool) (a : Act) (w : World) (rs : List Nat) : Prop :=
  ∀ i, i ∈ rs → wpOp P ops Q i (fun b v => ((l.setIfInBounds i true).getD s true = false → S v) ∧ anyT P md ops Q S s f (l.setIfInBounds i true) b v) a w
theorem AllT.nil {f : Nat} {l : Array Bool} {a : Act} {w : World} : AllT P md ops Q S s f l a w [] := fun _ h => by cases h
theorem AllT.cons {f : Nat} {l : Array Bool} {a : Act} {w : World} {i : Nat} {o : Oper} {rs : List Nat} (ho : ops[i]? = some o)
    (h : ∀ K' : Act → World → Prop, Shut (∀ b v, ((l.setIfInBounds i true).getD s true = false → S v) → anyT P md ops Q S s f (l.setIfInBounds i true) b v → K' b v) → if Region.wanted o (yielded ops a.tmps) = true then Oper.wp P o a w K' Q else K' (a.put o.dst undef) w)
    (hs : AllT P md ops Q S s f l a w rs) : AllT P md ops Q S s f l a w (i :: rs) := fun j hj => by
  rcases List.mem_cons.1 hj with rfl | hj
  · exact wpOp_step ho fun K' hK => h K' fun b v h1 h2 => hK b v ⟨h1, h2⟩
  · exact hs j hj
theorem anyT_ready {rs : List Nat} {f : Nat} {l : Array Bool} {a : Act} {w : World} (hr : Region.ready md ops l = rs) (hne : rs ≠ []) (h : AllT P md ops Q S s f l a w rs) : anyT P md ops Q S s (f + 1) l a w :=
  ⟨fun h0 => absurd (hr ▸ h0) hne, hr ▸ h⟩
theorem anyT_done {l : Array Bool} {a : Act} {w : World} (hr : Region.ready md ops l = []) (h : Q .normal a w) : ∀ f, anyT P md ops Q S s f l a w
  | 0 => ⟨hr, h⟩
  | _ + 1 => ⟨fun _ => h, by rw [hr]; simp⟩
theorem begin_anyT {id : Nat} {a : Act} {w : World} (s : Nat) (hm : P.follows .mixedOrders = true) (h : anyT P .any ops Q S s ops.size (Array.replicate ops.size false) a w.drew) : (Code.region id ops true).wp P Q a w :=
  wp_region_any hm (any_of_anyT _ _ _ _ h)
end

end Go.Proofs.YtbkafoaoddajoaaGreatDoor.Dv

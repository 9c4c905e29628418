/- What is left in the end: is one of the parts bare? What is left of a part, node by node; which numbers are told on the way. What is left of a part, in memory: a step's box, its map, and which method goes with a kind. What is left of one part or the other, and of a repetition. What is left of one part behind the other. What is left of a part: the program's left. What is left as one part: the program's whole. -/
import Derived.Test.YtjmdlioakkibcaaGreatDoorPk14
import Derived.Test.YtjmdlioakkibcaaGreatDoorPk17
import Derived.Test.YtjmdlioakkibcaaGreatDoorPk05
import Derived.Test.YtjmdlioakkibcaaGreatDoorPk15
import Derived.Test.YtjmdlioakkibcaaGreatDoorPk12

namespace Go.Proofs.YtjmdlioakkibcaaGreatDoor.Dv
open Go Go.RowKit Go.Shelf Go.Maps
open Go.Proofs.YtjmdlioakkibcaaGreatDoor.Ar (timesB Nd nd nodeB nodeB_ways NRow cellsN aggN flatN Book WfN Wf NodeAt node_new nodes_of_row Tr Ok TreeAt)
open Go.Proofs.YtjmdlioakkibcaaGreatDoor.Rg (R RngsAt RowsAt nthL add_zero own_next)
section
variable {w0 w : World} {bb M gb : Nat} {B : Bk} {lv : Value} {l : List Nat}
set_option maxHeartbeats 1600000 in
theorem has1_any (h : BookAt w0 bb M B w) (g : Good B) (hb : w.cell? ⟨gb, 0, none⟩ = some (.pointer (some ⟨bb, 0, none⟩))) {x : Nat} (hx : x < B.parts.length) :
    Calls Tryz.prog 41 #[.int .i64 (x : Nat), .pointer (some ⟨gb, 0, none⟩)] w fun e w' => e = .returned (.bool (bareAt B x)) ∧ ∃ q, w' = w.drewN q := by
  obtain ⟨pv, sv, bv, xs, h⟩ := h
  have c2 := h.cell2
  obtain ⟨gv, cap, rfl, hl, hcx⟩ := h.bareAt g hx
  have hxi : (x : Int) < (B.parts.length : Int) := by omega
  clear h
  go_enter Tryz.func41, Tryz.ntmps41
  go_wp2
  go_ret
  exact ⟨rfl, 0, rfl⟩
theorem anyB_any (h : BookAt w0 bb M B w) (g : Good B) (hb : w.cell? ⟨gb, 0, none⟩ = some (.pointer (some ⟨bb, 0, none⟩))) (hr : RowI w lv l) (hl : ∀ x, x ∈ l → x < B.parts.length) :
    Calls Tryz.prog 40 #[lv, .func (.func 41) #[] #[.pointer (some ⟨gb, 0, none⟩)]] w fun e w' => e = .returned (.bool (l.any (bareAt B))) ∧ ∃ q, w' = w.drewN q := by
  haveI : Inhabited (Fin B.parts.length) := ⟨⟨0, by have := g.two; omega⟩⟩
  rcases hr with ⟨rfl, rfl⟩ | ⟨b, cap, cs, rfl, h1, h2, h3⟩
  · refine (Tryz.slices_ContainsFunc_empty (α := Nat) none 0 (.func (.func 41) #[] #[.pointer (some ⟨gb, 0, none⟩)]) w).mono ?_
    rintro e w' ⟨rfl, rfl⟩
    exact ⟨rfl, 0, rfl⟩
  · have eg : ∀ args w, (callFunc 41 args).run Tryz.prog w = .ok (.enter 41 args) w := enters_of Tryz.func41 (by kernel_rfl) rfl
    have hp : PredAt Tryz.prog 41 #[.pointer (some ⟨gb, 0, none⟩)] (fun (x : Fin B.parts.length) => Value.int .i64 ((x.val : Nat) : Int)) (fun x => bareAt B x.val) w := fun W x hW => by
      obtain ⟨pv, sv, bv, xs, hk⟩ := h
      exact has1_any ⟨pv, sv, bv, xs, hk.next hW⟩ g (cell_next hb hW) x.isLt
    have hz : ∃ zs : List (Fin B.parts.length), zs.map Fin.val = l := ⟨l.pmap Fin.mk hl, by rw [List.map_pmap]; simp⟩
    obtain ⟨zs, hzs⟩ := hz
    have hzl : zs.length = l.length := by rw [← hzs, List.length_map]
    have key := Tryz.slices_ContainsFunc (fun (x : Fin B.parts.length) => Value.int .i64 ((x.val : Nat) : Int)) (fun x => bareAt B x.val) 41 #[.pointer (some ⟨gb, 0, none⟩)] eg b 0 zs.length cap zs w hp (Nat.le_refl _) (by unfold maxLen at h1; omega) (fun j hj => by
      have hj' : j < l.length := by omega
      have e : (cs.toList.take l.length)[j]? = some (.int .i64 (l.getD j 0 : Nat)) := by rw [h3]; simp [castL, hj', List.getD]
      rw [List.getElem?_take_of_lt hj'] at e
      rw [Nat.zero_add, Lib.cell_of_heap h2]
      have hv : (zs[j]!).val = l.getD j 0 := by
        rw [getElem!_pos zs j hj, List.getD, ← hzs]
        simp [hj]
      simp only [hv]
      simpa using e)
    rw [hzl] at key
    refine key.mono ?_
    rintro e w' ⟨rfl, q, rfl⟩
    refine ⟨?_, q, rfl⟩
    rw [← hzl, List.take_length, ← hzs, List.any_map]
    rfl
end
end Go.Proofs.YtjmdlioakkibcaaGreatDoor.Dv

namespace Go.Proofs.YtjmdlioakkibcaaGreatDoor.Dv
open Go.Proofs.YtjmdlioakkibcaaGreatDoor.Ar (Nd nd nodeB nodeB_ways timesB)
open Go.Proofs.YtjmdlioakkibcaaGreatDoor.Rg (R inB)

/-- what is left of a node, not noted yet -/
def lwN (c : Int) (f : Nat) (B : Bk) (D : Mm) (n : Nd) : Bk × Mm × Nat :=
  if n.op = 2 then (B, D, if inB (B.sets.getD n.set.toNat []) c = true then 1 else 0)
  else if n.op = 3 then
    if bareAt (catF (lw c f B D n.a.toNat).1 (lw c f B D n.a.toNat).2.2 n.b.toNat).1 n.a.toNat = true then
      ((altF (lw c f (catF (lw c f B D n.a.toNat).1 (lw c f B D n.a.toNat).2.2 n.b.toNat).1 (lw c f B D n.a.toNat).2.1 n.b.toNat).1 (catF (lw c f B D n.a.toNat).1 (lw c f B D n.a.toNat).2.2 n.b.toNat).2 (lw c f (catF (lw c f B D n.a.toNat).1 (lw c f B D n.a.toNat).2.2 n.b.toNat).1 (lw c f B D n.a.toNat).2.1 n.b.toNat).2.2).1,
        (lw c f (catF (lw c f B D n.a.toNat).1 (lw c f B D n.a.toNat).2.2 n.b.toNat).1 (lw c f B D n.a.toNat).2.1 n.b.toNat).2.1,
        (altF (lw c f (catF (lw c f B D n.a.toNat).1 (lw c f B D n.a.toNat).2.2 n.b.toNat).1 (lw c f B D n.a.toNat).2.1 n.b.toNat).1 (catF (lw c f B D n.a.toNat).1 (lw c f B D n.a.toNat).2.2 n.b.toNat).2 (lw c f (catF (lw c f B D n.a.toNat).1 (lw c f B D n.a.toNat).2.2 n.b.toNat).1 (lw c f B D n.a.toNat).2.1 n.b.toNat).2.2).2)
    else ((catF (lw c f B D n.a.toNat).1 (lw c f B D n.a.toNat).2.2 n.b.toNat).1, (lw c f B D n.a.toNat).2.1, (catF (lw c f B D n.a.toNat).1 (lw c f B D n.a.toNat).2.2 n.b.toNat).2)
  else if n.op = 4 then
    ((altF (lw c f (lw c f B D n.a.toNat).1 (lw c f B D n.a.toNat).2.1 n.b.toNat).1 (lw c f B D n.a.toNat).2.2 (lw c f (lw c f B D n.a.toNat).1 (lw c f B D n.a.toNat).2.1 n.b.toNat).2.2).1, (lw c f (lw c f B D n.a.toNat).1 (lw c f B D n.a.toNat).2.1 n.b.toNat).2.1, (altF (lw c f (lw c f B D n.a.toNat).1 (lw c f B D n.a.toNat).2.1 n.b.toNat).1 (lw c f B D n.a.toNat).2.2 (lw c f (lw c f B D n.a.toNat).1 (lw c f B D n.a.toNat).2.1 n.b.toNat).2.2).2)
  else if n.op = 5 then
    ((catF (fewerF (lw c f B D n.a.toNat).1 n).1 (lw c f B D n.a.toNat).2.2 (fewerF (lw c f B D n.a.toNat).1 n).2).1, (lw c f B D n.a.toNat).2.1, (catF (fewerF (lw c f B D n.a.toNat).1 n).1 (lw c f B D n.a.toNat).2.2 (fewerF (lw c f B D n.a.toNat).1 n).2).2)
  else (B, D, 0)
theorem lw_some {c : Int} {f : Nat} {B : Bk} {D : Mm} {x y : Nat} (h : D.lookup x = some y) : lw c (f + 1) B D x = (B, D, y) := by
  unfold lw; rw [h]
theorem lw_none {c : Int} {f : Nat} {B : Bk} {D : Mm} {x : Nat} (h : D.lookup x = none) : lw c (f + 1) B D x = ((lwN c f B D (nd B.parts x)).1, (x, (lwN c f B D (nd B.parts x)).2.2) :: (lwN c f B D (nd B.parts x)).2.1, (lwN c f B D (nd B.parts x)).2.2) := by
  unfold lw lwN; rw [h]
  dsimp only
  split
  · rfl
  · split
    · split <;> rfl
    · split
      · rfl
      · split <;> rfl

theorem lookup_keys : ∀ {D : Mm} {x : Nat}, x ∉ D.map Prod.fst → D.lookup x = none
  | [], _, _ => rfl
  | (k, v) :: D, x, h => by
    rw [List.map_cons, List.mem_cons, not_or] at h
    rw [List.lookup_cons, show (x == k) = false by simpa using h.1]
    exact lookup_keys h.2
theorem keys_lookup : ∀ {D : Mm} {x : Nat}, D.lookup x = none → x ∉ D.map Prod.fst
  | [], _, _ => by simp
  | (k, v) :: D, x, h => by
    rw [List.lookup_cons] at h
    by_cases e : x = k
    · subst e; simp at h
    · rw [show (x == k) = false by simpa using e] at h
      rw [List.map_cons, List.mem_cons, not_or]
      exact ⟨e, keys_lookup h⟩
/-- which numbers are told on the way to x -/
structure KeysTo (x : Nat) (D E : Mm) : Prop where
  nodup : (E.map Prod.fst).Nodup
  keys : ∀ k, k ∈ E.map Prod.fst → k ∈ D.map Prod.fst ∨ k < x
theorem KeysTo.refl {D : Mm} {x : Nat} (h : (D.map Prod.fst).Nodup) : KeysTo x D D := ⟨h, fun _ h => .inl h⟩
theorem KeysTo.trans {D E F : Mm} {x y : Nat} (h : KeysTo x D E) (k : KeysTo y E F) (hxy : x ≤ y) : KeysTo y D F :=
  ⟨k.nodup, fun i hi => (k.keys i hi).elim (fun hi => (h.keys i hi).elim .inl (fun h => .inr (by omega))) .inr⟩
theorem KeysTo.mono {D E : Mm} {x y : Nat} (h : KeysTo x D E) (hxy : x ≤ y) : KeysTo y D E := ⟨h.nodup, fun i hi => (h.keys i hi).imp id (fun h => by omega)⟩
theorem KeysTo.put {D E : Mm} {x y : Nat} (h : KeysTo x D E) (hx : x ∉ D.map Prod.fst) : KeysTo (x + 1) D ((x, y) :: E) := by
  refine ⟨?_, fun k hk => ?_⟩
  · rw [List.map_cons, List.nodup_cons]
    exact ⟨fun hm => (h.keys x hm).elim hx (fun h => by omega), h.nodup⟩
  · rw [List.map_cons, List.mem_cons] at hk
    rcases hk with rfl | hk
    · exact .inr (Nat.lt_succ_self _)
    · exact (h.keys k hk).imp id (fun h => by omega)
theorem Lem.len {c : Int} {B0 B : Bk} {D : Mm} (h : Lem c B0 B D) (hn : (D.map Prod.fst).Nodup) : D.length ≤ B0.parts.length := by
  have := nodup_lt B0.parts.length _ hn (fun x hx => by
    obtain ⟨p, hp, rfl⟩ := List.mem_map.1 hx
    exact (h.lt p hp).1)
  simpa using this

theorem lw_keys {c : Int} {B0 : Bk} (g0 : Good B0) : ∀ (f : Nat) (B : Bk) (D : Mm) (x : Nat), Lem c B0 B D → (D.map Prod.fst).Nodup → x < f → x < B0.parts.length → KeysTo (x + 1) D (lw c f B D x).2.1 := by
  intro f
  induction f with
  | zero => intro B D x _ _ h; omega
  | succ f ih =>
    intro B D x hm hk hf hx
    have hnode := g0.node x hx
    have hnd := hm.ext.nd hx
    cases hy : D.lookup x with
    | some y => rw [lw_some hy]; exact KeysTo.refl hk
    | none =>
      rw [lw_none hy, hnd]
      have hreps := g0.reps x hx
      refine KeysTo.put ?_ (keys_lookup hy)
      have hle := hm.ext.le
      generalize hn : nd B0.parts x = n at hnode hreps ⊢
      unfold lwN
      rcases nodeB_ways hnode with ⟨h1, h2⟩ | ⟨h1, h2⟩ | ⟨h1 | h1, h2⟩ | ⟨h1, h2⟩
      · rw [if_neg (by omega), if_neg (by omega), if_neg (by omega), if_neg (by omega)]
        exact KeysTo.refl hk
      · rw [if_pos h1]
        exact KeysTo.refl hk
      · rw [if_neg (by omega), if_pos h1]
        have p := lw_out g0 f B D n.a.toNat hm (by omega) (by omega)
        have kp := ih B D n.a.toNat hm hk (by omega) (by omega)
        have hpl := p.mem.ext.le
        have k := catF_out p.mem.good p.lt (y := n.b.toNat) (by omega)
        have hm1 := p.mem.next k.good k.ext
        split
        · have kq := ih _ _ n.b.toNat hm1 kp.nodup (by omega) (by omega)
          exact (kp.mono (by omega)).trans (kq.mono (by omega)) (Nat.le_refl _)
        · exact kp.mono (by omega)
      · rw [if_neg (by omega), if_neg (by omega), if_pos h1]
        have p := lw_out g0 f B D n.a.toNat hm (by omega) (by omega)
        have kp := ih B D n.a.toNat hm hk (by omega) (by omega)
        have kq := ih _ _ n.b.toNat p.mem kp.nodup (by omega) (by omega)
        exact (kp.mono (by omega)).trans (kq.mono (by omega)) (Nat.le_refl _)
      · rw [if_neg (by omega), if_neg (by omega), if_neg (by omega), if_pos h1]
        have kp := ih B D n.a.toNat hm hk (by omega) (by omega)
        exact kp.mono (by omega)
end Go.Proofs.YtjmdlioakkibcaaGreatDoor.Dv

namespace Go.Proofs.YtjmdlioakkibcaaGreatDoor.Dv
open Go Go.RowKit Go.Shelf Go.Maps
open Go.Proofs.YtjmdlioakkibcaaGreatDoor.Ar (timesB Nd nd nodeB nodeB_ways NRow cellsN aggN flatN Book WfN Wf NodeAt node_new nodes_of_row)
open Go.Proofs.YtjmdlioakkibcaaGreatDoor.Rg (R RngsAt RowsAt nthL add_zero own_next has_any inB)

structure StAt (w0 : World) (bb M sb Md : Nat) (c : Int) (B : Bk) (D : Mm) (w : World) : Prop where
  book : BookAt w0 bb M B w
  done : IMap Md D w
  base : w0.heap.size ≤ sb
  baseM : w0.heap.size ≤ Md
  neM : Md ≠ M
  box : w.heap[sb]? = some (.cells #[.pointer (some ⟨bb, 0, none⟩), .int .i64 c, .map (some Md)] 107 (0, 0))
section
variable {w0 w w' : World} {bb M sb Md : Nat} {c : Int} {B : Bk} {D : Mm}
theorem StAt.ltAll (h : StAt w0 bb M sb Md c B D w) : bb < w.heap.size ∧ M < w.heap.size ∧ Md < w.heap.size ∧ sb < w.heap.size ∧ bb ≠ Md ∧ sb ≠ Md ∧ w0.heap.size ≤ bb ∧ Below w0.heap.size w0 w := by
  obtain ⟨pv, sv, bv, xs, hb⟩ := h.book
  have hmap : ∀ {k : Nat} {cs : Array Value} {t : TypeId} {z : Nat × Nat}, w.heap[k]? = some (.cells cs t z) → k ≠ Md := fun hk e => by
    obtain ⟨E, h1, _⟩ := h.done.map
    obtain ⟨es, clock, hh, _⟩ := h1
    rw [e, hh] at hk; cases hk
  exact ⟨hb.lt, hb.ltM, h.done.lt, (Array.getElem?_eq_some_iff.1 h.box).1, hmap hb.box, hmap h.box, hb.base, hb.below⟩
theorem StAt.c0 (h : StAt w0 bb M sb Md c B D w) : w.cell? ⟨sb, 0, none⟩ = some (.pointer (some ⟨bb, 0, none⟩)) := by simp [World.cell?, h.box]
theorem StAt.c1 (h : StAt w0 bb M sb Md c B D w) : w.cell? ⟨sb, 1, none⟩ = some (.int .i64 c) := by simp [World.cell?, h.box]
theorem StAt.c2 (h : StAt w0 bb M sb Md c B D w) : w.cell? ⟨sb, 2, none⟩ = some (.map (some Md)) := by simp [World.cell?, h.box]
theorem StAt.kb (h : StAt w0 bb M sb Md c B D w) {B' : Bk} (hb : BookAt w0 bb M B' w') (k : Fz bb M w w') : StAt w0 bb M sb Md c B' D w' := by
  have kk := k.kb h.book
  have hd : ¬ Ub bb M Md := by
    obtain ⟨_, _, _, _, h4, _⟩ := h.ltAll
    rintro (e | e)
    · exact h4 e.symm
    · exact h.neM e
  exact ⟨hb, h.done.kg kk hd, h.base, h.baseM, h.neM, kk.heap h.box (h.book.neU h.box (by decide)) (fun _ _ _ e => by cases e; unfold Tb; decide)⟩
theorem StAt.next (h : StAt w0 bb M sb Md c B D w) (hb : Below w.heap.size w w') : StAt w0 bb M sb Md c B D w' := by
  obtain ⟨h1, _⟩ := h.ltAll
  refine h.kb ?_ (Fz.of_below hb h1)
  obtain ⟨pv, sv, bv, xs, hk⟩ := h.book
  exact ⟨pv, sv, bv, xs, hk.next hb⟩
theorem StAt.turned (h : StAt w0 bb M sb Md c B D w) {D' : Mm} (hd : IMap Md D' w') (hw : w.mapTurned w' Md) : StAt w0 bb M sb Md c B D' w' := by
  obtain ⟨_, _, _, _, h4, h5, _⟩ := h.ltAll
  have k : Kg w0.heap.size (fun k => k = Md) (fun _ => False) w w' := Kg.of_turned hw h.baseM rfl
  have hMd : ∃ es clock, w.heap[Md]? = some (.map es clock) := by
    obtain ⟨E, h1, _⟩ := h.done.map
    obtain ⟨es, clock, hh, _⟩ := h1
    exact ⟨es, clock, hh⟩
  obtain ⟨es, clock, hmd⟩ := hMd
  refine ⟨?_, hd, h.base, h.baseM, h.neM, k.heap h.box h5 (fun _ _ _ _ h => h)⟩
  obtain ⟨pv, sv, bv, xs, hb⟩ := h.book
  have hz : ∀ {e : TypeId} {s m : Nat} {v : Value} {ys : List Value}, w.ownsRow w0.heap.size e s v m ys → ∀ g, v.ownBlock = some g → ¬ g = Md := fun hr g hv e => by
    obtain ⟨_, cs, hh⟩ := row_block hr hv
    rw [e, hmd] at hh; cases hh
  refine ⟨pv, sv, bv, xs, hb.keep k rfl h4 (fun e => h.neM e.symm) (fun _ _ => id) (fun g hg => ?_)⟩
  rcases hg with hg | hg | hg
  · exact hz hb.parts g hg
  · exact hz hb.sets g hg
  · exact hz hb.bare g hg
/-- what is left, in memory -/
def LeftAt (w0 : World) (bb M sb Md : Nat) (c : Int) (w : World) (r : Bk × Mm × Nat) (e : Ending) (w' : World) : Prop := e = .returned (.int .i64 (r.2.2 : Nat)) ∧ StAt w0 bb M sb Md c r.1 r.2.1 w' ∧ Fm bb M Md w w'
def LeftOk (w0 : World) (bb M sb Md : Nat) (c : Int) (B0 : Bk) (f : Nat) : Prop :=
  ∀ (B : Bk) (D : Mm) (x : Nat) (w : World), StAt w0 bb M sb Md c B D w → Lem c B0 B D → (D.map Prod.fst).Nodup → x < f → x < B0.parts.length →
    Calls Tryz.prog 60 #[.pointer (some ⟨sb, 0, none⟩), .int .i64 (x : Nat)] w (LeftAt w0 bb M sb Md c w (lw c f B D x))
theorem NBox.fm {X Y : World} {N : Nat} {n : Nd} (h : NBox X N n) (k : Fm bb M Md X Y) (h1 : N ≠ bb) (h2 : N ≠ M) (h4 : N ≠ Md) (h3 : ¬ rowsOf X bb N) : NBox Y N n := (k.block N (Array.getElem?_eq_some_iff.1 h).1 h1 h2 h4 h3).trans h
theorem Fm.young {X Y : World} {N : Nat} (k : Fm bb M Md X Y) (h : ¬ rowsOf X bb N) (hN : N < X.heap.size) : ¬ rowsOf Y bb N := fun hr => (k.rows _ hr).elim h (fun hge => by omega)

/-! which method -/
def kindS (op : Int) : Nat := if op = 2 then 95 else if op = 3 then 96 else if op = 4 then 97 else if op = 5 then 98 else 94
set_option maxRecDepth 100000 in
set_option maxHeartbeats 1000000 in
theorem kind_s (op : Int) (a b x y z : Value) (w : World) : Calls Tryz.prog 93 #[.int .i64 op, a, b, x, y, z] w fun e w' => e = .returned (if op = 2 then b else if op = 3 then x else if op = 4 then y else if op = 5 then z else a) ∧ w' = w := by
  by_cases h2 : op = 2
  · subst h2
    go_enter Tryz.func93, Tryz.ntmps93
    go_wp2
    go_ret
    exact ⟨rfl, rfl⟩
  · rw [if_neg h2]
    have e2 : (op == 2) = false := by simpa using h2
    by_cases h3 : op = 3
    · subst h3
      go_enter Tryz.func93, Tryz.ntmps93
      go_wp2
      go_ret
      exact ⟨rfl, rfl⟩
    · rw [if_neg h3]
      have e3 : (op == 3) = false := by simpa using h3
      by_cases h4 : op = 4
      · subst h4
        go_enter Tryz.func93, Tryz.ntmps93
        go_wp2
        go_ret
        exact ⟨rfl, rfl⟩
      · rw [if_neg h4]
        have e4 : (op == 4) = false := by simpa using h4
        by_cases h5 : op = 5
        · subst h5
          go_enter Tryz.func93, Tryz.ntmps93
          go_wp2
          go_ret
          exact ⟨rfl, rfl⟩
        · rw [if_neg h5]
          have e5 : (op == 5) = false := by simpa using h5
          clear h2 h3 h4 h5
          go_enter Tryz.func93, Tryz.ntmps93
          go_wp2
          go_ret
          exact ⟨rfl, rfl⟩
set_option maxRecDepth 100000 in
set_option maxHeartbeats 1000000 in
theorem reckoned_any (op : Int) (w : World) : Calls Tryz.prog 76 #[.int .i64 op] w fun e w' => e = .returned (.func (.func (kindS op)) #[] #[]) ∧ w' = w := by
  have C := Lib.hid (kind_s op (.func (.func 94) #[] #[]) (.func (.func 95) #[] #[]) (.func (.func 96) #[] #[]) (.func (.func 97) #[] #[]) (.func (.func 98) #[] #[]) w)
  have hk : (if op = 2 then Value.func (.func 95) #[] #[] else if op = 3 then .func (.func 96) #[] #[] else if op = 4 then .func (.func 97) #[] #[] else if op = 5 then .func (.func 98) #[] #[] else .func (.func 94) #[] #[]) = .func (.func (kindS op)) #[] #[] := by
    unfold kindS
    split
    · rfl
    · split
      · rfl
      · split
        · rfl
        · split <;> rfl
  rw [hk] at C
  clear hk
  generalize kindS op = k at *
  go_enter Tryz.func76, Tryz.ntmps76
  go_wp2_with (go_at_call 93; (with_reducible refine C.out.mono ?_); rintro e w1 ⟨rfl, hw⟩; subst w1)
  go_ret
  exact ⟨rfl, rfl⟩
theorem enters_s (op : Int) : Enters Tryz.prog (kindS op) := by
  unfold kindS
  split
  · exact enters_of Tryz.func95 (by kernel_rfl) rfl
  · split
    · exact enters_of Tryz.func96 (by kernel_rfl) rfl
    · split
      · exact enters_of Tryz.func97 (by kernel_rfl) rfl
      · split
        · exact enters_of Tryz.func98 (by kernel_rfl) rfl
        · exact enters_of Tryz.func94 (by kernel_rfl) rfl

set_option maxRecDepth 100000 in
set_option maxHeartbeats 1000000 in
theorem lempty_any (h : StAt w0 bb M sb Md c B D w) (n : Nd) : Calls Tryz.prog 94 #[.pointer (some ⟨sb, 0, none⟩), aggN n] w (LeftAt w0 bb M sb Md c w (B, D, 0)) := by
  have H := Lib.hid h
  have hl := h.ltAll.1
  clear h
  unfold aggN
  go_enter Tryz.func94, Tryz.ntmps94
  go_wp2
  go_ret
  exact ⟨rfl, H.out.next ((Below.refl _ _).alloc (Nat.le_refl _) _), Fm.of_below ((Below.refl _ _).alloc (Nat.le_refl _) _) hl⟩

set_option maxRecDepth 100000 in
set_option maxHeartbeats 8000000 in
theorem lset_any (h : StAt w0 bb M sb Md c B D w) {n : Nd} (h0 : 0 ≤ n.set) (h1 : n.set < B.sets.length) :
    Calls Tryz.prog 95 #[.pointer (some ⟨sb, 0, none⟩), aggN n] w (LeftAt w0 bb M sb Md c w (B, D, if inB (B.sets.getD n.set.toNat []) c = true then 1 else 0)) := by
  obtain ⟨op, a, b, lo, hi', set⟩ := n
  dsimp only at h0 h1
  obtain ⟨i, rfl⟩ := Int.eq_ofNat_of_zero_le h0
  have hil : i < B.sets.length := by omega
  have HB := Lib.hid h
  obtain ⟨lbb, _, _, lsb, _, _, _, hw0⟩ := h.ltAll
  have BW := Lib.hid (fun o => (Below.refl w.heap.size w).alloc (Nat.le_refl _) o)
  have c0 := h.c0
  have c1 := h.c1
  obtain ⟨pv, sv, bv, xs, hb⟩ := h.book
  have b1 := hb.cell1
  obtain ⟨gs, cap, x, rfl, hx, hr⟩ := hb.setAt hil
  have hgs := cell_lt hx
  have CH := Lib.hid (fun X (hX : Below w.heap.size w X) => has_any (nthL B.sets i) c x X (hr.next hX))
  have hp : B.sets.getD (Nd.mk op a b lo hi' (i : Int)).set.toNat [] = nthL B.sets i := by rw [Int.toNat_natCast]; rfl
  rw [hp]
  clear hp h hb hr
  generalize inB (nthL B.sets i) c = y at *
  generalize hns : B.sets.length = ns at *
  unfold aggN
  dsimp only
  cases y
  · rw [if_neg (by simp)]
    go_enter Tryz.func95, Tryz.ntmps95
    go_wp2
    go_region_held3 (fun X => X.cell? ⟨sb, 0, none⟩ = some (.pointer (some ⟨bb, 0, none⟩)) ∧ X.cell? ⟨sb, 1, none⟩ = some (.int .i64 c) ∧ X.cell? ⟨bb, 1, none⟩ = some (.slice (some ⟨gs, 0, none⟩) ns cap) ∧ X.cell? ⟨gs, i, none⟩ = some x ∧ X.cell? ⟨w.heap.size, 5, none⟩ = some (.int .i64 (i : Nat))) (first | exact ⟨by assumption, by assumption, by assumption, by assumption, by assumption⟩ | go_keep)
      (first
        | (go_at_call 79; ((with_reducible refine (CH.out _ ((BW.out _).trans (below_drew _))).mono ?_); rintro e w2 ⟨rfl, h2⟩); go_must (have hb2 := ((BW.out (.cells #[.int .i64 op, .int .i64 a, .int .i64 b, .int .i64 lo, .int .i64 hi', .int .i64 (i : Nat)] 35)).trans (below_drew _)).trans (h2.mono (by simp)); have p0 := cell_next c0 hb2; have p1 := cell_next c1 hb2; have p2 := cell_next b1 hb2; have p3 := cell_next hx hb2; have p4 := cell_next (a := ⟨w.heap.size, 5, none⟩) (v := .int .i64 (i : Nat)) (by simp) h2; have B2 := Lib.hid hb2; clear h2 hb2))
        | fail)
    go_wp2
    go_ret
    exact ⟨rfl, HB.out.next B2.out, Fm.of_below B2.out lbb⟩
  · rw [if_pos rfl]
    go_enter Tryz.func95, Tryz.ntmps95
    go_wp2
    go_region_held3 (fun X => X.cell? ⟨sb, 0, none⟩ = some (.pointer (some ⟨bb, 0, none⟩)) ∧ X.cell? ⟨sb, 1, none⟩ = some (.int .i64 c) ∧ X.cell? ⟨bb, 1, none⟩ = some (.slice (some ⟨gs, 0, none⟩) ns cap) ∧ X.cell? ⟨gs, i, none⟩ = some x ∧ X.cell? ⟨w.heap.size, 5, none⟩ = some (.int .i64 (i : Nat))) (first | exact ⟨by assumption, by assumption, by assumption, by assumption, by assumption⟩ | go_keep)
      (first
        | (go_at_call 79; ((with_reducible refine (CH.out _ ((BW.out _).trans (below_drew _))).mono ?_); rintro e w2 ⟨rfl, h2⟩); go_must (have hb2 := ((BW.out (.cells #[.int .i64 op, .int .i64 a, .int .i64 b, .int .i64 lo, .int .i64 hi', .int .i64 (i : Nat)] 35)).trans (below_drew _)).trans (h2.mono (by simp)); have p0 := cell_next c0 hb2; have p1 := cell_next c1 hb2; have p2 := cell_next b1 hb2; have p3 := cell_next hx hb2; have p4 := cell_next (a := ⟨w.heap.size, 5, none⟩) (v := .int .i64 (i : Nat)) (by simp) h2; have B2 := Lib.hid hb2; clear h2 hb2))
        | fail)
    go_wp2
    go_ret
    exact ⟨rfl, HB.out.next B2.out, Fm.of_below B2.out lbb⟩
end
end Go.Proofs.YtjmdlioakkibcaaGreatDoor.Dv

namespace Go.Proofs.YtjmdlioakkibcaaGreatDoor.Dv
open Go Go.RowKit Go.Shelf Go.Maps
open Go.Proofs.YtjmdlioakkibcaaGreatDoor.Ar (timesB Nd nd nodeB nodeB_ways NRow cellsN aggN flatN Book WfN Wf NodeAt node_new nodes_of_row)
open Go.Proofs.YtjmdlioakkibcaaGreatDoor.Rg (R RngsAt RowsAt nthL add_zero own_next has_any inB)
section
variable {w0 w w' : World} {bb M sb Md : Nat} {c : Int} {B B0 : Bk} {D : Mm} {f : Nat}
set_option maxRecDepth 100000 in
set_option maxHeartbeats 8000000 in
theorem lalt_any (g0 : Good B0) (ih : LeftOk w0 bb M sb Md c B0 f) (h : StAt w0 bb M sb Md c B D w) (hm : Lem c B0 B D) (hk : (D.map Prod.fst).Nodup) {n : Nd} (h4 : n.op = 4) (ha : 0 ≤ n.a) (hb : 0 ≤ n.b) (hx : n.a.toNat < f) (hy : n.b.toNat < f) (hxl : n.a.toNat < B0.parts.length) (hyl : n.b.toNat < B0.parts.length) :
    Calls Tryz.prog 97 #[.pointer (some ⟨sb, 0, none⟩), aggN n] w (LeftAt w0 bb M sb Md c w (lwN c f B D n)) := by
  obtain ⟨op, a, b, lo, hi, set⟩ := n
  dsimp only at h4 ha hb hx hy hxl hyl
  subst h4
  obtain ⟨x, rfl⟩ := Int.eq_ofNat_of_zero_le ha
  obtain ⟨y, rfl⟩ := Int.eq_ofNat_of_zero_le hb
  rw [Int.toNat_natCast] at hx hy hxl hyl
  obtain ⟨l1, l2, l3, l4, l5, l6, _⟩ := h.ltAll
  have p := lw_out g0 f B D x hm hx hxl
  have kp := lw_keys g0 f B D x hm hk hx hxl
  have q := lw_out g0 f _ _ y p.mem hy hyl
  have hpl := p.lt
  have hle := q.ext.le
  have hp : lwN c f B D ⟨4, x, y, lo, hi, set⟩ = ((altF (lw c f (lw c f B D x).1 (lw c f B D x).2.1 y).1 (lw c f B D x).2.2 (lw c f (lw c f B D x).1 (lw c f B D x).2.1 y).2.2).1, (lw c f (lw c f B D x).1 (lw c f B D x).2.1 y).2.1, (altF (lw c f (lw c f B D x).1 (lw c f B D x).2.1 y).1 (lw c f B D x).2.2 (lw c f (lw c f B D x).1 (lw c f B D x).2.1 y).2.2).2) := by
    unfold lwN
    rw [if_neg (by simp), if_neg (by simp), if_pos rfl]
    rfl
  rw [hp]
  have BW := Lib.hid (fun o => (Below.refl w.heap.size w).alloc (Nat.le_refl _) o)
  have BD := Lib.hid ((BW.out (.cells #[.int .i64 4, .int .i64 (x : Nat), .int .i64 (y : Nat), .int .i64 lo, .int .i64 hi, .int .i64 set] 35)).trans (below_drew _))
  have NB := Lib.hid ((nbox_new w ⟨4, (x : Nat), (y : Nat), lo, hi, set⟩).below (below_drew _))
  have HD := Lib.hid (h.next BD.out)
  have hyo := young (N := w.heap.size) h.book (fun hr => (rowsOf_same (BD.out.block bb l1) _).1 hr) (Nat.le_refl _)
  have HYO := Lib.hid hyo
  have C1 := Lib.hid (ih B D x _ HD.out hm hk hx hxl)
  have C2 := Lib.hid (fun X hX => ih _ _ y X hX p.mem kp.nodup hy hyl)
  have C3 := Lib.hid (fun X (hX : BookAt w0 bb M (lw c f (lw c f B D x).1 (lw c f B D x).2.1 y).1 X) => alt_any hX q.mem.good (x := (lw c f B D x).2.2) (y := (lw c f (lw c f B D x).1 (lw c f B D x).2.1 y).2.2) (by omega) q.lt)
  have hsz : w.heap.size < ((w.alloc (.cells #[.int .i64 4, .int .i64 (x : Nat), .int .i64 (y : Nat), .int .i64 lo, .int .i64 hi, .int .i64 set] 35)).drew).heap.size := by simp
  have c0 := HD.out.c0
  have c0w := h.c0
  generalize hP : lw c f B D x = P at *
  generalize hQ : lw c f P.1 P.2.1 y = Q at *
  generalize hR : altF Q.1 P.2.2 Q.2.2 = R at *
  unfold LeftAt at C1 C2 ⊢
  unfold OpAt at C3
  unfold aggN
  dsimp only
  clear hp p kp q hP hQ hR hm hk h ih hyo hpl hle
  go_enter Tryz.func97, Tryz.ntmps97
  go_wp2
  go_region_held3 (fun X => X.cell? ⟨sb, 0, none⟩ = some (.pointer (some ⟨bb, 0, none⟩)) ∧ X.cell? ⟨w.heap.size, 1, none⟩ = some (.int .i64 (x : Nat)) ∧ X.cell? ⟨w.heap.size, 2, none⟩ = some (.int .i64 (y : Nat))) (first | exact ⟨by assumption, by assumption, by assumption⟩ | go_keep)
    (first
      | (go_at_call 60; ((with_reducible refine C1.out.mono ?_); rintro e w1 ⟨rfl, h1, k1⟩); go_must (have nb := NB.out.fm k1 (by omega) (by omega) (by omega) HYO.out; have m1 := nb.at'.c1; have m2 := nb.at'.c2; have H1 := Lib.hid h1; have p0 := h1.c0; have NB1 := Lib.hid nb; have Y1 := Lib.hid (k1.young HYO.out hsz); have K1 := Lib.hid k1; have hs1 := k1.size; clear nb h1 k1 C1))
      | (go_at_call 60; ((with_reducible refine (C2.out _ H1.out).mono ?_); rintro e w2 ⟨rfl, h2, k2⟩); go_must (have nb := NB1.out.fm k2 (by omega) (by omega) (by omega) Y1.out; have r1 := nb.at'.c1; have r2 := nb.at'.c2; have H2 := Lib.hid h2; have r0 := h2.c0; have NB2 := Lib.hid nb; have Y2 := Lib.hid (k2.young Y1.out (by omega)); have K2 := Lib.hid k2; clear nb h2 k2 C2 m1 m2 p0))
      | (go_at_call 59; ((with_reducible refine (C3.out _ H2.out.book).mono ?_); rintro e w3 ⟨rfl, h3, k3⟩); go_must (have nb := NB2.out.fz k3 (by omega) (by omega) Y2.out; have t1 := nb.at'.c1; have t2 := nb.at'.c2; have H3 := Lib.hid (H2.out.kb h3 k3); have t0 := H3.out.c0; have K3 := Lib.hid k3; clear nb h3 k3 C3 r0 r1 r2))
      | fail)
  go_wp2
  go_ret
  exact ⟨rfl, H3.out, (((Fm.of_below BD.out l1).trans K1.out).trans K2.out).trans (Fm.of_fz K3.out)⟩

set_option maxRecDepth 100000 in
set_option maxHeartbeats 8000000 in
theorem lrep_any (g0 : Good B0) (ih : LeftOk w0 bb M sb Md c B0 f) (h : StAt w0 bb M sb Md c B D w) (hm : Lem c B0 B D) (hk : (D.map Prod.fst).Nodup) {n : Nd} (h5 : n.op = 5) (ha : 0 ≤ n.a) (hx : n.a.toNat < f) (hxl : n.a.toNat < B0.parts.length) (ht : timesB n.lo n.hi = true) (h0 : n.hi ≠ 0) :
    Calls Tryz.prog 98 #[.pointer (some ⟨sb, 0, none⟩), aggN n] w (LeftAt w0 bb M sb Md c w (lwN c f B D n)) := by
  obtain ⟨op, a, b, lo, hi, set⟩ := n
  dsimp only at h5 ha hx hxl ht h0
  subst h5
  obtain ⟨x, rfl⟩ := Int.eq_ofNat_of_zero_le ha
  rw [Int.toNat_natCast] at hx hxl
  obtain ⟨l1, l2, l3, l4, l5, l6, _⟩ := h.ltAll
  have p := lw_out g0 f B D x hm hx hxl
  have hpl := p.mem.ext.le
  have y := fewerF_out p.mem.good (n := ⟨5, (x : Nat), b, lo, hi, set⟩) (by dsimp only; rw [Int.toNat_natCast]; omega) ht h0
  have hyl := y.ext.le
  have hp : lwN c f B D ⟨5, x, b, lo, hi, set⟩ = ((catF (fewerF (lw c f B D x).1 ⟨5, x, b, lo, hi, set⟩).1 (lw c f B D x).2.2 (fewerF (lw c f B D x).1 ⟨5, x, b, lo, hi, set⟩).2).1, (lw c f B D x).2.1, (catF (fewerF (lw c f B D x).1 ⟨5, x, b, lo, hi, set⟩).1 (lw c f B D x).2.2 (fewerF (lw c f B D x).1 ⟨5, x, b, lo, hi, set⟩).2).2) := by
    unfold lwN
    rw [if_neg (by simp), if_neg (by simp), if_neg (by simp), if_pos rfl]
    rfl
  rw [hp]
  have BW := Lib.hid (fun o => (Below.refl w.heap.size w).alloc (Nat.le_refl _) o)
  have BD := Lib.hid ((BW.out (.cells #[.int .i64 5, .int .i64 (x : Nat), .int .i64 b, .int .i64 lo, .int .i64 hi, .int .i64 set] 35)).trans (below_drew _))
  have NB := Lib.hid ((nbox_new w ⟨5, (x : Nat), b, lo, hi, set⟩).below (below_drew _))
  have HD := Lib.hid (h.next BD.out)
  have hyo := young (N := w.heap.size) h.book (fun hr => (rowsOf_same (BD.out.block bb l1) _).1 hr) (Nat.le_refl _)
  have HYO := Lib.hid hyo
  have C1 := Lib.hid (ih B D x _ HD.out hm hk hx hxl)
  have C2 := Lib.hid (fun X (hX : BookAt w0 bb M (lw c f B D x).1 X) => fewer_any hX p.mem.good (n := ⟨5, (x : Nat), b, lo, hi, set⟩) ha (by dsimp only; rw [Int.toNat_natCast]; omega) ht h0)
  have C3 := Lib.hid (fun X (hX : BookAt w0 bb M (fewerF (lw c f B D x).1 ⟨5, x, b, lo, hi, set⟩).1 X) => cat_any hX y.good (x := (lw c f B D x).2.2) (y := (fewerF (lw c f B D x).1 ⟨5, x, b, lo, hi, set⟩).2) (by have := p.lt; omega) y.lt)
  have hsz : w.heap.size < ((w.alloc (.cells #[.int .i64 5, .int .i64 (x : Nat), .int .i64 b, .int .i64 lo, .int .i64 hi, .int .i64 set] 35)).drew).heap.size := by simp
  have c0 := HD.out.c0
  have c0w := h.c0
  unfold aggN at C2 ⊢
  dsimp only at C2 ⊢
  generalize hP : lw c f B D x = P at *
  generalize hQ : fewerF P.1 ⟨5, x, b, lo, hi, set⟩ = Q at *
  generalize hR : catF Q.1 P.2.2 Q.2 = R at *
  unfold LeftAt at C1 ⊢
  unfold OpAt at C2 C3
  clear hp p y hP hQ hR hm hk h ih hyo hpl hyl
  go_enter Tryz.func98, Tryz.ntmps98
  go_wp2
  go_region_held3 (fun X => X.cell? ⟨sb, 0, none⟩ = some (.pointer (some ⟨bb, 0, none⟩)) ∧ X.cell? ⟨w.heap.size, 0, none⟩ = some (.int .i64 5) ∧ X.cell? ⟨w.heap.size, 1, none⟩ = some (.int .i64 (x : Nat)) ∧ X.cell? ⟨w.heap.size, 2, none⟩ = some (.int .i64 b) ∧ X.cell? ⟨w.heap.size, 3, none⟩ = some (.int .i64 lo) ∧ X.cell? ⟨w.heap.size, 4, none⟩ = some (.int .i64 hi) ∧ X.cell? ⟨w.heap.size, 5, none⟩ = some (.int .i64 set)) (first | exact ⟨by assumption, by assumption, by assumption, by assumption, by assumption, by assumption, by assumption⟩ | go_keep)
    (first
      | (go_at_call 60; ((with_reducible refine C1.out.mono ?_); rintro e w1 ⟨rfl, h1, k1⟩); go_must (have nb := NB.out.fm k1 (by omega) (by omega) (by omega) HYO.out; have m0 := nb.at'.c0; have m1 := nb.at'.c1; have m2 := nb.at'.c2; have m3 := nb.at'.c3; have m4 := nb.at'.c4; have m5 := nb.at'.c5; have H1 := Lib.hid h1; have p0 := h1.c0; have NB1 := Lib.hid nb; have Y1 := Lib.hid (k1.young HYO.out hsz); have K1 := Lib.hid k1; have hs1 := k1.size; clear nb h1 k1 C1))
      | (go_at_call 81; ((with_reducible refine (C2.out _ H1.out.book).mono ?_); rintro e w2 ⟨rfl, h2, k2⟩); go_must (have nb := NB1.out.fz k2 (by omega) (by omega) Y1.out; have r0 := nb.at'.c0; have r1 := nb.at'.c1; have r2 := nb.at'.c2; have r3 := nb.at'.c3; have r4 := nb.at'.c4; have r5 := nb.at'.c5; have H2 := Lib.hid (H1.out.kb h2 k2); have s0 := H2.out.c0; have NB2 := Lib.hid nb; have Y2 := Lib.hid (show ¬ rowsOf w2 bb w.heap.size from fun hr => (k2.rows _ hr).elim Y1.out (fun hge => by omega)); have K2 := Lib.hid k2; clear nb h2 k2 C2 m0 m1 m2 m3 m4 m5 p0))
      | (go_at_call 80; ((with_reducible refine (C3.out _ H2.out.book).mono ?_); rintro e w3 ⟨rfl, h3, k3⟩); go_must (have nb := NB2.out.fz k3 (by omega) (by omega) Y2.out; have t0 := nb.at'.c0; have t1 := nb.at'.c1; have t2 := nb.at'.c2; have t3 := nb.at'.c3; have t4 := nb.at'.c4; have t5 := nb.at'.c5; have H3 := Lib.hid (H2.out.kb h3 k3); have u0 := H3.out.c0; have K3 := Lib.hid k3; clear nb h3 k3 C3 r0 r1 r2 r3 r4 r5 s0))
      | fail)
  go_wp2
  go_ret
  exact ⟨rfl, H3.out, ((Fm.of_below BD.out l1).trans K1.out).trans (Fm.of_fz (K2.out.trans K3.out))⟩
end
end Go.Proofs.YtjmdlioakkibcaaGreatDoor.Dv

namespace Go.Proofs.YtjmdlioakkibcaaGreatDoor.Dv
open Go Go.RowKit Go.Shelf Go.Maps
open Go.Proofs.YtjmdlioakkibcaaGreatDoor.Ar (timesB Nd nd nodeB nodeB_ways NRow cellsN aggN flatN Book WfN Wf NodeAt node_new nodes_of_row)
open Go.Proofs.YtjmdlioakkibcaaGreatDoor.Rg (R RngsAt RowsAt nthL add_zero own_next has_any inB)
section
variable {w0 w w' : World} {bb M sb Md : Nat} {c : Int} {B B0 : Bk} {D : Mm} {f : Nat}
set_option maxRecDepth 100000 in
set_option maxHeartbeats 8000000 in
theorem lcat_any (g0 : Good B0) (ih : LeftOk w0 bb M sb Md c B0 f) (h : StAt w0 bb M sb Md c B D w) (hm : Lem c B0 B D) (hk : (D.map Prod.fst).Nodup) {n : Nd} (h3 : n.op = 3) (ha : 0 ≤ n.a) (hb : 0 ≤ n.b) (hx : n.a.toNat < f) (hy : n.b.toNat < f) (hxl : n.a.toNat < B0.parts.length) (hyl : n.b.toNat < B0.parts.length) :
    Calls Tryz.prog 96 #[.pointer (some ⟨sb, 0, none⟩), aggN n] w (LeftAt w0 bb M sb Md c w (lwN c f B D n)) := by
  obtain ⟨op, a, b, lo, hi, set⟩ := n
  dsimp only at h3 ha hb hx hy hxl hyl
  subst h3
  obtain ⟨x, rfl⟩ := Int.eq_ofNat_of_zero_le ha
  obtain ⟨y, rfl⟩ := Int.eq_ofNat_of_zero_le hb
  rw [Int.toNat_natCast] at hx hy hxl hyl
  obtain ⟨l1, l2, l3, l4, l5, l6, _⟩ := h.ltAll
  have p := lw_out g0 f B D x hm hx hxl
  have kp := lw_keys g0 f B D x hm hk hx hxl
  have hpl := p.mem.ext.le
  have k := catF_out p.mem.good p.lt (y := y) (by omega)
  have hkl := k.ext.le
  have hm1 := p.mem.next k.good k.ext
  have q := lw_out g0 f _ _ y hm1 hy hyl
  have hql := q.ext.le
  have hp : lwN c f B D ⟨3, x, y, lo, hi, set⟩ = if bareAt (catF (lw c f B D x).1 (lw c f B D x).2.2 y).1 x = true then
      ((altF (lw c f (catF (lw c f B D x).1 (lw c f B D x).2.2 y).1 (lw c f B D x).2.1 y).1 (catF (lw c f B D x).1 (lw c f B D x).2.2 y).2 (lw c f (catF (lw c f B D x).1 (lw c f B D x).2.2 y).1 (lw c f B D x).2.1 y).2.2).1,
        (lw c f (catF (lw c f B D x).1 (lw c f B D x).2.2 y).1 (lw c f B D x).2.1 y).2.1,
        (altF (lw c f (catF (lw c f B D x).1 (lw c f B D x).2.2 y).1 (lw c f B D x).2.1 y).1 (catF (lw c f B D x).1 (lw c f B D x).2.2 y).2 (lw c f (catF (lw c f B D x).1 (lw c f B D x).2.2 y).1 (lw c f B D x).2.1 y).2.2).2)
    else ((catF (lw c f B D x).1 (lw c f B D x).2.2 y).1, (lw c f B D x).2.1, (catF (lw c f B D x).1 (lw c f B D x).2.2 y).2) := by
    unfold lwN
    rw [if_neg (by simp), if_pos rfl]
    rfl
  rw [hp]
  have BW := Lib.hid (fun o => (Below.refl w.heap.size w).alloc (Nat.le_refl _) o)
  have BD := Lib.hid ((BW.out (.cells #[.int .i64 3, .int .i64 (x : Nat), .int .i64 (y : Nat), .int .i64 lo, .int .i64 hi, .int .i64 set] 35)).trans (below_drew _))
  have NB := Lib.hid ((nbox_new w ⟨3, (x : Nat), (y : Nat), lo, hi, set⟩).below (below_drew _))
  have HD := Lib.hid (h.next BD.out)
  have hyo := young (N := w.heap.size) h.book (fun hr => (rowsOf_same (BD.out.block bb l1) _).1 hr) (Nat.le_refl _)
  have HYO := Lib.hid hyo
  have C1 := Lib.hid (ih B D x _ HD.out hm hk hx hxl)
  have C2 := Lib.hid (fun X (hX : BookAt w0 bb M (lw c f B D x).1 X) => cat_any hX p.mem.good (x := (lw c f B D x).2.2) (y := y) p.lt (by omega))
  have C3 := Lib.hid (fun X hX => ih _ _ y X hX hm1 kp.nodup hy hyl)
  have C4 := Lib.hid (fun X (hX : BookAt w0 bb M (lw c f (catF (lw c f B D x).1 (lw c f B D x).2.2 y).1 (lw c f B D x).2.1 y).1 X) => alt_any hX q.mem.good (x := (catF (lw c f B D x).1 (lw c f B D x).2.2 y).2) (y := (lw c f (catF (lw c f B D x).1 (lw c f B D x).2.2 y).1 (lw c f B D x).2.1 y).2.2) (by have := k.lt; omega) q.lt)
  have hsz : w.heap.size < ((w.alloc (.cells #[.int .i64 3, .int .i64 (x : Nat), .int .i64 (y : Nat), .int .i64 lo, .int .i64 hi, .int .i64 set] 35)).drew).heap.size := by simp
  have c0 := HD.out.c0
  have c0w := h.c0
  have gK := k.good
  have hxK : x < (catF (lw c f B D x).1 (lw c f B D x).2.2 y).1.parts.length := by omega
  generalize hP : lw c f B D x = P at *
  generalize hK : catF P.1 P.2.2 y = K at *
  generalize hQ : lw c f K.1 P.2.1 y = Q at *
  generalize hR : altF Q.1 K.2 Q.2.2 = R at *
  unfold LeftAt at C1 C3 ⊢
  unfold OpAt at C2 C4
  unfold aggN
  dsimp only
  clear hp p kp k q hm1 hP hK hQ hR hm hk h ih hyo hpl hkl hql
  obtain ⟨bx, hbx⟩ : ∃ bx, bx = bareAt K.1 x := ⟨_, rfl⟩
  rw [← hbx]
  have HBX := Lib.hid hbx
  clear hbx
  cases bx
  · rw [if_neg (by simp)]
    go_enter Tryz.func96, Tryz.ntmps96
    go_wp2
    go_region_held3 (fun X => X.cell? ⟨sb, 0, none⟩ = some (.pointer (some ⟨bb, 0, none⟩)) ∧ X.cell? ⟨w.heap.size, 1, none⟩ = some (.int .i64 (x : Nat)) ∧ X.cell? ⟨w.heap.size, 2, none⟩ = some (.int .i64 (y : Nat))) (first | exact ⟨by assumption, by assumption, by assumption⟩ | go_keep)
      (first
        | (go_at_call 60; ((with_reducible refine C1.out.mono ?_); rintro e w1 ⟨rfl, h1, k1⟩); go_must (have nb := NB.out.fm k1 (by omega) (by omega) (by omega) HYO.out; have m1 := nb.at'.c1; have m2 := nb.at'.c2; have H1 := Lib.hid h1; have p0 := h1.c0; have NB1 := Lib.hid nb; have Y1 := Lib.hid (k1.young HYO.out hsz); have K1 := Lib.hid k1; have hs1 := k1.size; clear nb h1 k1 C1))
        | (go_at_call 80; ((with_reducible refine (C2.out _ H1.out.book).mono ?_); rintro e w2 ⟨rfl, h2, k2⟩); go_must (have nb := NB1.out.fz k2 (by omega) (by omega) Y1.out; have r1 := nb.at'.c1; have r2 := nb.at'.c2; have H2 := Lib.hid (H1.out.kb h2 k2); have r0 := H2.out.c0; have NB2 := Lib.hid nb; have Y2 := Lib.hid (show ¬ rowsOf w2 bb w.heap.size from fun hr => (k2.rows _ hr).elim Y1.out (fun hge => by omega)); have K2 := Lib.hid (((Fm.of_below BD.out l1).trans K1.out).trans (Fm.of_fz (Md := Md) k2)); have hs2 := k2.size; clear nb h2 k2 C2 m1 m2 p0))
        | fail)
    clear c0w c0
    obtain ⟨pv, sv, bv, xs, hb2⟩ := H2.out.book
    have b2 := hb2.cell2
    obtain ⟨gb, cap, rfl, hlb, hcx⟩ := hb2.bareAt gK hxK
    rw [← HBX.out] at hcx
    have HDQ := Lib.hid (fun nq => H2.out.next (Rg.below_drewN w2 nq))
    have BDQ := Lib.hid (fun nq => Rg.below_drewN w2 nq)
    have hlt2 := H2.out.ltAll.1
    clear hb2
    have hxi : (x : Int) < (K.1.parts.length : Int) := by omega
    go_wp2
    go_quiet (fail)
    go_wp2
    go_ret
    exact ⟨rfl, HDQ.out _, K2.out.trans (Fm.of_below (BDQ.out _) hlt2)⟩
  · rw [if_pos rfl]
    go_enter Tryz.func96, Tryz.ntmps96
    go_wp2
    go_region_held3 (fun X => X.cell? ⟨sb, 0, none⟩ = some (.pointer (some ⟨bb, 0, none⟩)) ∧ X.cell? ⟨w.heap.size, 1, none⟩ = some (.int .i64 (x : Nat)) ∧ X.cell? ⟨w.heap.size, 2, none⟩ = some (.int .i64 (y : Nat))) (first | exact ⟨by assumption, by assumption, by assumption⟩ | go_keep)
      (first
        | (go_at_call 60; ((with_reducible refine C1.out.mono ?_); rintro e w1 ⟨rfl, h1, k1⟩); go_must (have nb := NB.out.fm k1 (by omega) (by omega) (by omega) HYO.out; have m1 := nb.at'.c1; have m2 := nb.at'.c2; have H1 := Lib.hid h1; have p0 := h1.c0; have NB1 := Lib.hid nb; have Y1 := Lib.hid (k1.young HYO.out hsz); have K1 := Lib.hid k1; have hs1 := k1.size; clear nb h1 k1 C1))
        | (go_at_call 80; ((with_reducible refine (C2.out _ H1.out.book).mono ?_); rintro e w2 ⟨rfl, h2, k2⟩); go_must (have nb := NB1.out.fz k2 (by omega) (by omega) Y1.out; have r1 := nb.at'.c1; have r2 := nb.at'.c2; have H2 := Lib.hid (H1.out.kb h2 k2); have r0 := H2.out.c0; have NB2 := Lib.hid nb; have Y2 := Lib.hid (show ¬ rowsOf w2 bb w.heap.size from fun hr => (k2.rows _ hr).elim Y1.out (fun hge => by omega)); have K2 := Lib.hid (((Fm.of_below BD.out l1).trans K1.out).trans (Fm.of_fz (Md := Md) k2)); have hs2 := k2.size; clear nb h2 k2 C2 m1 m2 p0))
        | fail)
    clear c0w c0
    obtain ⟨pv, sv, bv, xs, hb2⟩ := H2.out.book
    have b2 := hb2.cell2
    obtain ⟨gb, cap, rfl, hlb, hcx⟩ := hb2.bareAt gK hxK
    rw [← HBX.out] at hcx
    have HDQ := Lib.hid (fun nq => H2.out.next (Rg.below_drewN w2 nq))
    have BDQ := Lib.hid (fun nq => Rg.below_drewN w2 nq)
    have hlt2 := H2.out.ltAll.1
    clear hb2
    have hxi : (x : Int) < (K.1.parts.length : Int) := by omega
    go_wp2
    go_quiet (fail)
    have FIN := Lib.hid (fun X (hb : Below w2.heap.size w2 X) => (show StAt w0 bb M sb Md c K.1 P.2.1 X ∧ NBox X w.heap.size ⟨3, x, y, lo, hi, set⟩ ∧ ¬ rowsOf X bb w.heap.size ∧ w.heap.size < X.heap.size ∧ Fm bb M Md w X from ⟨H2.out.next hb, NB2.out.below hb, fun hr => Y2.out ((rowsOf_same (hb.block bb hlt2) _).1 hr), (by have := hb.size; omega), K2.out.trans (Fm.of_below hb hlt2)⟩))
    clear NB2 Y2 K2 H2 K1 H1 NB1 Y1 hcx b2
    have Z0 := Lib.hid (fun X (hb : Below w2.heap.size w2 X) => (FIN.out X hb).1.c0)
    go_upto_region 3 with fail
    generalize hw3 : w2.drewN _ = w3
    have hb3 : Below w2.heap.size w2 w3 := hw3 ▸ Rg.below_drewN w2 _
    clear hw3 HDQ BDQ
    obtain ⟨h3, n3, y3, s3, k3⟩ := FIN.out w3 hb3
    have d0 := h3.c0
    have d1 := n3.at'.c1
    have d2 := n3.at'.c2
    have hl3 := h3.ltAll.1
    have E0 := Lib.hid (h3.next (below_drew _))
    have E1 := Lib.hid (n3.below (below_drew _))
    have E2 := Lib.hid (show ¬ rowsOf w3.drew bb w.heap.size from y3)
    have E3 := Lib.hid (k3.trans (Fm.of_below (below_drew _) hl3))
    have s3' : w.heap.size < w3.drew.heap.size := s3
    have e0 := E0.out.c0
    have e1 := E1.out.at'.c1
    have e2 := E1.out.at'.c2
    clear h3 n3 y3 k3 FIN Z0 hb3
    go_region_held3 (fun X => X.cell? ⟨sb, 0, none⟩ = some (.pointer (some ⟨bb, 0, none⟩)) ∧ X.cell? ⟨w.heap.size, 2, none⟩ = some (.int .i64 (y : Nat))) (first | exact ⟨by assumption, by assumption⟩ | go_keep)
      (first
        | (go_at_call 60; ((with_reducible refine (C3.out _ E0.out).mono ?_); rintro e w4 ⟨rfl, h4, k4⟩); go_must (have nb := E1.out.fm k4 (by omega) (by omega) (by omega) E2.out; have m2 := nb.at'.c2; have H4 := Lib.hid h4; have p0 := h4.c0; have NB4 := Lib.hid nb; have Y4 := Lib.hid (k4.young E2.out s3'); have K4 := Lib.hid k4; have hs4 := k4.size; clear nb h4 k4 C3))
        | (go_at_call 59; ((with_reducible refine (C4.out _ H4.out.book).mono ?_); rintro e w5 ⟨rfl, h5, k5⟩); go_must (have nb := NB4.out.fz k5 (by omega) (by omega) Y4.out; have r2 := nb.at'.c2; have H5 := Lib.hid (H4.out.kb h5 k5); have r0 := H5.out.c0; have K5 := Lib.hid k5; clear nb h5 k5 C4 m2 p0))
        | fail)
    go_wp2
    go_ret
    exact ⟨rfl, H5.out, (E3.out.trans K4.out).trans (Fm.of_fz K5.out)⟩
end
end Go.Proofs.YtjmdlioakkibcaaGreatDoor.Dv

namespace Go.Proofs.YtjmdlioakkibcaaGreatDoor.Dv
open Go Go.RowKit Go.Shelf Go.Maps
open Go.Proofs.YtjmdlioakkibcaaGreatDoor.Ar (timesB Nd nd nodeB nodeB_ways NRow cellsN aggN flatN Book WfN Wf NodeAt node_new nodes_of_row)
open Go.Proofs.YtjmdlioakkibcaaGreatDoor.Rg (R RngsAt RowsAt nthL add_zero own_next has_any inB)
section
variable {w0 w w' : World} {bb M sb Md : Nat} {c : Int} {B B0 : Bk} {D : Mm} {f : Nat}
/-- the method of a kind -/
theorem methS_any (g0 : Good B0) (ih : LeftOk w0 bb M sb Md c B0 f) (h : StAt w0 bb M sb Md c B D w) (hm : Lem c B0 B D) (hk : (D.map Prod.fst).Nodup) {x : Nat} (hx : x ≤ f) (hxl : x < B0.parts.length) :
    Calls Tryz.prog (kindS (nd B.parts x).op) #[.pointer (some ⟨sb, 0, none⟩), aggN (nd B.parts x)] w (LeftAt w0 bb M sb Md c w (lwN c f B D (nd B.parts x))) := by
  have hnode := g0.node x hxl
  have hreps := g0.reps x hxl
  have hsl : B0.sets.length ≤ B.sets.length := hm.ext.sets.length_le
  rw [hm.ext.nd hxl]
  generalize nd B0.parts x = n at *
  unfold kindS
  rcases nodeB_ways hnode with ⟨h1, h2⟩ | ⟨h1, h2⟩ | ⟨h1 | h1, h2⟩ | ⟨h1, h2⟩
  · rw [if_neg (by omega), if_neg (by omega), if_neg (by omega), if_neg (by omega)]
    have e : lwN c f B D n = (B, D, 0) := by unfold lwN; rw [if_neg (by omega), if_neg (by omega), if_neg (by omega), if_neg (by omega)]
    rw [e]
    exact lempty_any h n
  · rw [if_pos h1]
    have e : lwN c f B D n = (B, D, if inB (B.sets.getD n.set.toNat []) c = true then 1 else 0) := by unfold lwN; rw [if_pos h1]
    rw [e]
    exact lset_any h (by omega) (by omega)
  · rw [if_neg (by omega), if_pos h1]
    exact lcat_any g0 ih h hm hk h1 (by omega) (by omega) (by omega) (by omega) (by omega) (by omega)
  · rw [if_neg (by omega), if_neg (by omega), if_pos h1]
    exact lalt_any g0 ih h hm hk h1 (by omega) (by omega) (by omega) (by omega) (by omega) (by omega)
  · rw [if_neg (by omega), if_neg (by omega), if_neg (by omega), if_pos h1]
    exact lrep_any g0 ih h hm hk h1 (by omega) (by omega) (by omega) (node_times hnode h1) (hreps h1)
theorem StAt.note (h : StAt w0 bb M sb Md c B D w) {i x : Nat} (hi : i < 1000000) (hx : x < 1000000) (hl : D.length < 1000000) (hn : D.lookup i = none) :
    ∃ w3, (Instr.mapUpdate 83 (.map (some Md)) (.int .i64 (i : Nat)) (.int .i64 (x : Nat))).run Tryz.prog w = .ok () w3 ∧ StAt w0 bb M sb Md c B ((i, x) :: D) w3 ∧ Fm bb M Md w w3 := by
  obtain ⟨w3, h1, h2, h3⟩ := istore h.done hi hx hl hn
  obtain ⟨_, _, _, _, h4, _⟩ := h.ltAll
  exact ⟨w3, h1, h.turned h2 h3, Fm.of_turned h3 h4⟩

set_option maxRecDepth 100000 in
set_option maxHeartbeats 8000000 in
theorem left_old (h : StAt w0 bb M sb Md c B D w) {x y : Nat} (hx : x < 1000000) (hy : D.lookup x = some y) :
    Calls Tryz.prog 60 #[.pointer (some ⟨sb, 0, none⟩), .int .i64 (x : Nat)] w (LeftAt w0 bb M sb Md c w (B, D, y)) := by
  have c2 := h.c2
  have hl := ilook_in h.done hx hy
  have HB := Lib.hid h
  have l1 := h.ltAll.1
  clear h hy
  go_enter Tryz.func60, Tryz.ntmps60
  go_wp2
  go_ret
  exact ⟨rfl, HB.out, Fm.of_below (Below.refl _ _) l1⟩

set_option maxRecDepth 100000 in
set_option maxHeartbeats 8000000 in
theorem left_new (g0 : Good B0) (ih : LeftOk w0 bb M sb Md c B0 f) (h : StAt w0 bb M sb Md c B D w) (hm : Lem c B0 B D) (hk : (D.map Prod.fst).Nodup) {x : Nat} (hx : x ≤ f) (hxl : x < B0.parts.length) (hy : D.lookup x = none) :
    Calls Tryz.prog 60 #[.pointer (some ⟨sb, 0, none⟩), .int .i64 (x : Nat)] w (LeftAt w0 bb M sb Md c w (lw c (f + 1) B D x)) := by
  have s0 := g0.small
  have o := lw_out g0 (f + 1) B D x hm (by omega) hxl
  have ok := lw_keys g0 (f + 1) B D x hm hk (by omega) hxl
  rw [lw_none hy] at o ok ⊢
  have hkn := ok.nodup
  rw [List.map_cons, List.nodup_cons] at hkn
  have hlen := o.mem.len ok.nodup
  have hlt := o.lt
  have hgs := o.mem.good.small
  dsimp only at hkn hlen hlt hgs
  rw [List.length_cons] at hlen
  have hnot := lookup_keys hkn.1
  have CP := Lib.hid (fun X (hX : StAt w0 bb M sb Md c B D X) => methS_any g0 ih hX hm hk hx hxl)
  have NOTE := Lib.hid (fun X (hX : StAt w0 bb M sb Md c (lwN c f B D (nd B.parts x)).1 (lwN c f B D (nd B.parts x)).2.1 X) => hX.note (i := x) (x := (lwN c f B D (nd B.parts x)).2.2) (by omega) (by omega) (by omega) hnot)
  obtain ⟨l1, l2, l3, l4, l5, l6, l7, _⟩ := h.ltAll
  have hxb : x < B.parts.length := by have := hm.ext.le; omega
  have c0 := h.c0
  have c2 := h.c2
  obtain ⟨cv, hlk0⟩ := ilook_out h.done (by omega) hy
  have hlk := hlk0 w (Below.refl _ _)
  obtain ⟨pv, sv, bv, xs, hb⟩ := h.book
  have b0 := hb.cell0
  obtain ⟨po, pcap, rfl, hpl, hpn⟩ := (nodes_of_row hb.parts).shape
  obtain ⟨ga, rfl, q0, q1, q2, q3, q4, q5⟩ := hpn x hxb
  have hxi : (x : Int) < (B.parts.length : Int) := by omega
  have BW := Lib.hid (fun o => (Below.refl w.heap.size w).alloc (Nat.le_refl _) o)
  have HB := Lib.hid h
  have hyo := fun X (hb : Below w.heap.size w X) => young (N := w.heap.size) h.book (fun hr => (rowsOf_same (w' := X) (hb.block bb l1) _).1 hr) (Nat.le_refl _)
  have HYO := Lib.hid hyo
  have PA := Lib.hid (fun X => reckoned_any (nd B.parts x).op X)
  have hE : ∀ (args : Array Value) (w : World), (callFunc (kindS (nd B.parts x).op) args).run Tryz.prog w = .ok (.enter (kindS (nd B.parts x).op) args) w := enters_s (nd B.parts x).op
  clear o ok hkn hlen hlt hgs hnot hlk0 hpn hb hyo hm hk ih hy h
  generalize lwN c f B D (nd B.parts x) = r at *
  generalize nd B.parts x = n at *
  unfold LeftAt at CP ⊢
  go_enter Tryz.func60, Tryz.ntmps60
  go_upto_region 5 with fail
  have BD := Lib.hid ((BW.out (.cells #[.int .i64 n.op, .int .i64 n.a, .int .i64 n.b, .int .i64 n.lo, .int .i64 n.hi, .int .i64 n.set] 35)).trans (below_drew _))
  have NB := Lib.hid ((nbox_new w n).below (below_drew _))
  have HD := Lib.hid (HB.out.next BD.out)
  have HY := Lib.hid (HYO.out _ BD.out)
  have e0 := NB.out.at'.c0
  have e1 := NB.out.at'.c1
  have e2 := NB.out.at'.c2
  have e3 := NB.out.at'.c3
  have e4 := NB.out.at'.c4
  have e5 := NB.out.at'.c5
  have z := (nbox_new w n).at'
  have z0 := z.c0
  have z1 := z.c1
  have z2 := z.c2
  have z3 := z.c3
  have z4 := z.c4
  have z5 := z.c5
  unfold aggN at CP
  clear z q0 q1 q2 q3 q4 q5 b0 c0 c2 hlk
  generalize hK : kindS n.op = K at *
  go_region_held3 (fun X => X.cell? ⟨w.heap.size, 0, none⟩ = some (.int .i64 n.op) ∧ X.cell? ⟨w.heap.size, 1, none⟩ = some (.int .i64 n.a) ∧ X.cell? ⟨w.heap.size, 2, none⟩ = some (.int .i64 n.b) ∧ X.cell? ⟨w.heap.size, 3, none⟩ = some (.int .i64 n.lo) ∧ X.cell? ⟨w.heap.size, 4, none⟩ = some (.int .i64 n.hi) ∧ X.cell? ⟨w.heap.size, 5, none⟩ = some (.int .i64 n.set)) (first | exact ⟨by assumption, by assumption, by assumption, by assumption, by assumption, by assumption⟩ | go_keep)
    (first
      | (go_at_call 76; ((with_reducible refine (PA.out _).mono ?_); rintro e w3 ⟨rfl, rfl⟩))
      | (go_at_fn K; ((with_reducible refine (CP.out _ HD.out).mono ?_); rintro e w4 ⟨rfl, h4, k4⟩); go_must (have nb := NB.out.fm k4 (by omega) (by omega) (by omega) HY.out; have m0 := nb.at'.c0; have m1 := nb.at'.c1; have m2 := nb.at'.c2; have m3 := nb.at'.c3; have m4 := nb.at'.c4; have m5 := nb.at'.c5; have K4 := Lib.hid ((Fm.of_below BD.out l1).trans k4); have s2 := h4.c2; obtain ⟨w5, hrun, h5, k5⟩ := NOTE.out _ h4; have H5 := Lib.hid h5; have K5 := Lib.hid k5; clear nb h4 k4 h5 k5))
      | fail)
  go_wp2
  go_ret
  exact ⟨rfl, H5.out, K4.out.trans K5.out⟩

theorem left_any (g0 : Good B0) : ∀ f, LeftOk w0 bb M sb Md c B0 f
  | 0 => fun B D x w _ _ _ h => by omega
  | f + 1 => fun B D x w h hm hk hx hxl => by
    have s0 := g0.small
    cases hy : D.lookup x with
    | some y => rw [lw_some hy]; exact left_old h (by omega) hy
    | none => exact left_new g0 (left_any g0 f) h hm hk (by omega) hxl hy
end
end Go.Proofs.YtjmdlioakkibcaaGreatDoor.Dv

namespace Go.Proofs.YtjmdlioakkibcaaGreatDoor.Dv
open Go Go.RowKit Go.Shelf Go.Maps
open Go.Proofs.YtjmdlioakkibcaaGreatDoor.Ar (timesB Nd nd nodeB nodeB_ways NRow cellsN aggN flatN Book WfN Wf NodeAt node_new nodes_of_row)
open Go.Proofs.YtjmdlioakkibcaaGreatDoor.Rg (R RngsAt RowsAt nthL add_zero own_next has_any inB)
section
variable {w0 w w' : World} {bb M : Nat} {c : Int} {B : Bk} {lv : Value} {l : List Nat}
/-- a step that begins -/
theorem step_new (h : BookAt w0 bb M B w) (c : Int) : StAt w0 bb M (w.heap.size + 1) w.heap.size c B [] ((w.alloc (.map #[] 0)).alloc (.cells #[.pointer (some ⟨bb, 0, none⟩), .int .i64 c, .map (some w.heap.size)] 107)) := by
  have b1 := (Below.refl w.heap.size w).alloc (Nat.le_refl _) (.map #[] 0)
  have b2 := (Below.refl (w.alloc (.map #[] 0)).heap.size _).alloc (Nat.le_refl _) (.cells #[.pointer (some ⟨bb, 0, none⟩), .int .i64 c, .map (some w.heap.size)] 107)
  obtain ⟨_, _, _, _, hb⟩ := h
  have hM := hb.ltM
  have h0 := hb.below.size
  have hs : (w.alloc (.map #[] 0)).heap.size = w.heap.size + 1 := by simp
  refine ⟨⟨_, _, _, _, (hb.next b1).next b2⟩, (imap_new w).kg (Kg.of_below b2 : Kg 0 (fun _ => False) (fun _ => False) _ _) id, by omega, h0, by omega, ?_⟩
  rw [← hs]
  exact World.alloc_heap_new _ _
abbrev Uh (bb M Md : Nat) : Nat → Prop := fun k => Ub bb M k ∨ k = Md
theorem Fm.kh {Md : Nat} {X Y : World} (k : Fm bb M Md X Y) (h : BookAt w0 bb M B X) (hd : w0.heap.size ≤ Md) : Kg w0.heap.size (Uh bb M Md) Tb X Y := by
  obtain ⟨pv, sv, bv, xs, h⟩ := h
  refine ⟨k.os, k.tape, k.output, k.size, fun i hi hc => k.block i hi ?_ ?_ ?_ ?_⟩
  · rintro rfl
    have := h.base
    rcases hc with hc | hc
    · omega
    · exact hc.1 (.inl (.inl rfl))
  · rintro rfl
    have := h.baseM
    rcases hc with hc | hc
    · omega
    · exact hc.1 (.inl (.inr rfl))
  · rintro rfl
    rcases hc with hc | hc
    · omega
    · exact hc.1 (.inr rfl)
  · intro hr
    obtain ⟨h1, cs, t, fz, h2, h3⟩ := h.rowTb hr
    rcases hc with hc | hc
    · omega
    · exact hc.2 cs t fz h2 h3
theorem wholeG_cons (c : Int) {l : List Nat} {k : Nat} (hk : k < l.length) (B : Bk) (D : Mm) (left : Nat) :
    wholeG c (l.drop k) B D left = wholeG c (l.drop (k + 1)) (altF (lw c (l.getD k 0 + 1) B D (l.getD k 0)).1 left (lw c (l.getD k 0 + 1) B D (l.getD k 0)).2.2).1 (lw c (l.getD k 0 + 1) B D (l.getD k 0)).2.1 (altF (lw c (l.getD k 0 + 1) B D (l.getD k 0)).1 left (lw c (l.getD k 0 + 1) B D (l.getD k 0)).2.2).2 := by
  rw [List.drop_eq_getElem_cons hk, show l.getD k 0 = l[k] by simp [List.getD, hk]]
  rfl

set_option maxRecDepth 100000 in
set_option maxHeartbeats 16000000 in
theorem whole_any (h : BookAt w0 bb M B w) (g : Good B) (hr : RowI w lv l) (hl : ∀ x, x ∈ l → x < B.parts.length) :
    Calls Tryz.prog 39 #[.pointer (some ⟨bb, 0, none⟩), lv, .int .i64 c] w (WayAt w0 bb M w (wholeF B l c)) := by
  obtain ⟨ao, cap, rfl, hm, _⟩ := hr.at'
  have hbk := h
  obtain ⟨pv, sv, bv, xs, hb⟩ := hbk
  have hws := hb.below.size
  have hne : ∀ k, (Value.slice ao l.length cap).ownBlock = some k → ¬ Uh bb M w.heap.size k := fun k hk e => by
    have h1 := hr.lt hk
    rcases e with (e | e) | e
    · exact hr.ne hb.box (fun _ _ e => by cases e) hk e
    · obtain ⟨D, h2, _⟩ := hb.map.map
      obtain ⟨es, clock, hh, _⟩ := h2
      exact hr.ne hh (fun _ _ e => by cases e) hk e
    · omega
  have HNE := Lib.hid hne
  have b2 : Below w.heap.size w ((w.alloc (.map #[] 0)).alloc (.cells #[.pointer (some ⟨bb, 0, none⟩), .int .i64 c, .map (some w.heap.size)] 107)) := ((Below.refl w.heap.size w).alloc (Nat.le_refl _) _).alloc (by simp) _
  have S0 := Lib.hid (step_new h c)
  have R0 := Lib.hid (hr.below b2)
  have B0 := Lib.hid (Kg.of_below b2 : Kg w0.heap.size (Uh bb M w.heap.size) Tb w _)
  have L0 := Lib.hid (show Lem c B B [] from ⟨g, Ext.refl B, fun p hp => (by cases hp), fun _ p hp => (by cases hp)⟩)
  have HL := Lib.hid hl
  have two := g.two
  have hF : ∀ p, wholeG c l B [] 0 = p → wholeF B l c = (p.1, if p.2 = 0 then [] else [p.2]) := fun p hp => by unfold wholeF; rw [hp]
  have HF := Lib.hid hF
  have HG := Lib.hid g
  clear hr hl hb h hne b2 hF
  have hmm := @run_makeMap Tryz.prog
  go_enter Tryz.func39, Tryz.ntmps39
  go_wp2
  go_loopw [8, 17] (fun lf i wr => ∃ (k : Nat) (C : Bk) (D : Mm) (left : Nat), lf = .int .i64 (left : Nat) ∧ i = .int .i64 k ∧ k ≤ l.length ∧ StAt w0 bb M (w.heap.size + 1) w.heap.size c C D wr ∧ Lem c B C D ∧ (D.map Prod.fst).Nodup ∧ left < C.parts.length ∧ wholeG c (l.drop k) C D left = wholeG c l B [] 0 ∧ RowI wr (.slice ao l.length cap) l ∧ Kg w0.heap.size (Uh bb M w.heap.size) Tb w wr) (fun _ i _ => l.length - (intOf i).toNat)
  case atStart => exact ⟨0, B, [], 0, rfl, rfl, Nat.zero_le _, S0.out, L0.out, List.nodup_nil, by omega, rfl, R0.out, B0.out⟩
  case round =>
    clear hmm
    obtain ⟨k, C, D, left, rfl, rfl, hk, hS, hLe, hnd, hleft, hw, hrow, hbel⟩ := hrel
    have HS := Lib.hid hS
    have HB := Lib.hid hbel
    have HR := Lib.hid hrow
    have hsz := hbel.size
    by_cases hlt : k < l.length
    · obtain ⟨ga, rfl, c1⟩ := HR.out.cellI hlt
      have n1 : (k : Int) < l.length := by omega
      have hxl := HL.out (l.getD k 0) (by simp [List.getD, hlt])
      rw [wholeG_cons c hlt] at hw
      have HW := Lib.hid hw
      generalize l.getD k 0 = x at *
      have p := lw_out HG.out (x + 1) C D x hLe (by omega) hxl
      have kp := lw_keys HG.out (x + 1) C D x hLe hnd (by omega) hxl
      have m := altF_out p.mem.good (x := left) (Nat.lt_of_lt_of_le hleft p.ext.le) p.lt
      have C1 := Lib.hid (left_any HG.out (x + 1) C D x wr hS hLe hnd (by omega) hxl)
      have C2 := Lib.hid (fun X (hX : BookAt w0 bb M (lw c (x + 1) C D x).1 X) => alt_any hX p.mem.good (x := left) (y := (lw c (x + 1) C D x).2.2) (Nat.lt_of_lt_of_le hleft p.ext.le) p.lt)
      have HN := Lib.hid (p.mem.next m.good m.ext)
      have HK := Lib.hid kp.nodup
      have HM := Lib.hid m.lt
      unfold LeftAt at C1
      unfold OpAt at C2
      generalize lw c (x + 1) C D x = P at *
      generalize altF P.1 left P.2.2 = Q at *
      clear p kp m hS hLe hnd hleft hw hrow hbel hxl
      go_wp2_with (first
        | (go_at_call 60; (with_reducible refine C1.out.mono ?_); rintro e w1 ⟨rfl, h1, k1⟩; go_must (have H1 := Lib.hid h1; have K1 := Lib.hid (HB.out.trans (k1.kh HS.out.book hws)); have R1 := Lib.hid (HR.out.kg (k1.kh HS.out.book hws) (by unfold Tb; decide) HNE.out); clear h1 k1))
        | (go_at_call 59; (with_reducible refine (C2.out _ H1.out.book).mono ?_); rintro e w2 ⟨rfl, h2, k2⟩; go_must (have H2 := Lib.hid (H1.out.kb h2 k2); have K2 := Lib.hid (K1.out.trans ((Fm.of_fz (Md := w.heap.size) k2).kh H1.out.book hws)); have R2 := Lib.hid (R1.out.kg ((Fm.of_fz (Md := w.heap.size) k2).kh H1.out.book hws) (by unfold Tb; decide) HNE.out); clear h2 k2))
        | fail)
      go_roundw
      case rel => exact ⟨k + 1, Q.1, P.2.1, Q.2, rfl, by go_num, by omega, H2.out, HN.out, HK.out, HM.out, HW.out, R2.out, K2.out⟩
      case measure => simp [intOf]; omega
    · obtain rfl : k = l.length := by omega
      rw [List.drop_length] at hw
      have hf := HF.out (C, left) hw.symm
      have KK := Lib.hid (HB.out.mono (V := Ub bb M) (S := Tw) (fun k hk hU => hU.elim id (fun e => by omega)) (fun _ h => .inl h))
      dsimp only at hf
      clear hw HF hLe hnd hleft hrow hbel hS
      by_cases h0 : left = 0
      · subst h0
        rw [if_pos rfl] at hf
        have HFF := Lib.hid hf
        clear hf
        go_wp2
        go_ret
        rw [HFF.out]
        exact ⟨_, rfl, .inl ⟨rfl, rfl⟩, HS.out.book, KK.out⟩
      · rw [if_neg h0] at hf
        have HFF := Lib.hid hf
        have f0 := nz h0
        have BW := Lib.hid (fun o => (Below.refl wr.heap.size wr).alloc (Nat.le_refl _) o)
        clear h0 hf
        go_wp2
        go_ret
        rw [HFF.out]
        refine ⟨_, rfl, .inr ⟨wr.heap.size, 1, _, rfl, (by unfold maxLen; simp), World.alloc_heap_new wr _, ?_⟩, ?_, KK.out.trans (Kg.of_below (BW.out _))⟩
        · simp [castL]
        · exact (HS.out.next (BW.out _)).book
end
end Go.Proofs.YtjmdlioakkibcaaGreatDoor.Dv

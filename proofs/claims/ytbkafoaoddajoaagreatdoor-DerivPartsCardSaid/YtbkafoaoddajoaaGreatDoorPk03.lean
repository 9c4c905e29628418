/- The box of a tree; what Check tells, way by way. What a call may turn, told by the blocks. What every card with an argument in memory wants. The book: a map whose keys are nodes. Sets of rows of numbers in plain words: one row behind the other, so many times, what is left behind a number. A book of parts in plain words: what each call tells, and which rows each part has. -/
import Derived.Test.YtbkafoaoddajoaaGreatDoorPk02
import Derived.Deep.DeepMust
import Derived.BigQuiet
import Derived.Deep.QuietTactic
import Derived.Test.YtbkafoaoddajoaaGreatDoorChecked
import Derived.Carry
import Derived.WalkKit
import Derived.Maps.OwnSet
import Derived.Maps.OwnOps
import Derived.DeepKeys4
import Derived.Laws.MakeOwn
import Derived.Laws.OwnMore

namespace Go.Proofs.YtbkafoaoddajoaaGreatDoor.Ar
open Go Go.RowKit Go.Shelf
open Go.Proofs.YtbkafoaoddajoaaGreatDoor.Rg (R RngsAt RowsAt nthL add_zero own_next)

def cellsN (n : Nd) : List Value := [.int .i64 n.op, .int .i64 n.a, .int .i64 n.b, .int .i64 n.lo, .int .i64 n.hi, .int .i64 n.set]
def aggN (n : Nd) : Value := .agg #[.int .i64 n.op, .int .i64 n.a, .int .i64 n.b, .int .i64 n.lo, .int .i64 n.hi, .int .i64 n.set]
def flatN (l : List Nd) : List Value := l.flatMap cellsN
theorem flatN_snoc (l : List Nd) (n : Nd) : flatN (l ++ [n]) = flatN l ++ cellsN n := by simp [flatN]
theorem flatN_append (l k : List Nd) : flatN (l ++ k) = flatN l ++ flatN k := by simp [flatN]
theorem flatN_len : ∀ l : List Nd, (flatN l).length = l.length * 6
  | [] => rfl
  | p :: r => by
    have := flatN_len r
    simp only [flatN, List.flatMap_cons, List.length_append, List.length_cons, List.length_nil, cellsN] at this ⊢
    omega
theorem flatN_at : ∀ (l : List Nd) (i : Nat), i < l.length → (flatN l)[i * 6]? = some (.int .i64 (nd l i).op) ∧ (flatN l)[i * 6 + 1]? = some (.int .i64 (nd l i).a) ∧ (flatN l)[i * 6 + 2]? = some (.int .i64 (nd l i).b) ∧ (flatN l)[i * 6 + 3]? = some (.int .i64 (nd l i).lo) ∧ (flatN l)[i * 6 + 4]? = some (.int .i64 (nd l i).hi) ∧ (flatN l)[i * 6 + 5]? = some (.int .i64 (nd l i).set)
  | [], i, h => by simp at h
  | p :: r, 0, h => by simp [flatN, nd, cellsN]
  | p :: r, i + 1, h => by
    have := flatN_at r i (by simpa using h)
    rw [show (i + 1) * 6 = (i * 6) + 1 + 1 + 1 + 1 + 1 + 1 by omega]
    simpa [flatN, nd, cellsN] using this
theorem flatN_one {l : List Nd} : ∀ u ∈ flatN l, u.oneCell' = true := by
  intro u hu
  simp only [flatN, List.mem_flatMap, cellsN, List.mem_cons, List.not_mem_nil, or_false] at hu
  obtain ⟨p, _, h⟩ := hu
  rcases h with rfl | rfl | rfl | rfl | rfl | rfl <;> simp [Value.oneCell']

/-- six cells from an address on -/
structure NodeAt (w : World) (g : Addr) (n : Nd) : Prop where
  c0 : w.cell? g = some (.int .i64 n.op)
  c1 : w.cell? ⟨g.block, g.off + 1, none⟩ = some (.int .i64 n.a)
  c2 : w.cell? ⟨g.block, g.off + 2, none⟩ = some (.int .i64 n.b)
  c3 : w.cell? ⟨g.block, g.off + 3, none⟩ = some (.int .i64 n.lo)
  c4 : w.cell? ⟨g.block, g.off + 4, none⟩ = some (.int .i64 n.hi)
  c5 : w.cell? ⟨g.block, g.off + 5, none⟩ = some (.int .i64 n.set)
theorem NodeAt.same {w w' : World} {g : Addr} {n : Nd} (h : NodeAt w g n) (hb : w'.heap[g.block]? = w.heap[g.block]?) : NodeAt w' g n := by
  have e : ∀ o, w'.cell? ⟨g.block, o, none⟩ = w.cell? ⟨g.block, o, none⟩ := fun o => World.cell?_of_block hb
  exact ⟨(World.cell?_of_block hb).trans h.c0, (e _).trans h.c1, (e _).trans h.c2, (e _).trans h.c3, (e _).trans h.c4, (e _).trans h.c5⟩
theorem NodeAt.next {w w' : World} {g : Addr} {n : Nd} (h : NodeAt w g n) (hb : Below w.heap.size w w') : NodeAt w' g n := h.same (hb.block _ (cell_lt h.c0))
theorem node_new (w : World) (n : Nd) (t : TypeId) : NodeAt (w.alloc (.cells #[.int .i64 n.op, .int .i64 n.a, .int .i64 n.b, .int .i64 n.lo, .int .i64 n.hi, .int .i64 n.set] t)) ⟨w.heap.size, 0, none⟩ n := by
  constructor <;> (rw [World.cell?_alloc_new]; rfl)

/-- a slice that reads as these nodes -/
def NodesAt (w : World) (v : Value) (l : List Nd) : Prop :=
  (v = .slice none 0 0 ∧ l = []) ∨ ∃ (a : Addr) (cap : Nat), v = .slice (some a) l.length cap ∧ l.length ≤ maxLen ∧ ∀ i, i < l.length → NodeAt w (a.add (i * 6)) (nd l i)
theorem NodesAt.next {w w' : World} {v : Value} {l : List Nd} (h : NodesAt w v l) (hb : Below w.heap.size w w') : NodesAt w' v l := by
  rcases h with h | ⟨a, cap, hv, hm, hc⟩
  · exact .inl h
  · exact .inr ⟨a, cap, hv, hm, fun i hi => (hc i hi).next hb⟩
theorem NodesAt.shape {w : World} {v : Value} {l : List Nd} (h : NodesAt w v l) :
    ∃ (ao : Option Addr) (cap : Nat), v = .slice ao l.length cap ∧ l.length ≤ 9223372036854775807 ∧ ∀ i, i < l.length → ∃ g, ao = some g ∧ NodeAt w (g.add (i * 6)) (nd l i) := by
  rcases h with ⟨rfl, rfl⟩ | ⟨a, cap, hv, hm, hc⟩
  · exact ⟨none, 0, rfl, by simp, fun i hi => by simp at hi⟩
  · exact ⟨some a, cap, hv, by unfold maxLen at hm; omega, fun i hi => ⟨a, rfl, hc i hi⟩⟩
/-- nodes that the call owns -/
abbrev NRow (w : World) (B : Nat) (v : Value) (l : List Nd) : Prop := w.ownsRow B 35 6 v l.length (flatN l)
theorem nodes_of_row {w : World} {B : Nat} {v : Value} {l : List Nd} (h : NRow w B v l) : NodesAt w v l := by
  rcases h.2 with ⟨rfl, h0⟩ | ⟨g, cap, cur, rfl, _, hg, hn, hm, hcs, ht⟩
  · exact .inl ⟨rfl, List.eq_nil_of_length_eq_zero h0⟩
  · have hx : ∀ j x, (flatN l)[j]? = some x → w.cell? ⟨g, j, none⟩ = some x := fun j x hj => by
      rw [← ht, List.getElem?_take] at hj
      split at hj
      · simp [World.cell?, hg]; simpa using hj
      · cases hj
    refine .inr ⟨⟨g, 0, none⟩, cap, rfl, by omega, fun i hi => ?_⟩
    obtain ⟨h0, h1, h2, h3, h4, h5⟩ := flatN_at l i hi
    rw [add_zero]
    exact ⟨hx _ _ h0, hx _ _ h1, hx _ _ h2, hx _ _ h3, hx _ _ h4, hx _ _ h5⟩

/-- a tree as a value -/
structure TreeAt (w : World) (v : Value) (t : Tr) : Prop where
  mk' : ∃ vn vs, v = .agg #[vn, vs, .int .i64 t.root] ∧ NodesAt w vn t.ns ∧ RowsAt w vs t.sets
theorem TreeAt.next {w w' : World} {v : Value} {t : Tr} (h : TreeAt w v t) (hb : Below w.heap.size w w') : TreeAt w' v t := by
  obtain ⟨vn, vs, e, h1, h2⟩ := h
  exact ⟨vn, vs, e, h1.next hb, h2.next hb⟩
theorem TreeAt.shape {w : World} {v : Value} {t : Tr} (h : TreeAt w v t) : ∃ (ao : Option Addr) (cap : Nat) (so : Option Addr) (scap : Nat), v = .agg #[.slice ao t.ns.length cap, .slice so t.sets.length scap, .int .i64 t.root] ∧ t.ns.length ≤ 9223372036854775807 ∧ t.sets.length ≤ 9223372036854775807 ∧
    (∀ i, i < t.ns.length → ∃ g, ao = some g ∧ NodeAt w (g.add (i * 6)) (nd t.ns i)) ∧ (∀ i, i < t.sets.length → ∃ g x, so = some g ∧ w.cell? (g.add i) = some x ∧ RngsAt w x (nthL t.sets i)) := by
  obtain ⟨vn, vs, e, h1, h2⟩ := h
  obtain ⟨ao, cap, rfl, hm, hc⟩ := h1.shape
  obtain ⟨so, scap, rfl, hm2, hc2⟩ := h2.shape
  exact ⟨ao, cap, so, scap, e, hm, hm2, hc, hc2⟩

theorem infoN : (Tryz.prog.info? 35).map (fun i => (i.zero, i.size, i.bytes)) = some (some (.agg #[.int .i64 0, .int .i64 0, .int .i64 0, .int .i64 0, .int .i64 0, .int .i64 0]), 6, 48) := by kernel_rfl

end Go.Proofs.YtbkafoaoddajoaaGreatDoor.Ar

namespace Go.Proofs.YtbkafoaoddajoaaGreatDoor.Ar
open Go Go.RowKit Go.Shelf
open Go.Proofs.YtbkafoaoddajoaaGreatDoor.Rg (R RngsAt RowsAt nthL add_zero own_next)

theorem ret_e {a b : Int} (h : a = b) : Ending.returned (.int .i64 a) = .returned (.int .i64 b) := by rw [h]
/-- the box of a tree -/
def boxT (vn vs : Value) (r : Int) : Obj := .cells #[vn, vs, .int .i64 r] 25
structure TBox (W : World) (b : Nat) (vn vs : Value) (r : Int) : Prop where
  c0 : W.cell? ⟨b, 0, none⟩ = some vn
  c1 : W.cell? ⟨b, 1, none⟩ = some vs
  c2 : W.cell? ⟨b, 2, none⟩ = some (.int .i64 r)
theorem TBox.new (w : World) (vn vs : Value) (r : Int) : TBox (w.alloc (.cells #[vn, vs, .int .i64 r] 25)) w.heap.size vn vs r := by
  constructor <;> (rw [World.cell?_alloc_new]; rfl)
theorem TBox.next {W W' : World} {b : Nat} {vn vs : Value} {r : Int} (h : TBox W b vn vs r) (hb : Below W.heap.size W W') : TBox W' b vn vs r := ⟨cell_next h.c0 hb, cell_next h.c1 hb, cell_next h.c2 hb⟩

theorem check_big {t : Tr} (h : 4096 < t.ns.length ∨ 4096 < t.sets.length) : checkE t = 6 := by unfold checkE; rw [if_pos h]
theorem check_root {t : Tr} (h : ¬ (4096 < t.ns.length ∨ 4096 < t.sets.length)) (hr : rootB t = false) : checkE t = 3 := by unfold checkE okB; rw [if_neg h, hr]; rfl
theorem check_sets {t : Tr} (h : ¬ (4096 < t.ns.length ∨ 4096 < t.sets.length)) (hr : setsB t.sets t.sets.length = false) : checkE t = 3 := by unfold checkE okB; rw [if_neg h, hr, Bool.and_false, Bool.false_and]; rfl
theorem check_node {t : Tr} (h : ¬ (4096 < t.ns.length ∨ 4096 < t.sets.length)) (hr : allB t.ns t.sets.length t.ns.length = false) : checkE t = 3 := by unfold checkE okB; rw [if_neg h, hr, Bool.and_false]; rfl
theorem check_all {t : Tr} (h : ¬ (4096 < t.ns.length ∨ 4096 < t.sets.length)) (h1 : rootB t = true) (h2 : setsB t.sets t.sets.length = true) (h3 : allB t.ns t.sets.length t.ns.length = true) : checkE t = 0 := by unfold checkE okB; rw [if_neg h, h1, h2, h3]; rfl

end Go.Proofs.YtbkafoaoddajoaaGreatDoor.Ar

namespace Go.Proofs.YtbkafoaoddajoaaGreatDoor.Ar
open Go Go.RowKit Go.Shelf
open Go.Proofs.YtbkafoaoddajoaaGreatDoor.Rg (R RngsAt RowsAt nthL add_zero own_next RowsOwn flatR)

/-- nothing that stood has changed but blocks of which U speaks -/
structure Kx (U : Nat → Prop) (w w' : World) : Prop where
  os : w'.os = w.os
  tape : w'.tape = w.tape
  output : w'.output = w.output
  size : w.heap.size ≤ w'.heap.size
  block : ∀ k, k < w.heap.size → ¬ U k → w'.heap[k]? = w.heap[k]?
theorem Kx.refl (U : Nat → Prop) (w : World) : Kx U w w := ⟨rfl, rfl, rfl, Nat.le_refl _, fun _ _ _ => rfl⟩
theorem Kx.trans {U : Nat → Prop} {a b c : World} (h : Kx U a b) (k : Kx U b c) : Kx U a c :=
  ⟨k.os.trans h.os, k.tape.trans h.tape, k.output.trans h.output, Nat.le_trans h.size k.size, fun i hi h1 => (k.block i (Nat.lt_of_lt_of_le hi h.size) h1).trans (h.block i hi h1)⟩
theorem Kx.mono {U V : Nat → Prop} {w w' : World} (h : Kx U w w') (hU : ∀ k, k < w.heap.size → U k → V k) : Kx V w w' :=
  ⟨h.os, h.tape, h.output, h.size, fun k hk hn => h.block k hk fun hu => hn (hU k hk hu)⟩
theorem Kx.of_below {U : Nat → Prop} {w w' : World} (h : Below w.heap.size w w') : Kx U w w' := ⟨h.os, h.tape, h.output, h.size, fun k hk _ => h.block k hk⟩
theorem Kx.below {U : Nat → Prop} {B : Nat} {w w' : World} (h : Kx U w w') (hB : B ≤ w.heap.size) (hU : ∀ k, k < B → ¬ U k) : Below B w w' := ⟨h.os, h.tape, h.output, h.size, fun k hk => h.block k (by omega) (hU k hk)⟩
theorem Kx.of_grown {U : Nat → Prop} {o : Option Nat} {w w' : World} (h : w.grownBy w' o) (hU : ∀ k, o = some k → U k) : Kx U w w' := ⟨h.os, h.tape, h.output, h.size, fun k hk hn => h.block k hk fun e => hn (hU k e.symm)⟩
theorem Kx.of_set {U : Nat → Prop} {w : World} {b o : Nat} {u : Value} (hU : U b) : Kx U w (w.setCell ⟨b, o, none⟩ u) :=
  ⟨rfl, rfl, rfl, by simp [World.setCell], fun k _ hn => Below.heap_setCell _ _ _ _ (fun e => hn (e ▸ hU))⟩
theorem Kx.own {U : Nat → Prop} {w w' : World} {B : Nat} {e : TypeId} {s n : Nat} {v : Value} {xs : List Value} (h : Kx U w w') (ho : w.ownsRow B e s v n xs) (hU : ∀ k, v.ownBlock = some k → ¬ U k) : w'.ownsRow B e s v n xs := by
  refine ⟨ho.1, ?_⟩
  rcases ho.2 with hn | ⟨g, cap, cur, rfl, hb, hg, rest⟩
  · exact .inl hn
  · refine .inr ⟨g, cap, cur, rfl, hb, ?_, rest⟩
    rw [h.block g (Array.getElem?_eq_some_iff.1 hg).1 (hU g rfl)]
    exact hg
theorem Kx.cell {U : Nat → Prop} {w w' : World} {a : Addr} {v : Value} (h : Kx U w w') (hc : w.cell? a = some v) (hU : ¬ U a.block) : w'.cell? a = some v :=
  (World.cell?_of_block (h.block _ (cell_lt hc) hU)).trans hc
theorem TBox.kx {U : Nat → Prop} {W W' : World} {b : Nat} {vn vs : Value} {r : Int} (h : TBox W b vn vs r) (hk : Kx U W W') (hU : ¬ U b) : TBox W' b vn vs r := ⟨hk.cell h.c0 hU, hk.cell h.c1 hU, hk.cell h.c2 hU⟩
/-- a row's numbers, the others not told yet -/
def cellsL (l : List Int) (n : Nat) : List Value := l.map (Value.int .i64) ++ List.replicate (n - l.length) (.int .i64 0)
theorem cellsL_start (n : Nat) : (madeCells (Value.int .i64 0).cells (n * 1)).toList = cellsL [] n := by
  show (madeCells #[Value.int .i64 0] (n * 1)).toList = _
  rw [toList_madeCells_one, Nat.mul_one]; simp [cellsL]
theorem cellsL_at {l : List Int} {n i : Nat} (h : i < l.length) : (cellsL l n)[i]? = some (.int .i64 (l.getD i 0)) := by
  unfold cellsL
  rw [List.getElem?_append_left (by simpa using h)]
  simp [h]
theorem cellsL_next {l : List Int} {n : Nat} (h : l.length < n) : (cellsL l n)[l.length]? = some (.int .i64 0) := by
  unfold cellsL
  rw [List.getElem?_append_right (by simp), List.getElem?_replicate, if_pos (by simp; omega)]
theorem cellsL_set {l : List Int} {n : Nat} (x : Int) (h : l.length < n) : (cellsL l n).set l.length (.int .i64 x) = cellsL (l ++ [x]) n := by
  unfold cellsL
  rw [List.set_append_right _ _ (by simp), List.length_map, Nat.sub_self, show n - l.length = (n - (l ++ [x]).length) + 1 by simp; omega, List.replicate_succ, List.set_cons_zero, List.map_append, List.append_assoc]
  rfl

end Go.Proofs.YtbkafoaoddajoaaGreatDoor.Ar

namespace Go.Proofs.YtbkafoaoddajoaaGreatDoor
open Go.RowKit
theorem laidOut : laidOutB Tryz.prog = true := by kernel_rfl
end Go.Proofs.YtbkafoaoddajoaaGreatDoor

namespace Go.Proofs.YtbkafoaoddajoaaGreatDoor.Ar
open Go Go.RowKit Go.Shelf Go.Maps
open Go.Proofs.YtbkafoaoddajoaaGreatDoor.Rg (R RngsAt RowsAt nthL add_zero own_next)

theorem lawN : Keyed Tryz.prog 35 := Keyed.of_law (deep_law_laid laidOut (m := 2) (by omega) (of_decide_eq_true (by kernel_rfl)) (by kernel_rfl) (by rw [Tryz.underlying35]))
theorem zeroInt (w : World) : (zeroValue 3).run Tryz.prog w = .ok (.int .i64 0) w := by kernel_rfl
theorem ktypesN : ∃ n, Tryz.prog.types.size + 1 = n + 1 + 1 := ⟨Tryz.prog.types.size - 1, by have : 1 ≤ Tryz.prog.types.size := of_decide_eq_true (by kernel_rfl); omega⟩
theorem ktN : Tryz.prog.keyType 35 = true := by kernel_rfl
theorem kcN : Tryz.prog.cellsOf 35 = 6 := by kernel_rfl
theorem kcI : Tryz.prog.cellsOf 3 = 1 := by kernel_rfl
abbrev Wf (x : Int) : Prop := (Lit.int .i64 x).wf = true
/-- all numbers of a node are numbers of their kind -/
structure WfN (n : Nd) : Prop where
  op : Wf n.op
  a : Wf n.a
  b : Wf n.b
  lo : Wf n.lo
  hi : Wf n.hi
  set : Wf n.set
/-- what a node reads as, as a key -/
def kl (n : Nd) : Lit := .string (keyBytes [.int .i64 n.op, .int .i64 n.a, .int .i64 n.b, .int .i64 n.lo, .int .i64 n.hi, .int .i64 n.set])
theorem litsN (d : Nat) {n : Nd} (h : WfN n) : Tryz.prog.keyLits (d + 1 + 1) 35 (cellsN n) = some [.int .i64 n.op, .int .i64 n.a, .int .i64 n.b, .int .i64 n.lo, .int .i64 n.hi, .int .i64 n.set] := by
  obtain ⟨h0, h1, h2, h3, h4, h5⟩ := h
  simp [Program.keyLits, Tryz.underlying35, Tryz.underlying3, kcN, kcI, cellsN, h0, h1, h2, h3, h4, h5]
theorem key_mk {n : Nd} (h : WfN n) : keyOf Tryz.prog 35 (aggN n) = some (kl n) := by
  have h1 : (aggN n).formed Tryz.prog 35 = true := by simp [aggN, Value.formed, Tryz.underlying35, kcN]
  obtain ⟨m, hm⟩ := ktypesN
  have h2 := litsN m h
  unfold keyOf
  rw [Tryz.underlying35]
  simp only [ktN, hm, h1, Bool.and_self, if_true]
  show Option.map _ (Tryz.prog.keyLits (m + 1 + 1) 35 (cellsN n)) = _
  rw [h2]; rfl
theorem kl_inj {m n : Nd} (hm : WfN m) (hn : WfN n) (h : kl m = kl n) : m = n := by
  have := lawN.inj (key_mk hm) (h ▸ key_mk hn)
  rw [Nd.eq_iff]
  simpa [aggN] using this

/-- a book in which these nodes stand, each with its place -/
structure Book (M : Nat) (H : List Nd) (w : World) : Prop where
  nodup : H.Nodup
  wf : ∀ n ∈ H, WfN n
  map : ∃ D : DataW Unit, w.ownsMap Tryz.prog 35 (plainElem Tryz.prog 3) M H.length D ∧ (∀ n, WfN n → (Maps.has D (kl n) = true ↔ n ∈ H)) ∧ (∀ (i : Nat) n, H[i]? = some n → D.atKey (kl n) (.lit (.int .i64 0)) = .lit (.int .i64 (i : Int))) ∧ Maps.size D = H.length

theorem book_new (w : World) : Book w.heap.size [] (w.alloc (.map #[] 0)) :=
  ⟨List.nodup_nil, fun n h => by simp at h, .map [], World.ownsMap_made _ _ _ _, fun n _ => by simp [Maps.has], fun i n h => by simp at h, rfl⟩

/-- a node that is new -/
theorem book_put {M : Nat} {H : List Nd} {w3 : World} {D : DataW Unit} {n : Nd} (hnd : H.Nodup) (hwf : ∀ n ∈ H, WfN n) (hn : WfN n) (hT : Tidy D) (hh : Maps.has D (kl n) = false)
    (hhas : ∀ n, WfN n → (Maps.has D (kl n) = true ↔ n ∈ H)) (hat : ∀ (i : Nat) n, H[i]? = some n → D.atKey (kl n) (.lit (.int .i64 0)) = .lit (.int .i64 (i : Int))) (hsize : Maps.size D = H.length)
    (hown : w3.ownsMap Tryz.prog 35 (plainElem Tryz.prog 3) M (H.length + 1) (D.put (kl n) (.lit (.int .i64 (H.length : Int))))) : Book M (H ++ [n]) w3 := by
  have hnot : n ∉ H := fun hm => by have := (hhas n hn).2 hm; rw [hh] at this; cases this
  have hK : WideAt.IsKeyLit (kl n) := lawN.key (key_mk hn)
  refine ⟨?_, fun m hm => ?_, _, by rw [List.length_append]; exact hown, fun m hm => ?_, fun i m him => ?_, by rw [size_put hT, hh, hsize]; simp⟩
  · rw [List.nodup_append]; exact ⟨hnd, List.nodup_cons.2 ⟨by simp, List.nodup_nil⟩, fun a ha b hb => by simp at hb; subst hb; exact fun e => hnot (e ▸ ha)⟩
  · rcases List.mem_append.1 hm with h | h
    · exact hwf m h
    · simp at h; subst h; exact hn
  · by_cases hmn : m = n
    · subst hmn
      rw [has_put_same hT.isMap hK]; simp
    · rw [has_put_other (fun e => hmn (kl_inj hm hn e)), hhas m hm]; simp [hmn]
  · rcases Nat.lt_or_ge i H.length with hl | hl
    · rw [List.getElem?_append_left hl] at him
      have hmem : m ∈ H := List.mem_of_getElem? him
      rw [atKey_put_other (fun e => hnot (kl_inj (hwf m hmem) hn e ▸ hmem))]
      exact hat i m him
    · have hil : i = H.length := by
        rcases Nat.lt_or_ge i (H.length + 1) with h' | h'
        · omega
        · rw [List.getElem?_eq_none (by simp; omega)] at him; cases him
      subst hil
      simp only [List.getElem?_concat_length, Option.some.injEq] at him
      subst him
      rw [atKey_put_same hT.isMap hK]
theorem wf_nat {n : Nat} (h : n ≤ 1000000) : Wf (n : Int) := WalkArith.wf_i64 (by omega)
theorem lit_inj {H : Type} {x y : Int} (h : (DataW.lit (.int .i64 x) : DataW H) = .lit (.int .i64 y)) : x = y := by simpa using h

end Go.Proofs.YtbkafoaoddajoaaGreatDoor.Ar

namespace Go.Proofs.YtbkafoaoddajoaaGreatDoor.Dv

abbrev L := List Int → Prop
theorem ext {A B : L} (h : ∀ r, A r ↔ B r) : A = B := funext fun r => propext (h r)
def no : L := fun _ => False
def eps : L := fun r => r = []
def one (P : Int → Bool) : L := fun r => ∃ c, r = [c] ∧ P c = true
def alt (A B : L) : L := fun r => A r ∨ B r
def seq (A B : L) : L := fun r => ∃ u v, r = u ++ v ∧ A u ∧ B v
def pow (A : L) : Nat → L
  | 0 => eps
  | k + 1 => seq A (pow A k)
def rep (A : L) (lo hi : Int) : L := fun r => ∃ k : Nat, lo ≤ k ∧ (0 ≤ hi → (k : Int) ≤ hi) ∧ pow A k r
/-- what is left behind a number -/
def der (A : L) (c : Int) : L := fun r => A (c :: r)

theorem seq_eps (A : L) : seq A eps = A := ext fun r => ⟨fun ⟨u, v, h, hu, hv⟩ => by cases hv; simpa [h] using hu, fun h => ⟨r, [], by simp, h, rfl⟩⟩
theorem eps_seq (A : L) : seq eps A = A := ext fun r => ⟨fun ⟨u, v, h, hu, hv⟩ => by cases hu; simpa [h] using hv, fun h => ⟨[], r, rfl, rfl, h⟩⟩
theorem seq_no (A : L) : seq A no = no := ext fun _ => ⟨fun ⟨_, _, _, _, h⟩ => h, fun h => h.elim⟩
theorem no_seq (A : L) : seq no A = no := ext fun _ => ⟨fun ⟨_, _, _, h, _⟩ => h, fun h => h.elim⟩
theorem seq_assoc (A B C : L) : seq (seq A B) C = seq A (seq B C) := ext fun r => ⟨
  fun ⟨_, v, h, ⟨a, b, h1, ha, hb⟩, hv⟩ => ⟨a, b ++ v, by rw [h, h1, List.append_assoc], ha, b, v, rfl, hb, hv⟩,
  fun ⟨a, _, h, ha, b, v, h1, hb, hv⟩ => ⟨a ++ b, v, by rw [h, h1, List.append_assoc], ⟨a, b, rfl, ha, hb⟩, hv⟩⟩
theorem seq_mono {A B C D : L} (h : ∀ r, A r → C r) (k : ∀ r, B r → D r) {r : List Int} (hr : seq A B r) : seq C D r := by
  obtain ⟨u, v, e, hu, hv⟩ := hr
  exact ⟨u, v, e, h u hu, k v hv⟩
theorem seq_nil (A B : L) : seq A B [] ↔ A [] ∧ B [] :=
  ⟨fun ⟨u, v, h, hu, hv⟩ => by
    obtain ⟨rfl, rfl⟩ := List.append_eq_nil_iff.1 h.symm
    exact ⟨hu, hv⟩, fun ⟨h, k⟩ => ⟨[], [], rfl, h, k⟩⟩
theorem alt_no (A : L) : alt A no = A := ext fun _ => ⟨fun h => h.elim id False.elim, .inl⟩
theorem no_alt (A : L) : alt no A = A := ext fun _ => ⟨fun h => h.elim False.elim id, .inr⟩
theorem alt_self (A : L) : alt A A = A := ext fun _ => ⟨fun h => h.elim id id, .inl⟩
theorem alt_comm (A B : L) : alt A B = alt B A := ext fun _ => or_comm
theorem alt_eps {A : L} (h : A []) : alt A eps = A := ext fun r => ⟨fun k => k.elim id fun e => by cases e; exact h, .inl⟩

theorem der_no (c : Int) : der no c = no := rfl
theorem der_eps (c : Int) : der eps c = no := ext fun _ => ⟨fun h => (by cases h), fun h => h.elim⟩
theorem der_one (P : Int → Bool) (c : Int) : der (one P) c = if P c = true then eps else no := ext fun r => by
  constructor
  · rintro ⟨d, h, hp⟩
    obtain ⟨rfl, rfl⟩ := List.cons.inj h
    rw [if_pos hp]; rfl
  · intro h
    split at h
    · cases h; exact ⟨c, rfl, by assumption⟩
    · exact h.elim
theorem der_alt (A B : L) (c : Int) : der (alt A B) c = alt (der A c) (der B c) := rfl
theorem der_seq_yes {A : L} (B : L) (c : Int) (h : A []) : der (seq A B) c = alt (seq (der A c) B) (der B c) := ext fun r => by
  constructor
  · rintro ⟨u, v, e, hu, hv⟩
    cases u with
    | nil => right; simp only [List.nil_append] at e; rw [← e] at hv; exact hv
    | cons d u =>
      obtain ⟨rfl, rfl⟩ := List.cons.inj e
      exact .inl ⟨u, v, rfl, hu, hv⟩
  · rintro (⟨u, v, e, hu, hv⟩ | hv)
    · exact ⟨c :: u, v, by rw [e]; rfl, hu, hv⟩
    · exact ⟨[], c :: r, rfl, h, hv⟩
theorem der_seq_no {A : L} (B : L) (c : Int) (h : ¬ A []) : der (seq A B) c = seq (der A c) B := ext fun r => by
  constructor
  · rintro ⟨u, v, e, hu, hv⟩
    cases u with
    | nil => exact absurd hu h
    | cons d u =>
      obtain ⟨rfl, rfl⟩ := List.cons.inj e
      exact ⟨u, v, rfl, hu, hv⟩
  · rintro ⟨u, v, e, hu, hv⟩
    exact ⟨c :: u, v, by rw [e]; rfl, hu, hv⟩
theorem der_seq_of {A B : L} {c : Int} {r : List Int} (h : seq (der A c) B r) : der (seq A B) c r := by
  obtain ⟨u, v, e, hu, hv⟩ := h
  exact ⟨c :: u, v, by rw [e]; rfl, hu, hv⟩

theorem pow_one (A : L) : pow A 1 = A := seq_eps A
theorem pow_pad {A : L} (h : A []) : ∀ (d k : Nat) (r : List Int), pow A k r → pow A (k + d) r
  | 0, _, _, hr => hr
  | d + 1, k, r, hr => ⟨[], r, rfl, h, pow_pad h d k r hr⟩
theorem pow_le {A : L} (h : A []) {k m : Nat} (hk : k ≤ m) {r : List Int} (hr : pow A k r) : pow A m r := by
  have := pow_pad h (m - k) k r hr
  rwa [Nat.add_sub_cancel' hk] at this
theorem pow_nil {A : L} (h : A []) : ∀ k, pow A k []
  | 0 => rfl
  | k + 1 => ⟨[], [], rfl, h, pow_nil h k⟩
theorem pow_der {A : L} {c : Int} : ∀ (k : Nat) (r : List Int), pow A k (c :: r) → ∃ j, k = j + 1 ∧ seq (der A c) (pow A j) r
  | 0, r, h => by cases h
  | k + 1, r, ⟨u, v, e, hu, hv⟩ => by
    cases u with
    | nil =>
      simp only [List.nil_append] at e
      rw [← e] at hv
      obtain ⟨j, rfl, hj⟩ := pow_der k r hv
      exact ⟨j + 1, rfl, seq_mono (fun _ h => h) (fun v hv => pow_le hu (by omega) hv) hj⟩
    | cons d u =>
      obtain ⟨rfl, rfl⟩ := List.cons.inj e
      exact ⟨k, rfl, u, v, rfl, hu, hv⟩
theorem der_rep (A : L) {lo hi : Int} (c : Int) (h0 : 0 ≤ lo) (hh : hi ≠ 0) : der (rep A lo hi) c = seq (der A c) (rep A (max (lo - 1) 0) (max (hi - 1) (-1))) := ext fun r => by
  constructor
  · rintro ⟨k, a, b, hp⟩
    obtain ⟨j, rfl, hj⟩ := pow_der k r hp
    exact seq_mono (fun _ h => h) (fun v hv => ⟨j, by omega, by omega, hv⟩) hj
  · rintro ⟨u, v, e, hu, j, a, b, hp⟩
    exact ⟨j + 1, by omega, by omega, c :: u, v, by rw [e]; rfl, hu, hp⟩
theorem rep_bare {A : L} (h : A []) {lo hi : Int} (h0 : 0 ≤ lo) (h1 : hi < 0 ∨ lo ≤ hi) : rep A lo hi = rep A 0 hi := ext fun r => by
  constructor
  · rintro ⟨k, a, b, hp⟩; exact ⟨k, by omega, b, hp⟩
  · rintro ⟨k, a, b, hp⟩
    refine ⟨max k lo.toNat, by omega, fun _ => by have := b (by omega); omega, pow_le h (Nat.le_max_left _ _) hp⟩
theorem rep_zero (A : L) : rep A 0 0 = eps := ext fun r => by
  constructor
  · rintro ⟨k, a, b, hp⟩
    obtain rfl : k = 0 := by have := b (by omega); omega
    exact hp
  · intro h; exact ⟨0, by omega, fun _ => by omega, h⟩
theorem rep_no_zero {hi : Int} : rep no 0 hi = eps := ext fun r => by
  constructor
  · rintro ⟨k, a, b, hp⟩
    cases k with
    | zero => exact hp
    | succ k => obtain ⟨_, _, _, h, _⟩ := hp; exact h.elim
  · intro h; exact ⟨0, by omega, fun h => h, h⟩
theorem rep_no {lo hi : Int} (h : 0 < lo) : rep no lo hi = no := ext fun r => by
  constructor
  · rintro ⟨k, a, b, hp⟩
    cases k with
    | zero => omega
    | succ k => obtain ⟨_, _, _, h, _⟩ := hp; exact h
  · intro h; exact h.elim
theorem pow_eps : ∀ k, pow eps k = eps
  | 0 => rfl
  | k + 1 => by show seq eps (pow eps k) = eps; rw [pow_eps k, eps_seq]
theorem rep_eps {lo hi : Int} (h0 : 0 ≤ lo) (h1 : hi < 0 ∨ lo ≤ hi) : rep eps lo hi = eps := ext fun r => by
  constructor
  · rintro ⟨k, a, b, hp⟩; rw [pow_eps] at hp; exact hp
  · intro h; exact ⟨lo.toNat, by omega, fun _ => by omega, by rw [pow_eps]; exact h⟩
theorem rep_one (A : L) : rep A 1 1 = A := ext fun r => by
  constructor
  · rintro ⟨k, a, b, hp⟩
    obtain rfl : k = 1 := by have := b (by omega); omega
    rwa [pow_one] at hp
  · intro h; exact ⟨1, by omega, fun _ => by omega, by rw [pow_one]; exact h⟩
theorem rep_opt {A : L} (h : A []) : rep A 0 1 = A := by rw [← rep_bare h (lo := 1) (by omega) (.inr (by omega)), rep_one]
theorem star_seq {A : L} {r : List Int} (h : seq (rep A 0 (-1)) (rep A 0 (-1)) r) : rep A 0 (-1) r := by
  obtain ⟨u, v, rfl, ⟨k, _, _, hk⟩, ⟨m, _, _, hm⟩⟩ := h
  refine ⟨k + m, by omega, fun h => by omega, ?_⟩
  induction k generalizing u with
  | zero => cases hk; simpa using hm
  | succ k ih =>
    obtain ⟨a, b, rfl, ha, hb⟩ := hk
    rw [Nat.succ_add]
    exact ⟨a, b ++ v, by rw [List.append_assoc], ha, ih b (by omega) (fun h => by omega) hb⟩
theorem star_pow {A : L} : ∀ (k : Nat) (r : List Int), pow (rep A 0 (-1)) k r → rep A 0 (-1) r
  | 0, r, h => ⟨0, by omega, fun h => by omega, h⟩
  | k + 1, r, ⟨u, v, e, hu, hv⟩ => star_seq ⟨u, v, e, hu, star_pow k v hv⟩
theorem rep_star {A : L} {hi : Int} (h : hi ≠ 0) : rep (rep A 0 (-1)) 0 hi = rep A 0 (-1) := ext fun r => by
  constructor
  · rintro ⟨k, a, b, hp⟩; exact star_pow k r hp
  · intro h; exact ⟨1, by omega, fun _ => by omega, by rw [pow_one]; exact h⟩
theorem rep_nil {A : L} {lo hi : Int} (h0 : 0 ≤ lo) (h1 : hi < 0 ∨ lo ≤ hi) : rep A lo hi [] ↔ lo = 0 ∨ A [] := by
  constructor
  · rintro ⟨k, a, b, hp⟩
    cases k with
    | zero => left; omega
    | succ k => right; exact ((seq_nil _ _).1 hp).1
  · rintro (rfl | h)
    · exact ⟨0, by omega, fun h => h, rfl⟩
    · exact ⟨lo.toNat, by omega, fun _ => by omega, pow_nil h _⟩
/-- more times than there are numbers make no difference -/
theorem pow_short {A : L} : ∀ (k : Nat) (r : List Int), r.length ≤ k → pow A (k + 1) r → pow A k r
  | 0, r, h, _ => List.eq_nil_of_length_eq_zero (by omega)
  | k + 1, r, h, ⟨u, v, e, hu, hv⟩ => by
    cases u with
    | nil => simp only [List.nil_append] at e; rw [e]; exact hv
    | cons d u =>
      have hl : v.length ≤ k := by rw [e] at h; simp at h; omega
      exact ⟨d :: u, v, e, hu, pow_short k v hl hv⟩
theorem pow_cap {A : L} {m : Nat} {r : List Int} (h : r.length ≤ m) : ∀ d, pow A (m + d) r → pow A m r
  | 0, hp => hp
  | d + 1, hp => pow_cap h d (pow_short (m + d) r (by omega) hp)
theorem pow_snoc (A : L) : ∀ k, seq (pow A k) A = pow A (k + 1)
  | 0 => by show seq eps A = seq A eps; rw [eps_seq, seq_eps]
  | k + 1 => by
    show seq (seq A (pow A k)) A = seq A (pow A (k + 1))
    rw [seq_assoc, pow_snoc A k]
/-- up to m times more than needed -/
theorem rep_cap {A : L} {lo hi : Int} {m : Nat} {r : List Int} (hl : r.length ≤ m) : rep A lo hi r ↔ ∃ k : Nat, lo ≤ k ∧ (0 ≤ hi → (k : Int) ≤ hi) ∧ (k : Int) ≤ max lo m ∧ pow A k r := by
  constructor
  · rintro ⟨k, a, b, hp⟩
    by_cases hk : (k : Int) ≤ max lo m
    · exact ⟨k, a, b, hk, hp⟩
    · refine ⟨max lo.toNat m, by omega, fun h => by have := b h; omega, by omega, ?_⟩
      refine pow_cap (d := k - max lo.toNat m) (Nat.le_trans hl (Nat.le_max_right _ _)) ?_
      rw [Nat.add_sub_cancel' (by omega)]
      exact hp
  · rintro ⟨k, a, b, _, hp⟩; exact ⟨k, a, b, hp⟩

end Go.Proofs.YtbkafoaoddajoaaGreatDoor.Dv

namespace Go.Proofs.YtbkafoaoddajoaaGreatDoor.Dv
open Go.Proofs.YtbkafoaoddajoaaGreatDoor.Ar (Nd nd nd_eq nd_left nodeB nodeB_mono nodeB_ways timesB Tr)
open Go.Proofs.YtbkafoaoddajoaaGreatDoor.Rg (R hasB inB)

structure Bk where
  parts : List Nd
  sets : List (List R)
  bare : List Bool
  full : Bool
def bareAt (B : Bk) (x : Nat) : Bool := B.bare.getD x false
def number (B : Bk) (n : Nd) (e : Bool) : Bk × Nat :=
  if n ∈ B.parts then (B, B.parts.idxOf n)
  else if B.parts.length = 12288 then ({ B with full := true }, 0)
  else ({ B with parts := B.parts ++ [n], bare := B.bare ++ [e] }, B.parts.length)
def nSet (i : Nat) : Nd := ⟨2, 0, 0, 0, 0, i⟩
def nEmp : Nd := ⟨1, 0, 0, 0, 0, 0⟩
def nCat (x y : Nat) : Nd := ⟨3, x, y, 0, 0, 0⟩
def nAlt (x y : Nat) : Nd := ⟨4, x, y, 0, 0, 0⟩
def nRep (x : Nat) (lo hi : Int) : Nd := ⟨5, x, 0, lo, hi, 0⟩
def setF (B : Bk) (l : List R) : Bk × Nat :=
  if l ∈ B.sets then number B (nSet (B.sets.idxOf l)) false else number { B with sets := B.sets ++ [l] } (nSet B.sets.length) false
def catF (B : Bk) (x y : Nat) : Bk × Nat :=
  if x = 0 ∨ y = 0 then (B, 0) else if x = 1 then (B, y) else if y = 1 then (B, x) else number B (nCat x y) (bareAt B x && bareAt B y)
def altG (B : Bk) (x y : Nat) : Bk × Nat :=
  if x = y ∨ y = 0 ∨ (y = 1 ∧ bareAt B x = true) then (B, x) else number B (nAlt x y) (bareAt B x || bareAt B y)
def altF (B : Bk) (x y : Nat) : Bk × Nat := altG B (max x y) (min x y)
def repG (B : Bk) (x : Nat) (lo hi : Int) : Bk × Nat :=
  if hi = 0 ∨ (x = 0 ∧ lo = 0) then (B, 1) else if x = 0 ∨ x = 1 then (B, x) else if hi = 1 ∧ (lo = 1 ∨ bareAt B x = true) then (B, x)
  else if nd B.parts x = ⟨5, (nd B.parts x).a, 0, 0, -1, 0⟩ then (B, x) else number B (nRep x lo hi) (decide (lo = 0))
def repF (B : Bk) (x : Nat) (lo hi : Int) : Bk × Nat := repG B x (if bareAt B x = true then 0 else lo) hi
def fewerF (B : Bk) (n : Nd) : Bk × Nat := repF B n.a.toNat (max (n.lo - 1) 0) (max (n.hi - 1) (-1))

/-- the rows of a node, by those of its parts -/
def denN (S : List (List R)) (D : Nat → L) (n : Nd) : L :=
  if n.op = 1 then eps else if n.op = 2 then one (inB (S.getD n.set.toNat [])) else if n.op = 3 then seq (D n.a.toNat) (D n.b.toNat)
  else if n.op = 4 then alt (D n.a.toNat) (D n.b.toNat) else if n.op = 5 then rep (D n.a.toNat) n.lo n.hi else no
def den (ns : List Nd) (S : List (List R)) (i : Nat) : L := denN S (fun j => if _h : j < i then den ns S j else no) (nd ns i)
termination_by i
theorem denN_congr {S : List (List R)} {D E : Nat → L} {n : Nd} {i s : Int} (h : nodeB n i s = true) (hd : ∀ j : Nat, (j : Int) < i → D j = E j) : denN S D n = denN S E n := by
  unfold denN
  rcases nodeB_ways h with ⟨h1, h2⟩ | ⟨h1, h2⟩ | ⟨h1 | h1, h2⟩ | ⟨h1, h2⟩
  · simp [h1]
  · simp [h1]
  · simp only [h1]; rw [hd n.a.toNat (by omega), hd n.b.toNat (by omega)]
  · simp only [h1]; rw [hd n.a.toNat (by omega), hd n.b.toNat (by omega)]
  · have := hd n.a.toNat (by omega)
    simp [h1, this]
theorem den_eq {ns : List Nd} {S : List (List R)} {i : Nat} {s : Int} (h : nodeB (nd ns i) i s = true) : den ns S i = denN S (den ns S) (nd ns i) := by
  rw [den]
  exact denN_congr h fun j hj => by rw [dif_pos (by omega)]
theorem denN_sets {S T : List (List R)} {D : Nat → L} {n : Nd} {i : Int} (h : nodeB n i S.length = true) (hT : ∀ k, k < S.length → T.getD k [] = S.getD k []) : denN T D n = denN S D n := by
  unfold denN
  rcases nodeB_ways h with ⟨h1, h2⟩ | ⟨h1, h2⟩ | ⟨h1 | h1, h2⟩ | ⟨h1, h2⟩
  · simp [h1]
  · simp only [h1]; rw [hT n.set.toNat (by omega)]
  · simp [h1]
  · simp [h1]
  · simp [h1]
/-- what stands further on changes nothing -/
theorem den_more {ns ms : List Nd} {S T : List (List R)} (hn : ∀ i, i < ns.length → nodeB (nd ns i) i S.length = true) (hm : ∀ i, i < ns.length → nd ms i = nd ns i) (hT : ∀ k, k < S.length → T.getD k [] = S.getD k []) :
    ∀ i, i < ns.length → den ms T i = den ns S i := by
  intro i
  induction i using Nat.strongRecOn with
  | ind i ih =>
    intro hi
    have h := hn i hi
    have h' : nodeB (nd ms i) i S.length = true := by rw [hm i hi]; exact h
    rw [den_eq h', den_eq h, hm i hi, denN_sets h hT]
    exact denN_congr h fun j hj => ih j (by omega) (by omega)

/-- the rows of a book's part -/
def dB (B : Bk) (i : Nat) : L := den B.parts B.sets i

structure Good (B : Bk) : Prop where
  len : B.bare.length = B.parts.length
  small : B.parts.length ≤ 12288
  nodup : B.parts.Nodup
  two : 2 ≤ B.parts.length
  zero : nd B.parts 0 = nSet 0
  fst : nd B.parts 1 = nEmp
  sets0 : 0 < B.sets.length
  set0 : B.sets.getD 0 [] = []
  node : ∀ i, i < B.parts.length → nodeB (nd B.parts i) i B.sets.length = true
  reps : ∀ i, i < B.parts.length → (nd B.parts i).op = 5 → (nd B.parts i).hi ≠ 0
  bare : ∀ i, i < B.parts.length → (bareAt B i = true ↔ dB B i [])
structure Ext (B C : Bk) : Prop where
  parts : B.parts <+: C.parts
  sets : B.sets <+: C.sets
  full : B.full = true → C.full = true
theorem Ext.refl (B : Bk) : Ext B B := ⟨List.prefix_refl _, List.prefix_refl _, id⟩
theorem Ext.trans {B C D : Bk} (h : Ext B C) (k : Ext C D) : Ext B D := ⟨h.parts.trans k.parts, h.sets.trans k.sets, fun e => k.full (h.full e)⟩
theorem Ext.le {B C : Bk} (h : Ext B C) : B.parts.length ≤ C.parts.length := h.parts.length_le
theorem pre_getD {α : Type} {l m : List α} {d : α} (h : l <+: m) {i : Nat} (hi : i < l.length) : m.getD i d = l.getD i d := by
  obtain ⟨k, rfl⟩ := h
  simp [List.getD, List.getElem?_append_left hi]
theorem Ext.nd {B C : Bk} (h : Ext B C) {i : Nat} (hi : i < B.parts.length) : nd C.parts i = nd B.parts i := pre_getD h.parts hi
theorem Ext.den {B C : Bk} (h : Ext B C) (g : Good B) {i : Nat} (hi : i < B.parts.length) : dB C i = dB B i :=
  den_more g.node (fun _ hi => h.nd hi) (fun _ hk => pre_getD h.sets hk) i hi
theorem Good.den_eq {B : Bk} (g : Good B) {i : Nat} (hi : i < B.parts.length) : dB B i = denN B.sets (dB B) (nd B.parts i) := Dv.den_eq (g.node i hi)
theorem Good.den0 {B : Bk} (g : Good B) : dB B 0 = no := by
  rw [g.den_eq (by have := g.two; omega), g.zero]
  refine ext fun r => ⟨?_, fun h => h.elim⟩
  rintro ⟨c, _, hc⟩
  have : B.sets.getD (nSet 0).set.toNat [] = [] := g.set0
  rw [this] at hc
  simp [inB, hasB] at hc
theorem Good.den1 {B : Bk} (g : Good B) : dB B 1 = eps := by rw [g.den_eq (by have := g.two; omega), g.fst]; rfl

/-- what a call tells that makes at most one part -/
structure Out (B : Bk) (p : Bk × Nat) (A : L) : Prop where
  good : Good p.1
  ext : Ext B p.1
  lt : p.2 < p.1.parts.length
  den : p.1.full = false → dB p.1 p.2 = A
  cnt : p.1.parts.length ≤ B.parts.length + 1
  room : B.parts.length < 12288 → p.1.full = B.full
theorem Out.same {B : Bk} (g : Good B) {x : Nat} (hx : x < B.parts.length) {A : L} (h : dB B x = A) : Out B (B, x) A := ⟨g, Ext.refl B, hx, fun _ => h, by simp, fun _ => rfl⟩

theorem nd_snoc {l : List Nd} {n : Nd} : nd (l ++ [n]) l.length = n := by simp [nd, List.getD]
/-- a book with another row of sets, in which those that were there stand as they stood -/
theorem Good.sets' {B : Bk} (g : Good B) (l : List R) : Good { B with sets := B.sets ++ [l] } ∧ Ext B { B with sets := B.sets ++ [l] } ∧ ∀ i, i < B.parts.length → dB { B with sets := B.sets ++ [l] } i = dB B i := by
  have hT : ∀ k, k < B.sets.length → (B.sets ++ [l]).getD k [] = B.sets.getD k [] := fun k hk => pre_getD (List.prefix_append _ _) hk
  have hE : Ext B { B with sets := B.sets ++ [l] } := ⟨List.prefix_refl _, List.prefix_append _ _, id⟩
  have hd : ∀ i, i < B.parts.length → dB { B with sets := B.sets ++ [l] } i = dB B i := fun i hi => hE.den g hi
  refine ⟨⟨g.len, g.small, g.nodup, g.two, g.zero, g.fst, by simp, (hT 0 g.sets0).trans g.set0, fun i hi => nodeB_mono (g.node i hi) (Int.le_refl _) (by simp; omega), g.reps, fun i hi => ?_⟩, hE, hd⟩
  rw [hd i hi]; exact g.bare i hi

theorem number_out {B : Bk} (g : Good B) {n : Nd} {e : Bool} (hn : nodeB n B.parts.length B.sets.length = true) (hr : n.op = 5 → n.hi ≠ 0) (he : e = true ↔ denN B.sets (dB B) n []) : Out B (number B n e) (denN B.sets (dB B) n) := by
  unfold number
  split
  · rename_i hm
    have hx := List.idxOf_lt_length_of_mem hm
    refine Out.same g hx ?_
    rw [g.den_eq hx, nd_eq hx, List.getElem_idxOf hx]
  · rename_i hm
    split
    · rename_i hl
      have hd : ∀ i, dB { B with full := true } i = dB B i := fun i => rfl
      exact ⟨⟨g.len, g.small, g.nodup, g.two, g.zero, g.fst, g.sets0, g.set0, g.node, g.reps, g.bare⟩, ⟨List.prefix_refl _, List.prefix_refl _, fun _ => rfl⟩, by have := g.two; show 0 < B.parts.length; omega, fun h => (by cases h), by simp, fun h => (by omega)⟩
    · rename_i hl
      have hE : Ext B { B with parts := B.parts ++ [n], bare := B.bare ++ [e] } := ⟨List.prefix_append _ _, List.prefix_refl _, id⟩
      have hd : ∀ i, i < B.parts.length → dB { B with parts := B.parts ++ [n], bare := B.bare ++ [e] } i = dB B i := fun i hi => hE.den g hi
      have hnode : ∀ i, i < (B.parts ++ [n]).length → nodeB (nd (B.parts ++ [n]) i) i B.sets.length = true := fun i hi => by
        rcases Nat.lt_or_ge i B.parts.length with h | h
        · rw [nd_left h]; exact g.node i h
        · obtain rfl : i = B.parts.length := by simp at hi; omega
          rw [nd_snoc]; exact hn
      have hnew : dB { B with parts := B.parts ++ [n], bare := B.bare ++ [e] } B.parts.length = denN B.sets (dB B) n := by
        show den (B.parts ++ [n]) B.sets B.parts.length = _
        rw [Dv.den_eq (hnode _ (by simp)), nd_snoc]
        exact denN_congr hn fun j hj => hd j (by omega)
      have h2 := g.two
      refine ⟨⟨by simp [g.len], by have := g.small; simp; omega, ?_, by simp; omega, by rw [← g.zero]; exact nd_left (by omega), by rw [← g.fst]; exact nd_left (by omega), g.sets0, g.set0, hnode, fun i hi => ?_, fun i hi => ?_⟩, hE, by simp, fun _ => hnew, by simp, fun _ => rfl⟩
      · show (B.parts ++ [n]).Nodup
        rw [List.nodup_append]
        exact ⟨g.nodup, by simp, fun a ha b hb => by simp at hb; subst hb; exact fun h => hm (h ▸ ha)⟩
      · show (nd (B.parts ++ [n]) i).op = 5 → (nd (B.parts ++ [n]) i).hi ≠ 0
        rcases Nat.lt_or_ge i B.parts.length with h | h
        · rw [nd_left h]; exact g.reps i h
        · obtain rfl : i = B.parts.length := by simp at hi; omega
          rw [nd_snoc]; exact hr
      · rcases Nat.lt_or_ge i B.parts.length with h | h
        · rw [hd i h, ← g.bare i h]
          unfold bareAt
          rw [pre_getD (List.prefix_append _ _) (by rw [g.len]; exact h)]
        · obtain rfl : i = B.parts.length := by simp at hi; omega
          rw [hnew, ← he]
          have : bareAt { B with parts := B.parts ++ [n], bare := B.bare ++ [e] } B.parts.length = e := by
            unfold bareAt
            simp [List.getD, ← g.len]
          rw [this]

theorem setF_out {B : Bk} (g : Good B) (l : List R) : Out B (setF B l) (one (inB l)) := by
  unfold setF
  split
  · rename_i hm
    have hx := List.idxOf_lt_length_of_mem hm
    have h := number_out g (n := nSet (B.sets.idxOf l)) (e := false) (by simp [nodeB, nSet]; omega) (by simp [nSet]) (by simp [denN, nSet, one])
    have e : denN B.sets (dB B) (nSet (B.sets.idxOf l)) = one (inB l) := by
      show one (inB (B.sets.getD (((B.sets.idxOf l : Nat) : Int).toNat) [])) = _
      rw [Int.toNat_natCast, show B.sets.getD (B.sets.idxOf l) [] = l by rw [List.getD, List.getElem?_eq_getElem hx, List.getElem_idxOf hx]; rfl]
    rw [e] at h; exact h
  · obtain ⟨g1, g2, g3⟩ := g.sets' l
    have h := number_out g1 (n := nSet B.sets.length) (e := false) (by simp [nodeB, nSet]; omega) (by simp [nSet]) (by simp [denN, nSet, one])
    have e : denN (B.sets ++ [l]) (dB { B with sets := B.sets ++ [l] }) (nSet B.sets.length) = one (inB l) := by
      show one (inB ((B.sets ++ [l]).getD (((B.sets.length : Nat) : Int).toNat) [])) = _
      rw [Int.toNat_natCast, show (B.sets ++ [l]).getD B.sets.length [] = l by simp [List.getD]]
    rw [e] at h
    exact ⟨h.good, g2.trans h.ext, h.lt, h.den, h.cnt, h.room⟩

theorem catF_out {B : Bk} (g : Good B) {x y : Nat} (hx : x < B.parts.length) (hy : y < B.parts.length) : Out B (catF B x y) (seq (dB B x) (dB B y)) := by
  unfold catF
  split
  · rename_i h
    refine Out.same g (by have := g.two; omega) ?_
    rcases h with rfl | rfl
    · rw [g.den0, no_seq]
    · rw [g.den0, seq_no]
  · split
    · rename_i h; subst h
      exact Out.same g hy (by rw [g.den1, eps_seq])
    · split
      · rename_i h; subst h
        exact Out.same g hx (by rw [g.den1, seq_eps])
      · have h := number_out g (n := nCat x y) (e := bareAt B x && bareAt B y) (by simp [nodeB, nCat]; omega) (by simp [nCat]) (by
          show _ ↔ seq (dB B (x : Int).toNat) (dB B (y : Int).toNat) []
          rw [seq_nil, Bool.and_eq_true, g.bare x hx, g.bare y hy]; rfl)
        exact h

theorem altG_out {B : Bk} (g : Good B) {x y : Nat} (hx : x < B.parts.length) (hy : y < B.parts.length) : Out B (altG B x y) (alt (dB B x) (dB B y)) := by
  unfold altG
  split
  · rename_i h
    refine Out.same g hx ?_
    rcases h with rfl | rfl | ⟨rfl, h⟩
    · rw [alt_self]
    · rw [g.den0, alt_no]
    · rw [g.den1, alt_eps ((g.bare x hx).1 h)]
  · exact number_out g (n := nAlt x y) (e := bareAt B x || bareAt B y) (by simp [nodeB, nAlt]; omega) (by simp [nAlt]) (by
      show _ ↔ alt (dB B (x : Int).toNat) (dB B (y : Int).toNat) []
      rw [Bool.or_eq_true, g.bare x hx, g.bare y hy]; rfl)
theorem altF_out {B : Bk} (g : Good B) {x y : Nat} (hx : x < B.parts.length) (hy : y < B.parts.length) : Out B (altF B x y) (alt (dB B x) (dB B y)) := by
  unfold altF
  rcases Nat.le_total x y with h | h
  · rw [Nat.max_eq_right h, Nat.min_eq_left h, alt_comm]; exact altG_out g hy hx
  · rw [Nat.max_eq_left h, Nat.min_eq_right h]; exact altG_out g hx hy

theorem times_iff {lo hi : Int} : timesB lo hi = true ↔ 0 ≤ lo ∧ lo ≤ 255 ∧ (hi = -1 ∨ lo ≤ hi ∧ hi ≤ 255) := by simp [timesB, and_assoc]
theorem repG_out {B : Bk} (g : Good B) {x : Nat} (hx : x < B.parts.length) {lo hi : Int} (ht : timesB lo hi = true) (hb : bareAt B x = true → lo = 0) : Out B (repG B x lo hi) (rep (dB B x) lo hi) := by
  rw [times_iff] at ht
  have h2 := g.two
  unfold repG
  split
  · rename_i h
    refine Out.same g (by omega) ?_
    rw [g.den1]
    rcases h with rfl | ⟨rfl, rfl⟩
    · obtain rfl : lo = 0 := by omega
      rw [rep_zero]
    · rw [g.den0, rep_no_zero]
  · rename_i h
    split
    · rename_i h1
      refine Out.same g hx ?_
      rcases h1 with rfl | rfl
      · rw [g.den0, rep_no (by omega)]
      · rw [g.den1, rep_eps (by omega) (by omega)]
    · rename_i h1
      split
      · rename_i h3
        refine Out.same g hx ?_
        obtain ⟨rfl, h4⟩ := h3
        rcases h4 with rfl | h4
        · rw [rep_one]
        · rw [hb h4, rep_opt ((g.bare x hx).1 h4)]
      · rename_i h3
        split
        · rename_i h4
          refine Out.same g hx ?_
          have hden : dB B x = rep (dB B (nd B.parts x).a.toNat) 0 (-1) := by
            rw [g.den_eq hx]
            generalize nd B.parts x = n at h4
            obtain ⟨op, a, b, l, k, s⟩ := n
            simp only [Nd.mk.injEq, true_and] at h4
            obtain ⟨rfl, rfl, rfl, rfl, rfl⟩ := h4
            rfl
          have h0 : dB B x [] := by rw [hden]; exact ⟨0, by omega, fun h => by omega, rfl⟩
          obtain rfl := hb ((g.bare x hx).2 h0)
          rw [hden, rep_star (by omega)]
        · refine number_out g (n := nRep x lo hi) (e := decide (lo = 0)) ?_ (fun _ => by show hi ≠ 0; omega) ?_
          · have : timesB lo hi = true := times_iff.2 ht
            simp [nodeB, nRep, this]; omega
          · show decide (lo = 0) = true ↔ rep (dB B (x : Int).toNat) lo hi []
            rw [rep_nil ht.1 (by omega), decide_eq_true_iff]
            constructor
            · exact .inl
            · rintro (h | h)
              · exact h
              · exact hb ((g.bare x hx).2 h)
theorem repF_out {B : Bk} (g : Good B) {x : Nat} (hx : x < B.parts.length) {lo hi : Int} (ht : timesB lo hi = true) : Out B (repF B x lo hi) (rep (dB B x) lo hi) := by
  unfold repF
  split
  · rename_i h
    rw [times_iff] at ht
    have h0 := repG_out g hx (lo := 0) (hi := hi) (times_iff.2 (by omega)) (fun _ => rfl)
    rwa [← rep_bare ((g.bare x hx).1 h) ht.1 (by omega)] at h0
  · rename_i h
    exact repG_out g hx ht (fun h' => absurd h' h)
theorem fewer_times {lo hi : Int} (ht : timesB lo hi = true) (h0 : hi ≠ 0) : timesB (max (lo - 1) 0) (max (hi - 1) (-1)) = true := by
  rw [times_iff] at ht ⊢; omega
theorem fewerF_out {B : Bk} (g : Good B) {n : Nd} (ha : n.a.toNat < B.parts.length) (ht : timesB n.lo n.hi = true) (h0 : n.hi ≠ 0) : Out B (fewerF B n) (rep (dB B n.a.toNat) (max (n.lo - 1) 0) (max (n.hi - 1) (-1))) :=
  repF_out g ha (fewer_times ht h0)

end Go.Proofs.YtbkafoaoddajoaaGreatDoor.Dv

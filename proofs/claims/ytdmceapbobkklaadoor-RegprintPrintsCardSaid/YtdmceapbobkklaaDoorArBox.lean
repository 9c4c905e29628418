/- The box of a tree; what Check tells, way by way. -/
import Derived.Test.YtdmceapbobkklaaDoorArPlain
import Derived.Test.YtdmceapbobkklaaDoorRgRows
import Derived.Deep.DeepMust
import Derived.BigQuiet
import Derived.Deep.QuietTactic
namespace Go.Proofs.YtdmceapbobkklaaDoor.Ar
open Go Go.RowKit Go.Shelf
open Go.Proofs.YtdmceapbobkklaaDoor.Rg (R RngsAt RowsAt nthL add_zero own_next)

def cellsN (n : Nd) : List Value := [.int .i64 n.op, .int .i64 n.a, .int .i64 n.b, .int .i64 n.lo, .int .i64 n.hi, .int .i64 n.set]
def aggN (n : Nd) : Value := .agg #[.int .i64 n.op, .int .i64 n.a, .int .i64 n.b, .int .i64 n.lo, .int .i64 n.hi, .int .i64 n.set]
def flatN (l : List Nd) : List Value := l.flatMap cellsN
theorem flatN_snoc (l : List Nd) (n : Nd) : flatN (l ++ [n]) = flatN l ++ cellsN n := by simp [flatN]
theorem flatN_append (l k : List Nd) : flatN (l ++ k) = flatN l ++ flatN k := by simp [flatN]
theorem flatN_len : ∀ l : List Nd, (flatN l).length = l.length * 6
  | [] => rfl
  | p :: r => by
    have := flatN_len r
    simp only [flatN, List.flatMap_cons, List.length_append, List.length_cons, List.length_nil, cellsN] at this ⊢
    omega
theorem flatN_at : ∀ (l : List Nd) (i : Nat), i < l.length → (flatN l)[i * 6]? = some (.int .i64 (nd l i).op) ∧ (flatN l)[i * 6 + 1]? = some (.int .i64 (nd l i).a) ∧ (flatN l)[i * 6 + 2]? = some (.int .i64 (nd l i).b) ∧ (flatN l)[i * 6 + 3]? = some (.int .i64 (nd l i).lo) ∧ (flatN l)[i * 6 + 4]? = some (.int .i64 (nd l i).hi) ∧ (flatN l)[i * 6 + 5]? = some (.int .i64 (nd l i).set)
  | [], i, h => by simp at h
  | p :: r, 0, h => by simp [flatN, nd, cellsN]
  | p :: r, i + 1, h => by
    have := flatN_at r i (by simpa using h)
    rw [show (i + 1) * 6 = (i * 6) + 1 + 1 + 1 + 1 + 1 + 1 by omega]
    simpa [flatN, nd, cellsN] using this
theorem flatN_one {l : List Nd} : ∀ u ∈ flatN l, u.oneCell' = true := by
  intro u hu
  simp only [flatN, List.mem_flatMap, cellsN, List.mem_cons, List.not_mem_nil, or_false] at hu
  obtain ⟨p, _, h⟩ := hu
  rcases h with rfl | rfl | rfl | rfl | rfl | rfl <;> simp [Value.oneCell']

/-- six cells from an address on -/
structure NodeAt (w : World) (g : Addr) (n : Nd) : Prop where
  c0 : w.cell? g = some (.int .i64 n.op)
  c1 : w.cell? ⟨g.block, g.off + 1, none⟩ = some (.int .i64 n.a)
  c2 : w.cell? ⟨g.block, g.off + 2, none⟩ = some (.int .i64 n.b)
  c3 : w.cell? ⟨g.block, g.off + 3, none⟩ = some (.int .i64 n.lo)
  c4 : w.cell? ⟨g.block, g.off + 4, none⟩ = some (.int .i64 n.hi)
  c5 : w.cell? ⟨g.block, g.off + 5, none⟩ = some (.int .i64 n.set)
theorem NodeAt.same {w w' : World} {g : Addr} {n : Nd} (h : NodeAt w g n) (hb : w'.heap[g.block]? = w.heap[g.block]?) : NodeAt w' g n := by
  have e : ∀ o, w'.cell? ⟨g.block, o, none⟩ = w.cell? ⟨g.block, o, none⟩ := fun o => World.cell?_of_block hb
  exact ⟨(World.cell?_of_block hb).trans h.c0, (e _).trans h.c1, (e _).trans h.c2, (e _).trans h.c3, (e _).trans h.c4, (e _).trans h.c5⟩
theorem NodeAt.next {w w' : World} {g : Addr} {n : Nd} (h : NodeAt w g n) (hb : Below w.heap.size w w') : NodeAt w' g n := h.same (hb.block _ (cell_lt h.c0))
theorem node_new (w : World) (n : Nd) (t : TypeId) : NodeAt (w.alloc (.cells #[.int .i64 n.op, .int .i64 n.a, .int .i64 n.b, .int .i64 n.lo, .int .i64 n.hi, .int .i64 n.set] t)) ⟨w.heap.size, 0, none⟩ n := by
  constructor <;> (rw [World.cell?_alloc_new]; rfl)

/-- a slice that reads as these nodes -/
def NodesAt (w : World) (v : Value) (l : List Nd) : Prop :=
  (v = .slice none 0 0 ∧ l = []) ∨ ∃ (a : Addr) (cap : Nat), v = .slice (some a) l.length cap ∧ l.length ≤ maxLen ∧ ∀ i, i < l.length → NodeAt w (a.add (i * 6)) (nd l i)
theorem NodesAt.next {w w' : World} {v : Value} {l : List Nd} (h : NodesAt w v l) (hb : Below w.heap.size w w') : NodesAt w' v l := by
  rcases h with h | ⟨a, cap, hv, hm, hc⟩
  · exact .inl h
  · exact .inr ⟨a, cap, hv, hm, fun i hi => (hc i hi).next hb⟩
theorem NodesAt.shape {w : World} {v : Value} {l : List Nd} (h : NodesAt w v l) :
    ∃ (ao : Option Addr) (cap : Nat), v = .slice ao l.length cap ∧ l.length ≤ 9223372036854775807 ∧ ∀ i, i < l.length → ∃ g, ao = some g ∧ NodeAt w (g.add (i * 6)) (nd l i) := by
  rcases h with ⟨rfl, rfl⟩ | ⟨a, cap, hv, hm, hc⟩
  · exact ⟨none, 0, rfl, by simp, fun i hi => by simp at hi⟩
  · exact ⟨some a, cap, hv, by unfold maxLen at hm; omega, fun i hi => ⟨a, rfl, hc i hi⟩⟩
/-- nodes that the call owns -/
abbrev NRow (w : World) (B : Nat) (v : Value) (l : List Nd) : Prop := w.ownsRow B 56 6 v l.length (flatN l)
theorem nodes_of_row {w : World} {B : Nat} {v : Value} {l : List Nd} (h : NRow w B v l) : NodesAt w v l := by
  rcases h.2 with ⟨rfl, h0⟩ | ⟨g, cap, cur, rfl, _, hg, hn, hm, hcs, ht⟩
  · exact .inl ⟨rfl, List.eq_nil_of_length_eq_zero h0⟩
  · have hx : ∀ j x, (flatN l)[j]? = some x → w.cell? ⟨g, j, none⟩ = some x := fun j x hj => by
      rw [← ht, List.getElem?_take] at hj
      split at hj
      · simp [World.cell?, hg]; simpa using hj
      · cases hj
    refine .inr ⟨⟨g, 0, none⟩, cap, rfl, by omega, fun i hi => ?_⟩
    obtain ⟨h0, h1, h2, h3, h4, h5⟩ := flatN_at l i hi
    rw [add_zero]
    exact ⟨hx _ _ h0, hx _ _ h1, hx _ _ h2, hx _ _ h3, hx _ _ h4, hx _ _ h5⟩

/-- a tree as a value -/
structure TreeAt (w : World) (v : Value) (t : Tr) : Prop where
  mk' : ∃ vn vs, v = .agg #[vn, vs, .int .i64 t.root] ∧ NodesAt w vn t.ns ∧ RowsAt w vs t.sets
theorem TreeAt.next {w w' : World} {v : Value} {t : Tr} (h : TreeAt w v t) (hb : Below w.heap.size w w') : TreeAt w' v t := by
  obtain ⟨vn, vs, e, h1, h2⟩ := h
  exact ⟨vn, vs, e, h1.next hb, h2.next hb⟩
theorem TreeAt.shape {w : World} {v : Value} {t : Tr} (h : TreeAt w v t) : ∃ (ao : Option Addr) (cap : Nat) (so : Option Addr) (scap : Nat), v = .agg #[.slice ao t.ns.length cap, .slice so t.sets.length scap, .int .i64 t.root] ∧ t.ns.length ≤ 9223372036854775807 ∧ t.sets.length ≤ 9223372036854775807 ∧
    (∀ i, i < t.ns.length → ∃ g, ao = some g ∧ NodeAt w (g.add (i * 6)) (nd t.ns i)) ∧ (∀ i, i < t.sets.length → ∃ g x, so = some g ∧ w.cell? (g.add i) = some x ∧ RngsAt w x (nthL t.sets i)) := by
  obtain ⟨vn, vs, e, h1, h2⟩ := h
  obtain ⟨ao, cap, rfl, hm, hc⟩ := h1.shape
  obtain ⟨so, scap, rfl, hm2, hc2⟩ := h2.shape
  exact ⟨ao, cap, so, scap, e, hm, hm2, hc, hc2⟩

theorem infoN : (Tryd.prog.info? 56).map (fun i => (i.zero, i.size, i.bytes)) = some (some (.agg #[.int .i64 0, .int .i64 0, .int .i64 0, .int .i64 0, .int .i64 0, .int .i64 0]), 6, 48) := by kernel_rfl

end Go.Proofs.YtdmceapbobkklaaDoor.Ar

namespace Go.Proofs.YtdmceapbobkklaaDoor.Ar
open Go Go.RowKit Go.Shelf
open Go.Proofs.YtdmceapbobkklaaDoor.Rg (R RngsAt RowsAt nthL add_zero own_next)

theorem ret_e {a b : Int} (h : a = b) : Ending.returned (.int .i64 a) = .returned (.int .i64 b) := by rw [h]
/-- the box of a tree -/
def boxT (vn vs : Value) (r : Int) : Obj := .cells #[vn, vs, .int .i64 r] 25
structure TBox (W : World) (b : Nat) (vn vs : Value) (r : Int) : Prop where
  c0 : W.cell? ⟨b, 0, none⟩ = some vn
  c1 : W.cell? ⟨b, 1, none⟩ = some vs
  c2 : W.cell? ⟨b, 2, none⟩ = some (.int .i64 r)
theorem TBox.new (w : World) (vn vs : Value) (r : Int) : TBox (w.alloc (.cells #[vn, vs, .int .i64 r] 25)) w.heap.size vn vs r := by
  constructor <;> (rw [World.cell?_alloc_new]; rfl)
theorem TBox.next {W W' : World} {b : Nat} {vn vs : Value} {r : Int} (h : TBox W b vn vs r) (hb : Below W.heap.size W W') : TBox W' b vn vs r := ⟨cell_next h.c0 hb, cell_next h.c1 hb, cell_next h.c2 hb⟩

theorem check_big {t : Tr} (h : 4096 < t.ns.length ∨ 4096 < t.sets.length) : checkE t = 6 := by unfold checkE; rw [if_pos h]
theorem check_root {t : Tr} (h : ¬ (4096 < t.ns.length ∨ 4096 < t.sets.length)) (hr : rootB t = false) : checkE t = 3 := by unfold checkE okB; rw [if_neg h, hr]; rfl
theorem check_sets {t : Tr} (h : ¬ (4096 < t.ns.length ∨ 4096 < t.sets.length)) (hr : setsB t.sets t.sets.length = false) : checkE t = 3 := by unfold checkE okB; rw [if_neg h, hr, Bool.and_false, Bool.false_and]; rfl
theorem check_node {t : Tr} (h : ¬ (4096 < t.ns.length ∨ 4096 < t.sets.length)) (hr : allB t.ns t.sets.length t.ns.length = false) : checkE t = 3 := by unfold checkE okB; rw [if_neg h, hr, Bool.and_false]; rfl
theorem check_all {t : Tr} (h : ¬ (4096 < t.ns.length ∨ 4096 < t.sets.length)) (h1 : rootB t = true) (h2 : setsB t.sets t.sets.length = true) (h3 : allB t.ns t.sets.length t.ns.length = true) : checkE t = 0 := by unfold checkE okB; rw [if_neg h, h1, h2, h3]; rfl

end Go.Proofs.YtdmceapbobkklaaDoor.Ar

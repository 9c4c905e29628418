/- A node's parts in its text. -/
import Derived.Test.YtgjiofkjogjhhaaGreatDoorPk03
import Derived.Test.YtgjiofkjogjhhaaGreatDoorPk02
import Derived.Test.YtgjiofkjogjhhaaGreatDoorPk04
import Derived.Test.YtgjiofkjogjhhaaGreatDoorPk13
import Derived.Laws.ResultCell
import Derived.Deep.RegionHeld3
import Derived.Deep.DeepMust

namespace Go.Proofs.YtgjiofkjogjhhaaGreatDoor.Rp
open Go Go.RowKit Go.Shelf
open Go.Proofs.YtgjiofkjogjhhaaGreatDoor.Ar (Nd nd Tr Ok TreeAt NodeAt)
open Go.Proofs.YtgjiofkjogjhhaaGreatDoor.Rg (add_zero)

theorem brackets_any (x : Int) (q : Bool) (w : World) : Calls Tryz.prog 98 #[.agg #[.int .i64 x, .bool q]] w fun e w' => e = .returned (.int .i64 (brk q)) ∧ w' = w.alloc (.cells #[.int .i64 x, .bool q] 122) := by
  cases q
  all_goals (
    go_enter Tryz.func98, Tryz.ntmps98
    go_wp2
    go_ret
    exact ⟨rfl, rfl⟩)

/-- a slice of kinds, as a call has written it down -/
def KsAt (W : World) (v : Value) (ks : List Int) : Prop := (v = .slice none 0 0 ∧ ks = []) ∨ ∃ B, v = .slice (some ⟨B, 0, none⟩) ks.length ks.length ∧ ks.length ≤ 100 ∧ ∀ j, j < ks.length → W.cell? ⟨B, 0 + j, none⟩ = some (.int .i64 (ks.getD j 0))
theorem contains_any (ks : List Int) (v : Value) (x : Int) (w : World) (h : KsAt w v ks) : Calls Tryz.prog 111 #[v, .int .i64 x] w fun e w' => e = .returned (.bool (ks.contains x)) ∧ w' = w := by
  rcases h with ⟨rfl, rfl⟩ | ⟨B, rfl, hl, hc⟩
  · exact Tryz.slices_Contains_int_empty none 0 x w
  · refine (Tryz.slices_Contains_int B 0 ks.length ks.length ks x w (Nat.le_refl _) (by omega) hc).mono ?_
    rintro e w' ⟨rfl, rfl⟩
    exact ⟨by rw [List.take_length], rfl⟩

set_option maxRecDepth 100000 in
set_option maxHeartbeats 1600000 in
theorem of_any (x n cap : Nat) (g : Addr) (o : Int) (tb : Nat) (ks : List Int) (vk : Value) (W : World) (hx : x < n) (_hn : n ≤ 9223372036854775807) (hT : W.cell? ⟨tb, 0, none⟩ = some (.slice (some g) n cap)) (ho : W.cell? (g.add (x * 6)) = some (.int .i64 o)) (hk : KsAt W vk ks) :
    Calls Tryz.prog 110 #[.int .i64 x, vk, .pointer (some ⟨tb, 0, none⟩)] W fun e w' => e = .returned (.agg #[.int .i64 x, .bool (ks.contains o)]) ∧ w' = W.alloc (.cells #[.int .i64 x, .bool (ks.contains o)] 122) := by
  have hb := (Below.refl W.heap.size W).alloc (Nat.le_refl _) (.cells #[.int .i64 0, .bool false] 122)
  have c0 := cell_next hT hb
  have c1 := cell_next ho hb
  have hlt := cell_lt hT
  have hlo := cell_lt ho
  have CC := Lib.hid (contains_any ks vk o (W.alloc (.cells #[.int .i64 0, .bool false] 122)) (by
    rcases hk with h | ⟨B, h1, h2, h3⟩
    · exact .inl h
    · exact .inr ⟨B, h1, h2, fun j hj => cell_next (h3 j hj) hb⟩))
  generalize ks.contains o = q at *
  clear hk hb
  go_enter Tryz.func110, Tryz.ntmps110
  go_wp2_with (go_at_call 111; (with_reducible refine CC.out.mono ?_); rintro e w1 ⟨rfl, hw⟩; subst hw)
  (try simp only [Exit.inBlock, Exit.then])
  refine bodyPost_ret (results_cell_row rfl _ _ W.heap.size 122 #[.int .i64 x, .bool q] (0, 0) _ rfl (heap_alloc_new _ _) Tryz.underlying122 rfl (by kernel_rfl)) rfl ?_
  exact ⟨rfl, rfl⟩

end Go.Proofs.YtgjiofkjogjhhaaGreatDoor.Rp

namespace Go.Proofs.YtgjiofkjogjhhaaGreatDoor.Rp
open Go Go.RowKit Go.Shelf
open Go.Proofs.YtgjiofkjogjhhaaGreatDoor.Ar (Nd nd Tr Ok TreeAt NodeAt nodeB nodeB_ways)
open Go.Proofs.YtgjiofkjogjhhaaGreatDoor.Rg (add_zero)

/-- the parts, each with whether brackets stand about it -/
def partsP (l : List Nd) (n : Nd) : List (Int × Bool) :=
  if n.op = 3 then [(n.a, opB l n.a [4]), (n.b, opB l n.b [3, 4])] else if n.op = 4 then [(n.a, false), (n.b, opB l n.b [4])] else if n.op = 5 then [(n.a, opB l n.a [3, 4, 5])] else []
def flatP (L : List (Int × Bool)) : List Value := L.flatMap fun p => [Value.int .i64 p.1, Value.bool p.2]
/-- a slice that reads as these parts -/
def PartsAt (W : World) (v : Value) (L : List (Int × Bool)) : Prop := (v = .slice none 0 0 ∧ L = []) ∨ ∃ B, v = .slice (some ⟨B, 0, none⟩) L.length L.length ∧ W.heap[B]? = some (.cells (flatP L).toArray 122 (0, 0))
/-- what parts tells -/
def PartsOut (L : List (Int × Bool)) (w : World) (e : Ending) (w' : World) : Prop := ∃ v, e = .returned v ∧ PartsAt w' v L ∧ Below w.heap.size w w'

theorem ks_at0 (W : World) : KsAt W (.slice none 0 0) [] := .inl ⟨rfl, rfl⟩
theorem ks_at1 {W : World} {B : Nat} {a : Int} (h0 : W.cell? ⟨B, 0, none⟩ = some (.int .i64 a)) : KsAt W (.slice (some ⟨B, 0, none⟩) 1 1) [a] :=
  .inr ⟨_, rfl, by simp, fun j hj => by
    match j, hj with
    | 0, _ => exact h0⟩
theorem ks_at2 {W : World} {B : Nat} {a b : Int} (h0 : W.cell? ⟨B, 0, none⟩ = some (.int .i64 a)) (h1 : W.cell? ⟨B, 1, none⟩ = some (.int .i64 b)) : KsAt W (.slice (some ⟨B, 0, none⟩) 2 2) [a, b] :=
  .inr ⟨_, rfl, by simp, fun j hj => by
    match j, hj with
    | 0, _ => exact h0
    | 1, _ => exact h1⟩
theorem ks_at3 {W : World} {B : Nat} {a b c : Int} (h0 : W.cell? ⟨B, 0, none⟩ = some (.int .i64 a)) (h1 : W.cell? ⟨B, 1, none⟩ = some (.int .i64 b)) (h2 : W.cell? ⟨B, 2, none⟩ = some (.int .i64 c)) : KsAt W (.slice (some ⟨B, 0, none⟩) 3 3) [a, b, c] :=
  .inr ⟨_, rfl, by simp, fun j hj => by
    match j, hj with
    | 0, _ => exact h0
    | 1, _ => exact h1
    | 2, _ => exact h2⟩
theorem cellA {W : World} {cs : Array Value} {ty : TypeId} {B o : Nat} {v : Value} (hB : B = W.heap.size) (h : cs[o]? = some v) : (W.alloc (.cells cs ty)).cell? ⟨B, o, none⟩ = some v := by
  subst hB; rw [World.cell?_alloc_new]; exact h
theorem cellB {W : World} {C : Obj} {B o : Nat} {v : Value} (h : W.cell? ⟨B, o, none⟩ = some v) : (W.alloc C).cell? ⟨B, o, none⟩ = some v := cell_next h ((Below.refl _ _).alloc (Nat.le_refl _) _)
theorem cellD {W : World} {p : Addr} {v : Value} (h : W.cell? p = some v) : W.drew.cell? p = some v := h
/-- what stands between a statement's calls: the two boxes -/
theorem sp_alloc {w W : World} {x a b : Value} {C : Obj} (h : W.cell? ⟨w.heap.size, 0, none⟩ = some x ∧ W.cell? ⟨w.heap.size + 1, 1, none⟩ = some a ∧ W.cell? ⟨w.heap.size + 1, 2, none⟩ = some b ∧ Below w.heap.size w W) :
    (W.alloc C).cell? ⟨w.heap.size, 0, none⟩ = some x ∧ (W.alloc C).cell? ⟨w.heap.size + 1, 1, none⟩ = some a ∧ (W.alloc C).cell? ⟨w.heap.size + 1, 2, none⟩ = some b ∧ Below w.heap.size w (W.alloc C) :=
  ⟨cellB h.1, cellB h.2.1, cellB h.2.2.1, h.2.2.2.alloc h.2.2.2.size C⟩
theorem sp_drew {w W : World} {x a b : Value} (h : W.cell? ⟨w.heap.size, 0, none⟩ = some x ∧ W.cell? ⟨w.heap.size + 1, 1, none⟩ = some a ∧ W.cell? ⟨w.heap.size + 1, 2, none⟩ = some b ∧ Below w.heap.size w W) :
    W.drew.cell? ⟨w.heap.size, 0, none⟩ = some x ∧ W.drew.cell? ⟨w.heap.size + 1, 1, none⟩ = some a ∧ W.drew.cell? ⟨w.heap.size + 1, 2, none⟩ = some b ∧ Below w.heap.size w W.drew :=
  ⟨h.1, h.2.1, h.2.2.1, h.2.2.2.drew⟩
theorem heapD {W : World} {o : Obj} {B : Nat} (h : W.heap[B]? = some o) : W.drew.heap[B]? = some o := h
theorem three_cell {w : World} {A B : Obj} {cs : Array Value} {ty : TypeId} {o : Nat} {v : Value} (h : cs[o]? = some v) : (((w.alloc A).alloc B).alloc (.cells cs ty)).cell? ⟨w.heap.size + 1 + 1, o, none⟩ = some v := by
  rw [show w.heap.size + 1 + 1 = ((w.alloc A).alloc B).heap.size by simp, World.cell?_alloc_new]; exact h
theorem two_cell {w : World} {A B C : Obj} {o : Nat} {v : Value} (h : ((w.alloc A).alloc B).cell? ⟨w.heap.size, o, none⟩ = some v) : (((w.alloc A).alloc B).alloc C).cell? ⟨w.heap.size, o, none⟩ = some v :=
  cell_next h ((Below.refl _ _).alloc (Nat.le_refl _) _)
theorem KsAt.next {W W' : World} {v : Value} {ks : List Int} (h : KsAt W v ks) (hb : Below W.heap.size W W') : KsAt W' v ks := by
  rcases h with h | ⟨B, h1, h2, h3⟩
  · exact .inl h
  · exact .inr ⟨B, h1, h2, fun j hj => cell_next (h3 j hj) hb⟩

set_option maxRecDepth 100000 in
set_option maxHeartbeats 8000000 in
theorem parts_any (t : Tr) (ht : Ok t) (i : Nat) (hi : i < t.ns.length) (v : Value) (w : World) (hv : TreeAt w v t) :
    Calls Tryz.prog 97 #[v, .agg #[.int .i64 (nd t.ns i).op, .int .i64 (nd t.ns i).a, .int .i64 (nd t.ns i).b, .int .i64 (nd t.ns i).lo, .int .i64 (nd t.ns i).hi, .int .i64 (nd t.ns i).set]] w (PartsOut (partsP t.ns (nd t.ns i)) w) := by
  obtain ⟨ao, cap, so, scap, rfl, hm, _, hn, _⟩ := hv.shape
  obtain ⟨g, rfl, _⟩ := hn i hi
  have hop : ∀ j : Nat, j < t.ns.length → w.cell? (g.add (j * 6)) = some (.int .i64 (nd t.ns j).op) := fun j hj => by
    obtain ⟨g', e, h⟩ := hn j hj
    have e' : g = g' := Option.some.inj e
    rw [e']; exact h.c0
  have b2 := Lib.hid (((Below.refl w.heap.size w).alloc (Nat.le_refl _) (.cells #[.slice (some g) t.ns.length cap, .slice so t.sets.length scap, .int .i64 t.root] 38)).alloc (by simp) (.cells #[.int .i64 (nd t.ns i).op, .int .i64 (nd t.ns i).a, .int .i64 (nd t.ns i).b, .int .i64 (nd t.ns i).lo, .int .i64 (nd t.ns i).hi, .int .i64 (nd t.ns i).set] 70))
  have CO := Lib.hid (fun (x : Nat) (hx : x < t.ns.length) (vk : Value) (ks : List Int) (W : World) (h1 : Below w.heap.size w W) (h2 : W.cell? ⟨w.heap.size, 0, none⟩ = some (.slice (some g) t.ns.length cap)) (h3 : KsAt W vk ks) => of_any x t.ns.length cap g (nd t.ns x).op w.heap.size ks vk W hx hm h2 (cell_next (hop x hx) h1) h3)
  clear hop hn hv hm
  unfold PartsOut
  have hP := Lib.hid (show partsP t.ns (nd t.ns i) = if (nd t.ns i).op = 3 then [((nd t.ns i).a, opB t.ns (nd t.ns i).a [4]), ((nd t.ns i).b, opB t.ns (nd t.ns i).b [3, 4])] else if (nd t.ns i).op = 4 then [((nd t.ns i).a, false), ((nd t.ns i).b, opB t.ns (nd t.ns i).b [4])] else if (nd t.ns i).op = 5 then [((nd t.ns i).a, opB t.ns (nd t.ns i).a [3, 4, 5])] else [] from rfl)
  rcases nodeB_ways (ht.node i hi) with ⟨h1, _⟩ | ⟨h1, _⟩ | ⟨h1 | h1, h2⟩ | ⟨h1, h2⟩
  · have HE := Lib.hid (show partsP t.ns (nd t.ns i) = [] by rw [hP.out, if_neg (by omega), if_neg (by omega), if_neg (by omega)])
    clear CO hP
    generalize partsP t.ns (nd t.ns i) = L at *
    generalize nd t.ns i = n at *
    obtain ⟨op, na, nb, lo, hi', st⟩ := n
    dsimp only at *
    subst h1
    go_enter Tryz.func97, Tryz.ntmps97
    go_wp2
    go_ret
    exact ⟨_, rfl, .inl ⟨rfl, HE.out⟩, ((Below.refl w.heap.size w).alloc (Nat.le_refl _) _).alloc (by simp) _⟩
  · have HE := Lib.hid (show partsP t.ns (nd t.ns i) = [] by rw [hP.out, if_neg (by omega), if_neg (by omega), if_neg (by omega)])
    clear CO hP
    generalize partsP t.ns (nd t.ns i) = L at *
    generalize nd t.ns i = n at *
    obtain ⟨op, na, nb, lo, hi', st⟩ := n
    dsimp only at *
    subst h1
    go_enter Tryz.func97, Tryz.ntmps97
    go_wp2
    go_ret
    exact ⟨_, rfl, .inl ⟨rfl, HE.out⟩, ((Below.refl w.heap.size w).alloc (Nat.le_refl _) _).alloc (by simp) _⟩
  · have hab : 0 ≤ (nd t.ns i).a ∧ (nd t.ns i).a < i ∧ 0 ≤ (nd t.ns i).b ∧ (nd t.ns i).b < i := ⟨h2.1, h2.2.1, h2.2.2.1, h2.2.2.2.1⟩
    obtain ⟨ha0, ha1, hb0, hb1⟩ := hab
    obtain ⟨a, ha⟩ := Int.eq_ofNat_of_zero_le ha0
    obtain ⟨b, hb⟩ := Int.eq_ofNat_of_zero_le hb0
    have HE := Lib.hid (show partsP t.ns (nd t.ns i) = [((nd t.ns i).a, opB t.ns (nd t.ns i).a [4]), ((nd t.ns i).b, opB t.ns (nd t.ns i).b [3, 4])] by rw [hP.out, if_pos h1])
    have ca := Lib.hid (CO.out a (by omega))
    have cb := Lib.hid (CO.out b (by omega))
    unfold opB at HE
    rw [ha, hb, Int.toNat_natCast, Int.toNat_natCast] at HE
    have CA := Lib.hid (fun vk W (h : W.cell? ⟨w.heap.size, 0, none⟩ = some (.slice (some g) t.ns.length cap) ∧ W.cell? ⟨w.heap.size + 1, 1, none⟩ = some (.int .i64 (a : Int)) ∧ W.cell? ⟨w.heap.size + 1, 2, none⟩ = some (.int .i64 (b : Int)) ∧ Below w.heap.size w W) (k : KsAt W vk [4]) => ca.out vk [4] W h.2.2.2 h.1 k)
    have CB := Lib.hid (fun vk W (h : W.cell? ⟨w.heap.size, 0, none⟩ = some (.slice (some g) t.ns.length cap) ∧ W.cell? ⟨w.heap.size + 1, 1, none⟩ = some (.int .i64 (a : Int)) ∧ W.cell? ⟨w.heap.size + 1, 2, none⟩ = some (.int .i64 (b : Int)) ∧ Below w.heap.size w W) (k : KsAt W vk [3, 4]) => cb.out vk [3, 4] W h.2.2.2 h.1 k)
    clear ca cb
    clear CO hP h2 ha0 ha1 hb0 hb1
    generalize partsP t.ns (nd t.ns i) = L at *
    generalize List.contains [4] (nd t.ns a).op = qa at *
    generalize List.contains [3, 4] (nd t.ns b).op = qb at *
    generalize nd t.ns i = n at *
    obtain ⟨op, na, nb, lo, hi', st⟩ := n
    dsimp only at *
    subst h1 ha hb
    go_enter Tryz.func97, Tryz.ntmps97
    go_wp2
    have f0 : (((w.alloc (.cells #[.slice (some g) t.ns.length cap, .slice so t.sets.length scap, .int .i64 t.root] 38)).alloc (.cells #[.int .i64 3, .int .i64 (a : Int), .int .i64 (b : Int), .int .i64 lo, .int .i64 hi', .int .i64 st] 70)).drew).cell? ⟨w.heap.size, 0, none⟩ = some (.slice (some g) t.ns.length cap) := by show World.cell? (World.alloc _ _) _ = _; simp
    have f1 : (((w.alloc (.cells #[.slice (some g) t.ns.length cap, .slice so t.sets.length scap, .int .i64 t.root] 38)).alloc (.cells #[.int .i64 3, .int .i64 (a : Int), .int .i64 (b : Int), .int .i64 lo, .int .i64 hi', .int .i64 st] 70)).drew).cell? ⟨w.heap.size + 1, 1, none⟩ = some (.int .i64 (a : Int)) := by show World.cell? (World.alloc _ _) _ = _; simp
    have f2 : (((w.alloc (.cells #[.slice (some g) t.ns.length cap, .slice so t.sets.length scap, .int .i64 t.root] 38)).alloc (.cells #[.int .i64 3, .int .i64 (a : Int), .int .i64 (b : Int), .int .i64 lo, .int .i64 hi', .int .i64 st] 70)).drew).cell? ⟨w.heap.size + 1, 2, none⟩ = some (.int .i64 (b : Int)) := by show World.cell? (World.alloc _ _) _ = _; simp
    have f3 := b2.out.drew
    generalize ((w.alloc (.cells #[.slice (some g) t.ns.length cap, .slice so t.sets.length scap, .int .i64 t.root] 38)).alloc (.cells #[.int .i64 3, .int .i64 (a : Int), .int .i64 (b : Int), .int .i64 lo, .int .i64 hi', .int .i64 st] 70)) = W at *
    have f4 := And.intro f0 (And.intro f1 (And.intro f2 f3))
    go_region_held3 (fun W => W.cell? ⟨w.heap.size, 0, none⟩ = some (.slice (some g) t.ns.length cap) ∧ W.cell? ⟨w.heap.size + 1, 1, none⟩ = some (.int .i64 (a : Int)) ∧ W.cell? ⟨w.heap.size + 1, 2, none⟩ = some (.int .i64 (b : Int)) ∧ Below w.heap.size w W) (first | assumption | exact sp_drew (sp_alloc (by assumption)) | exact sp_alloc (by assumption) | exact sp_drew (sp_alloc f4) | go_keep)
      (first
        | (go_at_call 110; (with_reducible refine (CA.out _ _ ?_ ?_).mono ?_); (· first | assumption | exact sp_drew (by assumption)); (· refine ks_at1 ?_; (repeat (first | (refine cellA ?_ rfl; simp; done) | refine cellD ?_ | refine cellB ?_))); rintro e w1 ⟨rfl, hw⟩; subst hw)
        | (go_at_call 110; (with_reducible refine (CB.out _ _ ?_ ?_).mono ?_); (· first | assumption | exact sp_drew (by assumption)); (· refine ks_at2 ?_ ?_ <;> (repeat (first | (refine cellA ?_ rfl; simp; done) | refine cellD ?_ | refine cellB ?_))); rintro e w1 ⟨rfl, hw⟩; subst hw)
        | fail)
    all_goals (
      go_wp2
      go_ret
      refine ⟨_, rfl, .inr ⟨_, by rw [HE.out]; rfl, ?_⟩, ?_⟩
      · rw [HE.out]; first | exact heapA (by simp) | exact heapD (heapA (by simp))
      · first | exact (And.right (And.right (And.right (by assumption)))) | assumption | exact belA (by assumption))
  · have hab : 0 ≤ (nd t.ns i).a ∧ (nd t.ns i).a < i ∧ 0 ≤ (nd t.ns i).b ∧ (nd t.ns i).b < i := ⟨h2.1, h2.2.1, h2.2.2.1, h2.2.2.2.1⟩
    obtain ⟨ha0, ha1, hb0, hb1⟩ := hab
    obtain ⟨a, ha⟩ := Int.eq_ofNat_of_zero_le ha0
    obtain ⟨b, hb⟩ := Int.eq_ofNat_of_zero_le hb0
    have HE := Lib.hid (show partsP t.ns (nd t.ns i) = [((nd t.ns i).a, List.contains [] (nd t.ns a).op), ((nd t.ns i).b, opB t.ns (nd t.ns i).b [4])] by rw [hP.out, if_neg (by omega), if_pos h1]; rfl)
    have ca := Lib.hid (CO.out a (by omega))
    have cb := Lib.hid (CO.out b (by omega))
    unfold opB at HE
    rw [ha, hb, Int.toNat_natCast] at HE
    have CA := Lib.hid (fun vk W (h : W.cell? ⟨w.heap.size, 0, none⟩ = some (.slice (some g) t.ns.length cap) ∧ W.cell? ⟨w.heap.size + 1, 1, none⟩ = some (.int .i64 (a : Int)) ∧ W.cell? ⟨w.heap.size + 1, 2, none⟩ = some (.int .i64 (b : Int)) ∧ Below w.heap.size w W) (k : KsAt W vk []) => ca.out vk [] W h.2.2.2 h.1 k)
    have CB := Lib.hid (fun vk W (h : W.cell? ⟨w.heap.size, 0, none⟩ = some (.slice (some g) t.ns.length cap) ∧ W.cell? ⟨w.heap.size + 1, 1, none⟩ = some (.int .i64 (a : Int)) ∧ W.cell? ⟨w.heap.size + 1, 2, none⟩ = some (.int .i64 (b : Int)) ∧ Below w.heap.size w W) (k : KsAt W vk [4]) => cb.out vk [4] W h.2.2.2 h.1 k)
    clear ca cb
    clear CO hP h2 ha0 ha1 hb0 hb1
    generalize partsP t.ns (nd t.ns i) = L at *
    generalize List.contains [] (nd t.ns a).op = qa at *
    generalize List.contains [4] (nd t.ns b).op = qb at *
    generalize nd t.ns i = n at *
    obtain ⟨op, na, nb, lo, hi', st⟩ := n
    dsimp only at *
    subst h1 ha hb
    go_enter Tryz.func97, Tryz.ntmps97
    go_wp2
    have f0 : (((w.alloc (.cells #[.slice (some g) t.ns.length cap, .slice so t.sets.length scap, .int .i64 t.root] 38)).alloc (.cells #[.int .i64 4, .int .i64 (a : Int), .int .i64 (b : Int), .int .i64 lo, .int .i64 hi', .int .i64 st] 70)).drew).cell? ⟨w.heap.size, 0, none⟩ = some (.slice (some g) t.ns.length cap) := by show World.cell? (World.alloc _ _) _ = _; simp
    have f1 : (((w.alloc (.cells #[.slice (some g) t.ns.length cap, .slice so t.sets.length scap, .int .i64 t.root] 38)).alloc (.cells #[.int .i64 4, .int .i64 (a : Int), .int .i64 (b : Int), .int .i64 lo, .int .i64 hi', .int .i64 st] 70)).drew).cell? ⟨w.heap.size + 1, 1, none⟩ = some (.int .i64 (a : Int)) := by show World.cell? (World.alloc _ _) _ = _; simp
    have f2 : (((w.alloc (.cells #[.slice (some g) t.ns.length cap, .slice so t.sets.length scap, .int .i64 t.root] 38)).alloc (.cells #[.int .i64 4, .int .i64 (a : Int), .int .i64 (b : Int), .int .i64 lo, .int .i64 hi', .int .i64 st] 70)).drew).cell? ⟨w.heap.size + 1, 2, none⟩ = some (.int .i64 (b : Int)) := by show World.cell? (World.alloc _ _) _ = _; simp
    have f3 := b2.out.drew
    generalize ((w.alloc (.cells #[.slice (some g) t.ns.length cap, .slice so t.sets.length scap, .int .i64 t.root] 38)).alloc (.cells #[.int .i64 4, .int .i64 (a : Int), .int .i64 (b : Int), .int .i64 lo, .int .i64 hi', .int .i64 st] 70)) = W at *
    have f4 := And.intro f0 (And.intro f1 (And.intro f2 f3))
    go_region_held3 (fun W => W.cell? ⟨w.heap.size, 0, none⟩ = some (.slice (some g) t.ns.length cap) ∧ W.cell? ⟨w.heap.size + 1, 1, none⟩ = some (.int .i64 (a : Int)) ∧ W.cell? ⟨w.heap.size + 1, 2, none⟩ = some (.int .i64 (b : Int)) ∧ Below w.heap.size w W) (first | assumption | exact sp_drew (sp_alloc (by assumption)) | exact sp_alloc (by assumption) | exact sp_drew (sp_alloc f4) | go_keep)
      (first
        | (go_at_call 110; (with_reducible refine (CA.out _ _ ?_ ?_).mono ?_); (· first | assumption | exact sp_drew (by assumption)); (· exact ks_at0 _); rintro e w1 ⟨rfl, hw⟩; subst hw)
        | (go_at_call 110; (with_reducible refine (CB.out _ _ ?_ ?_).mono ?_); (· first | assumption | exact sp_drew (by assumption)); (· refine ks_at1 ?_; (repeat (first | (refine cellA ?_ rfl; simp; done) | refine cellD ?_ | refine cellB ?_))); rintro e w1 ⟨rfl, hw⟩; subst hw)
        | fail)
    all_goals (
      go_wp2
      go_ret
      refine ⟨_, rfl, .inr ⟨_, by rw [HE.out]; rfl, ?_⟩, ?_⟩
      · rw [HE.out]; first | exact heapA (by simp) | exact heapD (heapA (by simp))
      · first | exact (And.right (And.right (And.right (by assumption)))) | assumption | exact belA (by assumption))
  · have ha0 := h2.1
    have ha1 := h2.2.1
    obtain ⟨a, ha⟩ := Int.eq_ofNat_of_zero_le ha0
    have HE := Lib.hid (show partsP t.ns (nd t.ns i) = [((nd t.ns i).a, opB t.ns (nd t.ns i).a [3, 4, 5])] by rw [hP.out, if_neg (by omega), if_neg (by omega), if_pos h1])
    have ca := Lib.hid (CO.out a (by omega))
    unfold opB at HE
    rw [ha, Int.toNat_natCast] at HE
    clear CO hP h2 ha0 ha1
    generalize partsP t.ns (nd t.ns i) = L at *
    generalize nd t.ns i = n at *
    obtain ⟨op, na, nb, lo, hi', st⟩ := n
    dsimp only at *
    subst h1 ha
    obtain ⟨W3, hW3⟩ : ∃ W3, W3 = (((w.alloc (.cells #[.slice (some g) t.ns.length cap, .slice so t.sets.length scap, .int .i64 t.root] 38)).alloc (.cells #[.int .i64 5, .int .i64 (a : Int), .int .i64 nb, .int .i64 lo, .int .i64 hi', .int .i64 st] 70)).alloc (.cells #[.int .i64 3, .int .i64 4, .int .i64 5] 3)) := ⟨_, rfl⟩
    have k1 : Below w.heap.size w W3 := by
      rw [hW3]
      refine b2.out.alloc ?_ _
      simp
      omega
    have k2 : W3.cell? ⟨w.heap.size, 0, none⟩ = some (.slice (some g) t.ns.length cap) := by rw [hW3]; exact two_cell (by simp)
    have k3 : KsAt W3 (.slice (some ⟨w.heap.size + 1 + 1, 0, none⟩) 3 3) [3, 4, 5] := ks_at3 (by rw [hW3]; exact three_cell rfl) (by rw [hW3]; exact three_cell rfl) (by rw [hW3]; exact three_cell rfl)
    have c1 := ca.out _ _ W3 k1 k2 k3
    generalize List.contains [3, 4, 5] (nd t.ns a).op = qa at *
    have C1 := Lib.hid c1
    clear c1 ca
    subst hW3
    clear k1 k2 k3
    go_enter Tryz.func97, Tryz.ntmps97
    go_wp2_with (go_at_call 110; (with_reducible refine C1.out.mono ?_); rintro e w1 ⟨rfl, hw⟩; subst hw)
    go_ret
    refine ⟨_, rfl, .inr ⟨_, by rw [HE.out]; rfl, ?_⟩, ?_⟩
    · rw [HE.out]; refine heapA ?_; simp
    · exact belA (belA (belA b2.out))

end Go.Proofs.YtgjiofkjogjhhaaGreatDoor.Rp

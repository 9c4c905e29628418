/- Times, of spans. A node's span, of a repetition. The spans of all nodes of a tree. The pile: a boxed slice of ranges that the call owns; its methods. The pile's methods by value. The heap's up, down, Push, Pop. -/
import Derived.Test.YtgjiofkjogjhhaaGreatDoorPk06
import Derived.Test.YtgjiofkjogjhhaaGreatDoorPk07
import Derived.Test.YtgjiofkjogjhhaaGreatDoorPk05
import Derived.Test.YtgjiofkjogjhhaaGreatDoorPk04
import Derived.Test.YtgjiofkjogjhhaaGreatDoorPk01
import Derived.ChangeKeysEq
import Derived.BigRegion
import Derived.RegionTactic
import Derived.Deep.QuietTactic
import Derived.BigQuiet
import Derived.Deep.AppendLies
import Derived.Deep.RegionLaw
import Derived.Shelf.Abstract
import Derived.WalkSpells

namespace Go.Proofs.YtgjiofkjogjhhaaGreatDoor.Ms
open Go Go.RowKit Go.Shelf
open Go.Proofs.YtgjiofkjogjhhaaGreatDoor.Rp (heapA heapB belA)

set_option maxRecDepth 100000 in
set_option maxHeartbeats 8000000 in
theorem times_any (s : Sp) (lo hi : Int) (hs : Bd s) (hl : 0 ≤ lo ∧ lo ≤ 255) (hh : hi = -1 ∨ lo ≤ hi ∧ hi ≤ 255) (w : World) : Calls Tryz.prog 125 #[aggS s, .int .i64 lo, .int .i64 hi] w fun e w' => e = .returned (aggS (timesS s lo hi)) ∧ Below w.heap.size w w' := by
  obtain ⟨sh, se, sl, sm⟩ := s
  obtain ⟨a0, a1, a2, a3⟩ := hs
  simp only at a0 a1 a2 a3
  obtain ⟨l0, l1⟩ := hl
  have C := Lib.hid (fun n W => counted_any n W)
  have HR : Hid (∀ x, timesS ⟨sh, se, sl, sm⟩ lo hi = x → Ending.returned (aggS x) = .returned (aggS (timesS ⟨sh, se, sl, sm⟩ lo hi))) := Lib.hid fun x h => by rw [h]
  by_cases h0 : hi = 0
  · subst h0
    have HZ := Lib.hid (HR.out e0 (by unfold timesS; rw [if_pos (.inl rfl)]))
    clear HR C
    generalize Ending.returned (aggS (timesS ⟨sh, se, sl, sm⟩ lo 0)) = E at *
    unfold aggS e0 at *
    clear hh
    go_enter Tryz.func125, Tryz.ntmps125
    go_wp2
    (try simp only [Exit.inBlock, Exit.then])
    refine bodyPost_ret (results_cell_row rfl _ _ (w.heap.size + 1) 124 #[.bool true, .bool false, .int .i64 0, .int .i64 0] (0, 0) _ rfl (heapA (by simp)) Tryz.underlying124 rfl (by kernel_rfl)) rfl ?_
    exact ⟨HZ.out, belA (belA (Below.refl _ _))⟩
  · have d0 : (hi == 0) = false := by simpa using h0
    cases sh
    · by_cases h1 : lo = 0
      · subst h1
        have HZ := Lib.hid (HR.out e0 (by unfold timesS; rw [if_pos (.inr ⟨rfl, rfl⟩)]))
        clear HR C
        generalize Ending.returned (aggS (timesS ⟨false, se, sl, sm⟩ 0 hi)) = E at *
        unfold aggS e0 at *
        clear hh h0
        go_enter Tryz.func125, Tryz.ntmps125
        go_wp2
        (try simp only [Exit.inBlock, Exit.then])
        refine bodyPost_ret (results_cell_row rfl _ _ (w.heap.size + 1) 124 #[.bool true, .bool false, .int .i64 0, .int .i64 0] (0, 0) _ rfl (heapA (by simp)) Tryz.underlying124 rfl (by kernel_rfl)) rfl ?_
        exact ⟨HZ.out, belA (belA (Below.refl _ _))⟩
      · have d1 : (lo == 0) = false := by simpa using h1
        have HZ := Lib.hid (HR.out z0 (by unfold timesS; rw [if_neg (fun h => h.elim h0 fun h => h1 h.1), if_pos rfl]))
        clear HR C
        generalize Ending.returned (aggS (timesS ⟨false, se, sl, sm⟩ lo hi)) = E at *
        unfold aggS z0 at *
        clear hh h0 h1
        go_enter Tryz.func125, Tryz.ntmps125
        go_wp2
        (try simp only [Exit.inBlock, Exit.then])
        refine bodyPost_ret (results_cell_row rfl _ _ (w.heap.size + 1) 124 #[.bool false, .bool false, .int .i64 0, .int .i64 0] (0, 0) _ rfl (heapA (by simp)) Tryz.underlying124 rfl (by kernel_rfl)) rfl ?_
        exact ⟨HZ.out, belA (belA (Below.refl _ _))⟩
    · have HZ := Lib.hid (HR.out ⟨true, se || (decide (hi = -1) && decide (0 < sm)), cntd (lo * sl), cntd (max lo hi * sm)⟩ (by unfold timesS; rw [if_neg (fun h => h.elim h0 fun h => by cases h.2), if_neg (by simp)]))
      have C1 := Lib.hid (fun W => C.out (lo * sl) W)
      have C2 := Lib.hid (fun W => C.out (max lo hi * sm) W)
      have z1 : IntKind.i64.wrap (lo * sl) = lo * sl := by have := mul_bd l0 l1 a0 a1; rw [IntKind.wrap_i64]; omega
      have z2 : IntKind.i64.wrap (max lo hi * sm) = max lo hi * sm := by have := mul_bd (a := max lo hi) (by omega) (by omega) a2 a3; rw [IntKind.wrap_i64]; omega
      clear HR C
      generalize Ending.returned (aggS (timesS ⟨true, se, sl, sm⟩ lo hi)) = E at *
      unfold aggS at *
      generalize cntd (lo * sl) = x at *
      generalize cntd (max lo hi * sm) = y at *
      by_cases h1 : lo = 0
      · exact times_zero lo hi se sl sm x y E l0 l1 hh d0 (by simpa using h1) w C1 C2 z1 z2 HZ
      · exact times_more lo hi se sl sm x y E l0 l1 hh d0 (by simpa using h1) w C1 C2 z1 z2 HZ

end Go.Proofs.YtgjiofkjogjhhaaGreatDoor.Ms

namespace Go.Proofs.YtgjiofkjogjhhaaGreatDoor.Ms
open Go Go.RowKit Go.Shelf
open Go.Proofs.YtgjiofkjogjhhaaGreatDoor.Rp (heapA heapB belA)
open Go.Proofs.YtgjiofkjogjhhaaGreatDoor.Ar (Nd nd aggN)

set_option maxRecDepth 100000 in
set_option maxHeartbeats 4000000 in
theorem clo_rep (n : Nd) (P Q : List Sp) (bx : Nat) (vs vq : Value) (w : World) (hbx : w.cell? ⟨bx, 0, none⟩ = some vs) (hQ : SpsAt w vq Q) (ho : n.op = 5) (hl : Q.length = 1) (hB : Bd (Q.getD 0 z0)) (h0 : 0 ≤ n.lo ∧ n.lo ≤ 255) (h1 : n.hi = -1 ∨ n.lo ≤ n.hi ∧ n.hi ≤ 255) :
    Calls Tryz.prog 122 #[aggN n, vq, .pointer (some ⟨bx, 0, none⟩)] w fun e w' => e = .returned (aggS (spQ P Q n)) ∧ Below w.heap.size w w' := by
  obtain ⟨op, na, nb, lo, hi, st⟩ := n
  simp only at ho h0 h1
  subst ho
  have hr : spQ P Q ⟨5, na, nb, lo, hi, st⟩ = timesS (Q.getD 0 z0) lo hi := by unfold spQ; simp
  rw [hr]
  clear hr
  obtain ⟨ao, cap, rfl, hqm, hqc⟩ := hQ.shape
  obtain ⟨ad, rfl, hin0⟩ := hqc 0 (by omega)
  obtain ⟨W1, hW1, hb1, x2, hN⟩ := clo_boxes w ⟨5, na, nb, lo, hi, st⟩
  obtain ⟨g0, g1, g2, g3, g4, g5⟩ := hN
  have b0 := cell_next hbx hb1
  have hl2 := (Array.getElem?_eq_some_iff.1 x2).1
  have hl0 := cell_lt g0
  have hin0' := hin0.next hb1
  generalize Q.getD 0 z0 = s at *
  have C := Lib.hid (fun W => times_any s lo hi hB h0 h1 W)
  obtain ⟨c0, c1, c2, c3⟩ := hin0'
  generalize timesS s lo hi = r at *
  obtain ⟨sh, se, sl, sm⟩ := s
  rw [show ad.add (0 * 4) = ad from rfl] at c0 c1 c2 c3
  simp only at c0 c1 c2 c3 g3 g4
  have n0 : ad.block ≠ w.heap.size + 1 := by have := cell_lt hin0.c0; rw [add_block] at this; omega
  have n1 : w.heap.size ≠ w.heap.size + 1 := by omega
  have nl : ad.block < W1.heap.size := cell_lt c0
  have X1 := Lib.hid x2
  have HB := Lib.hid hb1
  unfold aggN
  unfold aggS at *
  rw [hl]
  have i0 : (0 : Int) < 1 := by decide
  clear hqc hQ hin0 hb1 x2 hbx hqm hl hB h0 h1
  go_enter Tryz.func122, Tryz.ntmps122
  go_upto_region 1 with fail
  rw [← hW1]
  clear hW1
  rw [Nat.zero_add] at g3 g4
  go_wp2
  go_region_held3 (fun W => W.cell? ad = some (.bool sh) ∧ W.cell? ⟨ad.block, ad.off + 1, none⟩ = some (.bool se) ∧ W.cell? ⟨ad.block, ad.off + 2, none⟩ = some (.int .i64 sl) ∧ W.cell? ⟨ad.block, ad.off + 3, none⟩ = some (.int .i64 sm) ∧ W.cell? ⟨w.heap.size, 3, none⟩ = some (.int .i64 lo) ∧ W.cell? ⟨w.heap.size, 4, none⟩ = some (.int .i64 hi)) (first | with_reducible exact ⟨c0, c1, c2, c3, g3, g4⟩ | with_reducible exact ⟨kc0, kc1, kc2, kc3, kg3, kg4⟩ | with_reducible exact ⟨cell_drew (put4 kc0 n0 _ _ _ _), cell_drew (put4 kc1 n0 _ _ _ _), cell_drew (put4 kc2 n0 _ _ _ _), cell_drew (put4 kc3 n0 _ _ _ _), cell_drew (put4 kg3 n1 _ _ _ _), cell_drew (put4 kg4 n1 _ _ _ _)⟩ | with_reducible exact ⟨put4 kc0 n0 _ _ _ _, put4 kc1 n0 _ _ _ _, put4 kc2 n0 _ _ _ _, put4 kc3 n0 _ _ _ _, put4 kg3 n1 _ _ _ _, put4 kg4 n1 _ _ _ _⟩ | go_keep) (first | (go_at_call 125; (with_reducible refine (C.out _).mono ?_); rintro e w3 ⟨rfl, hb3⟩; go_must (have hb4 := drew_back hb3; have kc0 := cell_next c0 hb4; have kc1 := cell_next c1 hb4; have kc2 := cell_next c2 hb4; have kc3 := cell_next c3 hb4; have kg3 := cell_next g3 hb4; have kg4 := cell_next g4 hb4; have X2 := Lib.hid (heap_below X1.out hb4); obtain ⟨e0', e1', e2', e3'⟩ := cells_sp X2.out; have f0 := Lib.frozen_of_heap X2.out 0; have f1 := Lib.frozen_of_heap X2.out 1; have f2 := Lib.frozen_of_heap X2.out 2; have f3 := Lib.frozen_of_heap X2.out 3; have l3 := (Array.getElem?_eq_some_iff.1 X2.out).1; have B3 := Lib.hid (HB.out.trans (hb4.mono HB.out.size)); clear hb3 hb4)) | fail)
  go_wp2
  (try simp only [Exit.inBlock, Exit.then])
  refine bodyPost_ret (results_cell_row rfl _ _ (w.heap.size + 1) 124 #[.bool (r).has, .bool (r).en, .int .i64 (r).le, .int .i64 (r).mo] (0, 0) _ rfl (set_sp X2.out _ _ _ _) Tryz.underlying124 rfl (by kernel_rfl)) rfl ?_
  exact ⟨rfl, below_sp B3.out (by omega) _ _ _ _⟩

end Go.Proofs.YtgjiofkjogjhhaaGreatDoor.Ms

namespace Go.Proofs.YtgjiofkjogjhhaaGreatDoor.Ms
open Go Go.RowKit Go.Shelf
open Go.Proofs.YtgjiofkjogjhhaaGreatDoor.Rp (heapA heapB belA)
open Go.Proofs.YtgjiofkjogjhhaaGreatDoor.Ar (Nd nd Tr Ok aggN TreeAt TBox nodeB nodeB_ways NodeAt node_new)
open Go.Proofs.YtgjiofkjogjhhaaGreatDoor.Rg (own_next)

def allS (t : Tr) (P : List Sp) : List Sp := (List.range t.ns.length).map (spn t.ns P)
theorem allS_len (t : Tr) (P : List Sp) : (allS t P).length = t.ns.length := by simp [allS]
theorem allS_at {t : Tr} {P : List Sp} {i : Nat} (h : i < t.ns.length) : (allS t P).getD i z0 = spn t.ns P i := by simp [allS, List.getD, h]
theorem cell_alloc {W : World} {a : Addr} {v : Value} {o : Obj} (h : W.cell? a = some v) : (W.alloc o).cell? a = some v := cell_next h ((Below.refl _ _).alloc (Nat.le_refl _) _)
theorem put4k {W : World} {L k b o : Nat} {v : Value} (h : W.cell? ⟨b, o, none⟩ = some v) (hx : b ≠ L ∨ o < k * 4) (x y z u : Value) :
    ((((W.setCell ⟨L, k * 4, none⟩ x).setCell ⟨L, k * 4 + 1, none⟩ y).setCell ⟨L, k * 4 + 2, none⟩ z).setCell ⟨L, k * 4 + 3, none⟩ u).cell? ⟨b, o, none⟩ = some v := by
  have e : ∀ (w : World) (j : Nat) (x : Value), k * 4 ≤ j → (w.setCell ⟨L, j, none⟩ x).cell? ⟨b, o, none⟩ = w.cell? ⟨b, o, none⟩ := fun w j x hj => World.cell?_setCell_other _ _ _ _ (fun h => by simp at h; omega)
  rw [e _ _ _ (by omega), e _ _ _ (by omega), e _ _ _ (by omega), e _ _ _ (by omega)]
  exact h
theorem cells_eight {w : World} {g : Nat} {a b : Sp} (h : w.heap[g]? = some (.cells #[.bool a.has, .bool a.en, .int .i64 a.le, .int .i64 a.mo, .bool b.has, .bool b.en, .int .i64 b.le, .int .i64 b.mo] 124 (0, 0))) : SpsAt w (.slice (some ⟨g, 0, none⟩) 2 2) [a, b] := by
  refine .inr ⟨⟨g, 0, none⟩, 2, rfl, by unfold maxLen; simp, fun i hi => ?_⟩
  have hi' : i = 0 ∨ i = 1 := by simp at hi; omega
  rcases hi' with rfl | rfl
  · exact ⟨Lib.cell_of_heap (j := 0) h, Lib.cell_of_heap (j := 1) h, Lib.cell_of_heap (j := 2) h, Lib.cell_of_heap (j := 3) h⟩
  · exact ⟨Lib.cell_of_heap (j := 4) h, Lib.cell_of_heap (j := 5) h, Lib.cell_of_heap (j := 6) h, Lib.cell_of_heap (j := 7) h⟩
theorem cells_four {w : World} {g : Nat} {a : Sp} (h : w.heap[g]? = some (.cells #[.bool a.has, .bool a.en, .int .i64 a.le, .int .i64 a.mo] 124 (0, 0))) : SpsAt w (.slice (some ⟨g, 0, none⟩) 1 1) [a] := by
  refine .inr ⟨⟨g, 0, none⟩, 1, rfl, by unfold maxLen; simp, fun i hi => ?_⟩
  have hi' : i = 0 := by simp at hi; omega
  subst hi'
  exact ⟨Lib.cell_of_heap (j := 0) h, Lib.cell_of_heap (j := 1) h, Lib.cell_of_heap (j := 2) h, Lib.cell_of_heap (j := 3) h⟩

theorem drew_alloc (V : World) (o : Obj) : Below V.heap.size V (V.drew.alloc o) := (show Below V.heap.size V V.drew from ⟨rfl, rfl, rfl, Nat.le_refl _, fun _ _ => rfl⟩).alloc (Nat.le_refl _) o

section
variable {t : Tr} {P : List Sp} {bx : Nat} {vs : Value} {w : World}
/-- what the function tells of a node of the tree -/
def Told (bx : Nat) (n : Nd) (vq : Value) (r : Sp) (X : World) : Prop :=
  Calls Tryz.prog 122 #[aggN n, vq, .pointer (some ⟨bx, 0, none⟩)] X fun e X' => e = .returned (aggS r) ∧ Below X.heap.size X X'
theorem told_none (ok : Ok t) (hP : P.length = t.sets.length) (hbx : w.cell? ⟨bx, 0, none⟩ = some vs) (hs : SpsAt w vs P) {k : Nat} (hk : k < t.ns.length) (h : (nd t.ns k).op = 1 ∨ (nd t.ns k).op = 2) (X : World) (hX : Below w.heap.size w X) :
    Told bx (nd t.ns k) (.slice none 0 0) (spn t.ns P k) X := by
  have hn := ok.node k hk
  have e : spn t.ns P k = spQ P [] (nd t.ns k) := by
    rw [spn_eq hn]
    unfold spN spQ
    rcases h with h | h <;> simp [h]
  rw [e]
  rcases h with h | h
  · exact clo_other _ P [] bx vs _ X (cell_next hbx hX) (by omega) (by omega) (by omega) (by omega)
  · have h2 : 0 ≤ (nd t.ns k).set ∧ (nd t.ns k).set < t.sets.length := by
      rcases nodeB_ways hn with ⟨h1, h2⟩ | ⟨h1, h2⟩ | ⟨h1, h2⟩ | ⟨h1, h2⟩ <;> omega
    exact clo_set _ P [] bx vs _ X (cell_next hbx hX) (hs.next hX) h h2.1 (by rw [hP]; exact h2.2)
theorem told_two (ok : Ok t) (hB : ∀ k, Bd (P.getD k z0)) (hbx : w.cell? ⟨bx, 0, none⟩ = some vs) {k : Nat} (hk : k < t.ns.length) (h : (nd t.ns k).op = 3 ∨ (nd t.ns k).op = 4) {a b : Nat} (ha : (nd t.ns k).a = a) (hb : (nd t.ns k).b = b) (hak : a < k) (hbk : b < k) (X : World) (g : Nat) (hX : Below w.heap.size w X)
    (hg : X.heap[g]? = some (.cells #[.bool (spn t.ns P a).has, .bool (spn t.ns P a).en, .int .i64 (spn t.ns P a).le, .int .i64 (spn t.ns P a).mo, .bool (spn t.ns P b).has, .bool (spn t.ns P b).en, .int .i64 (spn t.ns P b).le, .int .i64 (spn t.ns P b).mo] 124 (0, 0))) :
    Told bx (nd t.ns k) (.slice (some ⟨g, 0, none⟩) 2 2) (spn t.ns P k) X := by
  have hn := ok.node k hk
  have e : spn t.ns P k = spQ P [spn t.ns P a, spn t.ns P b] (nd t.ns k) := by
    rw [spn_eq hn]
    unfold spN spQ
    rw [ha, hb]
    rcases h with h | h <;> simp [h]
  rw [e]
  have bd := spn_bd ok.node hB
  rcases h with h | h
  · refine clo_then _ P _ bx vs _ X (cell_next hbx hX) (cells_eight hg) h rfl fun j => ?_
    match j with
    | 0 => exact bd a (by omega)
    | 1 => exact bd b (by omega)
    | j + 2 => exact bd_z0
  · exact clo_or _ P _ bx vs _ X (cell_next hbx hX) (cells_eight hg) h rfl
theorem told_one (ok : Ok t) (hB : ∀ k, Bd (P.getD k z0)) (hbx : w.cell? ⟨bx, 0, none⟩ = some vs) {k : Nat} (hk : k < t.ns.length) (h : (nd t.ns k).op = 5) {a : Nat} (ha : (nd t.ns k).a = a) (hak : a < k) (X : World) (g : Nat) (hX : Below w.heap.size w X)
    (hg : X.heap[g]? = some (.cells #[.bool (spn t.ns P a).has, .bool (spn t.ns P a).en, .int .i64 (spn t.ns P a).le, .int .i64 (spn t.ns P a).mo] 124 (0, 0))) :
    Told bx (nd t.ns k) (.slice (some ⟨g, 0, none⟩) 1 1) (spn t.ns P k) X := by
  have hn := ok.node k hk
  have e : spn t.ns P k = spQ P [spn t.ns P a] (nd t.ns k) := by
    rw [spn_eq hn]
    unfold spN spQ
    rw [ha]
    simp [h]
  rw [e]
  have ht := times_of hn h
  exact clo_rep _ P _ bx vs _ X (cell_next hbx hX) (cells_four hg) h rfl (spn_bd ok.node hB a (by omega)) ⟨ht.1, ht.2.1⟩ ht.2.2
end

set_option maxRecDepth 100000 in
set_option maxHeartbeats 8000000 in
theorem up_any (t : Tr) (ok : Ok t) (hl1 : t.ns.length ≤ 4096) (P : List Sp) (hPl : P.length = t.sets.length) (hPB : ∀ k, Bd (P.getD k z0)) (bx : Nat) (vs v : Value) (w : World) (h : TreeAt w v t) (hbx : w.cell? ⟨bx, 0, none⟩ = some vs) (hP : SpsAt w vs P) :
    Calls Tryz.prog 121 #[v, .func (.func 122) #[] #[.pointer (some ⟨bx, 0, none⟩)]] w fun e w' => ∃ v', e = .returned v' ∧ SpsAt w' v' (allS t P) ∧ Below w.heap.size w w' := by
  obtain ⟨i0, hi, hz0, hz1, hz2⟩ := info_parts infoSp
  have HV := Lib.hid h
  obtain ⟨ao, cap, so, scap, rfl, hm, hm2, hn, _⟩ := h.shape
  have HN := Lib.hid hn
  have OK := Lib.hid ok
  have T0 := Lib.hid (TBox.new w (.slice ao t.ns.length cap) (.slice so t.sets.length scap) t.root)
  have b1 := (Below.refl w.heap.size w).alloc (Nat.le_refl _) (.cells #[.slice ao t.ns.length cap, .slice so t.sets.length scap, .int .i64 t.root] 38)
  have B1 := Lib.hid b1
  have KN := Lib.hid (fun k (hk : k < t.ns.length) (h : (nd t.ns k).op = 1 ∨ (nd t.ns k).op = 2) X (hX : Below w.heap.size w X) => told_none ok hPl hbx hP hk h X hX)
  have K2 := Lib.hid (fun k (hk : k < t.ns.length) (h : (nd t.ns k).op = 3 ∨ (nd t.ns k).op = 4) a b (ha : (nd t.ns k).a = (a : Nat)) (hb : (nd t.ns k).b = (b : Nat)) (hak : a < k) (hbk : b < k) X g (hX : Below w.heap.size w X) hg => told_two (P := P) ok hPB hbx hk h ha hb hak hbk X g hX hg)
  have K1 := Lib.hid (fun k (hk : k < t.ns.length) (h : (nd t.ns k).op = 5) a (ha : (nd t.ns k).a = (a : Nat)) (hak : a < k) X g (hX : Below w.heap.size w X) hg => told_one (P := P) ok hPB hbx hk h ha hak X g hX hg)
  obtain ⟨RR, hRR⟩ : ∃ RR : Nat → Sp, ∀ i, RR i = spn t.ns P i := ⟨_, fun _ => rfl⟩
  have HEND : Hid (partS RR t.ns.length t.ns.length = allS t P) := Lib.hid (by rw [partS_end]; unfold allS; exact List.map_congr_left fun i _ => hRR i)
  simp only [← hRR] at KN K2 K1
  unfold Told aggS at KN K2 K1
  generalize allS t P = AL at *
  clear hn h ok hP hbx hPB hPl hRR b1
  go_enter Tryz.func121, Tryz.ntmps121
  go_wp2_with (first
    | (at_make; refine wpList_make_full _ rfl _ _ 133 rfl (w.heap.size + 1) 124 i0 (.agg #[.bool false, .bool false, .int .i64 0, .int .i64 0]) 4 Tryz.underlying133 hi hz0 hz1 .i64 .i64 t.ns.length t.ns.length t.ns.length rfl rfl rfl rfl (by rw [hz2]; omega) (by unfold maxLen; omega) (by simp) ?_; intro w2 hown2 hgrow2; go_must (rw [partS_start RR] at hown2; have BB := Lib.hid ((Below.refl (w.heap.size + 1) _).grown hgrow2 (by simp) (fun k hk => by cases hk)); obtain ⟨r0, r1, r2⟩ := T0.out.next (BB.out.mono (by simp)); have ROW := Lib.hid hown2; clear hown2 hgrow2))
    | fail)
  have hW1s : w.heap.size + 1 ≤ (w.alloc (.cells #[.slice ao t.ns.length cap, .slice so t.sets.length scap, .int .i64 t.root] 38)).heap.size := by simp
  have hsB := BB.out.size
  obtain ⟨L, hL'⟩ : ∃ L, L = w.heap.size + 1 := ⟨_, rfl⟩
  have ROW' := ROW.out
  rw [World.size_alloc, ← hL'] at ROW'
  have ROW2 := Lib.hid ROW'
  clear ROW
  rw [← hL']
  have T1 := Lib.hid T0.out
  have BW := Lib.hid B1.out
  clear T0 B1 ROW'
  generalize w.alloc (.cells #[.slice ao t.ns.length cap, .slice so t.sets.length scap, .int .i64 t.root] 38) = W1 at *
  have HL := Lib.hid hL'
  have hLw : w.heap.size < L := by omega
  clear hL'
  go_loopw [15] (fun i wr => ∃ k : Nat, i = .int .i64 k ∧ k ≤ t.ns.length ∧ wr.ownsRow (w.heap.size + 1) 124 4 (.slice (some ⟨L, 0, none⟩) t.ns.length t.ns.length) t.ns.length (flatS (partS RR t.ns.length k)) ∧ Below (w.heap.size + 1) W1 wr) (fun i _ => t.ns.length - (intOf i).toNat)
  case atStart => exact ⟨0, rfl, Nat.zero_le _, by rw [HL.out] at ROW2 ⊢; exact ROW2.out, BB.out⟩
  case round =>
    clear r0 r1 r2 hsB
    obtain ⟨k, rfl, hk, hrow, hbw⟩ := hrel
    obtain ⟨wo, rfl⟩ : ∃ x, x = wr := ⟨_, rfl⟩
    have hsz := hbw.size
    have hLs : L < wo.heap.size := (hrow.lt _ rfl).2
    by_cases hlt : k < t.ns.length
    · obtain ⟨g, rfl, hnode⟩ := HN.out k hlt
      have hB := BW.out.trans (hbw.mono (by omega))
      obtain ⟨c0, c1, c2, c3, c4, c5⟩ := hnode.next hB
      have hl0 := cell_lt c0
      have hways := nodeB_ways (OK.out.node k hlt)
      have KNk := Lib.hid (KN.out k hlt)
      have K2k := Lib.hid (K2.out k hlt)
      have K1k := Lib.hid (K1.out k hlt)
      have ROWk := Lib.hid hrow
      have HBW := Lib.hid hbw
      have HB := Lib.hid hB
      clear KN K2 K1 hrow hbw hB hnode
      unfold aggN at KNk K2k K1k
      generalize nd t.ns k = n at *
      obtain ⟨op, na, nb, lo, hi', st⟩ := n
      simp only at hways KNk K2k K1k c0 c1 c2 c3 c4 c5
      have hi0 : (0 : Int) ≤ k := by omega
      have hi1 : (k : Int) < (t.ns.length : Int) := by omega
      rcases hways with ⟨h1, h2⟩ | ⟨h1, h2⟩ | ⟨h1 | h1, h2⟩ | ⟨h1, h2⟩
      · subst h1
        obtain ⟨rfl, rfl, rfl, rfl, rfl⟩ := h2
        have hX := (Below.refl wo.heap.size wo).alloc (Nat.le_refl _) (.cells #[.int .i64 1, .int .i64 0, .int .i64 0, .int .i64 0, .int .i64 0, .int .i64 0] 70)
        have ROWX := Lib.hid (own_next ROWk.out hX)
        have BX := Lib.hid (HBW.out.trans (hX.mono (by omega)))
        have HX := Lib.hid (HB.out.trans (hX.mono HB.out.size))
        have NX := Lib.hid (node_new wo ⟨1, 0, 0, 0, 0, 0⟩ 70)
        have hsX : wo.heap.size + 1 = (wo.alloc (.cells #[.int .i64 1, .int .i64 0, .int .i64 0, .int .i64 0, .int .i64 0, .int .i64 0] 70)).heap.size := by simp
        go_upto_region 5 with fail
        generalize hV : wo.alloc (.cells #[.int .i64 1, .int .i64 0, .int .i64 0, .int .i64 0, .int .i64 0, .int .i64 0] 70) = V at *
        have HSX := Lib.hid hsX
        clear hV hsX hX c0 c1 c2 c3 c4 c5 hl0
        obtain ⟨n0, n1, n2, n3, n4, n5⟩ := NX.out
        simp only [Nat.zero_add] at n0 n1 n2 n3 n4 n5
        have C := Lib.hid (KNk.out (by decide) V HX.out)
        go_wp2_with (first | (go_at_call 122; (with_reducible refine C.out.mono ?_); rintro e w5 ⟨rfl, hb5⟩; go_must (have hL5 := own_next ROWX.out hb5; obtain ⟨e0, e1, e2, e3⟩ := cellsrow hL5 (partS_len _ _ _) hlt; dsimp only at e0 e1 e2 e3; have f0 := hL5.frozenAt (k * 4); have f1 := hL5.frozenAt (k * 4 + 1); have f2 := hL5.frozenAt (k * 4 + 2); have f3 := hL5.frozenAt (k * 4 + 3); have S1 := Lib.hid (row_put hL5 hlt); have B5 := Lib.hid (BX.out.trans (hb5.mono (by have := HSX.out; omega))); have l5 : L < w5.heap.size := (hL5.lt _ rfl).2; clear hb5 hL5)) | fail)
        go_roundw
        case rel => exact ⟨k + 1, by go_num, by omega, S1.out, put_below B5.out (by omega)⟩
        case measure => simp [intOf]; omega
      · subst h1
        obtain ⟨rfl, rfl, rfl, rfl, _⟩ := h2
        have hX := (Below.refl wo.heap.size wo).alloc (Nat.le_refl _) (.cells #[.int .i64 2, .int .i64 0, .int .i64 0, .int .i64 0, .int .i64 0, .int .i64 st] 70)
        have ROWX := Lib.hid (own_next ROWk.out hX)
        have BX := Lib.hid (HBW.out.trans (hX.mono (by omega)))
        have HX := Lib.hid (HB.out.trans (hX.mono HB.out.size))
        have NX := Lib.hid (node_new wo ⟨2, 0, 0, 0, 0, st⟩ 70)
        have hsX : wo.heap.size + 1 = (wo.alloc (.cells #[.int .i64 2, .int .i64 0, .int .i64 0, .int .i64 0, .int .i64 0, .int .i64 st] 70)).heap.size := by simp
        go_upto_region 5 with fail
        generalize hV : wo.alloc (.cells #[.int .i64 2, .int .i64 0, .int .i64 0, .int .i64 0, .int .i64 0, .int .i64 st] 70) = V at *
        have HSX := Lib.hid hsX
        clear hV hsX hX c0 c1 c2 c3 c4 c5 hl0
        obtain ⟨n0, n1, n2, n3, n4, n5⟩ := NX.out
        simp only [Nat.zero_add] at n0 n1 n2 n3 n4 n5
        have C := Lib.hid (KNk.out (by decide) V HX.out)
        go_wp2_with (first | (go_at_call 122; (with_reducible refine C.out.mono ?_); rintro e w5 ⟨rfl, hb5⟩; go_must (have hL5 := own_next ROWX.out hb5; obtain ⟨e0, e1, e2, e3⟩ := cellsrow hL5 (partS_len _ _ _) hlt; dsimp only at e0 e1 e2 e3; have f0 := hL5.frozenAt (k * 4); have f1 := hL5.frozenAt (k * 4 + 1); have f2 := hL5.frozenAt (k * 4 + 2); have f3 := hL5.frozenAt (k * 4 + 3); have S1 := Lib.hid (row_put hL5 hlt); have B5 := Lib.hid (BX.out.trans (hb5.mono (by have := HSX.out; omega))); have l5 : L < w5.heap.size := (hL5.lt _ rfl).2; clear hb5 hL5)) | fail)
        go_roundw
        case rel => exact ⟨k + 1, by go_num, by omega, S1.out, put_below B5.out (by omega)⟩
        case measure => simp [intOf]; omega
      · subst h1
        obtain ⟨p0, p1, p2, p3, rfl, rfl, rfl⟩ := h2
        obtain ⟨a, rfl⟩ := Int.eq_ofNat_of_zero_le p0
        have hak : a < k := by omega
        obtain ⟨b, rfl⟩ := Int.eq_ofNat_of_zero_le p2
        have hbk : b < k := by omega
        have hX := (Below.refl wo.heap.size wo).alloc (Nat.le_refl _) (.cells #[.int .i64 3, .int .i64 (a : Int), .int .i64 (b : Int), .int .i64 0, .int .i64 0, .int .i64 0] 70)
        have ROWX := Lib.hid (own_next ROWk.out hX)
        have BX := Lib.hid (HBW.out.trans (hX.mono (by omega)))
        have HX := Lib.hid (HB.out.trans (hX.mono HB.out.size))
        have NX := Lib.hid (node_new wo ⟨3, (a : Int), (b : Int), 0, 0, 0⟩ 70)
        have hsX : wo.heap.size + 1 = (wo.alloc (.cells #[.int .i64 3, .int .i64 (a : Int), .int .i64 (b : Int), .int .i64 0, .int .i64 0, .int .i64 0] 70)).heap.size := by simp
        go_upto_region 5 with fail
        generalize hV : wo.alloc (.cells #[.int .i64 3, .int .i64 (a : Int), .int .i64 (b : Int), .int .i64 0, .int .i64 0, .int .i64 0] 70) = V at *
        have HSX := Lib.hid hsX
        clear hV hsX hX c0 c1 c2 c3 c4 c5 hl0
        obtain ⟨n0, n1, n2, n3, n4, n5⟩ := NX.out
        simp only [Nat.zero_add] at n0 n1 n2 n3 n4 n5
        have K2X := Lib.hid (fun X g hX hg => K2k.out (by decide) a b rfl rfl hak hbk X g hX hg)
        obtain ⟨a0, a1, a2, a3⟩ := cellsrow ROWX.out (partS_len _ _ _) (show a < t.ns.length by omega)
        rw [partS_at hak hk] at a0 a1 a2 a3
        dsimp only at a0 a1 a2 a3
        obtain ⟨b0, b1, b2, b3⟩ := cellsrow ROWX.out (partS_len _ _ _) (show b < t.ns.length by omega)
        rw [partS_at hbk hk] at b0 b1 b2 b3
        dsimp only at b0 b1 b2 b3
        have qa0 : a * 4 < k * 4 := by omega
        have qa1 : a * 4 + 1 < k * 4 := by omega
        have qa2 : a * 4 + 2 < k * 4 := by omega
        have qa3 : a * 4 + 3 < k * 4 := by omega
        have qb0 : b * 4 < k * 4 := by omega
        have qb1 : b * 4 + 1 < k * 4 := by omega
        have qb2 : b * 4 + 2 < k * 4 := by omega
        have qb3 : b * 4 + 3 < k * 4 := by omega
        have hNL : wo.heap.size ≠ L := by omega
        have hsV : w.heap.size + 1 ≤ V.heap.size := by have := HSX.out; omega
        have lN : wo.heap.size < V.heap.size := by have := HSX.out; omega
        have lL : L < V.heap.size := by omega
        have ia0 : (0 : Int) ≤ a := by omega
        have ia1 : (a : Int) < (t.ns.length : Int) := by omega
        have ib0 : (0 : Int) ≤ b := by omega
        have ib1 : (b : Int) < (t.ns.length : Int) := by omega
        have hA := drew_alloc V (.cells #[.bool (RR a).has, .bool (RR a).en, .int .i64 (RR a).le, .int .i64 (RR a).mo, .bool (RR b).has, .bool (RR b).en, .int .i64 (RR b).le, .int .i64 (RR b).mo] 124)
        have HA := Lib.hid hA
        clear hA KNk K1k K2k
        go_wp2
        go_region_held3 (fun W => W.cell? ⟨wo.heap.size, 0, none⟩ = some (.int .i64 3) ∧ W.cell? ⟨wo.heap.size, 1, none⟩ = some (.int .i64 (a : Int)) ∧ W.cell? ⟨wo.heap.size, 2, none⟩ = some (.int .i64 (b : Int)) ∧ W.cell? ⟨wo.heap.size, 3, none⟩ = some (.int .i64 0) ∧ W.cell? ⟨wo.heap.size, 4, none⟩ = some (.int .i64 0) ∧ W.cell? ⟨wo.heap.size, 5, none⟩ = some (.int .i64 0) ∧ W.cell? ⟨L, a * 4, none⟩ = some (.bool (RR a).has) ∧ W.cell? ⟨L, a * 4 + 1, none⟩ = some (.bool (RR a).en) ∧ W.cell? ⟨L, a * 4 + 2, none⟩ = some (.int .i64 (RR a).le) ∧ W.cell? ⟨L, a * 4 + 3, none⟩ = some (.int .i64 (RR a).mo) ∧ W.cell? ⟨L, b * 4, none⟩ = some (.bool (RR b).has) ∧ W.cell? ⟨L, b * 4 + 1, none⟩ = some (.bool (RR b).en) ∧ W.cell? ⟨L, b * 4 + 2, none⟩ = some (.int .i64 (RR b).le) ∧ W.cell? ⟨L, b * 4 + 3, none⟩ = some (.int .i64 (RR b).mo)) (first | with_reducible exact ⟨n0, n1, n2, n3, n4, n5, a0, a1, a2, a3, b0, b1, b2, b3⟩ | with_reducible exact ⟨cell_drew (cell_alloc n0), cell_drew (cell_alloc n1), cell_drew (cell_alloc n2), cell_drew (cell_alloc n3), cell_drew (cell_alloc n4), cell_drew (cell_alloc n5), cell_drew (cell_alloc a0), cell_drew (cell_alloc a1), cell_drew (cell_alloc a2), cell_drew (cell_alloc a3), cell_drew (cell_alloc b0), cell_drew (cell_alloc b1), cell_drew (cell_alloc b2), cell_drew (cell_alloc b3)⟩ | with_reducible exact ⟨cell_alloc (cell_drew n0), cell_alloc (cell_drew n1), cell_alloc (cell_drew n2), cell_alloc (cell_drew n3), cell_alloc (cell_drew n4), cell_alloc (cell_drew n5), cell_alloc (cell_drew a0), cell_alloc (cell_drew a1), cell_alloc (cell_drew a2), cell_alloc (cell_drew a3), cell_alloc (cell_drew b0), cell_alloc (cell_drew b1), cell_alloc (cell_drew b2), cell_alloc (cell_drew b3)⟩ | with_reducible exact ⟨cell_alloc n0, cell_alloc n1, cell_alloc n2, cell_alloc n3, cell_alloc n4, cell_alloc n5, cell_alloc a0, cell_alloc a1, cell_alloc a2, cell_alloc a3, cell_alloc b0, cell_alloc b1, cell_alloc b2, cell_alloc b3⟩ | with_reducible exact ⟨kn0, kn1, kn2, kn3, kn4, kn5, ka0, ka1, ka2, ka3, kb0, kb1, kb2, kb3⟩ | with_reducible exact ⟨cell_drew (put4k kn0 (.inl hNL) _ _ _ _), cell_drew (put4k kn1 (.inl hNL) _ _ _ _), cell_drew (put4k kn2 (.inl hNL) _ _ _ _), cell_drew (put4k kn3 (.inl hNL) _ _ _ _), cell_drew (put4k kn4 (.inl hNL) _ _ _ _), cell_drew (put4k kn5 (.inl hNL) _ _ _ _), cell_drew (put4k ka0 (.inr qa0) _ _ _ _), cell_drew (put4k ka1 (.inr qa1) _ _ _ _), cell_drew (put4k ka2 (.inr qa2) _ _ _ _), cell_drew (put4k ka3 (.inr qa3) _ _ _ _), cell_drew (put4k kb0 (.inr qb0) _ _ _ _), cell_drew (put4k kb1 (.inr qb1) _ _ _ _), cell_drew (put4k kb2 (.inr qb2) _ _ _ _), cell_drew (put4k kb3 (.inr qb3) _ _ _ _)⟩ | with_reducible exact ⟨put4k kn0 (.inl hNL) _ _ _ _, put4k kn1 (.inl hNL) _ _ _ _, put4k kn2 (.inl hNL) _ _ _ _, put4k kn3 (.inl hNL) _ _ _ _, put4k kn4 (.inl hNL) _ _ _ _, put4k kn5 (.inl hNL) _ _ _ _, put4k ka0 (.inr qa0) _ _ _ _, put4k ka1 (.inr qa1) _ _ _ _, put4k ka2 (.inr qa2) _ _ _ _, put4k ka3 (.inr qa3) _ _ _ _, put4k kb0 (.inr qb0) _ _ _ _, put4k kb1 (.inr qb1) _ _ _ _, put4k kb2 (.inr qb2) _ _ _ _, put4k kb3 (.inr qb3) _ _ _ _⟩ | go_keep) (first | (go_at_call 122; (with_reducible refine (K2X.out _ _ ?_ ?_).mono ?_); (· first | with_reducible exact HX.out.trans (HA.out.mono HX.out.size) | exact HX.out.trans (HA.out.mono HX.out.size)); (· first | exact heapA rfl | exact heap_drew (heapA rfl)); rintro e w5 ⟨rfl, hb5⟩; go_must (have hA := HA.out; have hb5' := hb5; have kn0 := cell_next (cell_next n0 hA) hb5'; have kn1 := cell_next (cell_next n1 hA) hb5'; have kn2 := cell_next (cell_next n2 hA) hb5'; have kn3 := cell_next (cell_next n3 hA) hb5'; have kn4 := cell_next (cell_next n4 hA) hb5'; have kn5 := cell_next (cell_next n5 hA) hb5'; have ka0 := cell_next (cell_next a0 hA) hb5'; have ka1 := cell_next (cell_next a1 hA) hb5'; have ka2 := cell_next (cell_next a2 hA) hb5'; have ka3 := cell_next (cell_next a3 hA) hb5'; have kb0 := cell_next (cell_next b0 hA) hb5'; have kb1 := cell_next (cell_next b1 hA) hb5'; have kb2 := cell_next (cell_next b2 hA) hb5'; have kb3 := cell_next (cell_next b3 hA) hb5'; have hL5 := own_next (own_next ROWX.out hA) hb5'; obtain ⟨e0, e1, e2, e3⟩ := cellsrow hL5 (partS_len _ _ _) hlt; dsimp only at e0 e1 e2 e3; have f0 := hL5.frozenAt (k * 4); have f1 := hL5.frozenAt (k * 4 + 1); have f2 := hL5.frozenAt (k * 4 + 2); have f3 := hL5.frozenAt (k * 4 + 3); have S1 := Lib.hid (row_put hL5 hlt); have B5 := Lib.hid (BX.out.trans ((hA.trans (hb5'.mono hA.size)).mono hsV)); have l5 : L < w5.heap.size := (hL5.lt _ rfl).2; clear hb5 hb5' hA hL5)) | fail)
        all_goals (
          (try go_wp2)
          go_roundw
          case rel => exact ⟨k + 1, by go_num, by omega, S1.out, put_below B5.out (by omega)⟩
          case measure => simp [intOf]; omega)
      · subst h1
        obtain ⟨p0, p1, p2, p3, rfl, rfl, rfl⟩ := h2
        obtain ⟨a, rfl⟩ := Int.eq_ofNat_of_zero_le p0
        have hak : a < k := by omega
        obtain ⟨b, rfl⟩ := Int.eq_ofNat_of_zero_le p2
        have hbk : b < k := by omega
        have hX := (Below.refl wo.heap.size wo).alloc (Nat.le_refl _) (.cells #[.int .i64 4, .int .i64 (a : Int), .int .i64 (b : Int), .int .i64 0, .int .i64 0, .int .i64 0] 70)
        have ROWX := Lib.hid (own_next ROWk.out hX)
        have BX := Lib.hid (HBW.out.trans (hX.mono (by omega)))
        have HX := Lib.hid (HB.out.trans (hX.mono HB.out.size))
        have NX := Lib.hid (node_new wo ⟨4, (a : Int), (b : Int), 0, 0, 0⟩ 70)
        have hsX : wo.heap.size + 1 = (wo.alloc (.cells #[.int .i64 4, .int .i64 (a : Int), .int .i64 (b : Int), .int .i64 0, .int .i64 0, .int .i64 0] 70)).heap.size := by simp
        go_upto_region 5 with fail
        generalize hV : wo.alloc (.cells #[.int .i64 4, .int .i64 (a : Int), .int .i64 (b : Int), .int .i64 0, .int .i64 0, .int .i64 0] 70) = V at *
        have HSX := Lib.hid hsX
        clear hV hsX hX c0 c1 c2 c3 c4 c5 hl0
        obtain ⟨n0, n1, n2, n3, n4, n5⟩ := NX.out
        simp only [Nat.zero_add] at n0 n1 n2 n3 n4 n5
        have K2X := Lib.hid (fun X g hX hg => K2k.out (by decide) a b rfl rfl hak hbk X g hX hg)
        obtain ⟨a0, a1, a2, a3⟩ := cellsrow ROWX.out (partS_len _ _ _) (show a < t.ns.length by omega)
        rw [partS_at hak hk] at a0 a1 a2 a3
        dsimp only at a0 a1 a2 a3
        obtain ⟨b0, b1, b2, b3⟩ := cellsrow ROWX.out (partS_len _ _ _) (show b < t.ns.length by omega)
        rw [partS_at hbk hk] at b0 b1 b2 b3
        dsimp only at b0 b1 b2 b3
        have qa0 : a * 4 < k * 4 := by omega
        have qa1 : a * 4 + 1 < k * 4 := by omega
        have qa2 : a * 4 + 2 < k * 4 := by omega
        have qa3 : a * 4 + 3 < k * 4 := by omega
        have qb0 : b * 4 < k * 4 := by omega
        have qb1 : b * 4 + 1 < k * 4 := by omega
        have qb2 : b * 4 + 2 < k * 4 := by omega
        have qb3 : b * 4 + 3 < k * 4 := by omega
        have hNL : wo.heap.size ≠ L := by omega
        have hsV : w.heap.size + 1 ≤ V.heap.size := by have := HSX.out; omega
        have lN : wo.heap.size < V.heap.size := by have := HSX.out; omega
        have lL : L < V.heap.size := by omega
        have ia0 : (0 : Int) ≤ a := by omega
        have ia1 : (a : Int) < (t.ns.length : Int) := by omega
        have ib0 : (0 : Int) ≤ b := by omega
        have ib1 : (b : Int) < (t.ns.length : Int) := by omega
        have hA := drew_alloc V (.cells #[.bool (RR a).has, .bool (RR a).en, .int .i64 (RR a).le, .int .i64 (RR a).mo, .bool (RR b).has, .bool (RR b).en, .int .i64 (RR b).le, .int .i64 (RR b).mo] 124)
        have HA := Lib.hid hA
        clear hA KNk K1k K2k
        go_wp2
        go_region_held3 (fun W => W.cell? ⟨wo.heap.size, 0, none⟩ = some (.int .i64 4) ∧ W.cell? ⟨wo.heap.size, 1, none⟩ = some (.int .i64 (a : Int)) ∧ W.cell? ⟨wo.heap.size, 2, none⟩ = some (.int .i64 (b : Int)) ∧ W.cell? ⟨wo.heap.size, 3, none⟩ = some (.int .i64 0) ∧ W.cell? ⟨wo.heap.size, 4, none⟩ = some (.int .i64 0) ∧ W.cell? ⟨wo.heap.size, 5, none⟩ = some (.int .i64 0) ∧ W.cell? ⟨L, a * 4, none⟩ = some (.bool (RR a).has) ∧ W.cell? ⟨L, a * 4 + 1, none⟩ = some (.bool (RR a).en) ∧ W.cell? ⟨L, a * 4 + 2, none⟩ = some (.int .i64 (RR a).le) ∧ W.cell? ⟨L, a * 4 + 3, none⟩ = some (.int .i64 (RR a).mo) ∧ W.cell? ⟨L, b * 4, none⟩ = some (.bool (RR b).has) ∧ W.cell? ⟨L, b * 4 + 1, none⟩ = some (.bool (RR b).en) ∧ W.cell? ⟨L, b * 4 + 2, none⟩ = some (.int .i64 (RR b).le) ∧ W.cell? ⟨L, b * 4 + 3, none⟩ = some (.int .i64 (RR b).mo)) (first | with_reducible exact ⟨n0, n1, n2, n3, n4, n5, a0, a1, a2, a3, b0, b1, b2, b3⟩ | with_reducible exact ⟨cell_drew (cell_alloc n0), cell_drew (cell_alloc n1), cell_drew (cell_alloc n2), cell_drew (cell_alloc n3), cell_drew (cell_alloc n4), cell_drew (cell_alloc n5), cell_drew (cell_alloc a0), cell_drew (cell_alloc a1), cell_drew (cell_alloc a2), cell_drew (cell_alloc a3), cell_drew (cell_alloc b0), cell_drew (cell_alloc b1), cell_drew (cell_alloc b2), cell_drew (cell_alloc b3)⟩ | with_reducible exact ⟨cell_alloc (cell_drew n0), cell_alloc (cell_drew n1), cell_alloc (cell_drew n2), cell_alloc (cell_drew n3), cell_alloc (cell_drew n4), cell_alloc (cell_drew n5), cell_alloc (cell_drew a0), cell_alloc (cell_drew a1), cell_alloc (cell_drew a2), cell_alloc (cell_drew a3), cell_alloc (cell_drew b0), cell_alloc (cell_drew b1), cell_alloc (cell_drew b2), cell_alloc (cell_drew b3)⟩ | with_reducible exact ⟨cell_alloc n0, cell_alloc n1, cell_alloc n2, cell_alloc n3, cell_alloc n4, cell_alloc n5, cell_alloc a0, cell_alloc a1, cell_alloc a2, cell_alloc a3, cell_alloc b0, cell_alloc b1, cell_alloc b2, cell_alloc b3⟩ | with_reducible exact ⟨kn0, kn1, kn2, kn3, kn4, kn5, ka0, ka1, ka2, ka3, kb0, kb1, kb2, kb3⟩ | with_reducible exact ⟨cell_drew (put4k kn0 (.inl hNL) _ _ _ _), cell_drew (put4k kn1 (.inl hNL) _ _ _ _), cell_drew (put4k kn2 (.inl hNL) _ _ _ _), cell_drew (put4k kn3 (.inl hNL) _ _ _ _), cell_drew (put4k kn4 (.inl hNL) _ _ _ _), cell_drew (put4k kn5 (.inl hNL) _ _ _ _), cell_drew (put4k ka0 (.inr qa0) _ _ _ _), cell_drew (put4k ka1 (.inr qa1) _ _ _ _), cell_drew (put4k ka2 (.inr qa2) _ _ _ _), cell_drew (put4k ka3 (.inr qa3) _ _ _ _), cell_drew (put4k kb0 (.inr qb0) _ _ _ _), cell_drew (put4k kb1 (.inr qb1) _ _ _ _), cell_drew (put4k kb2 (.inr qb2) _ _ _ _), cell_drew (put4k kb3 (.inr qb3) _ _ _ _)⟩ | with_reducible exact ⟨put4k kn0 (.inl hNL) _ _ _ _, put4k kn1 (.inl hNL) _ _ _ _, put4k kn2 (.inl hNL) _ _ _ _, put4k kn3 (.inl hNL) _ _ _ _, put4k kn4 (.inl hNL) _ _ _ _, put4k kn5 (.inl hNL) _ _ _ _, put4k ka0 (.inr qa0) _ _ _ _, put4k ka1 (.inr qa1) _ _ _ _, put4k ka2 (.inr qa2) _ _ _ _, put4k ka3 (.inr qa3) _ _ _ _, put4k kb0 (.inr qb0) _ _ _ _, put4k kb1 (.inr qb1) _ _ _ _, put4k kb2 (.inr qb2) _ _ _ _, put4k kb3 (.inr qb3) _ _ _ _⟩ | go_keep) (first | (go_at_call 122; (with_reducible refine (K2X.out _ _ ?_ ?_).mono ?_); (· first | with_reducible exact HX.out.trans (HA.out.mono HX.out.size) | exact HX.out.trans (HA.out.mono HX.out.size)); (· first | exact heapA rfl | exact heap_drew (heapA rfl)); rintro e w5 ⟨rfl, hb5⟩; go_must (have hA := HA.out; have hb5' := hb5; have kn0 := cell_next (cell_next n0 hA) hb5'; have kn1 := cell_next (cell_next n1 hA) hb5'; have kn2 := cell_next (cell_next n2 hA) hb5'; have kn3 := cell_next (cell_next n3 hA) hb5'; have kn4 := cell_next (cell_next n4 hA) hb5'; have kn5 := cell_next (cell_next n5 hA) hb5'; have ka0 := cell_next (cell_next a0 hA) hb5'; have ka1 := cell_next (cell_next a1 hA) hb5'; have ka2 := cell_next (cell_next a2 hA) hb5'; have ka3 := cell_next (cell_next a3 hA) hb5'; have kb0 := cell_next (cell_next b0 hA) hb5'; have kb1 := cell_next (cell_next b1 hA) hb5'; have kb2 := cell_next (cell_next b2 hA) hb5'; have kb3 := cell_next (cell_next b3 hA) hb5'; have hL5 := own_next (own_next ROWX.out hA) hb5'; obtain ⟨e0, e1, e2, e3⟩ := cellsrow hL5 (partS_len _ _ _) hlt; dsimp only at e0 e1 e2 e3; have f0 := hL5.frozenAt (k * 4); have f1 := hL5.frozenAt (k * 4 + 1); have f2 := hL5.frozenAt (k * 4 + 2); have f3 := hL5.frozenAt (k * 4 + 3); have S1 := Lib.hid (row_put hL5 hlt); have B5 := Lib.hid (BX.out.trans ((hA.trans (hb5'.mono hA.size)).mono hsV)); have l5 : L < w5.heap.size := (hL5.lt _ rfl).2; clear hb5 hb5' hA hL5)) | fail)
        all_goals (
          (try go_wp2)
          go_roundw
          case rel => exact ⟨k + 1, by go_num, by omega, S1.out, put_below B5.out (by omega)⟩
          case measure => simp [intOf]; omega)
      · subst h1
        obtain ⟨p0, p1, rfl, rfl⟩ := h2
        obtain ⟨a, rfl⟩ := Int.eq_ofNat_of_zero_le p0
        have hak : a < k := by omega
        have hX := (Below.refl wo.heap.size wo).alloc (Nat.le_refl _) (.cells #[.int .i64 5, .int .i64 (a : Int), .int .i64 0, .int .i64 lo, .int .i64 hi', .int .i64 0] 70)
        have ROWX := Lib.hid (own_next ROWk.out hX)
        have BX := Lib.hid (HBW.out.trans (hX.mono (by omega)))
        have HX := Lib.hid (HB.out.trans (hX.mono HB.out.size))
        have NX := Lib.hid (node_new wo ⟨5, (a : Int), 0, lo, hi', 0⟩ 70)
        have hsX : wo.heap.size + 1 = (wo.alloc (.cells #[.int .i64 5, .int .i64 (a : Int), .int .i64 0, .int .i64 lo, .int .i64 hi', .int .i64 0] 70)).heap.size := by simp
        go_upto_region 5 with fail
        generalize hV : wo.alloc (.cells #[.int .i64 5, .int .i64 (a : Int), .int .i64 0, .int .i64 lo, .int .i64 hi', .int .i64 0] 70) = V at *
        have HSX := Lib.hid hsX
        clear hV hsX hX c0 c1 c2 c3 c4 c5 hl0
        obtain ⟨n0, n1, n2, n3, n4, n5⟩ := NX.out
        simp only [Nat.zero_add] at n0 n1 n2 n3 n4 n5
        have K1X := Lib.hid (fun X g hX hg => K1k.out (by decide) a rfl hak X g hX hg)
        obtain ⟨a0, a1, a2, a3⟩ := cellsrow ROWX.out (partS_len _ _ _) (show a < t.ns.length by omega)
        rw [partS_at hak hk] at a0 a1 a2 a3
        dsimp only at a0 a1 a2 a3
        have qa0 : a * 4 < k * 4 := by omega
        have qa1 : a * 4 + 1 < k * 4 := by omega
        have qa2 : a * 4 + 2 < k * 4 := by omega
        have qa3 : a * 4 + 3 < k * 4 := by omega
        have hNL : wo.heap.size ≠ L := by omega
        have hsV : w.heap.size + 1 ≤ V.heap.size := by have := HSX.out; omega
        have lN : wo.heap.size < V.heap.size := by have := HSX.out; omega
        have lL : L < V.heap.size := by omega
        have ia0 : (0 : Int) ≤ a := by omega
        have ia1 : (a : Int) < (t.ns.length : Int) := by omega
        have hA := drew_alloc V (.cells #[.bool (RR a).has, .bool (RR a).en, .int .i64 (RR a).le, .int .i64 (RR a).mo] 124)
        have HA := Lib.hid hA
        clear hA KNk K1k K2k
        go_wp2
        go_region_held3 (fun W => W.cell? ⟨wo.heap.size, 0, none⟩ = some (.int .i64 5) ∧ W.cell? ⟨wo.heap.size, 1, none⟩ = some (.int .i64 (a : Int)) ∧ W.cell? ⟨wo.heap.size, 2, none⟩ = some (.int .i64 0) ∧ W.cell? ⟨wo.heap.size, 3, none⟩ = some (.int .i64 lo) ∧ W.cell? ⟨wo.heap.size, 4, none⟩ = some (.int .i64 hi') ∧ W.cell? ⟨wo.heap.size, 5, none⟩ = some (.int .i64 0) ∧ W.cell? ⟨L, a * 4, none⟩ = some (.bool (RR a).has) ∧ W.cell? ⟨L, a * 4 + 1, none⟩ = some (.bool (RR a).en) ∧ W.cell? ⟨L, a * 4 + 2, none⟩ = some (.int .i64 (RR a).le) ∧ W.cell? ⟨L, a * 4 + 3, none⟩ = some (.int .i64 (RR a).mo)) (first | with_reducible exact ⟨n0, n1, n2, n3, n4, n5, a0, a1, a2, a3⟩ | with_reducible exact ⟨cell_drew (cell_alloc n0), cell_drew (cell_alloc n1), cell_drew (cell_alloc n2), cell_drew (cell_alloc n3), cell_drew (cell_alloc n4), cell_drew (cell_alloc n5), cell_drew (cell_alloc a0), cell_drew (cell_alloc a1), cell_drew (cell_alloc a2), cell_drew (cell_alloc a3)⟩ | with_reducible exact ⟨cell_alloc (cell_drew n0), cell_alloc (cell_drew n1), cell_alloc (cell_drew n2), cell_alloc (cell_drew n3), cell_alloc (cell_drew n4), cell_alloc (cell_drew n5), cell_alloc (cell_drew a0), cell_alloc (cell_drew a1), cell_alloc (cell_drew a2), cell_alloc (cell_drew a3)⟩ | with_reducible exact ⟨cell_alloc n0, cell_alloc n1, cell_alloc n2, cell_alloc n3, cell_alloc n4, cell_alloc n5, cell_alloc a0, cell_alloc a1, cell_alloc a2, cell_alloc a3⟩ | with_reducible exact ⟨kn0, kn1, kn2, kn3, kn4, kn5, ka0, ka1, ka2, ka3⟩ | with_reducible exact ⟨cell_drew (put4k kn0 (.inl hNL) _ _ _ _), cell_drew (put4k kn1 (.inl hNL) _ _ _ _), cell_drew (put4k kn2 (.inl hNL) _ _ _ _), cell_drew (put4k kn3 (.inl hNL) _ _ _ _), cell_drew (put4k kn4 (.inl hNL) _ _ _ _), cell_drew (put4k kn5 (.inl hNL) _ _ _ _), cell_drew (put4k ka0 (.inr qa0) _ _ _ _), cell_drew (put4k ka1 (.inr qa1) _ _ _ _), cell_drew (put4k ka2 (.inr qa2) _ _ _ _), cell_drew (put4k ka3 (.inr qa3) _ _ _ _)⟩ | with_reducible exact ⟨put4k kn0 (.inl hNL) _ _ _ _, put4k kn1 (.inl hNL) _ _ _ _, put4k kn2 (.inl hNL) _ _ _ _, put4k kn3 (.inl hNL) _ _ _ _, put4k kn4 (.inl hNL) _ _ _ _, put4k kn5 (.inl hNL) _ _ _ _, put4k ka0 (.inr qa0) _ _ _ _, put4k ka1 (.inr qa1) _ _ _ _, put4k ka2 (.inr qa2) _ _ _ _, put4k ka3 (.inr qa3) _ _ _ _⟩ | go_keep) (first | (go_at_call 122; (with_reducible refine (K1X.out _ _ ?_ ?_).mono ?_); (· first | with_reducible exact HX.out.trans (HA.out.mono HX.out.size) | exact HX.out.trans (HA.out.mono HX.out.size)); (· first | exact heapA rfl | exact heap_drew (heapA rfl)); rintro e w5 ⟨rfl, hb5⟩; go_must (have hA := HA.out; have hb5' := hb5; have kn0 := cell_next (cell_next n0 hA) hb5'; have kn1 := cell_next (cell_next n1 hA) hb5'; have kn2 := cell_next (cell_next n2 hA) hb5'; have kn3 := cell_next (cell_next n3 hA) hb5'; have kn4 := cell_next (cell_next n4 hA) hb5'; have kn5 := cell_next (cell_next n5 hA) hb5'; have ka0 := cell_next (cell_next a0 hA) hb5'; have ka1 := cell_next (cell_next a1 hA) hb5'; have ka2 := cell_next (cell_next a2 hA) hb5'; have ka3 := cell_next (cell_next a3 hA) hb5'; have hL5 := own_next (own_next ROWX.out hA) hb5'; obtain ⟨e0, e1, e2, e3⟩ := cellsrow hL5 (partS_len _ _ _) hlt; dsimp only at e0 e1 e2 e3; have f0 := hL5.frozenAt (k * 4); have f1 := hL5.frozenAt (k * 4 + 1); have f2 := hL5.frozenAt (k * 4 + 2); have f3 := hL5.frozenAt (k * 4 + 3); have S1 := Lib.hid (row_put hL5 hlt); have B5 := Lib.hid (BX.out.trans ((hA.trans (hb5'.mono hA.size)).mono hsV)); have l5 : L < w5.heap.size := (hL5.lt _ rfl).2; clear hb5 hb5' hA hL5)) | fail)
        all_goals (
          (try go_wp2)
          go_roundw
          case rel => exact ⟨k + 1, by go_num, by omega, S1.out, put_below B5.out (by omega)⟩
          case measure => simp [intOf]; omega)
    · obtain rfl : k = t.ns.length := by omega
      rw [HEND.out] at hrow
      have hlen : AL.length = t.ns.length := by rw [← HEND.out, partS_len]
      have HZ : Hid (SpsAt wo (.slice (some ⟨L, 0, none⟩) AL.length t.ns.length) AL) := Lib.hid (sps_of_row (B := w.heap.size + 1) (by show wo.ownsRow (w.heap.size + 1) 124 4 _ AL.length (flatS AL); rw [hlen]; exact hrow))
      rw [hlen] at HZ
      clear hlen
      have HBW := Lib.hid hbw
      clear hrow hbw
      go_wp2
      go_ret
      exact ⟨_, rfl, HZ.out, BW.out.trans (HBW.out.mono (by omega))⟩

end Go.Proofs.YtgjiofkjogjhhaaGreatDoor.Ms

namespace Go.Proofs.YtgjiofkjogjhhaaGreatDoor.Rg
open Go.RowKit
theorem wrapOk (tys : Array TypeId) (ty : TypeId) (a : Addr) (s m : String) : Builtin.ssaWrapNilChk_ tys ty #[.pointer (some a), strVal s, strVal m] = pure (.pointer (some a)) := rfl
noncomputable def found (name : String) : Option (List FieldStep × Option (FuncId × Bool)) := ((Tryz.prog.info? 148).bind fun i => i.methods.find? (·.name == name)).map (fun m => (m.path.toList, m.func))
theorem byVal (w : World) (pb : Nat) (v : Value) (h : w.cell? ⟨pb, 0, none⟩ = some v) (name : String) (f : FuncId) (N : Nat) (hf : found name = some ([], some (f, false))) :
    Sem.run Tryz.prog (method (N + 1) 148 (.pointer (some ⟨pb, 0, none⟩)) name) w = .ok (f, v) w := by
  unfold found at hf
  cases hi : Tryz.prog.info? 148 with
  | none => rw [hi] at hf; simp at hf
  | some i =>
    rw [hi] at hf
    simp only [Option.bind_some, Option.map_eq_some_iff] at hf
    obtain ⟨m, hm, he⟩ := hf
    simp only [Prod.mk.injEq] at he
    obtain ⟨hp, hfn⟩ := he
    have hpe : m.path = #[] := by simpa using hp
    unfold method
    rw [Sem.run_bind, run_typeInfo _ hi]
    simp [Result.andThen, hm, hpe, hfn, follow, receiverAt, Place.get, run_underlying Tryz.underlying148, wrapOk, asAddr, loadVar, isAgg, run_underlying Tryz.underlying145, h]


theorem byRef (w : World) (pb : Nat) (name : String) (f : FuncId) (N : Nat) (hf : found name = some ([], some (f, true))) :
    Sem.run Tryz.prog (method (N + 1) 148 (.pointer (some ⟨pb, 0, none⟩)) name) w = .ok (f, .pointer (some ⟨pb, 0, none⟩)) w := by
  unfold found at hf
  cases hi : Tryz.prog.info? 148 with
  | none => rw [hi] at hf; simp at hf
  | some i =>
    rw [hi] at hf
    simp only [Option.bind_some, Option.map_eq_some_iff] at hf
    obtain ⟨m, hm, he⟩ := hf
    simp only [Prod.mk.injEq] at he
    obtain ⟨hp, hfn⟩ := he
    have hpe : m.path = #[] := by simpa using hp
    unfold method
    rw [Sem.run_bind, run_typeInfo _ hi]
    simp [Result.andThen, hm, hpe, hfn, follow, receiverAt, Place.get, run_underlying Tryz.underlying148]
theorem fLen : found "Len" = some ([], some (173, false)) := by kernel_rfl
theorem fLess : found "Less" = some ([], some (174, false)) := by kernel_rfl
theorem fSwap : found "Swap" = some ([], some (175, false)) := by kernel_rfl
theorem fPush : found "Push" = some ([], some (177, true)) := by kernel_rfl
theorem fPop : found "Pop" = some ([], some (176, true)) := by kernel_rfl

end Go.Proofs.YtgjiofkjogjhhaaGreatDoor.Rg

namespace Go.Proofs.YtgjiofkjogjhhaaGreatDoor.Rg
open Go.RowKit

/-- the pile: a box that holds a slice of ranges that the call owns -/
structure Pile (B pb : Nat) (v : Value) (xs : List R) (w : World) : Prop where
  base : B ≤ pb
  box : w.heap[pb]? = some (.cells #[v] 145 (0, 0))
  row : w.ownsRow B 75 2 v xs.length (flatR xs)
/-- nothing that stood has changed but the box and the row -/
structure Fr (pb : Nat) (row : Option Nat) (w w' : World) : Prop where
  os : w'.os = w.os
  tape : w'.tape = w.tape
  output : w'.output = w.output
  size : w.heap.size ≤ w'.heap.size
  block : ∀ k, k < w.heap.size → k ≠ pb → some k ≠ row → w'.heap[k]? = w.heap[k]?

theorem Fr.refl (pb : Nat) (row : Option Nat) (w : World) : Fr pb row w w := ⟨rfl, rfl, rfl, Nat.le_refl _, fun _ _ _ _ => rfl⟩
theorem Fr.trans {pb : Nat} {row : Option Nat} {a b c : World} (h : Fr pb row a b) (k : Fr pb row b c) : Fr pb row a c :=
  ⟨k.os.trans h.os, k.tape.trans h.tape, k.output.trans h.output, Nat.le_trans h.size k.size, fun i hi h1 h2 => (k.block i (Nat.lt_of_lt_of_le hi h.size) h1 h2).trans (h.block i hi h1 h2)⟩
theorem Fr.of_below {pb : Nat} {row : Option Nat} {a b : World} (h : Below a.heap.size a b) : Fr pb row a b := ⟨h.os, h.tape, h.output, h.size, fun k hk _ _ => h.block k hk⟩
theorem Fr.of_grown {pb : Nat} {row : Option Nat} {a b : World} (h : a.grownBy b row) : Fr pb row a b := ⟨h.os, h.tape, h.output, h.size, fun k hk _ h2 => h.block k hk h2⟩
theorem Pile.lt {B pb : Nat} {v : Value} {xs : List R} {w : World} (h : Pile B pb v xs w) : pb < w.heap.size := (Array.getElem?_eq_some_iff.1 h.box).1
theorem Pile.cell {B pb : Nat} {v : Value} {xs : List R} {w : World} (h : Pile B pb v xs w) : w.cell? ⟨pb, 0, none⟩ = some v := by simp [World.cell?, h.box]
theorem Pile.frozen {B pb : Nat} {v : Value} {xs : List R} {w : World} (h : Pile B pb v xs w) : w.frozen? ⟨pb, 0, none⟩ = false := frozen_of_row w pb 0 _ _ h.box
theorem Pile.ne {B pb : Nat} {v : Value} {xs : List R} {w : World} (h : Pile B pb v xs w) : some pb ≠ v.ownBlock := by
  rcases h.row.2 with ⟨rfl, _⟩ | ⟨g, cap, cur, rfl, _, hg, _⟩
  · simp [Value.ownBlock]
  · intro e
    obtain rfl : pb = g := by simpa [Value.ownBlock] using e
    rw [h.box] at hg
    simp at hg
theorem Pile.next {B pb : Nat} {v : Value} {xs : List R} {w w' : World} (h : Pile B pb v xs w) (hb : Below w.heap.size w w') : Pile B pb v xs w' :=
  ⟨h.base, (hb.block _ h.lt).trans h.box, rowR_next h.row hb⟩
theorem Pile.rngs {B pb : Nat} {v : Value} {xs : List R} {w : World} (h : Pile B pb v xs w) : RngsAt w v xs := rngs_of_row h.row
theorem Pile.below {B pb : Nat} {v : Value} {xs : List R} {w w' : World} (h : Pile B pb v xs w) (hf : Fr pb v.ownBlock w w') : Below B w w' := by
  have := h.lt
  have hb := h.base
  refine ⟨hf.os, hf.tape, hf.output, hf.size, fun k hk => hf.block k (by omega) (by omega) fun e => ?_⟩
  have := (h.row.lt k e.symm).1
  omega
/-- another row of the call's own stands -/
theorem Fr.row {pb : Nat} {row : Option Nat} {w w' : World} (h : Fr pb row w w') {B : Nat} {e : TypeId} {s : Nat} {v : Value} {n : Nat} {xs : List Value} (hr : w.ownsRow B e s v n xs) (h1 : pb < B) (h2 : ∀ g, row = some g → g < B) : w'.ownsRow B e s v n xs := by
  refine ⟨hr.1, ?_⟩
  rcases hr.2 with hn | ⟨g, cap, cur, rfl, hb, hgg, rest⟩
  · exact .inl hn
  · refine .inr ⟨g, cap, cur, rfl, hb, ?_, rest⟩
    rw [h.block g (Array.getElem?_eq_some_iff.1 hgg).1 (by omega) (fun e => by have := h2 g e.symm; omega)]
    exact hgg


set_option maxHeartbeats 800000 in
theorem len_any (ao : Option Addr) (n cap : Nat) (w : World) : Calls Tryz.prog 173 #[.slice ao n cap] w fun e w' => e = .returned (.int .i64 n) ∧ w' = w := by
  go_enter Tryz.func173, Tryz.ntmps173
  go_wp2
  go_ret
  exact ⟨rfl, rfl⟩

set_option maxHeartbeats 800000 in
theorem less_any (xs : List R) (v : Value) (i j : Nat) (w : World) (hv : RngsAt w v xs) (hi : i < xs.length) (hj : j < xs.length) :
    Calls Tryz.prog 174 #[v, .int .i64 i, .int .i64 j] w fun e w' => e = .returned (.bool (decide ((nth xs i).1 < (nth xs j).1))) ∧ ∃ q, w' = w.drewN q := by
  obtain ⟨ao, cap, rfl, hm, hcs⟩ := hv.shape
  obtain ⟨g, rfl, c1, c2⟩ := hcs i hi
  obtain ⟨g', hg, d1, d2⟩ := hcs j hj
  simp only [Option.some.injEq] at hg
  subst hg
  clear hcs hv c2 d2
  go_enter Tryz.func174, Tryz.ntmps174
  go_wp2
  go_quiet (fail)
  go_wp2
  go_ret
  exact ⟨rfl, _, rfl⟩

set_option maxHeartbeats 800000 in
theorem swap_any (xs : List R) (g cap B : Nat) (i j : Nat) (w : World) (hv : w.ownsRow B 75 2 (.slice (some ⟨g, 0, none⟩) xs.length cap) xs.length (flatR xs)) (hi : i < xs.length) (hj : j < xs.length) :
    Calls Tryz.prog 175 #[.slice (some ⟨g, 0, none⟩) xs.length cap, .int .i64 i, .int .i64 j] w fun e w' => e = .returned (.tuple #[]) ∧
      w'.ownsRow B 75 2 (.slice (some ⟨g, 0, none⟩) xs.length cap) xs.length (flatR (swapL xs i j)) ∧ w.grownBy w' (some g) := by
  obtain ⟨c1, c2⟩ := flatR_at xs i hi
  obtain ⟨d1, d2⟩ := flatR_at xs j hj
  rw [← hv.cellAt _ (by omega)] at c1 c2 d1 d2
  have fz := hv.frozenAt
  have HV := Lib.hid hv
  have hm : xs.length ≤ 9223372036854775807 := by
    obtain ⟨ao, c, he, hm, _⟩ := (rngs_of_row hv).shape
    exact hm
  obtain ⟨r1, g1⟩ := rowR_store hv i (nth xs j).1 (nth xs j).2
  obtain ⟨r2, g2⟩ := rowR_store r1 j (nth xs i).1 (nth xs i).2
  have HR := Lib.hid r2
  have HG := Lib.hid ((g1.trans g2).trans (grown_drew _ _))
  clear hv r1 g1 r2 g2
  have out : ∀ W : World, W = (((w.setCell ⟨g, i * 2, none⟩ (.int .i64 (nth xs j).1)).setCell ⟨g, i * 2 + 1, none⟩ (.int .i64 (nth xs j).2)).setCell ⟨g, j * 2, none⟩ (.int .i64 (nth xs i).1)).setCell ⟨g, j * 2 + 1, none⟩ (.int .i64 (nth xs i).2) →
      W.drew.ownsRow B 75 2 (.slice (some ⟨g, 0, none⟩) xs.length cap) xs.length (flatR (swapL xs i j)) ∧ w.grownBy W.drew (some g) := fun W hW => by
    subst hW; exact ⟨HR.out, HG.out⟩
  have OUT := Lib.hid out
  clear out HR HG
  go_enter Tryz.func175, Tryz.ntmps175
  go_wp2
  rcases Nat.lt_trichotomy i j with hij | rfl | hij
  · go_region
    all_goals (go_end0; exact ⟨rfl, OUT.out _ rfl⟩)
  · go_region
    all_goals (go_end0; exact ⟨rfl, OUT.out _ rfl⟩)
  · go_region
    all_goals (go_end0; exact ⟨rfl, OUT.out _ rfl⟩)

theorem assertR (w : World) (x : Value) : Sem.run Tryz.prog (Instr.typeAssert (.iface 75 x) 20 75 false) w = .ok x w := by kernel_rfl

theorem pushed {B pb : Nat} {v : Value} {xs : List R} {r : R} {w w1 : World} {o : Obj} {g cap : Nat} (hp : Pile B pb v xs w)
    (hown : w1.ownsRow B 75 2 (.slice (some ⟨g, 0, none⟩) (xs.length + 1) cap) (xs.length + 1) (flatR xs ++ [.int .i64 r.1, .int .i64 r.2])) (hg : (w.alloc o).drew.grownBy w1 v.ownBlock) :
    w1.cell? ⟨pb, 0, none⟩ = some v ∧ w1.frozen? ⟨pb, 0, none⟩ = false ∧ Pile B pb (.slice (some ⟨g, 0, none⟩) (xs.length + 1) cap) (xs ++ [r]) (w1.setCell ⟨pb, 0, none⟩ (.slice (some ⟨g, 0, none⟩) (xs.length + 1) cap)) ∧
      Below B w (w1.setCell ⟨pb, 0, none⟩ (.slice (some ⟨g, 0, none⟩) (xs.length + 1) cap)) := by
  have hlt := hp.lt
  have hbx : w1.heap[pb]? = some (.cells #[v] 145 (0, 0)) := by
    rw [hg.block pb (by simp; omega) hp.ne]
    exact ((World.grownBy_alloc w o none).block pb hlt (by simp)).trans hp.box
  have hne : pb ≠ g := by
    rintro rfl
    rcases hown.2 with ⟨h, _⟩ | ⟨g', cap', cur, h, _, hgg, _⟩
    · simp at h
    · simp at h
      rw [← h.1, hbx] at hgg
      simp at hgg
  have hset : w1.grownBy (w1.setCell ⟨pb, 0, none⟩ (.slice (some ⟨g, 0, none⟩) (xs.length + 1) cap)) (some pb) := ⟨rfl, rfl, rfl, by simp, fun k _ hk => heap_setCell_other w1 ⟨pb, 0, none⟩ k _ (fun e => hk (by simp [e]))⟩
  refine ⟨by simp [World.cell?, hbx], frozen_of_row w1 pb 0 _ _ hbx, ⟨hp.base, ?_, ?_⟩, ?_⟩
  · have := heap_setCell_same w1 pb 0 #[v] 145 (.slice (some ⟨g, 0, none⟩) (xs.length + 1) cap) hbx
    simpa using this
  · rw [flatR_snoc, List.length_append, List.length_cons, List.length_nil]
    exact hown.kept hset (.inr (by simp [Value.ownBlock]; exact fun h => hne h.symm))
  · have b1 : Below B w w1 := by
      refine ⟨hg.os, hg.tape, hg.output, Nat.le_trans (by simp) hg.size, fun k hk => ?_⟩
      have hkw : k < w.heap.size := Nat.lt_of_lt_of_le hk (Nat.le_trans hp.base (Nat.le_of_lt hlt))
      rw [hg.block k (by simp; omega) (fun e => by have := (hp.row.lt k e.symm).1; omega)]
      exact (World.grownBy_alloc w o none).block k hkw (by simp)
    exact b1.setCell (p := ⟨pb, 0, none⟩) hp.base _

set_option maxHeartbeats 800000 in
theorem push_any (B pb : Nat) (v : Value) (xs : List R) (r : R) (w : World) (hp : Pile B pb v xs w) (hn : xs.length ≤ 1000000) :
    Calls Tryz.prog 177 #[.pointer (some ⟨pb, 0, none⟩), .iface 75 (.agg #[.int .i64 r.1, .int .i64 r.2])] w fun e w' => e = .returned (.tuple #[]) ∧ ∃ v', Pile B pb v' (xs ++ [r]) w' ∧ Below B w w' := by
  obtain ⟨i0, hi, hz0, hz1, hz2⟩ := info_parts infoR
  have c1 := hp.cell
  have f1 := hp.frozen
  have hlt := hp.lt
  have HP := Lib.hid hp
  clear hp
  have ta := assertR
  go_enter Tryz.func177, Tryz.ntmps177
  go_wp2
  go_region_law (refine step_append_lies _ rfl (.tmp 7) (.tmp 10) 145 rfl B 75 i0 (.agg #[.int .i64 0, .int .i64 0]) 2 16 Tryz.underlying145 hi hz0 hz1 hz2 rfl (by decide) v xs.length (flatR xs) rfl (HP.out.row.alloc _) ⟨w.heap.size, 0, none⟩ 1 1 [.int .i64 r.1, .int .i64 r.2] rfl rfl (World.news_of_block (heap_alloc_new _ _)) (by simp [Value.oneCell']) (by decide) (by unfold maxLen; omega) (by omega) (by simp; have := HP.out.base; omega) _ rfl ?_; intro g cap w1 hown hgrow _ _; obtain ⟨k1, k2, k3, k4⟩ := pushed HP.out hown hgrow; have K3 := Lib.hid k3; have K4 := Lib.hid k4; clear k3 k4 hown hgrow)
  all_goals (go_end0; exact ⟨rfl, _, K3.out, K4.out⟩)

theorem set_grown (w : World) (pb : Nat) (v : Value) : w.grownBy (w.setCell ⟨pb, 0, none⟩ v) (some pb) := ⟨rfl, rfl, rfl, by simp, fun k _ hk => heap_setCell_other w ⟨pb, 0, none⟩ k _ (fun e => hk (by simp [e]))⟩
/-- the box set to another value that the call owns -/
theorem Pile.set {B pb : Nat} {v v' : Value} {xs ys : List R} {w : World} (hp : Pile B pb v xs w) (hr : w.ownsRow B 75 2 v' ys.length (flatR ys)) (hb : v'.ownBlock = v.ownBlock) (row : Option Nat) (o : Obj) :
    Pile B pb v' ys ((w.setCell ⟨pb, 0, none⟩ v').alloc o) ∧ Fr pb row w ((w.setCell ⟨pb, 0, none⟩ v').alloc o) := by
  have hg := set_grown w pb v'
  have hp2 : Pile B pb v' ys (w.setCell ⟨pb, 0, none⟩ v') := by
    refine ⟨hp.base, ?_, hr.kept hg ?_⟩
    · have := heap_setCell_same w pb 0 #[v] 145 v' hp.box
      simpa using this
    · exact .inr (by rw [hb]; exact Ne.symm hp.ne)
  have hb2 : Below (w.setCell ⟨pb, 0, none⟩ v').heap.size (w.setCell ⟨pb, 0, none⟩ v') ((w.setCell ⟨pb, 0, none⟩ v').alloc o) := (Below.refl _ _).alloc (Nat.le_refl _) _
  refine ⟨hp2.next hb2, Fr.trans ⟨hg.os, hg.tape, hg.output, hg.size, fun k hk h1 _ => hg.block k hk (by simpa using h1)⟩ (Fr.of_below hb2)⟩

theorem rowR_shrink {W : World} {B g cap : Nat} {ys : List R} {r : R} (h : W.ownsRow B 75 2 (.slice (some ⟨g, 0, none⟩) (ys ++ [r]).length cap) (ys ++ [r]).length (flatR (ys ++ [r]))) :
    W.ownsRow B 75 2 (.slice (some ⟨g, 0, none⟩) ys.length cap) ys.length (flatR ys) := by
  refine ⟨by rw [flatR_len], ?_⟩
  rcases h.2 with ⟨h', _⟩ | ⟨g', cap', cur, h', hb, hg, hn, hm, hcs, ht⟩
  · simp at h'
  · simp only [Value.slice.injEq, Option.some.injEq, Addr.mk.injEq, and_true, true_and] at h'
    obtain ⟨rfl, rfl⟩ := h'
    refine .inr ⟨g, cap, cur, rfl, hb, hg, by simp at hn; omega, hm, hcs, ?_⟩
    have hk := congrArg (List.take (ys.length * 2)) ht
    rw [List.take_take, flatR_append, ← flatR_len ys, List.take_left, flatR_len] at hk
    rwa [Nat.min_eq_left (by simp; omega)] at hk

set_option maxHeartbeats 800000 in
theorem pop_any (B pb g cap : Nat) (ys : List R) (r : R) (w : World) (hp : Pile B pb (.slice (some ⟨g, 0, none⟩) (ys ++ [r]).length cap) (ys ++ [r]) w) :
    Calls Tryz.prog 176 #[.pointer (some ⟨pb, 0, none⟩)] w fun e w' => e = .returned (.iface 75 (.agg #[.int .i64 r.1, .int .i64 r.2])) ∧ Pile B pb (.slice (some ⟨g, 0, none⟩) ys.length cap) ys w' ∧ Fr pb (some g) w w' := by
  have c1 := hp.cell
  have f1 := hp.frozen
  have hlt := hp.lt
  obtain ⟨d1, d2⟩ := flatR_at (ys ++ [r]) ys.length (by simp)
  rw [nth_last] at d1 d2
  rw [← hp.row.cellAt _ (by simp)] at d1
  rw [← hp.row.cellAt _ (by simp; omega)] at d2
  obtain ⟨ao, cc, he, hm, _⟩ := (rngs_of_row hp.row).shape
  have hcap : ys.length ≤ cap := by
    rcases (rowR_shrink hp.row).2 with ⟨h', _⟩ | ⟨g', cap', cur, h', hb, hg, hn, _⟩
    · simp at h'
    · simp at h'; omega
  simp only [List.length_append, List.length_cons, List.length_nil, Nat.zero_add] at hm
  have HP := Lib.hid hp
  rw [show (ys ++ [r]).length = ys.length + 1 by simp] at c1
  clear hp he
  rw [show (ys ++ [r]).length = ys.length + 1 by simp] at HP
  go_enter Tryz.func176, Tryz.ntmps176
  go_wp2
  go_ret
  have h := HP.out.set (ys := ys) (v' := .slice (some ⟨g, 0, none⟩) ys.length cap) (rowR_shrink (by rw [show (ys ++ [r]).length = ys.length + 1 by simp]; have := HP.out.row; rwa [show (ys ++ [r]).length = ys.length + 1 by simp] at this)) rfl (some g)
  exact ⟨rfl, h _⟩

end Go.Proofs.YtgjiofkjogjhhaaGreatDoor.Rg

namespace Go.Proofs.YtgjiofkjogjhhaaGreatDoor.Rg
open Go.RowKit Go.Shelf

def key (l : List R) (i : Nat) : Int := (nth l i).1
theorem key_swap {l : List R} {i j : Nat} : ∀ k, k < l.length → key (swapL l i j) k = swF (key l) i j k := fun k hk => by
  unfold key swF
  rw [swapL_nth k hk]
  split
  · rfl
  · split <;> rfl
theorem eLess : ∀ args w, (callFunc 174 args).run Tryz.prog w = .ok (.enter 174 args) w := enters_of Tryz.func174 (by kernel_rfl) rfl
theorem eSwap : ∀ args w, (callFunc 175 args).run Tryz.prog w = .ok (.enter 175 args) w := enters_of Tryz.func175 (by kernel_rfl) rfl
theorem eLen : ∀ args w, (callFunc 173 args).run Tryz.prog w = .ok (.enter 173 args) w := enters_of Tryz.func173 (by kernel_rfl) rfl
theorem ePush : ∀ args w, (callFunc 177 args).run Tryz.prog w = .ok (.enter 177 args) w := enters_of Tryz.func177 (by kernel_rfl) rfl
theorem ePop : ∀ args w, (callFunc 176 args).run Tryz.prog w = .ok (.enter 176 args) w := enters_of Tryz.func176 (by kernel_rfl) rfl

/-- the interface value of the pile -/
abbrev ifc (pb : Nat) : Value := .iface 148 (.pointer (some ⟨pb, 0, none⟩))
theorem Pile.drewN {B pb : Nat} {v : Value} {xs : List R} {w : World} (h : Pile B pb v xs w) (q : Nat) : Pile B pb v xs (w.drewN q) := h.next (below_drewN w q)

/-- what swapping does to the pile -/
theorem swap_pile (B pb g cap : Nat) (xs : List R) (i j : Nat) (w : World) (hp : Pile B pb (.slice (some ⟨g, 0, none⟩) xs.length cap) xs w) (hi : i < xs.length) (hj : j < xs.length) :
    Calls Tryz.prog 175 #[.slice (some ⟨g, 0, none⟩) xs.length cap, .int .i64 i, .int .i64 j] w fun e w' => e = .returned (.tuple #[]) ∧ Pile B pb (.slice (some ⟨g, 0, none⟩) xs.length cap) (swapL xs i j) w' ∧ Fr pb (some g) w w' := by
  refine (swap_any xs g cap B i j w hp.row hi hj).mono ?_
  rintro e w' ⟨rfl, h1, h2⟩
  exact ⟨rfl, ⟨hp.base, (h2.block pb hp.lt hp.ne).trans hp.box, by rw [swapL_len]; exact h1⟩, Fr.of_grown h2⟩

set_option maxHeartbeats 1600000 in
theorem up_any (B pb g cap : Nat) (xs : List R) (j : Nat) (w : World) (hp : Pile B pb (.slice (some ⟨g, 0, none⟩) xs.length cap) xs w) (hj : j < xs.length) (hh : HeapUp (key xs) xs.length j) :
    Calls Tryz.prog 140 #[ifc pb, .int .i64 j] w fun e w' => e = .returned (.tuple #[]) ∧ ∃ ys, ys.Perm xs ∧ Heap (key ys) ys.length ∧ Pile B pb (.slice (some ⟨g, 0, none⟩) xs.length cap) ys w' ∧ Fr pb (some g) w w' := by
  have e1 := eLess
  have e2 := eSwap
  obtain ⟨ao, cc, he, hm, _⟩ := hp.rngs.shape
  clear he
  generalize hn : xs.length = n at *
  go_enter Tryz.func140, Tryz.ntmps140
  go_wp2
  go_loopw [1] (fun s wr => ∃ (k : Nat) (ys : List R), s = .int .i64 k ∧ k < n ∧ ys.length = n ∧ ys.Perm xs ∧ HeapUp (key ys) n k ∧ Pile B pb (.slice (some ⟨g, 0, none⟩) n cap) ys wr ∧ Fr pb (some g) w wr) (fun s _ => (intOf s).toNat)
  case atStart => exact ⟨j, xs, rfl, hj, hn, List.Perm.refl _, hh, hp, Fr.refl _ _ _⟩
  case round =>
    clear hp hh hj
    obtain ⟨k, ys, rfl, hk, hyl, hperm, hh, hp, hf⟩ := hrel
    have HH := Lib.hid hh
    have HP := Lib.hid hp
    have HPE := Lib.hid hperm
    have HYL := Lib.hid hyl
    have HF := Lib.hid hf
    have fin : Heap (key ys) n → ∀ q, ∃ ys, ys.Perm xs ∧ Heap (key ys) ys.length ∧ Pile B pb (.slice (some ⟨g, 0, none⟩) n cap) ys (wr.drewN q) ∧ Fr pb (some g) w (wr.drewN q) := fun h q =>
      ⟨ys, hperm, by rw [hyl]; exact h, hp.drewN q, hf.trans (Fr.of_below (below_drewN _ _))⟩
    have FIN := Lib.hid fin
    cases k with
    | zero =>
      have hd := hh.done0
      clear hp hf hperm hyl hh fin
      go_wp2
      go_end0
      exact ⟨rfl, FIN.out hd 0⟩
    | succ m =>
      have q1 : ((m + 1 : Nat) : Int) - 1 = m := by omega
      have d0 : (((m : Int) / 2) == (m : Int) + 1) = false := by simp; omega
      have e3 := fun N => byVal wr pb _ hp.cell _ _ N fLess
      have e4 := fun q N => byVal (wr.drewN q) pb _ (hp.drewN q).cell _ _ N fSwap
      have c1 := less_any ys _ (m + 1) (m / 2) wr hp.rngs (by omega) (by omega)
      have c2 := fun q => swap_pile B pb g cap ys (m / 2) (m + 1) (wr.drewN q) (by rw [hyl]; exact hp.drewN q) (by omega) (by omega)
      rw [hyl] at c2
      rw [show ((m / 2 : Nat) : Int) = (m : Int) / 2 by omega, show ((m + 1 : Nat) : Int) = (m : Int) + 1 by omega] at c1 c2
      have hpar : (m + 1 - 1) / 2 = m / 2 := by rw [Nat.add_sub_cancel]
      have hstep := fun h => hh.step (by omega) hk h
      have hdone := fun h => hh.done h
      rw [hpar] at hstep hdone
      have HS := Lib.hid hstep
      have HD := Lib.hid hdone
      have C1 := Lib.hid c1
      have C2 := Lib.hid c2
      clear hp hf hperm hyl hh fin c1 c2 hpar hstep hdone
      by_cases hlt : (nth ys (m + 1)).1 < (nth ys (m / 2)).1
      · rw [decide_eq_true hlt] at C1
        go_wp2_with (first
          | (go_at_fn 174; refine C1.out.mono ?_; rintro e w' ⟨rfl, q, rfl⟩)
          | (go_at_fn 175; refine (C2.out _).mono ?_; rintro e w2 ⟨rfl, hp2, hf2⟩))
        go_roundw
        case rel =>
          refine ⟨m / 2, swapL ys (m / 2) (m + 1), by go_num, by omega, by rw [swapL_len]; exact HYL.out, (swapL_perm (by rw [HYL.out]; omega) (by rw [HYL.out]; omega)).trans HPE.out, ?_, hp2, (HF.out.trans (Fr.of_below (below_drewN _ _))).trans hf2⟩
          exact (HS.out hlt).congr fun i hi => key_swap i (by rw [HYL.out]; exact hi)
        case measure => simp [intOf]; omega
      · rw [decide_eq_false hlt] at C1
        go_wp2_with (go_at_fn 174; refine C1.out.mono ?_; rintro e w' ⟨rfl, q, rfl⟩)
        go_end0
        exact ⟨rfl, FIN.out (HD.out (by unfold key; omega)) q⟩

end Go.Proofs.YtgjiofkjogjhhaaGreatDoor.Rg

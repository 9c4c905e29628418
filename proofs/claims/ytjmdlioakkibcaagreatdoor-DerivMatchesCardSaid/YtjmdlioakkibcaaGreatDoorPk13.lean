/- The walk as a whole: spread. Sorting what is left, and each number once. -/
import Derived.Test.YtjmdlioakkibcaaGreatDoorPk12
import Derived.Sort.OwnSortedInts

namespace Go.Proofs.YtjmdlioakkibcaaGreatDoor.Dv
open Go Go.RowKit Go.Shelf Go.Maps
open Go.Proofs.YtjmdlioakkibcaaGreatDoor.Ar (timesB Nd nd nodeB nodeB_ways NRow cellsN aggN flatN Book WfN Wf NodeAt node_new nodes_of_row)
open Go.Proofs.YtjmdlioakkibcaaGreatDoor.Rg (R RngsAt RowsAt nthL add_zero own_next has_any inB)

/-- a walk has room for what it leaves -/
def Room (W : Wk) : Prop := W.left.length + W.wait.length ≤ W.met.length
theorem meet_room {W : Wk} (h : Room W) (p q : Nat) : Room (meet W p q) := by
  unfold meet Room at *
  split
  · exact h
  · split
    · exact h
    · simp; omega
/-- one more than there is room for, while a spot is gone past -/
def Room1 (W : Wk) : Prop := W.left.length + W.wait.length + 1 ≤ W.met.length
theorem meet_room1 {W : Wk} (h : Room1 W) (p q : Nat) : Room1 (meet W p q) := by
  unfold meet Room1 at *
  split
  · exact h
  · split
    · exact h
    · simp; omega
theorem past_room {c : Int} {W : Wk} (h : Room1 W) (n : Nd) (q : Nat) : Room (past c W n q) := by
  have h' : ∀ {V : Wk}, Room1 V → Room V := fun h => by unfold Room Room1 at *; omega
  have hB : ∀ {V : Wk} (B : Bk), Room1 V → Room1 { V with b := B } := fun _ h => h
  unfold past
  split
  · unfold pastSet
    split
    · unfold Room Room1 at *; simp; omega
    · exact h' h
  · split
    · unfold pastCat
      dsimp only
      split
      · exact h' (meet_room1 (meet_room1 (hB _ h) _ _) _ _)
      · exact h' (meet_room1 (hB _ h) _ _)
    · split
      · exact h' (meet_room1 (meet_room1 h _ _) _ _)
      · split
        · exact h' (meet_room1 (hB _ h) _ _)
        · exact h' h
theorem step_room {c : Int} {W : Wk} (h : Room W) (hs : stop W = false) : Room (step c W) := by
  refine past_room ?_ _ _
  have : 0 < W.wait.length := List.length_pos_iff.2 (stop_false hs).1
  unfold Room Room1 at *
  simp only [List.length_dropLast]
  omega

section
variable {w0 w : World} {bb M wb Mw : Nat} {c : Int} {W : Wk}
/-- which method goes past, in memory -/
theorem pastM_any (h : WAt w0 bb M wb Mw c W w) (ok : WkOk W) (hr : Room1 W) {n : Nd} {p q : Nat} (hp : p < W.b.parts.length) (hn : nd W.b.parts p = n) (hq : q < W.b.parts.length) :
    Calls Tryz.prog (kindW n.op) #[.pointer (some ⟨wb, 0, none⟩), aggN n, .int .i64 (q : Nat)] w (WOut w0 bb M wb Mw c (past c W n q) (Kw w0 bb M wb Mw) w) := by
  have hnode := ok.good.node p hp
  have hreps := ok.good.reps p hp
  rw [hn] at hnode hreps
  have hl : W.wait.length ≤ W.met.length := by unfold Room1 at hr; omega
  unfold kindW past
  rcases nodeB_ways hnode with ⟨h1, h2⟩ | ⟨h1, h2⟩ | ⟨h1 | h1, h2⟩ | ⟨h1, h2⟩
  · rw [if_neg (by omega), if_neg (by omega), if_neg (by omega), if_neg (by omega), if_neg (by omega), if_neg (by omega), if_neg (by omega), if_neg (by omega)]
    exact wempty_any h n q
  · rw [if_pos h1, if_pos h1]
    exact wset_any h (by omega) (by omega) (by have := ok.many; unfold Room1 at hr; omega)
  · rw [if_neg (by omega), if_pos h1, if_neg (by omega), if_pos h1]
    exact wcat_any h ok hl (by omega) (by omega) (by omega) (by omega) hq
  · rw [if_neg (by omega), if_neg (by omega), if_pos h1, if_neg (by omega), if_neg (by omega), if_pos h1]
    exact walt_any h ok hl (by omega) (by omega) (by omega) (by omega) hq
  · rw [if_neg (by omega), if_neg (by omega), if_neg (by omega), if_pos h1, if_neg (by omega), if_neg (by omega), if_neg (by omega), if_pos h1]
    exact wrep_any h ok hl (by omega) (by omega) (node_times hnode h1) (hreps h1) hq

/-- numbers in a row of their own, in memory -/
def RowI (w : World) (v : Value) (l : List Nat) : Prop := (v = .slice none 0 0 ∧ l = []) ∨ ∃ g cap cs, v = .slice (some ⟨g, 0, none⟩) l.length cap ∧ l.length ≤ maxLen ∧ w.heap[g]? = some (.cells cs 3 (0, 0)) ∧ cs.toList.take l.length = (castL l).map (Value.int .i64)
theorem RowI.kg {w' : World} {N0 : Nat} {U : Nat → Prop} {T : TypeId → Prop} {v : Value} {l : List Nat} (h : RowI w v l) (k : Kg N0 U T w w') (hT : ¬ T 3) (hU : ∀ g, v.ownBlock = some g → ¬ U g) : RowI w' v l := by
  rcases h with h | ⟨g, cap, cs, rfl, h1, h2, h3⟩
  · exact .inl h
  · exact .inr ⟨g, cap, cs, rfl, h1, k.heap h2 (hU g rfl) (fun _ _ _ e => by cases e; exact hT), h3⟩
theorem RowI.at' {v : Value} {l : List Nat} (h : RowI w v l) : ∃ (ao : Option Addr) (cap : Nat), v = .slice ao l.length cap ∧ l.length ≤ 9223372036854775807 ∧ ∀ i, i < l.length → ∃ g, ao = some g ∧ w.cell? (g.add i) = some (.int .i64 (l.getD i 0 : Nat)) := by
  rcases h with ⟨rfl, rfl⟩ | ⟨g, cap, cs, rfl, h1, h2, h3⟩
  · exact ⟨none, 0, rfl, by simp, fun i hi => by simp at hi⟩
  · refine ⟨some ⟨g, 0, none⟩, cap, rfl, by unfold maxLen at h1; omega, fun i hi => ⟨_, rfl, ?_⟩⟩
    rw [add_zero, Lib.cell_of_heap h2]
    have e : (cs.toList.take l.length)[i]? = some (.int .i64 (l.getD i 0 : Nat)) := by rw [h3]; simp [castL, hi, List.getD]
    rw [List.getElem?_take_of_lt hi] at e
    simpa using e
theorem RowI.own {v : Value} {l : List Nat} {N : Nat} (h : w.ownsRow N 3 1 v l.length ((castL l).map (Value.int .i64))) : RowI w v l := by
  rcases h.2 with ⟨rfl, h0⟩ | ⟨g, cap, cur, rfl, _, hg, hc, hm, _, ht⟩
  · exact .inl ⟨rfl, List.eq_nil_of_length_eq_zero h0⟩
  · exact .inr ⟨g, cap, cur, rfl, by omega, hg, by simpa using ht⟩
theorem RowI.ne {v : Value} {l : List Nat} (h : RowI w v l) {k : Nat} {o : Obj} (ho : w.heap[k]? = some o) (hn : ∀ cs fz, o ≠ .cells cs 3 fz) {g : Nat} (hg : v.ownBlock = some g) : g ≠ k := by
  rcases h with ⟨rfl, _⟩ | ⟨g', cap, cs, rfl, _, h2, _⟩
  · cases hg
  · simp only [Value.ownBlock, Option.some.injEq] at hg
    subst hg
    rintro rfl
    rw [h2] at ho
    simp only [Option.some.injEq] at ho
    exact hn _ _ ho.symm

/-- the last spot that waits -/
theorem WkAt.lastS {wv lv : Value} (h : WkAt w0 bb M wb Mw c W wv lv w) {m : Nat} (hm : W.wait.length = m + 1) : ∃ gw cap, wv = .slice (some ⟨gw, 0, none⟩) (m + 1) cap ∧ m + 1 ≤ cap ∧ cap ≤ 9223372036854775807 ∧ w.cell? ⟨gw, m * 2, none⟩ = some (.int .i64 ((lastW W).1 : Nat)) ∧ w.cell? ⟨gw, m * 2 + 1, none⟩ = some (.int .i64 ((lastW W).2 : Nat)) := by
  obtain ⟨h1, h2⟩ := flatS_at W.wait m (by omega)
  have e : W.wait.getD m (0, 0) = lastW W := by
    unfold lastW
    rw [List.getLastD_eq_getLast?, List.getLast?_eq_getElem?, List.getD, hm, Nat.add_sub_cancel]
  rw [e] at h1 h2
  rcases h.wait.2 with ⟨_, h0⟩ | ⟨gw, cap, cur, rfl, _, _, hc, hc2, _, _⟩
  · omega
  · refine ⟨gw, cap, by rw [hm], by omega, by unfold maxLen at hc2; omega, ?_, ?_⟩
    · rw [h.wait.cellAt _ (by omega)]; exact h1
    · rw [h.wait.cellAt _ (by omega)]; exact h2
/-- one spot less waits -/
theorem WkAt.pop {gw cap m : Nat} {lv : Value} (h : WkAt w0 bb M wb Mw c W (.slice (some ⟨gw, 0, none⟩) (m + 1) cap) lv w) (hm : W.wait.length = m + 1) :
    w.frozen? ⟨wb, 3, none⟩ = false ∧ WAt w0 bb M wb Mw c { W with wait := W.wait.dropLast } (w.setCell ⟨wb, 3, none⟩ (.slice (some ⟨gw, 0, none⟩) m cap)) ∧ Kw w0 bb M wb Mw w (w.setCell ⟨wb, 3, none⟩ (.slice (some ⟨gw, 0, none⟩) m cap)) := by
  obtain ⟨pv, sv, bv, xs, hbk⟩ := h.book
  have kS : Kg w0.heap.size (fun k => k = wb) (fun _ => False) w (w.setCell ⟨wb, 3, none⟩ (.slice (some ⟨gw, 0, none⟩) m cap)) := Kg.of_set h.base rfl
  have hbox := heap_setCell_same w wb 3 _ 97 (.slice (some ⟨gw, 0, none⟩) m cap) h.box
  have hd : W.wait.dropLast.length = m := by rw [List.length_dropLast, hm]; rfl
  have hrow : w.ownsRow w0.heap.size 100 2 (.slice (some ⟨gw, 0, none⟩) m cap) W.wait.dropLast.length (flatS W.wait.dropLast) := by
    rcases h.wait.2 with ⟨h0, _⟩ | ⟨g, cp, cur, he, hb, hg, hc, hc2, hz, ht⟩
    · cases h0
    · simp only [Value.slice.injEq, Option.some.injEq, Addr.mk.injEq] at he
      obtain ⟨⟨rfl, _⟩, _, rfl⟩ := he
      refine ⟨by rw [flatS_len], .inr ⟨gw, cap, cur, by rw [hd], hb, hg, by omega, hc2, hz, ?_⟩⟩
      have e : flatS W.wait = flatS W.wait.dropLast ++ cellsS (lastW W) := by
        rw [← flatS_snoc]
        have := (last_mem (l := W.wait) (by intro h0; rw [h0] at hm; cases hm)).2
        exact congrArg flatS this
      have : cur.toList.take (W.wait.dropLast.length * 2) = (cur.toList.take (W.wait.length * 2)).take (W.wait.dropLast.length * 2) := by
        rw [List.take_take, Nat.min_eq_left (by omega)]
      rw [this, ht, e, ← flatS_len, List.take_left']
      rfl
  have hz : ∀ {e : TypeId} {s m : Nat} {v : Value} {ys : List Value}, w.ownsRow w0.heap.size e s v m ys → e ≠ 97 → ∀ g, v.ownBlock = some g → ¬ g = wb := fun hr he g hv e => h.ne_row hr he (e ▸ hv)
  refine ⟨frozen_of_row w wb 3 _ _ h.box, ⟨_, lv, ⟨⟨pv, sv, bv, xs, hbk.keep kS rfl (fun e => h.bne e.symm) (fun e => h.bneM e.symm) (fun _ _ => id) (fun g hg => ?_)⟩, h.base, h.baseM, h.ne, by simpa using hbox, kS.own hrow id (hz hrow (by decide)), kS.own h.left id (hz h.left (by decide)), h.met.kg kS (fun e => h.bneMw e.symm)⟩⟩, kS.mono (fun _ _ h => .inr (.inr (.inl h))) (fun _ h => h.elim)⟩
  rcases hg with hg | hg | hg
  · exact hz hbk.parts (by decide) g hg
  · exact hz hbk.sets (by decide) g hg
  · exact hz hbk.bare (by decide) g hg
theorem begin_snoc (B : Bk) (l : List Nat) {j : Nat} (hj : j < l.length) : begin' B (l.take (j + 1)) = meet (begin' B (l.take j)) (l.getD j 0) 1 := by
  unfold begin'
  rw [List.take_succ_eq_append_getElem hj, List.foldl_append]
  simp [List.getD, hj]
theorem begin_ok {B : Bk} (g : Good B) {l : List Nat} (hl : ∀ x, x ∈ l → x < B.parts.length) : WkOk (begin' B l) ∧ Room (begin' B l) ∧ (begin' B l).b.parts = B.parts := by
  obtain ⟨h1, _, _, _, h5, _⟩ := begin_inv (c := 0) g l [] ⟨B, [], [], []⟩ ⟨g, fun s hs => (by cases hs), fun s hs => (by cases hs), fun x hx => (by cases hx), by simp⟩ (Ext.refl B) hl rfl (fun _ => ⟨fun s => by simp, fun s hs => (by cases hs)⟩) rfl rfl
  refine ⟨h1, ?_, h5⟩
  have : ∀ (l : List Nat) (W : Wk), Room W → Room (l.foldl (fun W x => meet W x 1) W) := by
    intro l
    induction l with
    | nil => intro W h; exact h
    | cons x l ih => intro W h; exact ih _ (meet_room h _ _)
  exact this l _ (by simp [Room])
end

end Go.Proofs.YtjmdlioakkibcaaGreatDoor.Dv

namespace Go.Proofs.YtjmdlioakkibcaaGreatDoor.Dv
open Go Go.RowKit Go.Shelf Go.Maps
open Go.Proofs.YtjmdlioakkibcaaGreatDoor.Ar (timesB Nd nd nodeB nodeB_ways NRow cellsN aggN flatN Book WfN Wf NodeAt node_new nodes_of_row)
open Go.Proofs.YtjmdlioakkibcaaGreatDoor.Rg (R RngsAt RowsAt nthL add_zero own_next has_any inB)
section
variable {w0 w : World} {bb M wb Mw : Nat} {c : Int} {W : Wk}

theorem sort_row {w : World} {N : Nat} {v : Value} {zs : List Int} (h : w.ownsRow N 3 1 v zs.length (zs.map (Value.int .i64))) (hl : zs.length ≤ 1000000) :
    Calls Tryz.prog 57 #[v] w fun e w' => e = .returned (.tuple #[]) ∧ w'.ownsRow N 3 1 v zs.length ((zs.mergeSort fun x y => decide (x ≤ y)).map (Value.int .i64)) ∧ w.grownBy w' v.ownBlock := by
  rcases h.2 with ⟨rfl, h0⟩ | ⟨g, cap, cur, rfl, hb, hg, hc, hm, hz, ht⟩
  · have e0 := List.eq_nil_of_length_eq_zero h0
    subst e0
    refine (Tryz.slices_Sort_int_none none 0 w).mono ?_
    rintro e w' ⟨rfl, rfl⟩
    exact ⟨rfl, by simpa using h, ⟨rfl, rfl, rfl, Nat.le_refl _, fun _ _ _ => rfl⟩⟩
  · have hH : Sort.Holds (Value.int .i64) w g 0 zs.toArray := holds_of_blockI hg (by simpa using ht)
    have hgl : g < w.heap.size := (Array.getElem?_eq_some_iff.1 hg).1
    refine (Tryz.slices_Sort_int g 0 cap zs w hH hgl (by omega)).mono ?_
    rintro e w' ⟨rfl, n, os, rfl⟩
    exact ⟨rfl, ownsRow_sortedI (List.length_mergeSort zs) hb hg hc hm hz, grownBy_sortedI _⟩
theorem compact_row {w : World} {N : Nat} {v : Value} {zs : List Int} (h : w.ownsRow N 3 1 v zs.length (zs.map (Value.int .i64))) (hl : zs.length ≤ 1000000) :
    Calls Tryz.prog 58 #[v] w fun e w' => ∃ v', e = .returned v' ∧ w'.ownsRow N 3 1 v' (Lib.compact zs).length ((Lib.compact zs).map (Value.int .i64)) ∧ w.grownBy w' v.ownBlock := by
  rcases h.2 with ⟨rfl, h0⟩ | ⟨g, cap, cur, rfl, hb, hg, hc, hm, hz, ht⟩
  · have e0 := List.eq_nil_of_length_eq_zero h0
    subst e0
    refine (Tryz.slices_Compact_int_empty none 0 w).mono ?_
    rintro e w' ⟨rfl, rfl⟩
    exact ⟨_, rfl, by simpa [Lib.compact, Lib.compactUpTo] using h, ⟨rfl, rfl, rfl, Nat.le_refl _, fun _ _ _ => rfl⟩⟩
  · have hH : Sort.Holds (Value.int .i64) w g 0 zs.toArray := holds_of_blockI hg (by simpa using ht)
    refine (Tryz.slices_Compact_int g 0 cap zs w hH (by omega) hc).mono ?_
    rintro e w' ⟨rfl, q, rfl⟩
    have hle : (Lib.compact zs).length ≤ zs.length := Lib.compact_length_le zs
    have e1 := ownsRow_sortedI (w := w) (n := q) (os := #[]) (base := N) (ts := Lib.compact zs ++ List.replicate (zs.length - (Lib.compact zs).length) 0) (ss := zs) (by simp; omega) hb hg hc hm hz
    have e2 := grownBy_sortedI (w := w) (g := g) (n := q) (os := #[]) (Lib.compact zs ++ List.replicate (zs.length - (Lib.compact zs).length) 0).toArray
    rw [Sort.grow_empty] at e1 e2
    refine ⟨_, rfl, ?_, e2⟩
    rcases e1.2 with ⟨h0, _⟩ | ⟨g', cap', cur', he, hb', hg', hc', hm', hz', ht'⟩
    · cases h0
    · simp only [Value.slice.injEq, Option.some.injEq, Addr.mk.injEq] at he
      obtain ⟨⟨rfl, _⟩, _, rfl⟩ := he
      refine ⟨by simp, .inr ⟨g, cap, cur', rfl, hb', hg', by omega, hm', hz', ?_⟩⟩
      have : cur'.toList.take ((Lib.compact zs).length * 1) = (cur'.toList.take (zs.length * 1)).take ((Lib.compact zs).length * 1) := by rw [List.take_take, Nat.min_eq_left (by omega)]
      rw [this, ht', List.map_append, List.take_left']
      simp
end
end Go.Proofs.YtjmdlioakkibcaaGreatDoor.Dv

/- A walk goes past a node: which method, and the methods empty, set, alt. A walk goes past a set. A walk goes past one part or the other, past one behind the other, past a repetition. The library's contracts at this program's own numbers: each one application of a theorem of the library. The walk as a whole: spread. Sorting what is left, and each number once. -/
import Derived.Test.YtbkafoaoddajoaaGreatDoorPk07
import Derived.Shelf.Small.Bits
import Derived.Shelf.Small.Wraps
import Derived.Shelf.Strconv.Itoa0
import Derived.Shelf.Sort.Plain
import Derived.Shelf.Unicode.Decode
import Derived.Shelf.Unicode.DecodeSlow
import Derived.Shelf.Unicode.DecodeAny
import Derived.Ground.Names2Prog
import Derived.Shelf.Slices.CompactI
import Derived.Shelf.Slices.SearchI
import Derived.Shelf.Slices.Cells
import Derived.Shelf.Slices.In.SortNone
import Derived.Ground.SlgfProg
import Derived.Shelf.SlicesE.IndexFunc
import Derived.Test.YtbkafoaoddajoaaGreatDoorProg
import Derived.Sort.OwnSortedInts

namespace Go.Proofs.YtbkafoaoddajoaaGreatDoor.Dv
open Go Go.RowKit Go.Shelf Go.Maps
open Go.Proofs.YtbkafoaoddajoaaGreatDoor.Ar (Nd nd nodeB nodeB_ways NRow cellsN aggN flatN Book WfN Wf)
open Go.Proofs.YtbkafoaoddajoaaGreatDoor.Rg (R RngsAt RowsAt nthL add_zero own_next has_any inB)

theorem WAt.next {w0 w w' : World} {bb M wb Mw : Nat} {c : Int} {W : Wk} (h : WAt w0 bb M wb Mw c W w) (hb : Below w.heap.size w w') : WAt w0 bb M wb Mw c W w' := by
  obtain ⟨wv, lv, h⟩ := h
  exact ⟨wv, lv, h.next hb⟩
theorem meet_len {W : Wk} (h : W.wait.length ≤ W.met.length) (p q : Nat) : (meet W p q).wait.length ≤ (meet W p q).met.length := by
  unfold meet
  split
  · exact h
  · split
    · exact h
    · simp; omega
section
variable {w0 w : World} {bb M wb Mw : Nat} {c : Int} {W : Wk}
theorem wfS_of (ok : WkOk W) {p q : Nat} (hp : p < W.b.parts.length) (hq : q < W.b.parts.length) : WfS (p, q) := by
  have := ok.good.small
  exact ⟨by show p < _; omega, by show q < _; omega⟩
theorem meet_any (h : WAt w0 bb M wb Mw c W w) (ok : WkOk W) (hl : W.wait.length ≤ W.met.length) {p q : Nat} (hp : p < W.b.parts.length) (hq : q < W.b.parts.length) :
    Calls Tryz.prog 55 #[.pointer (some ⟨wb, 0, none⟩), .int .i64 (p : Nat), .int .i64 (q : Nat)] w (WOut w0 bb M wb Mw c (meet W p q) (Km w0 bb wb Mw) w) := by
  have hs := wfS_of ok hp hq
  unfold meet
  split
  · exact meet_old h hs (by assumption)
  · split
    · exact meet_full h hs (by assumption) (by assumption)
    · exact meet_new h hs (by assumption) (by have := ok.many; omega) hl

/-! which method -/
def kindW (op : Int) : Nat := if op = 2 then 70 else if op = 3 then 71 else if op = 4 then 72 else if op = 5 then 73 else 69
set_option maxRecDepth 100000 in
set_option maxHeartbeats 1000000 in
theorem kind_w (op : Int) (a b x y z : Value) (w : World) : Calls Tryz.prog 68 #[.int .i64 op, a, b, x, y, z] w fun e w' => e = .returned (if op = 2 then b else if op = 3 then x else if op = 4 then y else if op = 5 then z else a) ∧ w' = w := by
  by_cases h2 : op = 2
  · subst h2
    go_enter Tryz.func68, Tryz.ntmps68
    go_wp2
    go_ret
    exact ⟨rfl, rfl⟩
  · rw [if_neg h2]
    have e2 : (op == 2) = false := by simpa using h2
    by_cases h3 : op = 3
    · subst h3
      go_enter Tryz.func68, Tryz.ntmps68
      go_wp2
      go_ret
      exact ⟨rfl, rfl⟩
    · rw [if_neg h3]
      have e3 : (op == 3) = false := by simpa using h3
      by_cases h4 : op = 4
      · subst h4
        go_enter Tryz.func68, Tryz.ntmps68
        go_wp2
        go_ret
        exact ⟨rfl, rfl⟩
      · rw [if_neg h4]
        have e4 : (op == 4) = false := by simpa using h4
        by_cases h5 : op = 5
        · subst h5
          go_enter Tryz.func68, Tryz.ntmps68
          go_wp2
          go_ret
          exact ⟨rfl, rfl⟩
        · rw [if_neg h5]
          have e5 : (op == 5) = false := by simpa using h5
          clear h2 h3 h4 h5
          go_enter Tryz.func68, Tryz.ntmps68
          go_wp2
          go_ret
          exact ⟨rfl, rfl⟩
set_option maxRecDepth 100000 in
set_option maxHeartbeats 1000000 in
theorem past_any (op : Int) (w : World) : Calls Tryz.prog 56 #[.int .i64 op] w fun e w' => e = .returned (.func (.func (kindW op)) #[] #[]) ∧ w' = w := by
  have C := Lib.hid (kind_w op (.func (.func 69) #[] #[]) (.func (.func 70) #[] #[]) (.func (.func 71) #[] #[]) (.func (.func 72) #[] #[]) (.func (.func 73) #[] #[]) w)
  have hk : (if op = 2 then Value.func (.func 70) #[] #[] else if op = 3 then .func (.func 71) #[] #[] else if op = 4 then .func (.func 72) #[] #[] else if op = 5 then .func (.func 73) #[] #[] else .func (.func 69) #[] #[]) = .func (.func (kindW op)) #[] #[] := by
    unfold kindW
    split
    · rfl
    · split
      · rfl
      · split
        · rfl
        · split <;> rfl
  rw [hk] at C
  clear hk
  generalize kindW op = k at *
  go_enter Tryz.func56, Tryz.ntmps56
  go_wp2_with (go_at_call 68; (with_reducible refine C.out.mono ?_); rintro e w1 ⟨rfl, hw⟩; subst w1)
  go_ret
  exact ⟨rfl, rfl⟩

set_option maxRecDepth 100000 in
set_option maxHeartbeats 1000000 in
theorem wempty_any (h : WAt w0 bb M wb Mw c W w) (n : Nd) (q : Nat) : Calls Tryz.prog 69 #[.pointer (some ⟨wb, 0, none⟩), aggN n, .int .i64 (q : Nat)] w (WOut w0 bb M wb Mw c W (Kw w0 bb M wb Mw) w) := by
  have H := Lib.hid h
  clear h
  unfold aggN
  go_enter Tryz.func69, Tryz.ntmps69
  go_wp2
  go_end0
  exact ⟨rfl, H.out.next ((Below.refl _ _).alloc (Nat.le_refl _) _), Kg.of_below ((Below.refl _ _).alloc (Nat.le_refl _) _)⟩
end

end Go.Proofs.YtbkafoaoddajoaaGreatDoor.Dv

namespace Go.Proofs.YtbkafoaoddajoaaGreatDoor.Dv
open Go Go.RowKit Go.Shelf Go.Maps
open Go.Proofs.YtbkafoaoddajoaaGreatDoor.Ar (Nd nd nodeB nodeB_ways NRow cellsN aggN flatN Book WfN Wf NodeAt)
open Go.Proofs.YtbkafoaoddajoaaGreatDoor.Rg (R RngsAt RowsAt nthL add_zero own_next has_any inB)
section
variable {w0 w : World} {bb M wb Mw : Nat} {c : Int} {W : Wk}

/-- a book's set, in memory -/
theorem BkAt.setAt {B : Bk} {pv sv bv : Value} {xs : List Value} (h : BkAt w0 bb M B pv sv bv xs w) {i : Nat} (hi : i < B.sets.length) :
    ∃ gs cap x, sv = .slice (some ⟨gs, 0, none⟩) B.sets.length cap ∧ w.cell? ⟨gs, i, none⟩ = some x ∧ RngsAt w x (nthL B.sets i) := by
  obtain ⟨x, hx, hr⟩ := h.row i hi
  obtain ⟨gs, cap, rfl, _, _⟩ := h.sets.form (by omega)
  refine ⟨gs, cap, x, rfl, ?_, hr.next h.below⟩
  rw [h.sets.cellAt i (by omega), hx]
/-- a number more is left -/
theorem wk_left {X Z : World} {wv lv : Value} {q g cap : Nat} (h : WkAt w0 bb M wb Mw c W wv lv X) (hown : Z.ownsRow w0.heap.size 3 1 (.slice (some ⟨g, 0, none⟩) (W.left.length + 1) cap) (W.left.length + 1) ((castL W.left).map (Value.int .i64) ++ [.int .i64 (q : Nat)])) (hg : X.grownBy Z lv.ownBlock) :
    (Z.cell? ⟨wb, 4, none⟩ = some lv ∧ Z.frozen? ⟨wb, 4, none⟩ = false) ∧
    WAt w0 bb M wb Mw c { W with left := W.left ++ [q] } (Z.setCell ⟨wb, 4, none⟩ (.slice (some ⟨g, 0, none⟩) (W.left.length + 1) cap)) ∧
    Kw w0 bb M wb Mw X (Z.setCell ⟨wb, 4, none⟩ (.slice (some ⟨g, 0, none⟩) (W.left.length + 1) cap)) := by
  obtain ⟨pv, sv, bv, xs, hbk⟩ := h.book
  have kZ : Kg w0.heap.size (fun _ => False) (fun t => t = 3) X Z := Kg.of_grown hg fun g hv => by
    obtain ⟨h1, cs, hh⟩ := row_block h.left hv
    exact ⟨h1, .inr ⟨cs, _, _, hh, rfl⟩⟩
  have boxZ := kZ.heap h.box id (fun _ _ _ e => by cases e; decide)
  have kS : Kg w0.heap.size (fun k => k = wb) (fun _ => False) Z (Z.setCell ⟨wb, 4, none⟩ (.slice (some ⟨g, 0, none⟩) (W.left.length + 1) cap)) := Kg.of_set h.base rfl
  have bookZ : BkAt w0 bb M W.b pv sv bv xs Z := hbk.keep kZ rfl id id (fun t ht e => by subst e; rcases ht with (h | h | h) | h <;> exact absurd h (by decide)) (fun _ _ => id)
  have waitZ := kZ.own h.wait (by decide) (fun _ _ => id)
  have metZ := h.met.kg kZ id
  have hbox := heap_setCell_same Z wb 4 _ 97 (.slice (some ⟨g, 0, none⟩) (W.left.length + 1) cap) boxZ
  have hz : ∀ {e : TypeId} {s m : Nat} {v : Value} {ys : List Value}, Z.ownsRow w0.heap.size e s v m ys → e ≠ 97 → ∀ g, v.ownBlock = some g → ¬ g = wb := fun hr he g hv e => by
    obtain ⟨_, cs, hh⟩ := row_block hr hv
    rw [e, boxZ] at hh
    simp only [Option.some.injEq, Obj.cells.injEq] at hh
    exact he hh.2.1.symm
  refine ⟨⟨by simp [World.cell?, boxZ], frozen_of_row Z wb 4 _ _ boxZ⟩, ⟨wv, _, ⟨⟨pv, sv, bv, xs, bookZ.keep kS rfl (fun e => h.bne e.symm) (fun e => h.bneM e.symm) (fun _ _ => id) (fun g hg => ?_)⟩, h.base, h.baseM, h.ne, by simpa using hbox, kS.own waitZ id (hz waitZ (by decide)), ?_, metZ.kg kS (fun e => h.bneMw e.symm)⟩⟩, ?_⟩
  · rcases hg with hg | hg | hg
    · exact hz bookZ.parts (by decide) g hg
    · exact hz bookZ.sets (by decide) g hg
    · exact hz bookZ.bare (by decide) g hg
  · have := kS.own hown id (hz hown (by decide))
    simpa [castL] using this
  · exact (kZ.mono (fun _ _ h => h.elim) (fun _ h => .inr (.inr h))).trans (kS.mono (fun _ _ h => .inr (.inr (.inl h))) (fun _ h => h.elim))

set_option maxRecDepth 100000 in
set_option maxHeartbeats 8000000 in
theorem wset_any (h : WAt w0 bb M wb Mw c W w) {n : Nd} {q : Nat} (h0 : 0 ≤ n.set) (h1 : n.set < W.b.sets.length) (hl : W.left.length < 12288) :
    Calls Tryz.prog 70 #[.pointer (some ⟨wb, 0, none⟩), aggN n, .int .i64 (q : Nat)] w (WOut w0 bb M wb Mw c (pastSet c W n q) (Kw w0 bb M wb Mw) w) := by
  obtain ⟨i0, hi, hz0, hz1, hz2⟩ := info_parts infoI
  obtain ⟨op, a, b, lo, hi', set⟩ := n
  dsimp only at h0 h1
  obtain ⟨i, rfl⟩ := Int.eq_ofNat_of_zero_le h0
  have hil : i < W.b.sets.length := by omega
  obtain ⟨wv, lv, h⟩ := h
  have HB := Lib.hid h
  have hlt := h.lt
  have hw0 := h.since.size
  have BW := Lib.hid (fun o => (Below.refl w.heap.size w).alloc (Nat.le_refl _) o)
  have c0 := h.cell0
  have c1 := h.cell1
  obtain ⟨pv, sv, bv, xs, hb⟩ := h.book
  have hbb := hb.lt
  have b1 := hb.cell1
  obtain ⟨gs, cap, x, rfl, hx, hr⟩ := hb.setAt hil
  have hgs := cell_lt hx
  have CH := Lib.hid (fun X (hX : Below w.heap.size w X) => has_any (nthL W.b.sets i) c x X (hr.next hX))
  have hp : pastSet c W ⟨op, a, b, lo, hi', (i : Int)⟩ q = if inB (nthL W.b.sets i) c = true then { W with left := W.left ++ [q] } else W := by unfold pastSet; rw [Int.toNat_natCast]; rfl
  rw [hp]
  clear hp h hb hr
  generalize inB (nthL W.b.sets i) c = y at *
  generalize hns : W.b.sets.length = ns at *
  unfold aggN
  dsimp only
  cases y
  · rw [if_neg (by simp)]
    go_enter Tryz.func70, Tryz.ntmps70
    go_wp2
    go_region_held3 (fun X => X.cell? ⟨wb, 0, none⟩ = some (.pointer (some ⟨bb, 0, none⟩)) ∧ X.cell? ⟨wb, 1, none⟩ = some (.int .i64 c) ∧ X.cell? ⟨bb, 1, none⟩ = some (.slice (some ⟨gs, 0, none⟩) ns cap) ∧ X.cell? ⟨gs, i, none⟩ = some x ∧ X.cell? ⟨w.heap.size, 5, none⟩ = some (.int .i64 (i : Nat))) (first | exact ⟨by assumption, by assumption, by assumption, by assumption, by assumption⟩ | go_keep)
      (first
        | (go_at_call 79; ((with_reducible refine (CH.out _ ((BW.out _).trans (below_drew _))).mono ?_); rintro e w2 ⟨rfl, h2⟩); go_must (have hb2 := ((BW.out (.cells #[.int .i64 op, .int .i64 a, .int .i64 b, .int .i64 lo, .int .i64 hi', .int .i64 (i : Nat)] 35)).trans (below_drew _)).trans (h2.mono (by simp)); have p0 := cell_next c0 hb2; have p1 := cell_next c1 hb2; have p2 := cell_next b1 hb2; have p3 := cell_next hx hb2; have p4 := cell_next (a := ⟨w.heap.size, 5, none⟩) (v := .int .i64 (i : Nat)) (by simp) h2; have B2 := Lib.hid hb2; clear h2 hb2))
        | fail)
    go_wp2
    go_end0
    exact ⟨rfl, ⟨wv, lv, HB.out.next B2.out⟩, Kg.of_below B2.out⟩
  · rw [if_pos rfl]
    go_enter Tryz.func70, Tryz.ntmps70
    go_wp2
    go_region_held3 (fun X => X.cell? ⟨wb, 0, none⟩ = some (.pointer (some ⟨bb, 0, none⟩)) ∧ X.cell? ⟨wb, 1, none⟩ = some (.int .i64 c) ∧ X.cell? ⟨bb, 1, none⟩ = some (.slice (some ⟨gs, 0, none⟩) ns cap) ∧ X.cell? ⟨gs, i, none⟩ = some x ∧ X.cell? ⟨w.heap.size, 5, none⟩ = some (.int .i64 (i : Nat))) (first | exact ⟨by assumption, by assumption, by assumption, by assumption, by assumption⟩ | go_keep)
      (first
        | (go_at_call 79; ((with_reducible refine (CH.out _ ((BW.out _).trans (below_drew _))).mono ?_); rintro e w2 ⟨rfl, h2⟩); go_must (have hb2 := ((BW.out (.cells #[.int .i64 op, .int .i64 a, .int .i64 b, .int .i64 lo, .int .i64 hi', .int .i64 (i : Nat)] 35)).trans (below_drew _)).trans (h2.mono (by simp)); have p0 := cell_next c0 hb2; have p1 := cell_next c1 hb2; have p2 := cell_next b1 hb2; have p3 := cell_next hx hb2; have p4 := cell_next (a := ⟨w.heap.size, 5, none⟩) (v := .int .i64 (i : Nat)) (by simp) h2; have c4' := (HB.out.next hb2).cell4; have B2 := Lib.hid hb2; have hw2 := hb2.size; clear h2 hb2))
        | fail)
    have hbn : ∀ o, Below w2.heap.size w2 (w2.alloc o) := fun o => (Below.refl w2.heap.size w2).alloc (Nat.le_refl _) o
    have HBN := Lib.hid hbn
    have pA : ∀ (cs : Array Value) (t : TypeId), (w2.alloc (.cells cs t)).cell? ⟨wb, 4, none⟩ = some lv := fun cs t => cell_next c4' ((Below.refl _ _).alloc (Nat.le_refl _) _)
    have hwb2 := cell_lt c4'
    clear hbn
    go_wp2_with (at_builtin; refine wpList_append_lies _ rfl (.tmp 26) (.tmp 28) 36 rfl w0.heap.size 3 i0 (.int .i64 0) 1 8 Tryz.underlying36 hi hz0 hz1 hz2 rfl (by decide) lv W.left.length ((castL W.left).map (Value.int .i64)) rfl (own_next (HB.out.next B2.out).left (HBN.out _)) ⟨w2.heap.size, 0, none⟩ 1 1 [.int .i64 (q : Nat)] rfl rfl (World.news_of_block (World.alloc_heap_new w2 _)) (by simp [Value.oneCell']) (by decide) (by unfold maxLen; omega) (by omega) (by simp; omega) _ rfl ?_; intro g cap2 w5 hown5 hg5 hat5 _; go_must (obtain ⟨⟨y1, y2⟩, y3, y4⟩ := wk_left (q := q) ((HB.out.next B2.out).next (HBN.out _)) hown5 hg5; have Y3 := Lib.hid y3; have Y4 := Lib.hid ((Kg.of_below (B2.out.trans ((HBN.out _).mono hw2))).trans y4); clear y3 y4 hown5 hg5 hat5))
    go_end0
    exact ⟨rfl, Y3.out, Y4.out⟩
end

end Go.Proofs.YtbkafoaoddajoaaGreatDoor.Dv

namespace Go.Proofs.YtbkafoaoddajoaaGreatDoor.Dv
open Go Go.RowKit Go.Shelf Go.Maps
open Go.Proofs.YtbkafoaoddajoaaGreatDoor.Ar (timesB Nd nd nodeB nodeB_ways NRow cellsN aggN flatN Book WfN Wf NodeAt node_new)
open Go.Proofs.YtbkafoaoddajoaaGreatDoor.Rg (R RngsAt RowsAt nthL add_zero own_next has_any inB)
section
variable {w0 w : World} {bb M wb Mw : Nat} {c : Int} {W : Wk}

theorem WAt.c0 (h : WAt w0 bb M wb Mw c W w) : w.cell? ⟨wb, 0, none⟩ = some (.pointer (some ⟨bb, 0, none⟩)) := by
  obtain ⟨wv, lv, h⟩ := h
  exact h.cell0
theorem WAt.book (h : WAt w0 bb M wb Mw c W w) : BookAt w0 bb M W.b w := by
  obtain ⟨wv, lv, h⟩ := h
  exact h.book
theorem WAt.kb {w' : World} (h : WAt w0 bb M wb Mw c W w) {B : Bk} (hb : BookAt w0 bb M B w') (k : Fz bb M w w') : WAt w0 bb M wb Mw c { W with b := B } w' := by
  have hk := k.kb h.book
  obtain ⟨wv, lv, h⟩ := h
  exact ⟨wv, lv, h.kb hb hk⟩
theorem WAt.lt (h : WAt w0 bb M wb Mw c W w) : wb < w.heap.size := by
  obtain ⟨wv, lv, h⟩ := h
  exact h.lt
/-- a node's box -/
def NBox (X : World) (N : Nat) (n : Nd) : Prop := X.heap[N]? = some (.cells #[.int .i64 n.op, .int .i64 n.a, .int .i64 n.b, .int .i64 n.lo, .int .i64 n.hi, .int .i64 n.set] 35 (0, 0))
theorem NBox.at' {X : World} {N : Nat} {n : Nd} (h : NBox X N n) : NodeAt X ⟨N, 0, none⟩ n := by
  constructor <;> (rw [Lib.cell_of_heap h]; rfl)
theorem NBox.km {X Y : World} {N : Nat} {n : Nd} (h : NBox X N n) (k : Km w0 bb wb Mw X Y) (h1 : N ≠ bb) (h2 : N ≠ wb) (h3 : N ≠ Mw) : NBox Y N n :=
  k.heap h (fun e => e.elim h1 (fun e => e.elim h2 h3)) (fun _ _ _ e => by cases e; decide)
theorem NBox.below {X Y : World} {N : Nat} {n : Nd} (h : NBox X N n) (hb : Below X.heap.size X Y) : NBox Y N n := (hb.block N (Array.getElem?_eq_some_iff.1 h).1).trans h
theorem NBox.fz {X Y : World} {N : Nat} {n : Nd} (h : NBox X N n) (k : Fz bb M X Y) (h1 : N ≠ bb) (h2 : N ≠ M) (h3 : ¬ rowsOf X bb N) : NBox Y N n := (k.block N (Array.getElem?_eq_some_iff.1 h).1 h1 h2 h3).trans h
/-- a block that is younger than a book's world is none of its rows -/
theorem young {B : Bk} {X : World} {N : Nat} (h : BookAt w0 bb M B w) (hX : rowsOf X bb N → rowsOf w bb N) (hN : w.heap.size ≤ N) : ¬ rowsOf X bb N := fun hr => by
  obtain ⟨pv, sv, bv, xs, h⟩ := h
  obtain ⟨_, cs, t, fz, h2, _⟩ := h.rowTb (hX hr)
  have := (Array.getElem?_eq_some_iff.1 h2).1
  omega
theorem nbox_new (w : World) (n : Nd) : NBox (w.alloc (.cells #[.int .i64 n.op, .int .i64 n.a, .int .i64 n.b, .int .i64 n.lo, .int .i64 n.hi, .int .i64 n.set] 35)) w.heap.size n := World.alloc_heap_new w _
theorem WAt.ltAll (h : WAt w0 bb M wb Mw c W w) : bb < w.heap.size ∧ M < w.heap.size ∧ wb < w.heap.size ∧ Mw < w.heap.size := by
  obtain ⟨wv, lv, h⟩ := h
  obtain ⟨pv, sv, bv, xs, hb⟩ := h.book
  exact ⟨hb.lt, hb.ltM, h.lt, h.met.lt⟩

set_option maxRecDepth 100000 in
set_option maxHeartbeats 8000000 in
theorem walt_any (h : WAt w0 bb M wb Mw c W w) (ok : WkOk W) (hl : W.wait.length ≤ W.met.length) {n : Nd} {q : Nat} (ha : 0 ≤ n.a) (hb : 0 ≤ n.b) (hx : n.a.toNat < W.b.parts.length) (hy : n.b.toNat < W.b.parts.length) (hq : q < W.b.parts.length) :
    Calls Tryz.prog 72 #[.pointer (some ⟨wb, 0, none⟩), aggN n, .int .i64 (q : Nat)] w (WOut w0 bb M wb Mw c (pastAlt W n q) (Kw w0 bb M wb Mw) w) := by
  obtain ⟨op, a, b, lo, hi, set⟩ := n
  dsimp only at ha hb hx hy
  obtain ⟨x, rfl⟩ := Int.eq_ofNat_of_zero_le ha
  obtain ⟨y, rfl⟩ := Int.eq_ofNat_of_zero_le hb
  rw [Int.toNat_natCast] at hx hy
  obtain ⟨l1, l2, l3, l4⟩ := h.ltAll
  have hp : pastAlt W ⟨op, x, y, lo, hi, set⟩ q = meet (meet W x q) y q := by unfold pastAlt; rw [Int.toNat_natCast, Int.toNat_natCast]
  rw [hp]
  obtain ⟨o1, o2, o3, o4, o5, o6⟩ := meet_out c ok (p := x) (q := q) hx hq
  have hl1 := meet_len hl x q
  have BW := Lib.hid (fun o => (Below.refl w.heap.size w).alloc (Nat.le_refl _) o)
  have C1 := Lib.hid (meet_any (h.next (BW.out (.cells #[.int .i64 op, .int .i64 (x : Nat), .int .i64 (y : Nat), .int .i64 lo, .int .i64 hi, .int .i64 set] 35))) ok hl hx hq)
  have C2 := Lib.hid (fun X (hX : WAt w0 bb M wb Mw c (meet W x q) X) => meet_any hX o1.ok hl1 (p := y) (q := q) (by rw [o3]; exact hy) (by rw [o3]; exact hq))
  have NB := Lib.hid (nbox_new w ⟨op, (x : Nat), (y : Nat), lo, hi, set⟩)
  unfold aggN
  dsimp only
  generalize hV : meet W x q = V at *
  generalize hU : meet V y q = U at *
  clear hp o1 o2 o3 o4 o5 o6 hl1 ok hl hV hU h
  unfold WOut at C1 C2
  go_enter Tryz.func72, Tryz.ntmps72
  go_wp2_with (first
    | (go_at_call 55; (with_reducible refine C1.out.mono ?_); rintro e w1 ⟨rfl, h1, k1⟩; go_must (have nb := (NB.out.km k1 (by omega) (by omega) (by omega)).at'; have m2 := nb.c2; have m1 := nb.c1; have H1 := Lib.hid h1; have K1 := Lib.hid k1; clear nb h1 k1 C1))
    | (go_at_call 55; (with_reducible refine (C2.out _ H1.out).mono ?_); rintro e w2 ⟨rfl, h2, k2⟩; go_must (have H2 := Lib.hid h2; have K2 := Lib.hid k2; clear h2 k2))
    | fail)
  go_end0
  exact ⟨rfl, H2.out, ((Kg.of_below (BW.out _)).trans K1.out.kw).trans K2.out.kw⟩

set_option maxRecDepth 100000 in
set_option maxHeartbeats 8000000 in
theorem wcat_any (h : WAt w0 bb M wb Mw c W w) (ok : WkOk W) (hl : W.wait.length ≤ W.met.length) {n : Nd} {q : Nat} (ha : 0 ≤ n.a) (hb : 0 ≤ n.b) (hx : n.a.toNat < W.b.parts.length) (hy : n.b.toNat < W.b.parts.length) (hq : q < W.b.parts.length) :
    Calls Tryz.prog 71 #[.pointer (some ⟨wb, 0, none⟩), aggN n, .int .i64 (q : Nat)] w (WOut w0 bb M wb Mw c (pastCat W n q) (Kw w0 bb M wb Mw) w) := by
  obtain ⟨op, a, b, lo, hi, set⟩ := n
  dsimp only at ha hb hx hy
  obtain ⟨x, rfl⟩ := Int.eq_ofNat_of_zero_le ha
  obtain ⟨y, rfl⟩ := Int.eq_ofNat_of_zero_le hb
  rw [Int.toNat_natCast] at hx hy
  obtain ⟨l1, l2, l3, l4⟩ := h.ltAll
  have k := catF_out ok.good hy hq
  have a0 := Adv.book (c := c) ok k.good k.ext
  have hle := k.ext.le
  obtain ⟨o1, o2, o3, o4, o5, o6⟩ := meet_out c a0.ok (p := x) (q := (catF W.b y q).2) (by show _ < (catF W.b y q).1.parts.length; omega) k.lt
  have hl1 := meet_len (W := { W with b := (catF W.b y q).1 }) hl x (catF W.b y q).2
  have hp : pastCat W ⟨op, x, y, lo, hi, set⟩ q = if bareAt (meet { W with b := (catF W.b y q).1 } x (catF W.b y q).2).b x = true then meet (meet { W with b := (catF W.b y q).1 } x (catF W.b y q).2) y q else meet { W with b := (catF W.b y q).1 } x (catF W.b y q).2 := by
    unfold pastCat; rw [Int.toNat_natCast, Int.toNat_natCast]
  rw [hp]
  have BW := Lib.hid (fun o => (Below.refl w.heap.size w).alloc (Nat.le_refl _) o)
  have BD := Lib.hid ((BW.out (.cells #[.int .i64 op, .int .i64 (x : Nat), .int .i64 (y : Nat), .int .i64 lo, .int .i64 hi, .int .i64 set] 35)).trans (below_drew _))
  have NB := Lib.hid ((nbox_new w ⟨op, (x : Nat), (y : Nat), lo, hi, set⟩).below (below_drew _))
  have HD := Lib.hid (h.next BD.out)
  have C1 := Lib.hid (cat_any HD.out.book ok.good hy hq)
  have hyo := young (N := w.heap.size) h.book (fun hr => (rowsOf_same (BD.out.block bb l1) _).1 hr) (Nat.le_refl _)
  have HYO := Lib.hid hyo
  have C2 := Lib.hid (fun X (hX : WAt w0 bb M wb Mw c { W with b := (catF W.b y q).1 } X) => meet_any hX a0.ok hl (p := x) (q := (catF W.b y q).2) (by show _ < (catF W.b y q).1.parts.length; omega) k.lt)
  have o3' : (meet { W with b := (catF W.b y q).1 } x (catF W.b y q).2).b.parts.length = (catF W.b y q).1.parts.length := by rw [o3]
  have C3 := Lib.hid (fun X (hX : WAt w0 bb M wb Mw c (meet { W with b := (catF W.b y q).1 } x (catF W.b y q).2) X) => meet_any hX o1.ok hl1 (p := y) (q := q) (by rw [o3']; omega) (by rw [o3']; omega))
  have gV := o1.ok.good
  have hxV : x < (meet { W with b := (catF W.b y q).1 } x (catF W.b y q).2).b.parts.length := by rw [o3']; omega
  unfold aggN
  dsimp only
  have c0 := HD.out.c0
  generalize hV : meet { W with b := (catF W.b y q).1 } x (catF W.b y q).2 = V at *
  generalize hU : meet V y q = U at *
  unfold OpAt at C1
  generalize hR : catF W.b y q = R at *
  have c0w := h.c0
  clear hp o1 o2 o3 o3' o4 o5 o6 hl1 ok hl hU hR hV h k a0 hle hyo
  unfold WOut at C2 C3 ⊢
  obtain ⟨bx, hbx⟩ : ∃ bx, bx = bareAt V.b x := ⟨_, rfl⟩
  rw [← hbx]
  have HBX := Lib.hid hbx
  clear hbx
  cases bx
  · rw [if_neg (by simp)]
    go_enter Tryz.func71, Tryz.ntmps71
    go_wp2
    go_region_held3 (fun X => X.cell? ⟨wb, 0, none⟩ = some (.pointer (some ⟨bb, 0, none⟩)) ∧ X.cell? ⟨w.heap.size, 1, none⟩ = some (.int .i64 (x : Nat)) ∧ X.cell? ⟨w.heap.size, 2, none⟩ = some (.int .i64 (y : Nat))) (first | exact ⟨by assumption, by assumption, by assumption⟩ | go_keep)
      (first
        | (go_at_call 80; ((with_reducible refine C1.out.mono ?_); rintro e w1 ⟨rfl, h1, k1⟩); go_must (have nb := NB.out.fz k1 (by omega) (by omega) HYO.out; have m1 := nb.at'.c1; have m2 := nb.at'.c2; have H1 := Lib.hid (HD.out.kb h1 k1); have p0 := H1.out.c0; have NB1 := Lib.hid nb; have K1 := Lib.hid (k1.kb HD.out.book); clear nb h1 k1 C1))
        | (go_at_call 55; ((with_reducible refine (C2.out _ H1.out).mono ?_); rintro e w2 ⟨rfl, h2, k2⟩); go_must (have nb := NB1.out.km k2 (by omega) (by omega) (by omega); have r1 := nb.at'.c1; have r2 := nb.at'.c2; have H2 := Lib.hid h2; have r0 := h2.c0; have K2 := Lib.hid (((Kg.of_below BD.out).trans K1.out.kw).trans k2.kw); clear nb h2 k2 C2 m1 m2 p0))
        | fail)
    clear c0w c0
    obtain ⟨wv, lv, hW2⟩ := H2.out
    obtain ⟨pv, sv, bv, xs, hb2⟩ := hW2.book
    have b2 := hb2.cell2
    obtain ⟨gb, cap, rfl, hlb, hcx⟩ := hb2.bareAt gV hxV
    rw [← HBX.out] at hcx
    have HDQ := Lib.hid (fun nq => H2.out.next (Rg.below_drewN w2 nq))
    have BDQ := Lib.hid (fun nq => Rg.below_drewN w2 nq)
    clear hW2 hb2
    have hxi : (x : Int) < (V.b.parts.length : Int) := by omega
    go_wp2
    go_quiet (fail)
    go_wp2
    go_end0
    exact ⟨rfl, HDQ.out _, K2.out.trans (Kg.of_below (BDQ.out _))⟩
  · rw [if_pos rfl]
    go_enter Tryz.func71, Tryz.ntmps71
    go_wp2
    go_region_held3 (fun X => X.cell? ⟨wb, 0, none⟩ = some (.pointer (some ⟨bb, 0, none⟩)) ∧ X.cell? ⟨w.heap.size, 1, none⟩ = some (.int .i64 (x : Nat)) ∧ X.cell? ⟨w.heap.size, 2, none⟩ = some (.int .i64 (y : Nat))) (first | exact ⟨by assumption, by assumption, by assumption⟩ | go_keep)
      (first
        | (go_at_call 80; ((with_reducible refine C1.out.mono ?_); rintro e w1 ⟨rfl, h1, k1⟩); go_must (have nb := NB.out.fz k1 (by omega) (by omega) HYO.out; have m1 := nb.at'.c1; have m2 := nb.at'.c2; have H1 := Lib.hid (HD.out.kb h1 k1); have p0 := H1.out.c0; have NB1 := Lib.hid nb; have K1 := Lib.hid (k1.kb HD.out.book); clear nb h1 k1 C1))
        | (go_at_call 55; ((with_reducible refine (C2.out _ H1.out).mono ?_); rintro e w2 ⟨rfl, h2, k2⟩); go_must (have nb := NB1.out.km k2 (by omega) (by omega) (by omega); have r1 := nb.at'.c1; have r2 := nb.at'.c2; have H2 := Lib.hid h2; have r0 := h2.c0; have K2 := Lib.hid (((Kg.of_below BD.out).trans K1.out.kw).trans k2.kw); clear nb h2 k2 C2 m1 m2 p0))
        | fail)
    clear c0w c0
    obtain ⟨wv, lv, hW2⟩ := H2.out
    obtain ⟨pv, sv, bv, xs, hb2⟩ := hW2.book
    have b2 := hb2.cell2
    obtain ⟨gb, cap, rfl, hlb, hcx⟩ := hb2.bareAt gV hxV
    rw [← HBX.out] at hcx
    have HDQ := Lib.hid (fun nq => H2.out.next (Rg.below_drewN w2 nq))
    have BDQ := Lib.hid (fun nq => Rg.below_drewN w2 nq)
    clear hW2 hb2
    have hxi : (x : Int) < (V.b.parts.length : Int) := by omega
    go_wp2
    go_quiet (fail)
    go_wp2_with (go_at_call 55; (with_reducible refine (C3.out _ (HDQ.out _)).mono ?_); rintro e w4 ⟨rfl, h4, k4⟩; go_must (have H4 := Lib.hid h4; have K4 := Lib.hid k4; clear h4 k4))
    go_end0
    exact ⟨rfl, H4.out, (K2.out.trans (Kg.of_below (BDQ.out _))).trans K4.out.kw⟩

set_option maxRecDepth 100000 in
set_option maxHeartbeats 8000000 in
theorem wrep_any (h : WAt w0 bb M wb Mw c W w) (ok : WkOk W) (hl : W.wait.length ≤ W.met.length) {n : Nd} {q : Nat} (ha : 0 ≤ n.a) (hx : n.a.toNat < W.b.parts.length) (ht : timesB n.lo n.hi = true) (h0 : n.hi ≠ 0) (hq : q < W.b.parts.length) :
    Calls Tryz.prog 73 #[.pointer (some ⟨wb, 0, none⟩), aggN n, .int .i64 (q : Nat)] w (WOut w0 bb M wb Mw c (pastRep W n q) (Kw w0 bb M wb Mw) w) := by
  obtain ⟨op, a, b, lo, hi, set⟩ := n
  dsimp only at ha hx ht h0
  obtain ⟨x, rfl⟩ := Int.eq_ofNat_of_zero_le ha
  rw [Int.toNat_natCast] at hx
  obtain ⟨l1, l2, l3, l4⟩ := h.ltAll
  have y := fewerF_out ok.good (n := ⟨op, (x : Nat), b, lo, hi, set⟩) (by dsimp only; rw [Int.toNat_natCast]; exact hx) ht h0
  have k := catF_out y.good y.lt (y := q) (by have := y.ext.le; omega)
  have e0 := y.ext.trans k.ext
  have a0 := Adv.book (c := c) ok k.good e0
  have hle := e0.le
  have hp : pastRep W ⟨op, (x : Nat), b, lo, hi, set⟩ q = meet { W with b := (catF (fewerF W.b ⟨op, (x : Nat), b, lo, hi, set⟩).1 (fewerF W.b ⟨op, (x : Nat), b, lo, hi, set⟩).2 q).1 } x (catF (fewerF W.b ⟨op, (x : Nat), b, lo, hi, set⟩).1 (fewerF W.b ⟨op, (x : Nat), b, lo, hi, set⟩).2 q).2 := by
    unfold pastRep; rw [Int.toNat_natCast]
  rw [hp]
  have BW := Lib.hid (fun o => (Below.refl w.heap.size w).alloc (Nat.le_refl _) o)
  have BD := Lib.hid ((BW.out (.cells #[.int .i64 op, .int .i64 (x : Nat), .int .i64 b, .int .i64 lo, .int .i64 hi, .int .i64 set] 35)).trans (below_drew _))
  have NB := Lib.hid ((nbox_new w ⟨op, (x : Nat), b, lo, hi, set⟩).below (below_drew _))
  have HD := Lib.hid (h.next BD.out)
  have C0 := Lib.hid (fewer_any HD.out.book ok.good (n := ⟨op, (x : Nat), b, lo, hi, set⟩) ha (by dsimp only; rw [Int.toNat_natCast]; exact hx) ht h0)
  have C1 := Lib.hid (fun X (hX : BookAt w0 bb M (fewerF W.b ⟨op, (x : Nat), b, lo, hi, set⟩).1 X) => cat_any hX y.good y.lt (y := q) (by have := y.ext.le; omega))
  have hyo := young (N := w.heap.size) h.book (fun hr => (rowsOf_same (BD.out.block bb l1) _).1 hr) (Nat.le_refl _)
  have HYO := Lib.hid hyo
  have C2 := Lib.hid (fun X (hX : WAt w0 bb M wb Mw c { W with b := (catF (fewerF W.b ⟨op, (x : Nat), b, lo, hi, set⟩).1 (fewerF W.b ⟨op, (x : Nat), b, lo, hi, set⟩).2 q).1 } X) => meet_any hX a0.ok hl (p := x) (q := (catF (fewerF W.b ⟨op, (x : Nat), b, lo, hi, set⟩).1 (fewerF W.b ⟨op, (x : Nat), b, lo, hi, set⟩).2 q).2) (by show _ < (catF (fewerF W.b ⟨op, (x : Nat), b, lo, hi, set⟩).1 (fewerF W.b ⟨op, (x : Nat), b, lo, hi, set⟩).2 q).1.parts.length; omega) k.lt)
  have hNw : w.heap.size < ((w.alloc (.cells #[.int .i64 op, .int .i64 (x : Nat), .int .i64 b, .int .i64 lo, .int .i64 hi, .int .i64 set] 35)).drew).heap.size := by simp
  unfold aggN at C0 ⊢
  dsimp only at C0 ⊢
  have c0 := HD.out.c0
  generalize hR : catF (fewerF W.b ⟨op, (x : Nat), b, lo, hi, set⟩).1 (fewerF W.b ⟨op, (x : Nat), b, lo, hi, set⟩).2 q = R at *
  generalize hF : fewerF W.b ⟨op, (x : Nat), b, lo, hi, set⟩ = F at *
  unfold OpAt at C0 C1
  have c0w := h.c0
  clear hp ok hl hR hF h k a0 hle hyo y e0
  generalize hV : meet { W with b := R.1 } x R.2 = V at *
  clear hV
  unfold WOut at C2 ⊢
  go_enter Tryz.func73, Tryz.ntmps73
  go_wp2
  go_region_held3 (fun X => X.cell? ⟨wb, 0, none⟩ = some (.pointer (some ⟨bb, 0, none⟩)) ∧ X.cell? ⟨w.heap.size, 0, none⟩ = some (.int .i64 op) ∧ X.cell? ⟨w.heap.size, 1, none⟩ = some (.int .i64 (x : Nat)) ∧ X.cell? ⟨w.heap.size, 2, none⟩ = some (.int .i64 b) ∧ X.cell? ⟨w.heap.size, 3, none⟩ = some (.int .i64 lo) ∧ X.cell? ⟨w.heap.size, 4, none⟩ = some (.int .i64 hi) ∧ X.cell? ⟨w.heap.size, 5, none⟩ = some (.int .i64 set)) (first | exact ⟨by assumption, by assumption, by assumption, by assumption, by assumption, by assumption, by assumption⟩ | go_keep)
    (first
      | (go_at_call 81; ((with_reducible refine C0.out.mono ?_); rintro e w1 ⟨rfl, h1, k1⟩); go_must (have nb := NB.out.fz k1 (by omega) (by omega) HYO.out; have m0 := nb.at'.c0; have m1 := nb.at'.c1; have m2 := nb.at'.c2; have m3 := nb.at'.c3; have m4 := nb.at'.c4; have m5 := nb.at'.c5; have H1 := Lib.hid (HD.out.kb h1 k1); have p0 := H1.out.c0; have NB1 := Lib.hid nb; have HB1 := Lib.hid h1; have Y1 := Lib.hid (show ¬ rowsOf w1 bb w.heap.size from fun hr => (k1.rows _ hr).elim HYO.out (fun hge => by omega)); have K1 := Lib.hid k1; clear nb h1 k1 C0))
      | (go_at_call 80; ((with_reducible refine (C1.out _ HB1.out).mono ?_); rintro e w2 ⟨rfl, h2, k2⟩); go_must (have nb := NB1.out.fz k2 (by omega) (by omega) Y1.out; have r0 := nb.at'.c0; have r1 := nb.at'.c1; have r2 := nb.at'.c2; have r3 := nb.at'.c3; have r4 := nb.at'.c4; have r5 := nb.at'.c5; have H2 := Lib.hid (HD.out.kb h2 (K1.out.trans k2)); have q0 := H2.out.c0; have NB2 := Lib.hid nb; have K2 := Lib.hid ((K1.out.trans k2).kb HD.out.book); clear nb h2 k2 C1 m0 m1 m2 m3 m4 m5 p0))
      | (go_at_call 55; ((with_reducible refine (C2.out _ H2.out).mono ?_); rintro e w3 ⟨rfl, h3, k3⟩); go_must (have nb := NB2.out.km k3 (by omega) (by omega) (by omega); have t0 := nb.at'.c0; have t1 := nb.at'.c1; have t2 := nb.at'.c2; have t3 := nb.at'.c3; have t4 := nb.at'.c4; have t5 := nb.at'.c5; have H3 := Lib.hid h3; have s0 := h3.c0; have K3 := Lib.hid (((Kg.of_below BD.out).trans K2.out.kw).trans k3.kw); clear nb h3 k3 C2 r0 r1 r2 r3 r4 r5 q0))
      | fail)
  go_wp2
  go_end0
  exact ⟨rfl, H3.out, K3.out⟩
end

end Go.Proofs.YtbkafoaoddajoaaGreatDoor.Dv

namespace Go.Proofs
open Go.Shelf
def Tryz.lays128_ren : Go.Shelf.Ren := ⟨fun | 128 => 91 | n => n, fun | 51 => 134 | 3 => 3 | 4 => 4 | 46 => 121 | 5 => 5 | 9 => 9 | n => n, fun | n => n⟩
theorem Tryz.lays128 : Go.Proofs.Lays.n128 Tryz.prog Tryz.lays128_ren := {
  mixed := by kernel_rfl
  f128 := Tryz.func91.trans (congrArg some (by kernel_rfl))
  t3 := Tryz.underlying3
  a3 := Tryz.isAgg3
  z3 := Tryz.sizeOf3
  v3 := Tryz.zeroValue3
  t4 := Tryz.underlying4
  a4 := Tryz.isAgg4
  z4 := Tryz.sizeOf4
  v4 := Tryz.zeroValue4
  t5 := Tryz.underlying5
  a5 := Tryz.isAgg5
  z5 := Tryz.sizeOf5
  v5 := Tryz.zeroValue5
  t9 := Tryz.underlying9
  a9 := Tryz.isAgg9
  z9 := Tryz.sizeOf9
  v9 := Tryz.zeroValue9
  t46 := Tryz.underlying121
  a46 := Tryz.isAgg121
  z46 := Tryz.sizeOf121
  v46 := Tryz.zeroValue121
  t51 := Tryz.underlying134
  a51 := Tryz.isAgg134
  z51 := Tryz.sizeOf134
  v51 := Tryz.zeroValue134 }
theorem Tryz.bits_Len32 (x : Int) (w : World) (h0 : 0 ≤ x) (h1 : x ≤ 4294967295) :
    Calls Tryz.prog 91 #[.int .u32 x] w fun e w' => e = .returned (.int .i64 (Lib.bitLen x.toNat)) ∧ w' = w := Any.bits_Len32 Tryz.lays128 x w h0 h1
def Tryz.lays125_ren : Go.Shelf.Ren := ⟨fun | 125 => 75 | 128 => 91 | 129 => 92 | n => n, fun | 46 => 121 | 3 => 3 | 51 => 134 | 53 => 136 | 4 => 4 | 5 => 5 | 9 => 9 | n => n, fun | n => n⟩
theorem Tryz.lays125 : Go.Proofs.Lays.n125 Tryz.prog Tryz.lays125_ren := {
  mixed := by kernel_rfl
  f125 := Tryz.func75.trans (congrArg some (by kernel_rfl))
  f128 := Tryz.func91.trans (congrArg some (by kernel_rfl))
  f129 := Tryz.func92.trans (congrArg some (by kernel_rfl))
  t3 := Tryz.underlying3
  a3 := Tryz.isAgg3
  z3 := Tryz.sizeOf3
  v3 := Tryz.zeroValue3
  t4 := Tryz.underlying4
  a4 := Tryz.isAgg4
  z4 := Tryz.sizeOf4
  v4 := Tryz.zeroValue4
  t5 := Tryz.underlying5
  a5 := Tryz.isAgg5
  z5 := Tryz.sizeOf5
  v5 := Tryz.zeroValue5
  t9 := Tryz.underlying9
  a9 := Tryz.isAgg9
  z9 := Tryz.sizeOf9
  v9 := Tryz.zeroValue9
  t46 := Tryz.underlying121
  a46 := Tryz.isAgg121
  z46 := Tryz.sizeOf121
  v46 := Tryz.zeroValue121
  t51 := Tryz.underlying134
  a51 := Tryz.isAgg134
  z51 := Tryz.sizeOf134
  v51 := Tryz.zeroValue134
  t53 := Tryz.underlying136
  a53 := Tryz.isAgg136
  z53 := Tryz.sizeOf136
  v53 := Tryz.zeroValue136 }
theorem Tryz.bits_Len (x : Int) (w : World) (h0 : 0 ≤ x) (h1 : x ≤ 18446744073709551615) :
    Calls Tryz.prog 75 #[.int .u64 x] w fun e w' => e = .returned (.int .i64 (Lib.bitLen x.toNat)) ∧ w' = w := Any.bits_Len Tryz.lays125 x w h0 h1
def Tryz.lays215_ren : Go.Shelf.Ren := ⟨fun | 215 => 105 | n => n, fun | 3 => 3 | 4 => 4 | n => n, fun | n => n⟩
theorem Tryz.lays215 : Go.Proofs.Lays.n215 Tryz.prog Tryz.lays215_ren := {
  mixed := by kernel_rfl
  f215 := Tryz.func105.trans (congrArg some (by kernel_rfl))
  t3 := Tryz.underlying3
  a3 := Tryz.isAgg3
  z3 := Tryz.sizeOf3
  v3 := Tryz.zeroValue3
  t4 := Tryz.underlying4
  a4 := Tryz.isAgg4
  z4 := Tryz.sizeOf4
  v4 := Tryz.zeroValue4 }
open Go.RowKit in
theorem Tryz.cmp_isNaN_int (x : Int) (w : World) :
    Calls Tryz.prog 105 #[.int .i64 x] w fun e w' => e = .returned (.bool false) ∧ w' = w := Any.cmp_isNaN_int Tryz.lays215 x w
def Tryz.lays129_ren : Go.Shelf.Ren := ⟨fun | 129 => 92 | n => n, fun | 53 => 136 | 3 => 3 | 4 => 4 | 46 => 121 | 5 => 5 | 9 => 9 | n => n, fun | n => n⟩
theorem Tryz.lays129 : Go.Proofs.Lays.n129 Tryz.prog Tryz.lays129_ren := {
  mixed := by kernel_rfl
  f129 := Tryz.func92.trans (congrArg some (by kernel_rfl))
  t3 := Tryz.underlying3
  a3 := Tryz.isAgg3
  z3 := Tryz.sizeOf3
  v3 := Tryz.zeroValue3
  t4 := Tryz.underlying4
  a4 := Tryz.isAgg4
  z4 := Tryz.sizeOf4
  v4 := Tryz.zeroValue4
  t5 := Tryz.underlying5
  a5 := Tryz.isAgg5
  z5 := Tryz.sizeOf5
  v5 := Tryz.zeroValue5
  t9 := Tryz.underlying9
  a9 := Tryz.isAgg9
  z9 := Tryz.sizeOf9
  v9 := Tryz.zeroValue9
  t46 := Tryz.underlying121
  a46 := Tryz.isAgg121
  z46 := Tryz.sizeOf121
  v46 := Tryz.zeroValue121
  t53 := Tryz.underlying136
  a53 := Tryz.isAgg136
  z53 := Tryz.sizeOf136
  v53 := Tryz.zeroValue136 }
theorem Tryz.bits_Len64 (x : Int) (w : World) (h0 : 0 ≤ x) (h1 : x ≤ 18446744073709551615) :
    Calls Tryz.prog 92 #[.int .u64 x] w fun e w' => e = .returned (.int .i64 (Lib.bitLen x.toNat)) ∧ w' = w := Any.bits_Len64 Tryz.lays129 x w h0 h1
def Tryz.lays189_ren : Go.Shelf.Ren := ⟨fun | 189 => 57 | 125 => 75 | 257 => 74 | 128 => 91 | 129 => 92 | 294 => 82 | 295 => 83 | 296 => 84 | 297 => 85 | 298 => 86 | 299 => 87 | 216 => 88 | 300 => 89 | 301 => 90 | 328 => 100 | 329 => 101 | 330 => 102 | 331 => 103 | 332 => 104 | 215 => 105 | 343 => 106 | n => n, fun | 28 => 36 | 3 => 3 | 46 => 121 | 0 => 0 | 51 => 134 | 53 => 136 | 4 => 4 | 183 => 128 | 182 => 127 | 131 => 85 | 5 => 5 | 9 => 9 | 218 => 142 | 222 => 146 | 228 => 148 | 229 => 59 | n => n, fun | n => n⟩
theorem Tryz.lays189 : Go.Proofs.Lays.n189 Tryz.prog Tryz.lays189_ren := {
  mixed := by kernel_rfl
  f125 := Tryz.func75.trans (congrArg some (by kernel_rfl))
  f128 := Tryz.func91.trans (congrArg some (by kernel_rfl))
  f129 := Tryz.func92.trans (congrArg some (by kernel_rfl))
  f189 := Tryz.func57.trans (congrArg some (by kernel_rfl))
  f215 := Tryz.func105.trans (congrArg some (by kernel_rfl))
  f216 := Tryz.func88.trans (congrArg some (by kernel_rfl))
  f257 := Tryz.func74.trans (congrArg some (by kernel_rfl))
  f294 := Tryz.func82.trans (congrArg some (by kernel_rfl))
  f295 := Tryz.func83.trans (congrArg some (by kernel_rfl))
  f296 := Tryz.func84.trans (congrArg some (by kernel_rfl))
  f297 := Tryz.func85.trans (congrArg some (by kernel_rfl))
  f298 := Tryz.func86.trans (congrArg some (by kernel_rfl))
  f299 := Tryz.func87.trans (congrArg some (by kernel_rfl))
  f300 := Tryz.func89.trans (congrArg some (by kernel_rfl))
  f301 := Tryz.func90.trans (congrArg some (by kernel_rfl))
  f328 := Tryz.func100.trans (congrArg some (by kernel_rfl))
  f329 := Tryz.func101.trans (congrArg some (by kernel_rfl))
  f330 := Tryz.func102.trans (congrArg some (by kernel_rfl))
  f331 := Tryz.func103.trans (congrArg some (by kernel_rfl))
  f332 := Tryz.func104.trans (congrArg some (by kernel_rfl))
  f343 := Tryz.func106.trans (congrArg some (by kernel_rfl))
  t0 := Tryz.underlying0
  a0 := Tryz.isAgg0
  z0 := Tryz.sizeOf0
  v0 := Tryz.zeroValue0
  t3 := Tryz.underlying3
  a3 := Tryz.isAgg3
  z3 := Tryz.sizeOf3
  v3 := Tryz.zeroValue3
  t4 := Tryz.underlying4
  a4 := Tryz.isAgg4
  z4 := Tryz.sizeOf4
  v4 := Tryz.zeroValue4
  t5 := Tryz.underlying5
  a5 := Tryz.isAgg5
  z5 := Tryz.sizeOf5
  v5 := Tryz.zeroValue5
  t9 := Tryz.underlying9
  a9 := Tryz.isAgg9
  z9 := Tryz.sizeOf9
  v9 := Tryz.zeroValue9
  t28 := Tryz.underlying36
  a28 := Tryz.isAgg36
  z28 := Tryz.sizeOf36
  v28 := Tryz.zeroValue36
  t46 := Tryz.underlying121
  a46 := Tryz.isAgg121
  z46 := Tryz.sizeOf121
  v46 := Tryz.zeroValue121
  t51 := Tryz.underlying134
  a51 := Tryz.isAgg134
  z51 := Tryz.sizeOf134
  v51 := Tryz.zeroValue134
  t53 := Tryz.underlying136
  a53 := Tryz.isAgg136
  z53 := Tryz.sizeOf136
  v53 := Tryz.zeroValue136
  t131 := Tryz.underlying85
  a131 := Tryz.isAgg85
  z131 := Tryz.sizeOf85
  v131 := Tryz.zeroValue85
  t182 := Tryz.underlying127
  a182 := Tryz.isAgg127
  z182 := Tryz.sizeOf127
  v182 := Tryz.zeroValue127
  t183 := Tryz.underlying128
  a183 := Tryz.isAgg128
  z183 := Tryz.sizeOf128
  v183 := Tryz.zeroValue128
  t218 := Tryz.underlying142
  a218 := Tryz.isAgg142
  z218 := Tryz.sizeOf142
  v218 := Tryz.zeroValue142
  t222 := Tryz.underlying146
  a222 := Tryz.isAgg146
  z222 := Tryz.sizeOf146
  v222 := Tryz.zeroValue146
  t228 := Tryz.underlying148
  a228 := Tryz.isAgg148
  z228 := Tryz.sizeOf148
  v228 := Tryz.zeroValue148
  t229 := Tryz.underlying59
  a229 := Tryz.isAgg59
  z229 := Tryz.sizeOf59
  v229 := Tryz.zeroValue59 }
open Go.Sort Go.RowKit in
theorem Tryz.slices_Sort_int (blk off cap : Nat) (zs : List Int) (w : World) (hH : Holds (Value.int .i64) w blk off zs.toArray) (hblk : blk < w.heap.size) (hsz : zs.length < 4611686018427387904) :
    Calls Tryz.prog 57 #[.slice (some ⟨blk, off, none⟩) zs.length cap] w fun e w' =>
      e = .returned (.tuple #[]) ∧ ∃ n os, w' = grow (putRow (Value.int .i64) (Sort.ahead w n) blk off (zs.mergeSort fun x y => decide (x ≤ y)).toArray) os := Any.slices_Sort_int Tryz.lays189 blk off cap zs w hH hblk hsz
def Tryz.lays197_ren : Go.Shelf.Ren := ⟨fun | 197 => 67 | 260 => 78 | n => n, fun | 9 => 9 | 21 => 21 | 3 => 3 | 4 => 4 | 5 => 5 | 105 => 113 | 119 => 138 | 0 => 0 | 46 => 121 | 139 => 141 | 138 => 140 | n => n, fun | 3 => 0 | 4 => 1 | n => n⟩
theorem Tryz.lays197 : Go.Proofs.Lays.n197 Tryz.prog Tryz.lays197_ren := {
  mixed := by kernel_rfl
  f197 := Tryz.func67.trans (congrArg some (by kernel_rfl))
  f260 := Tryz.func78.trans (congrArg some (by kernel_rfl))
  t0 := Tryz.underlying0
  a0 := Tryz.isAgg0
  z0 := Tryz.sizeOf0
  v0 := Tryz.zeroValue0
  t3 := Tryz.underlying3
  a3 := Tryz.isAgg3
  z3 := Tryz.sizeOf3
  v3 := Tryz.zeroValue3
  t4 := Tryz.underlying4
  a4 := Tryz.isAgg4
  z4 := Tryz.sizeOf4
  v4 := Tryz.zeroValue4
  t5 := Tryz.underlying5
  a5 := Tryz.isAgg5
  z5 := Tryz.sizeOf5
  v5 := Tryz.zeroValue5
  t9 := Tryz.underlying9
  a9 := Tryz.isAgg9
  z9 := Tryz.sizeOf9
  v9 := Tryz.zeroValue9
  t21 := Tryz.underlying21
  a21 := Tryz.isAgg21
  z21 := Tryz.sizeOf21
  v21 := Tryz.zeroValue21
  t46 := Tryz.underlying121
  a46 := Tryz.isAgg121
  z46 := Tryz.sizeOf121
  v46 := Tryz.zeroValue121
  t105 := Tryz.underlying113
  a105 := Tryz.isAgg113
  z105 := Tryz.sizeOf113
  v105 := Tryz.zeroValue113
  t119 := Tryz.underlying138
  a119 := Tryz.isAgg138
  z119 := Tryz.sizeOf138
  t138 := Tryz.underlying140
  a138 := Tryz.isAgg140
  z138 := Tryz.sizeOf140
  v138 := Tryz.zeroValue140
  t139 := Tryz.underlying141
  a139 := Tryz.isAgg141
  z139 := Tryz.sizeOf141
  v139 := Tryz.zeroValue141
  g3 := by kernel_rfl
  g4 := by kernel_rfl }
open Go.RowKit Go.Lib in
theorem Tryz.utf8_DecodeRuneInString_ascii (s : ByteArray) (x : UInt8) (w : World) (h0 : s.data.toList[0]? = some x) (hx : x.toNat < 128) :
    Calls Tryz.prog 67 #[.string s] w fun e w' => e = .returned (.tuple #[.int .i32 x.toNat, .int .i64 1]) ∧ w' = w := Any.utf8_DecodeRuneInString_ascii Tryz.lays197 s x w h0 hx
def Tryz.lays260_ren : Go.Shelf.Ren := ⟨fun | 260 => 78 | n => n, fun | 9 => 9 | 21 => 21 | 3 => 3 | 4 => 4 | 5 => 5 | 119 => 138 | 0 => 0 | 46 => 121 | 139 => 141 | 138 => 140 | n => n, fun | 3 => 0 | 4 => 1 | n => n⟩
theorem Tryz.lays260 : Go.Proofs.Lays.n260 Tryz.prog Tryz.lays260_ren := {
  mixed := by kernel_rfl
  f260 := Tryz.func78.trans (congrArg some (by kernel_rfl))
  t0 := Tryz.underlying0
  a0 := Tryz.isAgg0
  z0 := Tryz.sizeOf0
  v0 := Tryz.zeroValue0
  t3 := Tryz.underlying3
  a3 := Tryz.isAgg3
  z3 := Tryz.sizeOf3
  v3 := Tryz.zeroValue3
  t4 := Tryz.underlying4
  a4 := Tryz.isAgg4
  z4 := Tryz.sizeOf4
  v4 := Tryz.zeroValue4
  t5 := Tryz.underlying5
  a5 := Tryz.isAgg5
  z5 := Tryz.sizeOf5
  v5 := Tryz.zeroValue5
  t9 := Tryz.underlying9
  a9 := Tryz.isAgg9
  z9 := Tryz.sizeOf9
  v9 := Tryz.zeroValue9
  t21 := Tryz.underlying21
  a21 := Tryz.isAgg21
  z21 := Tryz.sizeOf21
  v21 := Tryz.zeroValue21
  t46 := Tryz.underlying121
  a46 := Tryz.isAgg121
  z46 := Tryz.sizeOf121
  v46 := Tryz.zeroValue121
  t119 := Tryz.underlying138
  a119 := Tryz.isAgg138
  z119 := Tryz.sizeOf138
  t138 := Tryz.underlying140
  a138 := Tryz.isAgg140
  z138 := Tryz.sizeOf140
  v138 := Tryz.zeroValue140
  t139 := Tryz.underlying141
  a139 := Tryz.isAgg141
  z139 := Tryz.sizeOf141
  v139 := Tryz.zeroValue141
  g3 := by kernel_rfl
  g4 := by kernel_rfl }
open Go.RowKit Go.Lib in
theorem Tryz.utf8_decodeRuneInStringSlow (s : ByteArray) (w : World) (hT : Lib.Utf8Tabs 0 1 w) :
    Calls Tryz.prog 78 #[.string s] w fun e w' => e = .returned (.tuple #[.int .i32 (Lib.decodeGo s).1, .int .i64 (Lib.decodeGo s).2]) ∧ Below w.heap.size w w' := Any.utf8_decodeRuneInStringSlow Tryz.lays260 s w hT
open Go.RowKit Go.Lib in
theorem Tryz.utf8_DecodeRuneInString (s : ByteArray) (w : World) (hT : Lib.Utf8Tabs 0 1 w) :
    Calls Tryz.prog 67 #[.string s] w fun e w' => e = .returned (.tuple #[.int .i32 (Lib.decodeGo s).1, .int .i64 (Lib.decodeGo s).2]) ∧ Below w.heap.size w w' := Any.utf8_DecodeRuneInString Tryz.lays197 s w hT
def Tryz.laysNm220_ren : Go.Shelf.Ren := ⟨fun | 20 => 58 | n => n, fun | 22 => 36 | 3 => 3 | 4 => 4 | 0 => 0 | n => n, fun | n => n⟩
theorem Tryz.laysNm220 : Go.Proofs.Lays2.n20 Tryz.prog Tryz.laysNm220_ren := {
  mixed := by kernel_rfl
  f20 := Tryz.func58.trans (congrArg some (by kernel_rfl))
  t0 := Tryz.underlying0
  a0 := Tryz.isAgg0
  z0 := Tryz.sizeOf0
  v0 := Tryz.zeroValue0
  t3 := Tryz.underlying3
  a3 := Tryz.isAgg3
  z3 := Tryz.sizeOf3
  v3 := Tryz.zeroValue3
  t4 := Tryz.underlying4
  a4 := Tryz.isAgg4
  z4 := Tryz.sizeOf4
  v4 := Tryz.zeroValue4
  t22 := Tryz.underlying36
  a22 := Tryz.isAgg36
  z22 := Tryz.sizeOf36
  v22 := Tryz.zeroValue36
  i3 := by kernel_rfl }
open Go.RowKit Go.Lib Go.Sort in
theorem Tryz.slices_Compact_int_arr (blk off cap : Nat) (d : Array Int) (w : World) (hH : Holds encI w blk off d) (hsz : d.size ≤ 9223372036854775807) (hcap : d.size ≤ cap) :
    Calls Tryz.prog 58 #[.slice (some ⟨blk, off, none⟩) d.size cap] w fun e w' => e = .returned (.slice (some ⟨blk, off, none⟩) (compactUpTo d d.size).length cap) ∧ ∃ q, w' = putRow encI (Sort.ahead w q) blk off (compactUpTo d d.size ++ List.replicate (d.size - (compactUpTo d d.size).length) 0).toArray := Any.slices_Compact_int_arr Tryz.laysNm220 blk off cap d w hH hsz hcap
open Go.RowKit Go.Lib Go.Sort in
theorem Tryz.slices_Compact_int (blk off cap : Nat) (zs : List Int) (w : World) (hH : Holds (Value.int .i64) w blk off zs.toArray) (hsz : zs.length ≤ 9223372036854775807) (hcap : zs.length ≤ cap) :
    Calls Tryz.prog 58 #[.slice (some ⟨blk, off, none⟩) zs.length cap] w fun e w' => e = .returned (.slice (some ⟨blk, off, none⟩) (Lib.compact zs).length cap) ∧ ∃ q, w' = putRow (Value.int .i64) (Sort.ahead w q) blk off (Lib.compact zs ++ List.replicate (zs.length - (Lib.compact zs).length) 0).toArray := Any.slices_Compact_int Tryz.laysNm220 blk off cap zs w hH hsz hcap
open Go.RowKit Go.Lib Go.Sort in
theorem Tryz.slices_Compact_int_empty (a : Option Addr) (cap : Nat) (w : World) :
    Calls Tryz.prog 58 #[.slice a 0 cap] w fun e w' => e = .returned (.slice a 0 cap) ∧ w' = w := Any.slices_Compact_int_empty Tryz.laysNm220 a cap w
def Tryz.laysNm237_ren : Go.Shelf.Ren := ⟨fun | 37 => 105 | n => n, fun | 3 => 3 | 4 => 4 | n => n, fun | n => n⟩
theorem Tryz.laysNm237 : Go.Proofs.Lays2.n37 Tryz.prog Tryz.laysNm237_ren := {
  mixed := by kernel_rfl
  f37 := Tryz.func105.trans (congrArg some (by kernel_rfl))
  t3 := Tryz.underlying3
  a3 := Tryz.isAgg3
  z3 := Tryz.sizeOf3
  v3 := Tryz.zeroValue3
  t4 := Tryz.underlying4
  a4 := Tryz.isAgg4
  z4 := Tryz.sizeOf4
  v4 := Tryz.zeroValue4 }
open Go.RowKit Go.Lib in
theorem Tryz.cmp_isNaN_int2 (x : Int) (w : World) :
    Calls Tryz.prog 105 #[.int .i64 x] w fun e w' => e = .returned (.bool false) ∧ w' = w := Any.cmp_isNaN_int2 Tryz.laysNm237 x w
def Tryz.laysNm231_ren : Go.Shelf.Ren := ⟨fun | 31 => 88 | 37 => 105 | n => n, fun | 3 => 3 | 4 => 4 | n => n, fun | n => n⟩
theorem Tryz.laysNm231 : Go.Proofs.Lays2.n31 Tryz.prog Tryz.laysNm231_ren := {
  mixed := by kernel_rfl
  f31 := Tryz.func88.trans (congrArg some (by kernel_rfl))
  f37 := Tryz.func105.trans (congrArg some (by kernel_rfl))
  t3 := Tryz.underlying3
  a3 := Tryz.isAgg3
  z3 := Tryz.sizeOf3
  v3 := Tryz.zeroValue3
  t4 := Tryz.underlying4
  a4 := Tryz.isAgg4
  z4 := Tryz.sizeOf4
  v4 := Tryz.zeroValue4 }
open Go.RowKit Go.Lib in
theorem Tryz.cmp_Less_int2 (x y : Int) (w : World) :
    Calls Tryz.prog 88 #[.int .i64 x, .int .i64 y] w fun e w' => e = .returned (.bool (decide (x < y))) ∧ w' = w := Any.cmp_Less_int2 Tryz.laysNm231 x y w
open Go.RowKit Go.Lib Go.Sort in
theorem Tryz.slices_Compact_int_cells (b off n c : Nat) (zs : List Int) (w : World) (hz : n ≤ zs.length) (hbig : n ≤ 9223372036854775807) (hcap : n ≤ c) (hc : ∀ j, j < zs.length → w.cell? ⟨b, off + j, none⟩ = some (.int .i64 (zs.getD j 0))) (hf : ∀ j, j < n → w.frozen? ⟨b, off + j, none⟩ = false) :
    Calls Tryz.prog 58 #[.slice (some ⟨b, off, none⟩) n c] w fun e w' => e = .returned (.slice (some ⟨b, off, none⟩) (Lib.compact (zs.take n)).length c) ∧ ∃ q, w' = (w.drewN q).setCells b off ((Lib.compact (zs.take n) ++ List.replicate (n - (Lib.compact (zs.take n)).length) 0).map (Value.int .i64)) := Any.slices_Compact_int_cells Tryz.laysNm220 b off n c zs w hz hbig hcap hc hf
open Go.RowKit Go.Sort in
theorem Tryz.slices_Sort_int_none (p : Option Addr) (cap : Nat) (w : World) :
    Calls Tryz.prog 57 #[.slice p 0 cap] w fun e w' => e = .returned (.tuple #[]) ∧ w' = w := Any.slices_Sort_int_none Tryz.lays189 p cap w
def Tryz.laysSlH6_f61_ren : Go.Shelf.Ren := ⟨fun | 6 => 61 | n => n, fun | 22 => 36 | 23 => 3 | 25 => 75 | 3 => 3 | 0 => 0 | 4 => 4 | n => n, fun | n => n⟩
theorem Tryz.laysSlH6_f61 : Go.Proofs.SlLaysH.n6 Tryz.prog Tryz.laysSlH6_f61_ren := {
  mixed := by kernel_rfl
  f6 := ⟨Tryz.f61.name, by decide, Tryz.func61.trans (congrArg some (by kernel_rfl))⟩
  t0 := Tryz.underlying0
  a0 := Tryz.isAgg0
  z0 := Tryz.sizeOf0
  v0 := Tryz.zeroValue0
  t3 := Tryz.underlying3
  a3 := Tryz.isAgg3
  z3 := Tryz.sizeOf3
  v3 := Tryz.zeroValue3
  t4 := Tryz.underlying4
  a4 := Tryz.isAgg4
  z4 := Tryz.sizeOf4
  v4 := Tryz.zeroValue4
  t22 := Tryz.underlying36
  a22 := Tryz.isAgg36
  z22 := Tryz.sizeOf36
  v22 := Tryz.zeroValue36
  a23 := Tryz.isAgg3
  z23 := Tryz.sizeOf3
  t25 := Tryz.underlying75
  a25 := Tryz.isAgg75
  z25 := Tryz.sizeOf75
  v25 := Tryz.zeroValue75 }
open Go.RowKit Go.Lib in
theorem Tryz.slices_IndexFunc {α : Type} [Inhabited α] (enc : α → Value) (p : α → Bool) (g : Nat) (lb : Array Value) (eg : ∀ args w, (callFunc g args).run Tryz.prog w = .ok (.enter g args) w) (b off n c : Nat) (zs : List α) (w : World) (hp : PredAt Tryz.prog g lb enc p w) (hz : n ≤ zs.length) (hbig : n ≤ 9223372036854775807) (hc : ∀ j, j < zs.length → w.cell? ⟨b, off + j, none⟩ = some (enc zs[j]!)) :
    Calls Tryz.prog 61 #[.slice (some ⟨b, off, none⟩) n c, .func (.func g) #[] lb] w fun e w' => e = .returned (.int .i64 (Lib.idxBy (fun _ y => p y) (zs.take n) default)) ∧ ∃ q, w' = w.drewN q := AnyE.slices_IndexFunc Tryz.laysSlH6_f61 enc p g lb eg b off n c zs w hp hz hbig hc
open Go.RowKit Go.Lib in
theorem Tryz.slices_IndexFunc_empty {α : Type} [Inhabited α] (a : Option Addr) (c : Nat) (fv : Value) (w : World) :
    Calls Tryz.prog 61 #[.slice a 0 c, fv] w fun e w' => e = .returned (.int .i64 (-1)) ∧ w' = w := AnyE.slices_IndexFunc_empty Tryz.laysSlH6_f61 a c fv w
def Tryz.laysSlH8_f40_ren : Go.Shelf.Ren := ⟨fun | 8 => 40 | 6 => 61 | n => n, fun | 22 => 36 | 23 => 3 | 25 => 75 | 4 => 4 | 3 => 3 | 0 => 0 | n => n, fun | n => n⟩
theorem Tryz.laysSlH8_f40 : Go.Proofs.SlLaysH.n8 Tryz.prog Tryz.laysSlH8_f40_ren := {
  mixed := by kernel_rfl
  f6 := ⟨Tryz.f61.name, by decide, Tryz.func61.trans (congrArg some (by kernel_rfl))⟩
  f8 := ⟨Tryz.f40.name, by decide, Tryz.func40.trans (congrArg some (by kernel_rfl))⟩
  t0 := Tryz.underlying0
  a0 := Tryz.isAgg0
  z0 := Tryz.sizeOf0
  v0 := Tryz.zeroValue0
  t3 := Tryz.underlying3
  a3 := Tryz.isAgg3
  z3 := Tryz.sizeOf3
  v3 := Tryz.zeroValue3
  t4 := Tryz.underlying4
  a4 := Tryz.isAgg4
  z4 := Tryz.sizeOf4
  v4 := Tryz.zeroValue4
  t22 := Tryz.underlying36
  a22 := Tryz.isAgg36
  z22 := Tryz.sizeOf36
  v22 := Tryz.zeroValue36
  a23 := Tryz.isAgg3
  z23 := Tryz.sizeOf3
  t25 := Tryz.underlying75
  a25 := Tryz.isAgg75
  z25 := Tryz.sizeOf75
  v25 := Tryz.zeroValue75 }
open Go.RowKit Go.Lib in
theorem Tryz.slices_ContainsFunc {α : Type} [Inhabited α] (enc : α → Value) (p : α → Bool) (g : Nat) (lb : Array Value) (eg : ∀ args w, (callFunc g args).run Tryz.prog w = .ok (.enter g args) w) (b off n c : Nat) (zs : List α) (w : World) (hp : PredAt Tryz.prog g lb enc p w) (hz : n ≤ zs.length) (hbig : n ≤ 9223372036854775807) (hc : ∀ j, j < zs.length → w.cell? ⟨b, off + j, none⟩ = some (enc zs[j]!)) :
    Calls Tryz.prog 40 #[.slice (some ⟨b, off, none⟩) n c, .func (.func g) #[] lb] w fun e w' => e = .returned (.bool ((zs.take n).any p)) ∧ ∃ q, w' = w.drewN q := AnyE.slices_ContainsFunc Tryz.laysSlH8_f40 enc p g lb eg b off n c zs w hp hz hbig hc
open Go.RowKit Go.Lib in
theorem Tryz.slices_ContainsFunc_empty {α : Type} [Inhabited α] (a : Option Addr) (c : Nat) (fv : Value) (w : World) :
    Calls Tryz.prog 40 #[.slice a 0 c, fv] w fun e w' => e = .returned (.bool false) ∧ w' = w := AnyE.slices_ContainsFunc_empty Tryz.laysSlH8_f40 a c fv w
end Go.Proofs

namespace Go.Proofs.YtbkafoaoddajoaaGreatDoor.Dv
open Go Go.RowKit Go.Shelf Go.Maps
open Go.Proofs.YtbkafoaoddajoaaGreatDoor.Ar (timesB Nd nd nodeB nodeB_ways NRow cellsN aggN flatN Book WfN Wf NodeAt node_new nodes_of_row)
open Go.Proofs.YtbkafoaoddajoaaGreatDoor.Rg (R RngsAt RowsAt nthL add_zero own_next has_any inB)

/-- a walk has room for what it leaves -/
def Room (W : Wk) : Prop := W.left.length + W.wait.length ≤ W.met.length
theorem meet_room {W : Wk} (h : Room W) (p q : Nat) : Room (meet W p q) := by
  unfold meet Room at *
  split
  · exact h
  · split
    · exact h
    · simp; omega
/-- one more than there is room for, while a spot is gone past -/
def Room1 (W : Wk) : Prop := W.left.length + W.wait.length + 1 ≤ W.met.length
theorem meet_room1 {W : Wk} (h : Room1 W) (p q : Nat) : Room1 (meet W p q) := by
  unfold meet Room1 at *
  split
  · exact h
  · split
    · exact h
    · simp; omega
theorem past_room {c : Int} {W : Wk} (h : Room1 W) (n : Nd) (q : Nat) : Room (past c W n q) := by
  have h' : ∀ {V : Wk}, Room1 V → Room V := fun h => by unfold Room Room1 at *; omega
  have hB : ∀ {V : Wk} (B : Bk), Room1 V → Room1 { V with b := B } := fun _ h => h
  unfold past
  split
  · unfold pastSet
    split
    · unfold Room Room1 at *; simp; omega
    · exact h' h
  · split
    · unfold pastCat
      dsimp only
      split
      · exact h' (meet_room1 (meet_room1 (hB _ h) _ _) _ _)
      · exact h' (meet_room1 (hB _ h) _ _)
    · split
      · exact h' (meet_room1 (meet_room1 h _ _) _ _)
      · split
        · exact h' (meet_room1 (hB _ h) _ _)
        · exact h' h
theorem step_room {c : Int} {W : Wk} (h : Room W) (hs : stop W = false) : Room (step c W) := by
  refine past_room ?_ _ _
  have : 0 < W.wait.length := List.length_pos_iff.2 (stop_false hs).1
  unfold Room Room1 at *
  simp only [List.length_dropLast]
  omega

section
variable {w0 w : World} {bb M wb Mw : Nat} {c : Int} {W : Wk}
/-- which method goes past, in memory -/
theorem pastM_any (h : WAt w0 bb M wb Mw c W w) (ok : WkOk W) (hr : Room1 W) {n : Nd} {p q : Nat} (hp : p < W.b.parts.length) (hn : nd W.b.parts p = n) (hq : q < W.b.parts.length) :
    Calls Tryz.prog (kindW n.op) #[.pointer (some ⟨wb, 0, none⟩), aggN n, .int .i64 (q : Nat)] w (WOut w0 bb M wb Mw c (past c W n q) (Kw w0 bb M wb Mw) w) := by
  have hnode := ok.good.node p hp
  have hreps := ok.good.reps p hp
  rw [hn] at hnode hreps
  have hl : W.wait.length ≤ W.met.length := by unfold Room1 at hr; omega
  unfold kindW past
  rcases nodeB_ways hnode with ⟨h1, h2⟩ | ⟨h1, h2⟩ | ⟨h1 | h1, h2⟩ | ⟨h1, h2⟩
  · rw [if_neg (by omega), if_neg (by omega), if_neg (by omega), if_neg (by omega), if_neg (by omega), if_neg (by omega), if_neg (by omega), if_neg (by omega)]
    exact wempty_any h n q
  · rw [if_pos h1, if_pos h1]
    exact wset_any h (by omega) (by omega) (by have := ok.many; unfold Room1 at hr; omega)
  · rw [if_neg (by omega), if_pos h1, if_neg (by omega), if_pos h1]
    exact wcat_any h ok hl (by omega) (by omega) (by omega) (by omega) hq
  · rw [if_neg (by omega), if_neg (by omega), if_pos h1, if_neg (by omega), if_neg (by omega), if_pos h1]
    exact walt_any h ok hl (by omega) (by omega) (by omega) (by omega) hq
  · rw [if_neg (by omega), if_neg (by omega), if_neg (by omega), if_pos h1, if_neg (by omega), if_neg (by omega), if_neg (by omega), if_pos h1]
    exact wrep_any h ok hl (by omega) (by omega) (node_times hnode h1) (hreps h1) hq

/-- numbers in a row of their own, in memory -/
def RowI (w : World) (v : Value) (l : List Nat) : Prop := (v = .slice none 0 0 ∧ l = []) ∨ ∃ g cap cs, v = .slice (some ⟨g, 0, none⟩) l.length cap ∧ l.length ≤ maxLen ∧ w.heap[g]? = some (.cells cs 3 (0, 0)) ∧ cs.toList.take l.length = (castL l).map (Value.int .i64)
theorem RowI.kg {w' : World} {N0 : Nat} {U : Nat → Prop} {T : TypeId → Prop} {v : Value} {l : List Nat} (h : RowI w v l) (k : Kg N0 U T w w') (hT : ¬ T 3) (hU : ∀ g, v.ownBlock = some g → ¬ U g) : RowI w' v l := by
  rcases h with h | ⟨g, cap, cs, rfl, h1, h2, h3⟩
  · exact .inl h
  · exact .inr ⟨g, cap, cs, rfl, h1, k.heap h2 (hU g rfl) (fun _ _ _ e => by cases e; exact hT), h3⟩
theorem RowI.at' {v : Value} {l : List Nat} (h : RowI w v l) : ∃ (ao : Option Addr) (cap : Nat), v = .slice ao l.length cap ∧ l.length ≤ 9223372036854775807 ∧ ∀ i, i < l.length → ∃ g, ao = some g ∧ w.cell? (g.add i) = some (.int .i64 (l.getD i 0 : Nat)) := by
  rcases h with ⟨rfl, rfl⟩ | ⟨g, cap, cs, rfl, h1, h2, h3⟩
  · exact ⟨none, 0, rfl, by simp, fun i hi => by simp at hi⟩
  · refine ⟨some ⟨g, 0, none⟩, cap, rfl, by unfold maxLen at h1; omega, fun i hi => ⟨_, rfl, ?_⟩⟩
    rw [add_zero, Lib.cell_of_heap h2]
    have e : (cs.toList.take l.length)[i]? = some (.int .i64 (l.getD i 0 : Nat)) := by rw [h3]; simp [castL, hi, List.getD]
    rw [List.getElem?_take_of_lt hi] at e
    simpa using e
theorem RowI.own {v : Value} {l : List Nat} {N : Nat} (h : w.ownsRow N 3 1 v l.length ((castL l).map (Value.int .i64))) : RowI w v l := by
  rcases h.2 with ⟨rfl, h0⟩ | ⟨g, cap, cur, rfl, _, hg, hc, hm, _, ht⟩
  · exact .inl ⟨rfl, List.eq_nil_of_length_eq_zero h0⟩
  · exact .inr ⟨g, cap, cur, rfl, by omega, hg, by simpa using ht⟩
theorem RowI.ne {v : Value} {l : List Nat} (h : RowI w v l) {k : Nat} {o : Obj} (ho : w.heap[k]? = some o) (hn : ∀ cs fz, o ≠ .cells cs 3 fz) {g : Nat} (hg : v.ownBlock = some g) : g ≠ k := by
  rcases h with ⟨rfl, _⟩ | ⟨g', cap, cs, rfl, _, h2, _⟩
  · cases hg
  · simp only [Value.ownBlock, Option.some.injEq] at hg
    subst hg
    rintro rfl
    rw [h2] at ho
    simp only [Option.some.injEq] at ho
    exact hn _ _ ho.symm

/-- the last spot that waits -/
theorem WkAt.lastS {wv lv : Value} (h : WkAt w0 bb M wb Mw c W wv lv w) {m : Nat} (hm : W.wait.length = m + 1) : ∃ gw cap, wv = .slice (some ⟨gw, 0, none⟩) (m + 1) cap ∧ m + 1 ≤ cap ∧ cap ≤ 9223372036854775807 ∧ w.cell? ⟨gw, m * 2, none⟩ = some (.int .i64 ((lastW W).1 : Nat)) ∧ w.cell? ⟨gw, m * 2 + 1, none⟩ = some (.int .i64 ((lastW W).2 : Nat)) := by
  obtain ⟨h1, h2⟩ := flatS_at W.wait m (by omega)
  have e : W.wait.getD m (0, 0) = lastW W := by
    unfold lastW
    rw [List.getLastD_eq_getLast?, List.getLast?_eq_getElem?, List.getD, hm, Nat.add_sub_cancel]
  rw [e] at h1 h2
  rcases h.wait.2 with ⟨_, h0⟩ | ⟨gw, cap, cur, rfl, _, _, hc, hc2, _, _⟩
  · omega
  · refine ⟨gw, cap, by rw [hm], by omega, by unfold maxLen at hc2; omega, ?_, ?_⟩
    · rw [h.wait.cellAt _ (by omega)]; exact h1
    · rw [h.wait.cellAt _ (by omega)]; exact h2
/-- one spot less waits -/
theorem WkAt.pop {gw cap m : Nat} {lv : Value} (h : WkAt w0 bb M wb Mw c W (.slice (some ⟨gw, 0, none⟩) (m + 1) cap) lv w) (hm : W.wait.length = m + 1) :
    w.frozen? ⟨wb, 3, none⟩ = false ∧ WAt w0 bb M wb Mw c { W with wait := W.wait.dropLast } (w.setCell ⟨wb, 3, none⟩ (.slice (some ⟨gw, 0, none⟩) m cap)) ∧ Kw w0 bb M wb Mw w (w.setCell ⟨wb, 3, none⟩ (.slice (some ⟨gw, 0, none⟩) m cap)) := by
  obtain ⟨pv, sv, bv, xs, hbk⟩ := h.book
  have kS : Kg w0.heap.size (fun k => k = wb) (fun _ => False) w (w.setCell ⟨wb, 3, none⟩ (.slice (some ⟨gw, 0, none⟩) m cap)) := Kg.of_set h.base rfl
  have hbox := heap_setCell_same w wb 3 _ 97 (.slice (some ⟨gw, 0, none⟩) m cap) h.box
  have hd : W.wait.dropLast.length = m := by rw [List.length_dropLast, hm]; rfl
  have hrow : w.ownsRow w0.heap.size 100 2 (.slice (some ⟨gw, 0, none⟩) m cap) W.wait.dropLast.length (flatS W.wait.dropLast) := by
    rcases h.wait.2 with ⟨h0, _⟩ | ⟨g, cp, cur, he, hb, hg, hc, hc2, hz, ht⟩
    · cases h0
    · simp only [Value.slice.injEq, Option.some.injEq, Addr.mk.injEq] at he
      obtain ⟨⟨rfl, _⟩, _, rfl⟩ := he
      refine ⟨by rw [flatS_len], .inr ⟨gw, cap, cur, by rw [hd], hb, hg, by omega, hc2, hz, ?_⟩⟩
      have e : flatS W.wait = flatS W.wait.dropLast ++ cellsS (lastW W) := by
        rw [← flatS_snoc]
        have := (last_mem (l := W.wait) (by intro h0; rw [h0] at hm; cases hm)).2
        exact congrArg flatS this
      have : cur.toList.take (W.wait.dropLast.length * 2) = (cur.toList.take (W.wait.length * 2)).take (W.wait.dropLast.length * 2) := by
        rw [List.take_take, Nat.min_eq_left (by omega)]
      rw [this, ht, e, ← flatS_len, List.take_left']
      rfl
  have hz : ∀ {e : TypeId} {s m : Nat} {v : Value} {ys : List Value}, w.ownsRow w0.heap.size e s v m ys → e ≠ 97 → ∀ g, v.ownBlock = some g → ¬ g = wb := fun hr he g hv e => h.ne_row hr he (e ▸ hv)
  refine ⟨frozen_of_row w wb 3 _ _ h.box, ⟨_, lv, ⟨⟨pv, sv, bv, xs, hbk.keep kS rfl (fun e => h.bne e.symm) (fun e => h.bneM e.symm) (fun _ _ => id) (fun g hg => ?_)⟩, h.base, h.baseM, h.ne, by simpa using hbox, kS.own hrow id (hz hrow (by decide)), kS.own h.left id (hz h.left (by decide)), h.met.kg kS (fun e => h.bneMw e.symm)⟩⟩, kS.mono (fun _ _ h => .inr (.inr (.inl h))) (fun _ h => h.elim)⟩
  rcases hg with hg | hg | hg
  · exact hz hbk.parts (by decide) g hg
  · exact hz hbk.sets (by decide) g hg
  · exact hz hbk.bare (by decide) g hg
theorem begin_snoc (B : Bk) (l : List Nat) {j : Nat} (hj : j < l.length) : begin' B (l.take (j + 1)) = meet (begin' B (l.take j)) (l.getD j 0) 1 := by
  unfold begin'
  rw [List.take_succ_eq_append_getElem hj, List.foldl_append]
  simp [List.getD, hj]
theorem begin_ok {B : Bk} (g : Good B) {l : List Nat} (hl : ∀ x, x ∈ l → x < B.parts.length) : WkOk (begin' B l) ∧ Room (begin' B l) ∧ (begin' B l).b.parts = B.parts := by
  obtain ⟨h1, _, _, _, h5, _⟩ := begin_inv (c := 0) g l [] ⟨B, [], [], []⟩ ⟨g, fun s hs => (by cases hs), fun s hs => (by cases hs), fun x hx => (by cases hx), by simp⟩ (Ext.refl B) hl rfl (fun _ => ⟨fun s => by simp, fun s hs => (by cases hs)⟩) rfl rfl
  refine ⟨h1, ?_, h5⟩
  have : ∀ (l : List Nat) (W : Wk), Room W → Room (l.foldl (fun W x => meet W x 1) W) := by
    intro l
    induction l with
    | nil => intro W h; exact h
    | cons x l ih => intro W h; exact ih _ (meet_room h _ _)
  exact this l _ (by simp [Room])
end

end Go.Proofs.YtbkafoaoddajoaaGreatDoor.Dv

namespace Go.Proofs.YtbkafoaoddajoaaGreatDoor.Dv
open Go Go.RowKit Go.Shelf Go.Maps
open Go.Proofs.YtbkafoaoddajoaaGreatDoor.Ar (timesB Nd nd nodeB nodeB_ways NRow cellsN aggN flatN Book WfN Wf NodeAt node_new nodes_of_row)
open Go.Proofs.YtbkafoaoddajoaaGreatDoor.Rg (R RngsAt RowsAt nthL add_zero own_next has_any inB)
section
variable {w0 w : World} {bb M wb Mw : Nat} {c : Int} {W : Wk}

theorem sort_row {w : World} {N : Nat} {v : Value} {zs : List Int} (h : w.ownsRow N 3 1 v zs.length (zs.map (Value.int .i64))) (hl : zs.length ≤ 1000000) :
    Calls Tryz.prog 57 #[v] w fun e w' => e = .returned (.tuple #[]) ∧ w'.ownsRow N 3 1 v zs.length ((zs.mergeSort fun x y => decide (x ≤ y)).map (Value.int .i64)) ∧ w.grownBy w' v.ownBlock := by
  rcases h.2 with ⟨rfl, h0⟩ | ⟨g, cap, cur, rfl, hb, hg, hc, hm, hz, ht⟩
  · have e0 := List.eq_nil_of_length_eq_zero h0
    subst e0
    refine (Tryz.slices_Sort_int_none none 0 w).mono ?_
    rintro e w' ⟨rfl, rfl⟩
    exact ⟨rfl, by simpa using h, ⟨rfl, rfl, rfl, Nat.le_refl _, fun _ _ _ => rfl⟩⟩
  · have hH : Sort.Holds (Value.int .i64) w g 0 zs.toArray := holds_of_blockI hg (by simpa using ht)
    have hgl : g < w.heap.size := (Array.getElem?_eq_some_iff.1 hg).1
    refine (Tryz.slices_Sort_int g 0 cap zs w hH hgl (by omega)).mono ?_
    rintro e w' ⟨rfl, n, os, rfl⟩
    exact ⟨rfl, ownsRow_sortedI (List.length_mergeSort zs) hb hg hc hm hz, grownBy_sortedI _⟩
theorem compact_row {w : World} {N : Nat} {v : Value} {zs : List Int} (h : w.ownsRow N 3 1 v zs.length (zs.map (Value.int .i64))) (hl : zs.length ≤ 1000000) :
    Calls Tryz.prog 58 #[v] w fun e w' => ∃ v', e = .returned v' ∧ w'.ownsRow N 3 1 v' (Lib.compact zs).length ((Lib.compact zs).map (Value.int .i64)) ∧ w.grownBy w' v.ownBlock := by
  rcases h.2 with ⟨rfl, h0⟩ | ⟨g, cap, cur, rfl, hb, hg, hc, hm, hz, ht⟩
  · have e0 := List.eq_nil_of_length_eq_zero h0
    subst e0
    refine (Tryz.slices_Compact_int_empty none 0 w).mono ?_
    rintro e w' ⟨rfl, rfl⟩
    exact ⟨_, rfl, by simpa [Lib.compact, Lib.compactUpTo] using h, ⟨rfl, rfl, rfl, Nat.le_refl _, fun _ _ _ => rfl⟩⟩
  · have hH : Sort.Holds (Value.int .i64) w g 0 zs.toArray := holds_of_blockI hg (by simpa using ht)
    refine (Tryz.slices_Compact_int g 0 cap zs w hH (by omega) hc).mono ?_
    rintro e w' ⟨rfl, q, rfl⟩
    have hle : (Lib.compact zs).length ≤ zs.length := Lib.compact_length_le zs
    have e1 := ownsRow_sortedI (w := w) (n := q) (os := #[]) (base := N) (ts := Lib.compact zs ++ List.replicate (zs.length - (Lib.compact zs).length) 0) (ss := zs) (by simp; omega) hb hg hc hm hz
    have e2 := grownBy_sortedI (w := w) (g := g) (n := q) (os := #[]) (Lib.compact zs ++ List.replicate (zs.length - (Lib.compact zs).length) 0).toArray
    rw [Sort.grow_empty] at e1 e2
    refine ⟨_, rfl, ?_, e2⟩
    rcases e1.2 with ⟨h0, _⟩ | ⟨g', cap', cur', he, hb', hg', hc', hm', hz', ht'⟩
    · cases h0
    · simp only [Value.slice.injEq, Option.some.injEq, Addr.mk.injEq] at he
      obtain ⟨⟨rfl, _⟩, _, rfl⟩ := he
      refine ⟨by simp, .inr ⟨g, cap, cur', rfl, hb', hg', by omega, hm', hz', ?_⟩⟩
      have : cur'.toList.take ((Lib.compact zs).length * 1) = (cur'.toList.take (zs.length * 1)).take ((Lib.compact zs).length * 1) := by rw [List.take_take, Nat.min_eq_left (by omega)]
      rw [this, ht', List.map_append, List.take_left']
      simp
end
end Go.Proofs.YtbkafoaoddajoaaGreatDoor.Dv

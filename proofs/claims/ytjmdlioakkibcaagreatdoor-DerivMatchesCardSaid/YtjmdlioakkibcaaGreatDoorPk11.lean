/- A spot is met. -/
import Derived.Test.YtjmdlioakkibcaaGreatDoorPk10

namespace Go.Proofs.YtjmdlioakkibcaaGreatDoor.Dv
open Go Go.RowKit Go.Shelf Go.Maps
open Go.Proofs.YtjmdlioakkibcaaGreatDoor.Ar (Nd nd nodeB NRow cellsN aggN flatN Book WfN Wf)
open Go.Proofs.YtjmdlioakkibcaaGreatDoor.Rg (R RngsAt RowsAt nthL add_zero own_next)

theorem infoSp : (Tryz.prog.info? 100).map (fun i => (i.zero, i.size, i.bytes)) = some (some (.agg #[.int .i64 0, .int .i64 0]), 2, 16) := by kernel_rfl

theorem below_drew {n : Nat} (w : World) : Below n w w.drew := ⟨rfl, rfl, rfl, Nat.le_refl _, fun _ _ => rfl⟩
/-- what a walk's method tells -/
def WOut (w0 : World) (bb M wb Mw : Nat) (c : Int) (V : Wk) (K : World → World → Prop) (w : World) (e : Ending) (w' : World) : Prop := e = .returned (.tuple #[]) ∧ WAt w0 bb M wb Mw c V w' ∧ K w w'
section
variable {w0 w : World} {bb M wb Mw : Nat} {c : Int} {W : Wk}

set_option maxRecDepth 100000 in
set_option maxHeartbeats 4000000 in
theorem meet_old (h : WAt w0 bb M wb Mw c W w) {p q : Nat} (hs : WfS (p, q)) (hm : (p, q) ∈ W.met) :
    Calls Tryz.prog 55 #[.pointer (some ⟨wb, 0, none⟩), .int .i64 (p : Nat), .int .i64 (q : Nat)] w (WOut w0 bb M wb Mw c W (Km w0 bb wb Mw) w) := by
  obtain ⟨wv, lv, h⟩ := h
  have HB := Lib.hid h
  have c2 := h.cell2
  have hlt := h.lt
  have BW := Lib.hid (fun o => (Below.refl w.heap.size w).alloc (Nat.le_refl _) o)
  have hbd : Below w.heap.size w (w.alloc (.cells #[.int .i64 (p : Nat), .int .i64 (q : Nat)] 100)).drew := (BW.out _).trans ((Rg.below_drewN _ 1).mono (by simp))
  have hbe : Below w.heap.size w ((w.alloc (.cells #[.int .i64 (p : Nat), .int .i64 (q : Nat)] 100)).alloc (.cells #[] 115)).drew := (BW.out _).trans ((((Below.refl _ _).alloc (Nat.le_refl _) _).trans ((Rg.below_drewN _ 1).mono (by simp))).mono (by simp))
  have HBD := Lib.hid hbd
  have HBE := Lib.hid hbe
  have hL := look_spot ((h.next hbd).met) hs
  have hL2 := look_spot ((h.next hbe).met) hs
  rw [decide_eq_true hm] at hL hL2
  unfold aggS at hL hL2
  dsimp only at hL hL2
  clear h hm hs hbd hbe
  go_enter Tryz.func55, Tryz.ntmps55
  go_wp2
  go_region_held3 (fun X => X.cell? ⟨wb, 2, none⟩ = some (.map (some Mw)) ∧ X.cell? ⟨w.heap.size, 0, none⟩ = some (.int .i64 (p : Nat)) ∧ X.cell? ⟨w.heap.size, 1, none⟩ = some (.int .i64 (q : Nat))) (first | exact ⟨by assumption, by assumption, by assumption⟩ | go_keep)
    (first | fail)
  all_goals (
    go_wp2
    go_end0
    exact ⟨rfl, ⟨wv, lv, HB.out.next HBE.out⟩, Kg.of_below HBE.out⟩)

theorem book_full {w0 w : World} {bb M : Nat} {B : Bk} (h : BookAt w0 bb M B w) :
    (w.cell? ⟨bb, 4, none⟩ = some (.bool B.full) ∧ w.frozen? ⟨bb, 4, none⟩ = false) ∧ BookAt w0 bb M { B with full := true } (w.setCell ⟨bb, 4, none⟩ (.bool true)) ∧ Kg w0.heap.size (fun k => k = bb) (fun _ => False) w (w.setCell ⟨bb, 4, none⟩ (.bool true)) := by
  obtain ⟨pv, sv, bv, xs, hW⟩ := h
  have ks : Kg w0.heap.size (fun k => k = bb) (fun _ => False) w (w.setCell ⟨bb, 4, none⟩ (.bool true)) := Kg.of_set hW.base rfl
  refine ⟨⟨hW.cell4, frozen_of_row w bb 4 _ _ hW.box⟩, ⟨_, sv, bv, xs, ks.since hW.below rfl, hW.base, hW.baseM, ?_, ks.own hW.parts id (fun g hg e => hW.ne_row hW.parts (by decide) (e ▸ hg)), ks.own hW.sets id (fun g hg e => hW.ne_row hW.sets (by decide) (e ▸ hg)), hW.row, ks.own hW.bare id (fun g hg e => hW.ne_row hW.bare (by decide) (e ▸ hg)), hW.map.nodup, hW.map.wf, ?_⟩, ks⟩
  · have := heap_setCell_same w bb 4 _ 58 (.bool true) hW.box
    simpa using this
  · obtain ⟨D, h1, h2⟩ := hW.map.map
    exact ⟨D, ks.map h1 (fun e => hW.ne e.symm), h2⟩
theorem wk_full (h : WAt w0 bb M wb Mw c W w) : WAt w0 bb M wb Mw c { W with b := { W.b with full := true } } (w.setCell ⟨bb, 4, none⟩ (.bool true)) ∧ Km w0 bb wb Mw w (w.setCell ⟨bb, 4, none⟩ (.bool true)) := by
  obtain ⟨wv, lv, h⟩ := h
  obtain ⟨_, h1, h2⟩ := book_full h.book
  exact ⟨⟨wv, lv, h.kb h1 (h2.mono (fun _ _ h => .inl h) (fun _ h => h.elim))⟩, h2.mono (fun _ _ h => .inl h) (fun _ h => h.elim)⟩

set_option maxRecDepth 100000 in
set_option maxHeartbeats 4000000 in
theorem meet_full (h : WAt w0 bb M wb Mw c W w) {p q : Nat} (hs : WfS (p, q)) (hm : (p, q) ∉ W.met) (hl : W.met.length = 12288) :
    Calls Tryz.prog 55 #[.pointer (some ⟨wb, 0, none⟩), .int .i64 (p : Nat), .int .i64 (q : Nat)] w (WOut w0 bb M wb Mw c { W with b := { W.b with full := true } } (Km w0 bb wb Mw) w) := by
  have HW := Lib.hid h
  obtain ⟨wv, lv, h⟩ := h
  have HB := Lib.hid h
  have c2 := h.cell2
  have c0 := h.cell0
  have hlt := h.lt
  have BW := Lib.hid (fun o => (Below.refl w.heap.size w).alloc (Nat.le_refl _) o)
  have hbd : Below w.heap.size w (w.alloc (.cells #[.int .i64 (p : Nat), .int .i64 (q : Nat)] 100)).drew := (BW.out _).trans ((Rg.below_drewN _ 1).mono (by simp))
  have hbe : Below w.heap.size w ((w.alloc (.cells #[.int .i64 (p : Nat), .int .i64 (q : Nat)] 100)).alloc (.cells #[] 115)).drew := (BW.out _).trans ((((Below.refl _ _).alloc (Nat.le_refl _) _).trans ((Rg.below_drewN _ 1).mono (by simp))).mono (by simp))
  have HBE := Lib.hid hbe
  have hL := look_spot ((h.next hbd).met) hs
  have hL2 := look_spot ((h.next hbe).met) hs
  rw [decide_eq_false hm] at hL hL2
  unfold aggS at hL hL2
  dsimp only at hL hL2
  obtain ⟨D, hown, _, hsize⟩ := (h.next hbe).met.map
  have F := Lib.hid (wk_full ⟨wv, lv, h.next hbe⟩)
  have d0 := (h.next hbe).cell0
  have d2 := (h.next hbe).cell2
  obtain ⟨⟨c4, fz⟩, _⟩ := book_full (h.next hbe).book
  rw [hl] at hown hsize
  have hbb : bb < w.heap.size := by
    obtain ⟨_, _, _, _, hb⟩ := h.book
    exact hb.lt
  clear h hm hs hbd hbe hl
  go_enter Tryz.func55, Tryz.ntmps55
  go_wp2
  go_region_held3 (fun X => X.cell? ⟨wb, 2, none⟩ = some (.map (some Mw)) ∧ X.cell? ⟨w.heap.size, 0, none⟩ = some (.int .i64 (p : Nat)) ∧ X.cell? ⟨w.heap.size, 1, none⟩ = some (.int .i64 (q : Nat))) (first | exact ⟨by assumption, by assumption, by assumption⟩ | go_keep)
    (first | fail)
  all_goals (
    generalize ((w.alloc (.cells #[.int .i64 (p : Nat), .int .i64 (q : Nat)] 100)).alloc (.cells #[] 115)).drew = X1 at *
    clear hL hL2
    go_wp2_with (at_len; refine wpList_len_own _ rfl _ 94 rfl 100 115 Tryz.underlying94 _ Mw 12288 D rfl hown ?_; rw [hsize])
    go_end0
    exact ⟨rfl, F.out.1, (Kg.of_below HBE.out).trans F.out.2⟩)

/-- a spot is in the set, and then among those that wait -/
theorem wk_new {X Y Z : World} {wv lv : Value} {s : Sp} {g cap : Nat} (h : WkAt w0 bb M wb Mw c W wv lv X) (hY : Spots Mw (W.met ++ [s]) Y) (k : Kg w0.heap.size (fun k => k = Mw) (fun _ => False) X Y) {Y' : World} (hb : Below Y.heap.size Y Y')
    (hown : Z.ownsRow w0.heap.size 100 2 (.slice (some ⟨g, 0, none⟩) (W.wait.length + 1) cap) (W.wait.length + 1) (flatS W.wait ++ cellsS s)) (hg : Y'.grownBy Z wv.ownBlock) :
    (Z.cell? ⟨wb, 3, none⟩ = some wv ∧ Z.frozen? ⟨wb, 3, none⟩ = false) ∧
    WAt w0 bb M wb Mw c { W with met := W.met ++ [s], wait := W.wait ++ [s] } (Z.setCell ⟨wb, 3, none⟩ (.slice (some ⟨g, 0, none⟩) (W.wait.length + 1) cap)) ∧
    Km w0 bb wb Mw X (Z.setCell ⟨wb, 3, none⟩ (.slice (some ⟨g, 0, none⟩) (W.wait.length + 1) cap)) := by
  obtain ⟨pv, sv, bv, xs, hbk⟩ := h.book
  have kY : Kg w0.heap.size (fun k => k = Mw) (fun _ => False) X Y' := k.trans (Kg.of_below hb)
  have hM := hbk.ne
  have hrow : ∀ {e : TypeId} {s m : Nat} {v : Value} {ys : List Value}, X.ownsRow w0.heap.size e s v m ys → ∀ g, v.ownBlock = some g → ¬ g = Mw := fun hr g hv e => by
    obtain ⟨D, h1, _⟩ := h.met.map
    exact map_ne_row h1 hr (e ▸ hv)
  have bookY : BkAt w0 bb M W.b pv sv bv xs Y' := hbk.keep kY rfl (fun e => h.bbMw e) (fun e => h.ne e.symm) (fun _ _ => id) (fun g hg => by
    rcases hg with hg | hg | hg
    · exact hrow hbk.parts g hg
    · exact hrow hbk.sets g hg
    · exact hrow hbk.bare g hg)
  have waitY := kY.own h.wait id (hrow h.wait)
  have leftY := kY.own h.left id (hrow h.left)
  have boxY := kY.heap h.box (fun e => h.bneMw e) (fun _ _ _ _ => id)
  have metY : Spots Mw (W.met ++ [s]) Y' := hY.kg (Kg.of_below hb : Kg 0 (fun _ => False) (fun _ => False) Y Y') id
  have kZ : Kg w0.heap.size (fun _ => False) (fun t => t = 100) Y' Z := Kg.of_grown hg fun g hv => by
    obtain ⟨h1, cs, hh⟩ := row_block waitY hv
    exact ⟨h1, .inr ⟨cs, _, _, hh, rfl⟩⟩
  have boxZ := kZ.heap boxY id (fun _ _ _ e => by cases e; decide)
  have kS : Kg w0.heap.size (fun k => k = wb) (fun _ => False) Z (Z.setCell ⟨wb, 3, none⟩ (.slice (some ⟨g, 0, none⟩) (W.wait.length + 1) cap)) := Kg.of_set h.base rfl
  have bookZ : BkAt w0 bb M W.b pv sv bv xs Z := bookY.keep kZ rfl id id (fun t ht e => by subst e; rcases ht with (h | h | h) | h <;> exact absurd h (by decide)) (fun _ _ => id)
  have leftZ := kZ.own leftY (by decide) (fun _ _ => id)
  have metZ := metY.kg kZ id
  have hbox := heap_setCell_same Z wb 3 _ 97 (.slice (some ⟨g, 0, none⟩) (W.wait.length + 1) cap) boxZ
  have hz : ∀ {e : TypeId} {s m : Nat} {v : Value} {ys : List Value}, Z.ownsRow w0.heap.size e s v m ys → e ≠ 97 → ∀ g, v.ownBlock = some g → ¬ g = wb := fun hr he g hv e => by
    obtain ⟨_, cs, hh⟩ := row_block hr hv
    rw [e, boxZ] at hh
    simp only [Option.some.injEq, Obj.cells.injEq] at hh
    exact he hh.2.1.symm
  refine ⟨⟨by simp [World.cell?, boxZ], frozen_of_row Z wb 3 _ _ boxZ⟩, ⟨_, lv, ⟨⟨pv, sv, bv, xs, bookZ.keep kS rfl (fun e => h.bne e.symm) (fun e => h.bneM e.symm) (fun _ _ => id) (fun g hg => ?_)⟩, h.base, h.baseM, h.ne, by simpa using hbox, ?_, kS.own leftZ id (hz leftZ (by decide)), metZ.kg kS (fun e => h.bneMw e.symm)⟩⟩, ?_⟩
  · rcases hg with hg | hg | hg
    · exact hz bookZ.parts (by decide) g hg
    · exact hz bookZ.sets (by decide) g hg
    · exact hz bookZ.bare (by decide) g hg
  · have := kS.own hown id (hz hown (by decide))
    rw [← flatS_snoc] at this
    simpa using this
  · exact ((kY.mono (fun _ _ h => .inr (.inr h)) (fun _ h => h.elim)).trans (kZ.mono (fun _ _ h => h.elim) (fun _ h => h))).trans (kS.mono (fun _ _ h => .inr (.inl h)) (fun _ h => h.elim))

set_option maxRecDepth 100000 in
set_option maxHeartbeats 8000000 in
theorem meet_new (h : WAt w0 bb M wb Mw c W w) {p q : Nat} (hs : WfS (p, q)) (hm : (p, q) ∉ W.met) (hl : W.met.length < 12288) (hwl : W.wait.length ≤ W.met.length) :
    Calls Tryz.prog 55 #[.pointer (some ⟨wb, 0, none⟩), .int .i64 (p : Nat), .int .i64 (q : Nat)] w (WOut w0 bb M wb Mw c { W with met := W.met ++ [(p, q)], wait := W.wait ++ [(p, q)] } (Km w0 bb wb Mw) w) := by
  obtain ⟨i0, hi, hz0, hz1, hz2⟩ := info_parts infoSp
  obtain ⟨wv, lv, h⟩ := h
  have c2 := h.cell2
  have hlt := h.lt
  have BW := Lib.hid (fun o => (Below.refl w.heap.size w).alloc (Nat.le_refl _) o)
  have hbd : Below w.heap.size w (w.alloc (.cells #[.int .i64 (p : Nat), .int .i64 (q : Nat)] 100)).drew := (BW.out _).trans ((Rg.below_drewN _ 1).mono (by simp))
  have hbe : Below w.heap.size w ((w.alloc (.cells #[.int .i64 (p : Nat), .int .i64 (q : Nat)] 100)).alloc (.cells #[] 115)).drew := (BW.out _).trans ((((Below.refl _ _).alloc (Nat.le_refl _) _).trans ((Rg.below_drewN _ 1).mono (by simp))).mono (by simp))
  have HBE := Lib.hid hbe
  have hL := look_spot ((h.next hbd).met) hs
  have hL2 := look_spot ((h.next hbe).met) hs
  rw [decide_eq_false hm] at hL hL2
  unfold aggS at hL hL2
  dsimp only at hL hL2
  have hX := h.next hbe
  obtain ⟨D, hown, hhas, hsize⟩ := hX.met.map
  have HWF := Lib.hid hX.met.wf
  have HX := Lib.hid hX
  have d2 := hX.cell2
  have d3 := hX.cell3
  have s0 : ((w.alloc (.cells #[.int .i64 (p : Nat), .int .i64 (q : Nat)] 100)).alloc (.cells #[] 115)).drew.cell? ⟨w.heap.size, 0, none⟩ = some (.int .i64 (p : Nat)) := by simp
  have s1 : ((w.alloc (.cells #[.int .i64 (p : Nat), .int .i64 (q : Nat)] 100)).alloc (.cells #[] 115)).drew.cell? ⟨w.heap.size, 1, none⟩ = some (.int .i64 (q : Nat)) := by simp
  have hsX : w.heap.size < ((w.alloc (.cells #[.int .i64 (p : Nat), .int .i64 (q : Nat)] 100)).alloc (.cells #[] 115)).drew.heap.size := cell_lt s0
  have hT := hown.tidy lawS
  have hkey := key_mkS hs
  have hh : Maps.has D (ks (p, q)) = false := by rw [← Bool.not_eq_true, hhas _ hs]; exact hm
  have hne : ((W.met.length : Int) == 12288) = false := by simp; omega
  have HHAS := Lib.hid hhas
  have HS := Lib.hid hs
  have hlM := h.met.lt
  have hbase := h.base
  have hbaseM := h.baseM
  have hw0 := h.since.size
  obtain ⟨n, hn⟩ : ∃ n, n = W.met.length := ⟨_, rfl⟩
  rw [← hn] at hne hown hsize hl hwl
  have HN := Lib.hid hn
  have HSZ := Lib.hid hsize
  unfold aggS at hkey
  dsimp only at hkey
  clear h hm hs hbd hbe hX hhas hn
  go_enter Tryz.func55, Tryz.ntmps55
  go_wp2
  go_region_held3 (fun X => X.cell? ⟨wb, 2, none⟩ = some (.map (some Mw)) ∧ X.cell? ⟨w.heap.size, 0, none⟩ = some (.int .i64 (p : Nat)) ∧ X.cell? ⟨w.heap.size, 1, none⟩ = some (.int .i64 (q : Nat))) (first | exact ⟨by assumption, by assumption, by assumption⟩ | go_keep)
    (first | fail)
  all_goals (
    generalize ((w.alloc (.cells #[.int .i64 (p : Nat), .int .i64 (q : Nat)] 100)).alloc (.cells #[] 115)).drew = X1 at *
    clear hL hL2
    go_wp2_with (at_len; refine wpList_len_own _ rfl _ 94 rfl 100 115 Tryz.underlying94 _ Mw n D rfl hown ?_; rw [hsize])
    obtain ⟨w3, hrun, hown3, hturn⟩ := ((Kg.of_below (Rg.below_drewN X1 1) : Kg 0 (fun _ => False) (fun _ => False) X1 X1.drew).map hown id).store lawS Tryz.underlying94 (by unfold maxLen; omega) hkey (unitElem_mk (H := Unit))
    have k3 : Kg w0.heap.size (fun k => k = Mw) (fun _ => False) X1.drew w3 := Kg.of_turned hturn hbaseM rfl
    have kk : Kg w0.heap.size (fun k => k = Mw) (fun _ => False) X1 w3 := (Kg.of_below (Rg.below_drewN X1 1)).trans k3
    have K3 := Lib.hid kk
    have e2 := kk.cell d2 (fun e => HX.out.bneMw e) (fun _ _ _ _ h => h)
    have e3 := kk.cell d3 (fun e => HX.out.bneMw e) (fun _ _ _ _ h => h)
    have hwM : ¬ w.heap.size = Mw := by omega
    have t0 := kk.cell s0 hwM (fun _ _ _ _ h => h)
    have t1 := kk.cell s1 hwM (fun _ _ _ _ h => h)
    have SP := Lib.hid (spots_put HWF.out HS.out hT hh HHAS.out (HSZ.out.trans HN.out) (HN.out ▸ hown3))
    have hwX : w0.heap.size ≤ w3.heap.size := by have := kk.size; omega
    have hwX3 : w.heap.size < w3.heap.size := by have := kk.size; omega
    clear hturn hown3 k3 kk hT hh
    go_region_held3 (fun X => X.cell? ⟨wb, 2, none⟩ = some (.map (some Mw)) ∧ X.cell? ⟨w.heap.size, 0, none⟩ = some (.int .i64 (p : Nat)) ∧ X.cell? ⟨w.heap.size, 1, none⟩ = some (.int .i64 (q : Nat))) (first | exact ⟨by assumption, by assumption, by assumption⟩ | go_keep)
      (first | fail)
    clear hrun d2 d3 s0 s1 e2 hown hsize
    go_wp2
    have hbn : ∀ o, Below w3.heap.size w3 (w3.alloc o).drew := fun o => ((Below.refl w3.heap.size w3).alloc (Nat.le_refl _) o).trans (below_drew _)
    have HBN := Lib.hid hbn
    have pA : ∀ (cs : Array Value) (t : TypeId), (w3.alloc (.cells cs t)).cell? ⟨wb, 3, none⟩ = some wv := fun cs t => cell_next e3 ((Below.refl _ _).alloc (Nat.le_refl _) _)
    have hwb3 := cell_lt e3
    have HWT := Lib.hid (K3.out.own HX.out.wait id (fun g hv e => by obtain ⟨D', h1, _⟩ := HX.out.met.map; exact map_ne_row h1 HX.out.wait (e ▸ hv)))
    clear hbn
    go_region_law (refine step_append_lies _ rfl (.tmp 44) (.tmp 46) 95 rfl w0.heap.size 100 i0 (.agg #[.int .i64 0, .int .i64 0]) 2 16 Tryz.underlying95 hi hz0 hz1 hz2 rfl (by decide) wv W.wait.length (flatS W.wait) rfl (own_next HWT.out (HBN.out _)) ⟨w3.heap.size, 0, none⟩ 1 1 [.int .i64 (p : Nat), .int .i64 (q : Nat)] rfl rfl (World.news_of_block (World.alloc_heap_new w3 _)) (by simp [Value.oneCell']) (by decide) (by unfold maxLen; omega) (by omega) (by simp; omega) _ rfl ?_; intro g cap2 w5 hown5 hg5 hat5 _; go_must (obtain ⟨⟨y1, y2⟩, y3, y4⟩ := wk_new (s := (p, q)) HX.out SP.out K3.out (HBN.out _) hown5 hg5; have Y3 := Lib.hid y3; have Y4 := Lib.hid y4; clear y3 y4 hown5 hg5 hat5))
    all_goals (
      go_wp2
      go_end0
      exact ⟨rfl, Y3.out, (Kg.of_below HBE.out).trans Y4.out⟩))
end

end Go.Proofs.YtjmdlioakkibcaaGreatDoor.Dv

/- The walk as a whole: the program's spread. -/
import Derived.Test.YtbkafoaoddajoaaGreatDoorPk08
import Derived.Deep.LoopGhost

namespace Go.Proofs.YtbkafoaoddajoaaGreatDoor.Dv
open Go Go.RowKit Go.Shelf Go.Maps
open Go.Proofs.YtbkafoaoddajoaaGreatDoor.Ar (timesB Nd nd nodeB nodeB_ways NRow cellsN aggN flatN Book WfN Wf NodeAt node_new nodes_of_row)
open Go.Proofs.YtbkafoaoddajoaaGreatDoor.Rg (R RngsAt RowsAt nthL add_zero own_next has_any inB)
section
variable {w0 w : World} {bb M wb Mw : Nat} {c : Int} {W : Wk} {B : Bk} {lv : Value} {l : List Nat}

/-- a way, in memory -/
def WayAt (w0 : World) (bb M : Nat) (w : World) (p : Bk × List Nat) (e : Ending) (w' : World) : Prop := ∃ v, e = .returned v ∧ RowI w' v p.2 ∧ BookAt w0 bb M p.1 w' ∧ Kg w0.heap.size (Ub bb M) Tw w w'
theorem RowI.cellI {ao : Option Addr} {n cap : Nat} (h : RowI w (.slice ao n cap) l) {k : Nat} (hk : k < l.length) : ∃ g, ao = some g ∧ w.cell? (g.add k) = some (.int .i64 (l.getD k 0 : Nat)) := by
  obtain ⟨ao', cap', he, _, h2⟩ := h.at'
  simp only [Value.slice.injEq] at he
  obtain ⟨rfl, rfl, rfl⟩ := he
  exact h2 k hk
theorem RowI.below {w' : World} (h : RowI w lv l) (hb : Below w.heap.size w w') : RowI w' lv l := h.kg (Kg.of_below hb : Kg 0 (fun _ => False) (fun _ => False) w w') id (fun _ _ => id)
theorem RowI.lt (h : RowI w lv l) {g : Nat} (hg : lv.ownBlock = some g) : g < w.heap.size := by
  rcases h with ⟨rfl, _⟩ | ⟨g', cap, cs, rfl, _, h2, _⟩
  · cases hg
  · simp only [Value.ownBlock, Option.some.injEq] at hg
    exact hg ▸ (Array.getElem?_eq_some_iff.1 h2).1
/-- a walk that begins -/
theorem walk_new (h : BookAt w0 bb M B w) (c : Int) : WAt w0 bb M (w.heap.size + 1) w.heap.size c (begin' B []) ((w.alloc (.map #[] 0)).alloc (.cells #[.pointer (some ⟨bb, 0, none⟩), .int .i64 c, .map (some w.heap.size), .slice none 0 0, .slice none 0 0] 97)) := by
  have b1 := (Below.refl w.heap.size w).alloc (Nat.le_refl _) (.map #[] 0)
  have b2 := (Below.refl (w.alloc (.map #[] 0)).heap.size _).alloc (Nat.le_refl _) (.cells #[.pointer (some ⟨bb, 0, none⟩), .int .i64 c, .map (some w.heap.size), .slice none 0 0, .slice none 0 0] 97)
  have hM : M < w.heap.size := by obtain ⟨_, _, _, _, hb⟩ := h; exact hb.ltM
  have h0 : w0.heap.size ≤ w.heap.size := by obtain ⟨_, _, _, _, hb⟩ := h; exact hb.below.size
  have hs : (w.alloc (.map #[] 0)).heap.size = w.heap.size + 1 := by simp
  refine ⟨_, _, ⟨?_, by omega, h0, by omega, ?_, ⟨rfl, .inl ⟨rfl, rfl⟩⟩, ⟨rfl, .inl ⟨rfl, rfl⟩⟩, (spots_new w).kg (Kg.of_below b2 : Kg 0 (fun _ => False) (fun _ => False) _ _) id⟩⟩
  · have : BookAt w0 bb M B (w.alloc (.map #[] 0)) := by obtain ⟨_, _, _, _, hb⟩ := h; exact ⟨_, _, _, _, hb.next b1⟩
    obtain ⟨_, _, _, _, hb⟩ := this
    exact ⟨_, _, _, _, hb.next b2⟩
  · rw [← hs]
    exact World.alloc_heap_new _ _

theorem runs_stop {V : Wk} (h : stop V = true) : ∀ k, runs c k V = V
  | 0 => rfl
  | k + 1 => by unfold runs; rw [if_pos h]
theorem runs_next {V : Wk} (h : stop V = false) (k : Nat) : runs c (k + 1) V = runs c k (step c V) := by
  show (if stop V = true then V else runs c k (step c V)) = _
  rw [if_neg (by simp [h])]
theorem meas_pos {V : Wk} (h : stop V = false) : 0 < meas V := by
  have : 0 < V.wait.length := List.length_pos_iff.2 (stop_false h).1
  unfold meas; omega
/-- the end of a walk, in memory -/
theorem fin_any {ws : World} (h : WAt w0 bb M wb Mw c W w) (hr : Room W) (hm : W.met.length ≤ 12288) (hB : Kw w0 bb M wb Mw ws w) (hwb : ws.heap.size ≤ wb) (hMw : ws.heap.size ≤ Mw) :
    ∃ lv, w.cell? ⟨wb, 4, none⟩ = some lv ∧ Calls Tryz.prog 57 #[lv] w fun e w1 => e = .returned (.tuple #[]) ∧ w1.cell? ⟨wb, 4, none⟩ = some lv ∧
      Calls Tryz.prog 58 #[lv] w1 (WayAt w0 bb M ws (W.b, tidy W.left)) := by
  obtain ⟨wv, lv, h⟩ := h
  have hlen : (castL W.left).length = W.left.length := by simp [castL]
  have hle : (castL W.left).length ≤ 1000000 := by unfold Room at hr; omega
  have hown := h.left
  rw [← hlen] at hown
  refine ⟨lv, h.cell4, (sort_row hown hle).mono ?_⟩
  rintro e w1 ⟨rfl, h1, h2⟩
  have kg : ∀ {X Y : World} {zs : List Int}, X.ownsRow w0.heap.size 3 1 lv zs.length (zs.map (Value.int .i64)) → X.grownBy Y lv.ownBlock → Kg w0.heap.size (fun _ => False) (fun t => t = 3) X Y := fun ho hg => Kg.of_grown hg fun g hv => by
    obtain ⟨a, cs, b⟩ := row_block ho hv
    exact ⟨a, .inr ⟨cs, _, _, b, rfl⟩⟩
  have k1 := kg hown h2
  have hsl : ((castL W.left).mergeSort fun x y => decide (x ≤ y)).length = (castL W.left).length := List.length_mergeSort _
  rw [← hsl] at h1
  refine ⟨rfl, ?_, (compact_row h1 (by omega)).mono ?_⟩
  · exact k1.cell h.cell4 id (fun cs t fz e => by
      have := h.box
      rw [e] at this
      simp only [Option.some.injEq, Obj.cells.injEq] at this
      rw [this.2.1]; decide)
  rintro e w2 ⟨v, rfl, h3, h4⟩
  have k2 := kg h1 h4
  have kk := k1.trans k2
  refine ⟨v, rfl, ?_, ?_, (hB.trans (kk.mono (fun _ _ h => h.elim) (fun _ h => .inr (.inr h)))).mono (fun k hk hU => ?_) (fun _ h => h)⟩
  · have e1 : castL (tidy W.left) = Lib.compact ((castL W.left).mergeSort fun x y => decide (x ≤ y)) := cast_tidy W.left
    rw [← e1] at h3
    have e2 : (castL (tidy W.left)).length = (tidy W.left).length := by simp [castL]
    rw [e2] at h3
    exact RowI.own h3
  · obtain ⟨pv, sv, bv, xs, hb⟩ := h.book
    exact ⟨pv, sv, bv, xs, hb.keep kk rfl id id (fun t ht e => by subst e; rcases ht with (h | h | h) | h <;> exact absurd h (by decide)) (fun _ _ => id)⟩
  · rcases hU with h | h | h | h
    · exact .inl h
    · exact .inr h
    · omega
    · omega
theorem WkAt.waitShape {wv lv : Value} (h : WkAt w0 bb M wb Mw c W wv lv w) (h0 : W.wait = []) : ∃ ao cap, wv = .slice ao 0 cap := by
  rcases h.wait.2 with ⟨rfl, _⟩ | ⟨g, cap, cur, rfl, _⟩
  · exact ⟨_, _, rfl⟩
  · exact ⟨_, _, by rw [h0]; rfl⟩

theorem enters_w (op : Int) : Enters Tryz.prog (kindW op) := by
  unfold kindW
  split
  · exact enters_of Tryz.func70 (by kernel_rfl) rfl
  · split
    · exact enters_of Tryz.func71 (by kernel_rfl) rfl
    · split
      · exact enters_of Tryz.func72 (by kernel_rfl) rfl
      · split
        · exact enters_of Tryz.func73 (by kernel_rfl) rfl
        · exact enters_of Tryz.func69 (by kernel_rfl) rfl
theorem set_cell {X : World} {k o : Nat} {b : Addr} {u v : Value} (h : X.cell? b = some v) (hn : b.block ≠ k) : (X.setCell ⟨k, o, none⟩ u).cell? b = some v :=
  (Kg.of_set (N0 := 0) (U := fun x => x = k) (T := fun _ => False) (Nat.zero_le _) rfl).cell h hn (fun _ _ _ _ h => h)

set_option maxRecDepth 100000 in
set_option maxHeartbeats 16000000 in
theorem spread_any (h : BookAt w0 bb M B w) (g : Good B) (hr : RowI w lv l) (hl : ∀ x, x ∈ l → x < B.parts.length) :
    Calls Tryz.prog 38 #[.pointer (some ⟨bb, 0, none⟩), lv, .int .i64 c] w (WayAt w0 bb M w (spreadF B l c)) := by
  obtain ⟨ao, cap, rfl, hm, _⟩ := hr.at'
  have hbk := h
  obtain ⟨pv, sv, bv, xs, hb⟩ := hbk
  have hne : ∀ g, (Value.slice ao l.length cap).ownBlock = some g → ¬ Um bb (w.heap.size + 1) w.heap.size g := fun k hk e => by
    have h1 := hr.lt hk
    rcases e with e | e | e
    · exact hr.ne hb.box (fun _ _ e => by cases e) hk e
    · omega
    · omega
  have hbb := hb.lt
  have hw0 := hb.below
  have W0 := Lib.hid (walk_new h c)
  have b2 : Below w.heap.size w ((w.alloc (.map #[] 0)).alloc (.cells #[.pointer (some ⟨bb, 0, none⟩), .int .i64 c, .map (some w.heap.size), .slice none 0 0, .slice none 0 0] 97)) := ((Below.refl w.heap.size w).alloc (Nat.le_refl _) _).alloc (by simp) _
  have R0 := Lib.hid (hr.below b2)
  have B0 := Lib.hid (Kg.of_below b2 : Kw w0 bb M (w.heap.size + 1) w.heap.size w _)
  have BG := Lib.hid (fun k => begin_ok g (l := l.take k) (fun x hx => hl x (List.mem_of_mem_take hx)))
  have CM := Lib.hid (fun (X : World) (k : Nat) (hX : WAt w0 bb M (w.heap.size + 1) w.heap.size c (begin' B (l.take k)) X) (hk : k < l.length) => (show Calls Tryz.prog 55 #[.pointer (some ⟨w.heap.size + 1, 0, none⟩), .int .i64 (l.getD k 0 : Nat), .int .i64 1] X (WOut w0 bb M (w.heap.size + 1) w.heap.size c (meet (begin' B (l.take k)) (l.getD k 0) 1) (Km w0 bb (w.heap.size + 1) w.heap.size) X) from
    meet_any hX (BG.out k).1 (by have := (BG.out k).2.1; unfold Room at this; omega) (p := l.getD k 0) (q := 1) (by rw [(BG.out k).2.2]; exact hl _ (by simp [List.getD, hk])) (by rw [(BG.out k).2.2]; exact g.two)))
  have HNE := Lib.hid hne
  have hW : ∀ x, x = runs c (meas (begin' B l)) (begin' B l) → spreadF B l c = (x.b, tidy x.left) := fun x hx => by rw [hx]; rfl
  have HW := Lib.hid hW
  clear hr hl hb h hne hW b2 hw0
  have hmm := @run_makeMap Tryz.prog
  go_enter Tryz.func38, Tryz.ntmps38
  go_wp2
  go_loopg [19] l.length (fun g i wr => ∃ k : Nat, i = .int .i64 k ∧ k ≤ l.length ∧ g = l.length - k ∧ WAt w0 bb M (w.heap.size + 1) w.heap.size c (begin' B (l.take k)) wr ∧ RowI wr (.slice ao l.length cap) l ∧ Kw w0 bb M (w.heap.size + 1) w.heap.size w wr)
  case atStart => exact ⟨0, rfl, by omega, rfl, W0.out, R0.out, B0.out⟩
  case round =>
    clear hmm
    obtain ⟨k, rfl, hk, hg, hX, hrow, hbel⟩ := hrel
    have HX := Lib.hid hX
    have HR := Lib.hid hrow
    have HB := Lib.hid hbel
    have hw0 := hbel.size
    clear hX hrow hbel
    by_cases hlt : k < l.length
    · obtain ⟨g0, rfl⟩ : ∃ g0, gk = g0 + 1 := ⟨gk - 1, by omega⟩
      obtain ⟨ga, rfl, c1⟩ := HR.out.cellI hlt
      have n1 : (k : Int) < l.length := by omega
      have C := Lib.hid (CM.out wr k HX.out hlt)
      have HS := Lib.hid (begin_snoc B l hlt)
      generalize l.getD k 0 = x at *
      go_wp2_with (first
        | (go_at_call 55; (with_reducible refine C.out.mono ?_); rintro e w1 ⟨rfl, h1, k1⟩; go_must (have H1 := Lib.hid h1; have K1 := Lib.hid k1; clear h1 k1))
        | fail)
      go_roundg g0
      case rel => exact ⟨k + 1, by go_num, by omega, by omega, HS.out ▸ H1.out, HR.out.kg K1.out (by decide) HNE.out, HB.out.trans K1.out.kw⟩
      case measure => omega
    · obtain rfl : k = l.length := by omega
      have hX := HX.out
      rw [List.take_length] at hX
      have HV := Lib.hid hX
      clear hX HX CM
      have H0 := BG.out l.length
      rw [List.take_length] at H0
      have HG := Lib.hid H0
      clear H0 BG
      go_wp2
      go_loopg [] (meas (begin' B l)) (fun g wr => ∃ V, WAt w0 bb M (w.heap.size + 1) w.heap.size c V wr ∧ WkOk V ∧ Room V ∧ meas V ≤ g ∧ runs c g V = runs c (meas (begin' B l)) (begin' B l) ∧ Kw w0 bb M (w.heap.size + 1) w.heap.size w wr)
      case atStart => exact ⟨_, HV.out, HG.out.1, HG.out.2.1, Nat.le_refl _, rfl, HB.out⟩
      case round =>
        obtain ⟨V, hV, hok, hroom, hmeas, hruns, hbel⟩ := hrel
        have HK := Lib.hid hok
        have HRM := Lib.hid hroom
        have HBL := Lib.hid hbel
        have hw1 := hbel.size
        by_cases hst : stop V = true
        · rw [runs_stop hst] at hruns
          obtain ⟨fv, c4, hfin⟩ := fin_any hV hroom hok.many hbel (by omega) (Nat.le_refl _)
          rw [← HW.out V hruns] at hfin
          have FIN := Lib.hid hfin
          obtain ⟨wv, lv, hV⟩ := hV
          have c3 := hV.cell3
          have c0 := hV.cell0
          by_cases hwt : V.wait = []
          · obtain ⟨wo, wc, rfl⟩ := hV.waitShape hwt
            clear hV hruns hfin hok hroom hbel hmeas hst hwt
            go_wp2_with (first
              | (go_at_call 57; (with_reducible refine FIN.out.mono ?_); rintro e w1 ⟨rfl, d4, hc⟩; go_must (have HC := Lib.hid hc; clear hc))
              | (go_at_call 58; (with_reducible refine HC.out.mono ?_); rintro e w2 ⟨v, rfl, hw⟩; go_must (have HW2 := Lib.hid hw; clear hw))
              | fail)
            try rw [Exit.noGoto_ret]
            go_ret
            exact ⟨v, rfl, HW2.out⟩
          · obtain ⟨m, hm'⟩ : ∃ m, V.wait.length = m + 1 := ⟨V.wait.length - 1, by have := List.length_pos_iff.2 hwt; omega⟩
            obtain ⟨gw, wcap, rfl, hc1, hc2, s0, s1⟩ := hV.lastS hm'
            have hfull : V.b.full = true := by
              have : V.wait.isEmpty = false := by simp [hwt]
              rw [stop, this, Bool.false_or] at hst
              exact hst
            obtain ⟨pv', sv', bv', xs', hb'⟩ := hV.book
            have b4 := hb'.cell4
            rw [hfull] at b4
            have n1 : (0 : Int) < (m : Int) + 1 := by omega
            have n2 : ((m : Int) + 1 > 0) = True := eq_true (by omega)
            have n3 : decide ((0 : Int) < (m : Int) + 1) = true := decide_eq_true (by omega)
            clear hV hruns hfin hok hroom hbel hmeas hst hwt hb' hfull hm' s0 s1
            go_wp2_with (first
              | (go_at_call 57; (with_reducible refine FIN.out.mono ?_); rintro e w1 ⟨rfl, d4, hc⟩; go_must (have HC := Lib.hid hc; clear hc))
              | (go_at_call 58; (with_reducible refine HC.out.mono ?_); rintro e w2 ⟨v, rfl, hw⟩; go_must (have HW2 := Lib.hid hw; clear hw))
              | fail)
            try rw [Exit.noGoto_ret]
            go_ret
            exact ⟨v, rfl, HW2.out⟩
        · rw [Bool.not_eq_true] at hst
          obtain ⟨g0, rfl⟩ : ∃ g0, gk = g0 + 1 := ⟨gk - 1, by have := meas_pos hst; omega⟩
          rw [runs_next hst] at hruns
          have HRU := Lib.hid hruns
          obtain ⟨hwt, hfull⟩ := stop_false hst
          obtain ⟨m, hm'⟩ : ∃ m, V.wait.length = m + 1 := ⟨V.wait.length - 1, by have := List.length_pos_iff.2 hwt; omega⟩
          have hsp := step_past (c := c) hok hst
          have SP := Lib.hid hsp
          have hdone : meas (step c V) ≤ g0 := by have := hsp.2; omega
          have hrs := step_room (c := c) hroom hst
          have hlast := hok.met _ (hok.wait _ (last_mem hwt).1)
          obtain ⟨wv, lv, hV⟩ := hV
          obtain ⟨gw, wcap, rfl, hc1, hc2, s0, s1⟩ := hV.lastS hm'
          obtain ⟨pv', sv', bv', xs', hb'⟩ := hV.book
          have b4 := hb'.cell4
          rw [hfull] at b4
          have c0 := hV.cell0
          have c3 := hV.cell3
          have n1 : (0 : Int) < (m : Int) + 1 := by omega
          have n3 : decide ((0 : Int) < (m : Int) + 1) = true := decide_eq_true (by omega)
          have HV1 := Lib.hid hV
          have hlt0 := hV.lt
          have HM := Lib.hid hm'
          have hpop := (hV.next ((Below.refl wr.heap.size wr).alloc (Nat.le_refl _) (.cells #[.int .i64 ((lastW V).1 : Nat), .int .i64 ((lastW V).2 : Nat)] 100))).pop hm'
          have PF := Lib.hid hpop
          have CP := Lib.hid (fun X (hX : WAt w0 bb M (w.heap.size + 1) w.heap.size c { V with wait := V.wait.dropLast } X) => (show Calls Tryz.prog (kindW (nd V.b.parts (lastW V).1).op) #[.pointer (some ⟨w.heap.size + 1, 0, none⟩), aggN (nd V.b.parts (lastW V).1), .int .i64 ((lastW V).2 : Nat)] X (WOut w0 bb M (w.heap.size + 1) w.heap.size c (step c V) (Kw w0 bb M (w.heap.size + 1) w.heap.size) X) from
            pastM_any hX (popped_ok hok) (by show V.left.length + V.wait.dropLast.length + 1 ≤ V.met.length; have hroom' : V.left.length + V.wait.length ≤ V.met.length := hroom; rw [List.length_dropLast]; omega) hlast.1 rfl hlast.2))
          have hplt : (lastW V).1 < V.b.parts.length := hlast.1
          have hE : ∀ (args : Array Value) (w : World), (callFunc (kindW (nd V.b.parts (lastW V).1).op) args).run Tryz.prog w = .ok (.enter (kindW (nd V.b.parts (lastW V).1).op) args) w := enters_w (nd V.b.parts (lastW V).1).op
          have PA := Lib.hid (fun X => past_any (nd V.b.parts (lastW V).1).op X)
          clear hV hruns hok hroom hbel hmeas hst hwt hb' hfull hm' hsp hpop
          generalize hn : nd V.b.parts (lastW V).1 = n at *
          generalize hp : (lastW V).1 = p at *
          generalize hq : (lastW V).2 = q at *
          go_upto_region 10 with fail
          have z0 : (wr.alloc (.cells #[.int .i64 (p : Nat), .int .i64 (q : Nat)] 100)).cell? ⟨wr.heap.size, 0, none⟩ = some (.int .i64 (p : Nat)) := by simp
          have z1 : (wr.alloc (.cells #[.int .i64 (p : Nat), .int .i64 (q : Nat)] 100)).cell? ⟨wr.heap.size, 1, none⟩ = some (.int .i64 (q : Nat)) := by simp
          have z3 : (wr.alloc (.cells #[.int .i64 (p : Nat), .int .i64 (q : Nat)] 100)).cell? ⟨w.heap.size + 1, 3, none⟩ = some (.slice (some ⟨gw, 0, none⟩) (m + 1) wcap) := cell_next c3 ((Below.refl wr.heap.size wr).alloc (Nat.le_refl _) _)
          obtain ⟨hfr, hV2, hK2⟩ := PF.out
          have HV2 := Lib.hid hV2
          have hB2 : Kw w0 bb M (w.heap.size + 1) w.heap.size w ((wr.alloc (.cells #[.int .i64 (p : Nat), .int .i64 (q : Nat)] 100)).setCell ⟨w.heap.size + 1, 3, none⟩ (.slice (some ⟨gw, 0, none⟩) m wcap)) := (HBL.out.trans (Kg.of_below ((Below.refl wr.heap.size wr).alloc (Nat.le_refl _) _))).trans hK2
          have HB2 := Lib.hid hB2
          clear PF hV2 hK2 hB2
          generalize wr.alloc (.cells #[.int .i64 (p : Nat), .int .i64 (q : Nat)] 100) = X1 at *
          go_upto_region 11 with fail
          have y0 := set_cell (k := w.heap.size + 1) (o := 3) (u := .slice (some ⟨gw, 0, none⟩) m wcap) z0 (by show wr.heap.size ≠ w.heap.size + 1; omega)
          have y1 := set_cell (k := w.heap.size + 1) (o := 3) (u := .slice (some ⟨gw, 0, none⟩) m wcap) z1 (by show wr.heap.size ≠ w.heap.size + 1; omega)
          generalize X1.setCell ⟨w.heap.size + 1, 3, none⟩ (.slice (some ⟨gw, 0, none⟩) m wcap) = X2 at *
          clear z0 z1 z3 hfr c0 c3 b4
          obtain ⟨pv2, sv2, bv2, xs2, hb2⟩ := HV2.out.book
          have b0 := hb2.cell0
          obtain ⟨gp, pcap, rfl, _, _⟩ := hb2.parts.form (by show 0 < V.b.parts.length; omega)
          obtain ⟨po, pcap', he, hpl, hpn⟩ := (nodes_of_row hb2.parts).shape
          simp only [Value.slice.injEq] at he
          obtain ⟨rfl, _, rfl⟩ := he
          obtain ⟨gp', he, q0, q1, q2, q3, q4, q5⟩ := hpn p hplt
          simp only [Option.some.injEq] at he
          subst he
          rw [add_zero] at q0 q1 q2 q3 q4 q5
          dsimp only at b0 q0 q1 q2 q3 q4 q5 hpl
          rw [hn] at q0 q1 q2 q3 q4 q5
          have hXg := cell_lt q0
          have hpi : (p : Int) < (V.b.parts.length : Int) := by omega
          have hXb := cell_lt b0
          have hXs := cell_lt y0
          clear hpn hb2
          go_region
          have nb := ((nbox_new X2 n).below (below_drew _)).at'
          have m0 := nb.c0
          have m1 := nb.c1
          have m2 := nb.c2
          have m3 := nb.c3
          have m4 := nb.c4
          have m5 := nb.c5
          have bl : Below X2.heap.size X2 (X2.alloc (.cells #[.int .i64 n.op, .int .i64 n.a, .int .i64 n.b, .int .i64 n.lo, .int .i64 n.hi, .int .i64 n.set] 35)).drew := ((Below.refl X2.heap.size X2).alloc (Nat.le_refl _) _).trans ((Rg.below_drewN _ 1).mono (by simp))
          have x0 := cell_next y0 bl
          have x1 := cell_next y1 bl
          have HV3 := Lib.hid (HV2.out.next bl)
          have HB3 := Lib.hid (HB2.out.trans (Kg.of_below bl))
          unfold aggN at CP
          clear nb bl q0 q1 q2 q3 q4 q5 b0 y0 y1 hXb hXs hXg hpl hpi HV2 HB2
          dsimp only [Nat.zero_add] at m0 m1 m2 m3 m4 m5
          have hX3 : X2.heap.size < (X2.alloc (.cells #[.int .i64 n.op, .int .i64 n.a, .int .i64 n.b, .int .i64 n.lo, .int .i64 n.hi, .int .i64 n.set] 35)).drew.heap.size := cell_lt m0
          generalize (X2.alloc (.cells #[.int .i64 n.op, .int .i64 n.a, .int .i64 n.b, .int .i64 n.lo, .int .i64 n.hi, .int .i64 n.set] 35)).drew = X3 at *
          generalize X2.heap.size = N at *
          generalize hK : kindW n.op = K at *
          go_wp2
          go_region_with (first
            | (go_at_call 56; (with_reducible refine (PA.out _).mono ?_); rintro e w3 ⟨rfl, rfl⟩)
            | (go_at_fn K; (with_reducible refine (CP.out _ (HV3.out.next (below_drew _))).mono ?_); rintro e w4 ⟨rfl, h4, k4⟩)
            | fail)
          all_goals
            go_wp2
            go_roundg g0
            case rel => exact ⟨_, h4, SP.out.1.adv.ok, hrs, hdone, HRU.out, (HB3.out.trans (Kg.of_below (below_drew _))).trans k4⟩
            case measure => omega
end
end Go.Proofs.YtbkafoaoddajoaaGreatDoor.Dv

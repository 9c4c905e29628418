/- Has a tree a text: the program's has, of either way. One node: its parts, may it be; how many times. The program's mayBe. The program's Right. The program's Check. The program's Matches and Nullable. -/
import Derived.Test.YtbkafoaoddajoaaGreatDoorPk12
import Derived.Test.YtbkafoaoddajoaaGreatDoorPk13
import Derived.Test.YtbkafoaoddajoaaGreatDoorPk14
import Derived.Test.YtbkafoaoddajoaaGreatDoorPk03
import Derived.Deep.RegionHeld3
import Derived.Test.YtbkafoaoddajoaaGreatDoorPk01
import Derived.Deep.DeepMust

namespace Go.Proofs.YtbkafoaoddajoaaGreatDoor.Dv
open Go Go.RowKit Go.Shelf Go.Maps
open Go.Proofs.YtbkafoaoddajoaaGreatDoor.Ar (timesB Nd nd nodeB nodeB_ways NRow cellsN aggN flatN Book WfN Wf NodeAt node_new nodes_of_row Tr Ok TreeAt)
open Go.Proofs.YtbkafoaoddajoaaGreatDoor.Rg (R RngsAt RowsAt nthL add_zero own_next)
open Go.Proofs.YtbkafoaoddajoaaGreatDoor.Ut (allL validL right_at iter_grown)
section
variable {w0 w : World} {bb M gb k : Nat} {B : Bk} {lv : Value} {l : List Nat} {s : ByteArray} {pos : Nat}
theorem Kg.of_iter (hN : w0.heap.size ≤ k) (pos' : Nat) : Kg w0.heap.size (fun j => j = k) (fun _ => False) w (w.iterAt k s pos') := Kg.of_grown (iter_grown pos') fun g e => by cases e; exact ⟨hN, .inl rfl⟩
theorem BookAt.iter (h : BookAt w0 bb M B w) (hk : w.heap[k]? = some (.stringIter s pos)) (hN : w0.heap.size ≤ k) (pos' : Nat) : BookAt w0 bb M B (w.iterAt k s pos') := by
  obtain ⟨pv, sv, bv, xs, hb⟩ := h
  have hz : ∀ {e : TypeId} {s m : Nat} {v : Value} {ys : List Value}, w.ownsRow w0.heap.size e s v m ys → ∀ g, v.ownBlock = some g → ¬ g = k := fun hr g hv e => by
    obtain ⟨_, cs, hh⟩ := row_block hr hv
    rw [e, hk] at hh; cases hh
  refine ⟨pv, sv, bv, xs, hb.keep (Kg.of_iter hN pos') rfl ?_ ?_ (fun _ _ => id) (fun g hg => ?_)⟩
  · rintro rfl
    have := hb.box
    rw [hk] at this; cases this
  · rintro rfl
    obtain ⟨D, h1, _⟩ := hb.map.map
    obtain ⟨es, clock, hh, _⟩ := h1
    rw [hk] at hh; cases hh
  · rcases hg with hg | hg | hg
    · exact hz hb.parts g hg
    · exact hz hb.sets g hg
    · exact hz hb.bare g hg
theorem RowI.iter (h : RowI w lv l) (hk : w.heap[k]? = some (.stringIter s pos)) (pos' : Nat) : RowI (w.iterAt k s pos') lv l :=
  h.kg (Kg.of_grown (iter_grown pos') fun g e => by cases e; exact ⟨Nat.zero_le _, .inl rfl⟩ : Kg 0 (fun j => j = k) (fun _ => False) w (w.iterAt k s pos')) id (fun g hg e => h.ne hk (fun _ _ e => by cases e) hg e)
theorem BookAt.next' {w' : World} (h : BookAt w0 bb M B w) (hb : Below w.heap.size w w') : BookAt w0 bb M B w' := by
  obtain ⟨_, _, _, _, h⟩ := h
  exact ⟨_, _, _, _, h.next hb⟩
theorem BookAt.full (h : BookAt w0 bb M B w) : w.cell? ⟨bb, 4, none⟩ = some (.bool B.full) := by
  obtain ⟨_, _, _, _, h⟩ := h
  exact h.cell4
theorem BookAt.below (h : BookAt w0 bb M B w) : Below w0.heap.size w0 w := by
  obtain ⟨_, _, _, _, h⟩ := h
  exact h.below
/-- a way, as a function's number -/
structure WayC (K : Nat) (way : Way) : Prop where
  ok : WayOk way
  enters : Enters Tryz.prog K
  calls : ∀ (w0 w : World) (bb M : Nat) (B : Bk) (lv : Value) (l : List Nat) (c : Int), BookAt w0 bb M B w → Good B → RowI w lv l → (∀ x, x ∈ l → x < B.parts.length) → Calls Tryz.prog K #[.pointer (some ⟨bb, 0, none⟩), lv, .int .i64 c] w (WayAt w0 bb M w (way B l c))
theorem spread_c : WayC 38 spreadF := ⟨spread_ok, enters_of Tryz.func38 (by kernel_rfl) rfl, fun _ _ _ _ _ _ _ _ h g hr hl => spread_any h g hr hl⟩
theorem whole_c : WayC 39 wholeF := ⟨whole_ok, enters_of Tryz.func39 (by kernel_rfl) rfl, fun _ _ _ _ _ _ _ _ h g hr hl => whole_any h g hr hl⟩

/-- what is left to be looked at -/
structure HasAt (W1 : World) (bb M gb it : Nat) (way : Way) (s : ByteArray) (R : Bool × Bool) (lv : Value) (pos : Nat) (B : Bk) (l : List Nat) (w : World) : Prop where
  le : pos ≤ s.size
  obj : w.heap[it]? = some (.stringIter s pos)
  box : w.heap[gb]? = some (.cells #[.pointer (some ⟨bb, 0, none⟩)] 53 (0, 0))
  book : BookAt W1 bb M B w
  good : Good B
  row : RowI w lv l
  lt : ∀ x, x ∈ l → x < B.parts.length
  ahead : ∃ pre, allL s.data.toList = pre ++ allL (s.data.toList.drop pos)
  run : hasF way B l (allL (s.data.toList.drop pos)) = R
theorem HasAt.step {W1 : World} {bb M gb it : Nat} {way : Way} {R : Bool × Bool} {c m : Nat} (h : HasAt W1 bb M gb it way s R lv pos B l w) (hb : W1.heap.size ≤ it) (hp : pos + m ≤ s.size) (hw : WayOk way)
    {pre : List Int} (ha : allL s.data.toList = (pre ++ [(c : Int)]) ++ allL (s.data.toList.drop (pos + m))) (hc : allL (s.data.toList.drop pos) = (c : Int) :: allL (s.data.toList.drop (pos + m)))
    {X Y : World} {v : Value} (hX : Below (w.iterAt it s (pos + m)).heap.size (w.iterAt it s (pos + m)) X) (k : Kg W1.heap.size (Ub bb M) Tw X Y) (hbY : BookAt W1 bb M (way B l c).1 Y) (hrY : RowI Y v (way B l c).2) :
    ((way B l c).1.full = true → R = (false, false)) ∧ ((way B l c).1.full = false → (way B l c).2 = [] → R = (false, true)) ∧ ((way B l c).1.full = false → (way B l c).2 ≠ [] → HasAt W1 bb M gb it way s R v (pos + m) (way B l c).1 (way B l c).2 Y) ∧
    Y.heap[gb]? = some (.cells #[.pointer (some ⟨bb, 0, none⟩)] 53 (0, 0)) ∧ (∀ x, x ∈ (way B l c).2 → x < (way B l c).1.parts.length) ∧ Good (way B l c).1 := by
  have o := hw B l c h.good h.lt
  have hr := h.run
  rw [hc] at hr
  unfold hasF at hr
  have hit1 := Lib.iterAt_heap w it s pos (pos + m) h.obj
  have hgb : gb ≠ it := by
    rintro rfl
    have := h.box
    rw [h.obj] at this; cases this
  have hbx1 : (w.iterAt it s (pos + m)).heap[gb]? = some (.cells #[.pointer (some ⟨bb, 0, none⟩)] 53 (0, 0)) := (Lib.iterAt_other w it gb s (pos + m) hgb).trans h.box
  have hit2 := (hX.block it (Array.getElem?_eq_some_iff.1 hit1).1).trans hit1
  have hbx2 := (hX.block gb (Array.getElem?_eq_some_iff.1 hbx1).1).trans hbx1
  have hbX := (h.book.iter h.obj hb (pos + m)).next' hX
  have hbx3 := k.heap hbx2 (hbX.neU hbx2 (by decide)) (fun _ _ _ e => by cases e; unfold Tw Tb; decide)
  have hit3 : Y.heap[it]? = some (.stringIter s (pos + m)) := k.heap hit2 (fun e => by
    obtain ⟨_, _, _, _, hk⟩ := hbX
    rcases e with rfl | rfl
    · have := hk.box
      rw [hit2] at this; cases this
    · obtain ⟨D, h1, _⟩ := hk.map.map
      obtain ⟨es, clock, hh, _⟩ := h1
      rw [hit2] at hh; cases hh) (fun _ _ _ e => by cases e)
  refine ⟨fun hf => ?_, fun hf hn => ?_, fun hf hn => ?_, hbx3, o.lt, o.good⟩
  · rw [if_pos hf] at hr; exact hr.symm
  · rw [if_neg (by simp [hf]), if_pos hn] at hr; exact hr.symm
  · rw [if_neg (by simp [hf]), if_neg hn] at hr
    exact ⟨hp, hit3, hbx3, hbY, o.good, hrY, o.lt, ⟨_, ha⟩, hr⟩
set_option maxRecDepth 100000 in
set_option maxHeartbeats 8000000 in
theorem has_tree_any {K : Nat} {way : Way} (hK : WayC K way) {t : Tr} (ht : Ok t) (hN : t.ns.length ≤ 4096) {vn vs : Value} (hT : TreeAt w (.agg #[vn, vs, .int .i64 t.root]) t) (hv : validL s.data.toList = true) :
    Calls Tryz.prog 20 #[.agg #[vn, vs, .int .i64 t.root], .string s, .func (.func K) #[] #[]] w fun e w' => e = .returned (.tuple #[.bool (hasF way (mkF t).1 [(mkF t).2.2] (allL s.data.toList)).1, .bool (hasF way (mkF t).1 [(mkF t).2.2] (allL s.data.toList)).2]) ∧ Below w.heap.size w w' := by
  have hE : ∀ (args : Array Value) (w : World), (callFunc K args).run Tryz.prog w = .ok (.enter K args) w := hK.enters
  obtain ⟨m1, m2, m3, m4⟩ := mkF_out ht hN
  have HM := Lib.hid m1
  have b1 : Below w.heap.size w (w.alloc (.cells #[vn, vs, .int .i64 t.root] 25)) := (Below.refl w.heap.size w).alloc (Nat.le_refl _) _
  have B1 := Lib.hid b1
  have OP := Lib.hid (opened_any (w.alloc (.cells #[vn, vs, .int .i64 t.root] 25)))
  have hs1 : (w.alloc (.cells #[vn, vs, .int .i64 t.root] 25)).heap.size = w.heap.size + 1 := by simp
  have t0 : ∀ X, Below (w.alloc (.cells #[vn, vs, .int .i64 t.root] 25)).heap.size (w.alloc (.cells #[vn, vs, .int .i64 t.root] 25)) X → X.cell? ⟨w.heap.size, 0, none⟩ = some vn ∧ X.cell? ⟨w.heap.size, 1, none⟩ = some vs ∧ X.cell? ⟨w.heap.size, 2, none⟩ = some (.int .i64 t.root) := fun X hX => ⟨cell_next (by simp) hX, cell_next (by simp) hX, cell_next (by simp) hX⟩
  have T0 := Lib.hid t0
  have MD := Lib.hid (fun X bb M (hX : BookAt (w.alloc (.cells #[vn, vs, .int .i64 t.root] 25)) bb M startB X) => made_any ht hN hX (hT.next b1))
  clear hT t0 m1
  generalize hR : hasF way (mkF t).1 [(mkF t).2.2] (allL s.data.toList) = RR at *
  have HRR := Lib.hid hR
  unfold OpenAt at OP
  unfold MadeOut at MD
  go_enter Tryz.func20, Tryz.ntmps20
  go_upto_region 1 with fail
  have HS1 := Lib.hid hs1
  clear b1 hs1
  generalize w.alloc (.cells #[vn, vs, .int .i64 t.root] 25) = W1 at *
  generalize hX0 : (mkF t).2.2 = x0 at *
  generalize hB0 : (mkF t).1 = B0 at *
  clear hX0 hB0 hR
  go_upto_region 3 with (first
    | (go_at_call 23; (with_reducible refine OP.out.mono ?_); rintro e w1 ⟨rfl, h1⟩; go_must (have H1 := Lib.hid h1; obtain ⟨u0, u1, u2⟩ := T0.out _ h1.below; have hs2 : w.heap.size < w1.heap.size := cell_lt u0; have g0 := World.alloc_heap_new w1 (.cells #[.pointer (some ⟨W1.heap.size + 1, 0, none⟩)] 53); have G0 := Lib.hid g0; have BW := Lib.hid (fun o => (Below.refl w1.heap.size w1).alloc (Nat.le_refl _) o); clear h1 g0))
    | (go_at_call 24; (with_reducible refine (MD.out _ _ _ (H1.out.next' (BW.out _))).mono ?_); rintro e w2 ⟨rfl, h2, k2⟩; go_must (have H2 := Lib.hid h2; have G2 := Lib.hid (k2.heap G0.out ((H1.out.next' (BW.out _)).neU G0.out (by decide)) (fun _ _ _ e => by cases e; unfold Tb; decide)); clear h2 k2))
    | fail)
  clear MD OP T0 BW G0 H1
  generalize w1.heap.size = gb at *
  have BV := Lib.hid (fun o => (Below.refl w2.heap.size w2).alloc (Nat.le_refl _) o)
  have R0 : RowI (w2.alloc (.cells #[.int .i64 (x0 : Nat)] 3)) (.slice (some ⟨w2.heap.size, 0, none⟩) 1 1) [x0] := .inr ⟨w2.heap.size, 1, _, rfl, (by unfold maxLen; simp), World.alloc_heap_new w2 _, (by simp [castL])⟩
  have HR0 := Lib.hid R0
  have hit0 : ∀ (X : World), (X.alloc (.stringIter s 0)).heap[X.heap.size]? = some (.stringIter s 0) := fun X => World.alloc_heap_new X _
  have HI0 := Lib.hid hit0
  clear R0 hit0
  have H3 := Lib.hid (H2.out.next' (BV.out (.cells #[.int .i64 (x0 : Nat)] 3)))
  have G3 := Lib.hid (((BV.out (.cells #[.int .i64 (x0 : Nat)] 3)).block gb (Array.getElem?_eq_some_iff.1 G2.out).1).trans G2.out)
  clear H2 G2 BV u0 u1 u2
  generalize W1.heap.size + 1 = bb at *
  generalize w2.heap.size = rb at *
  generalize w2.alloc (.cells #[.int .i64 (x0 : Nat)] 3) = W3 at *
  have hW3 : W1.heap.size ≤ W3.heap.size := H3.out.below.size
  have H4 := Lib.hid (show HasAt W1 bb W1.heap.size gb W3.heap.size way s RR (.slice (some ⟨rb, 0, none⟩) 1 1) 0 B0 [x0] (W3.iter s 0) from by
    have b4 := (Below.refl W3.heap.size W3).alloc (Nat.le_refl _) (.stringIter s 0)
    exact ⟨Nat.zero_le _, HI0.out W3, (b4.block gb (Array.getElem?_eq_some_iff.1 G3.out).1).trans G3.out, H3.out.next' b4, HM.out, HR0.out.below b4, (fun x hx => by rw [List.mem_singleton] at hx; subst hx; exact m3), ⟨[], by simp⟩, by rw [List.drop_zero]; exact HRR.out⟩)
  clear H3 G3 HI0 HR0 HM HRR m2 m3 m4
  have BB := Lib.hid (fun (C : Bk) (X : World) (hX : BookAt W1 bb W1.heap.size C X) => B1.out.trans (hX.below.mono B1.out.size))
  have ef : ∀ args w, (callFunc 41 args).run Tryz.prog w = .ok (.enter 41 args) w := enters_of Tryz.func41 (by kernel_rfl) rfl
  go_wp2
  generalize W3.iter s 0 = W4 at *
  generalize W3.heap.size = it at *
  go_loopw [9] (fun v wr => ∃ (pos : Nat) (B : Bk) (l : List Nat), HasAt W1 bb W1.heap.size gb it way s RR v pos B l wr) (fun _ wr => s.size - wr.iterPos it)
  case atStart => exact ⟨0, B0, [x0], H4.out⟩
  case round =>
    clear H4
    obtain ⟨pos, B, l, h⟩ := hrel
    have hpos := h.le
    have hit := h.obj
    obtain ⟨ao, cap, rfl, hlm, _⟩ := h.row.at'
    have hgb : wr.cell? ⟨gb, 0, none⟩ = some (.pointer (some ⟨bb, 0, none⟩)) := by simp [World.cell?, h.box]
    by_cases hp : pos < s.size
    · obtain ⟨pre, hpre⟩ := h.ahead
      obtain ⟨hw1, hw2, hr1, ha2⟩ := right_at hp hv hpre
      have hnx : ∀ ty, (Instr.next (.pointer (some ⟨it, 0, none⟩)) true ty).run Tryz.prog wr = _ := fun ty => Lib.run_next_any_at wr it s pos ty hit hp
      have hcut : allL (s.data.toList.drop pos) = ((Utf8.decode s pos).1 : Int) :: allL (s.data.toList.drop (pos + (Utf8.decode s pos).2)) := by
        have e := hpre.symm.trans ha2
        rw [List.append_assoc] at e
        exact List.append_cancel_left e
      have hit2 := Lib.iterAt_heap wr it s pos (pos + (Utf8.decode s pos).2) hit
      have hgi : gb ≠ it := by
        rintro rfl
        have := h.box
        rw [hit] at this; cases this
      have hgb2 : (wr.iterAt it s (pos + (Utf8.decode s pos).2)).cell? ⟨gb, 0, none⟩ = some (.pointer (some ⟨bb, 0, none⟩)) := by
        rw [World.cell?_of_block (Lib.iterAt_other wr it gb s (pos + (Utf8.decode s pos).2) hgi)]; exact hgb
      have CK := Lib.hid (hK.calls W1 (wr.iterAt it s (pos + (Utf8.decode s pos).2)) bb W1.heap.size B (.slice ao l.length cap) l ((Utf8.decode s pos).1 : Nat) (h.book.iter hit hW3 _) h.good (h.row.iter hit _) h.lt)
      have ST := Lib.hid (fun (Y : World) (v : Value) (hr : RowI Y v (way B l ((Utf8.decode s pos).1 : Nat)).2) (hb : BookAt W1 bb W1.heap.size (way B l ((Utf8.decode s pos).1 : Nat)).1 Y) (k : Kg W1.heap.size (Ub bb W1.heap.size) Tw (wr.iterAt it s (pos + (Utf8.decode s pos).2)) Y) => h.step hW3 hw2 hK.ok ha2 hcut (Below.refl _ _) k hb hr)
      clear h hpre ha2 hcut hgb
      generalize (Utf8.decode s pos).1 = c at *
      generalize (Utf8.decode s pos).2 = m at *
      generalize wr.iterAt it s (pos + m) = W at *
      generalize hQ : way B l (c : Nat) = Q at *
      clear hQ
      unfold WayAt at CK
      by_cases hfull : Q.1.full = true
      · go_wp2_with (first
          | (go_at_fn K; ((with_reducible refine CK.out.mono ?_); rintro e w5 ⟨v, rfl, hr5, hb5, k5⟩); go_must (obtain ⟨z1, z2, z3, z4, z5, z6⟩ := ST.out w5 v hr5 hb5 k5; have f4 := hb5.full; rw [hfull] at f4; have g5 : w5.cell? ⟨gb, 0, none⟩ = some (.pointer (some ⟨bb, 0, none⟩)) := (by simp [World.cell?, z4]); have Z1 := Lib.hid (z1 hfull); have HB5 := Lib.hid (BB.out _ _ hb5); clear z1 z2 z3 z4 z5 z6 hr5 hb5 k5))
          | fail)
        go_ret2
        exact ⟨by rw [Z1.out]; rfl, HB5.out⟩
      · rw [Bool.not_eq_true] at hfull
        by_cases hnil : Q.2 = []
        · go_wp2_with (first
            | (go_at_fn K; ((with_reducible refine CK.out.mono ?_); rintro e w5 ⟨v, rfl, hr5, hb5, k5⟩); go_must (obtain ⟨z1, z2, z3, z4, z5, z6⟩ := ST.out w5 v hr5 hb5 k5; have f4 := hb5.full; rw [hfull] at f4; have g5 : w5.cell? ⟨gb, 0, none⟩ = some (.pointer (some ⟨bb, 0, none⟩)) := (by simp [World.cell?, z4]); have Z1 := Lib.hid (z2 hfull hnil); have AN := Lib.hid (fun X (hX : Below w5.heap.size w5 X) => anyB_any (hb5.next' hX) z6 (cell_next g5 hX) (hr5.below hX) z5); have HB5 := Lib.hid (fun X (hX : Below w5.heap.size w5 X) => BB.out _ _ (hb5.next' hX)); obtain ⟨ao5, cap5, rfl, _, _⟩ := hr5.at'; simp only [hnil, List.length_nil, List.any_nil] at AN; simp only [hnil, List.length_nil]; clear z1 z2 z3 z4 z5 z6 hr5 hb5 k5))
            | (go_at_call 40; ((with_reducible refine (AN.out _ (Below.refl _ _)).mono ?_); rintro e w6 ⟨rfl, q, rfl⟩))
            | fail)
          go_ret2
          exact ⟨by rw [Z1.out]; rfl, HB5.out _ (Rg.below_drewN _ _)⟩
        · go_wp2_with (first
            | (go_at_fn K; ((with_reducible refine CK.out.mono ?_); rintro e w5 ⟨v, rfl, hr5, hb5, k5⟩); go_must (obtain ⟨z1, z2, z3, z4, z5, z6⟩ := ST.out w5 v hr5 hb5 k5; have f4 := hb5.full; rw [hfull] at f4; have g5 : w5.cell? ⟨gb, 0, none⟩ = some (.pointer (some ⟨bb, 0, none⟩)) := (by simp [World.cell?, z4]); have Z3 := Lib.hid (z3 hfull hnil); obtain ⟨ao5, cap5, rfl, hm5, _⟩ := hr5.at'; have hl5 : ((Q.2.length : Int) == 0) = false := (by have := List.length_pos_iff.2 hnil; simp; omega); clear z1 z2 z3 z4 z5 z6 hr5 hb5 k5))
            | fail)
          go_roundw
          case rel => exact ⟨pos + m, Q.1, Q.2, Z3.out⟩
          case measure =>
            have := Z3.out.obj
            simp only [World.iterPos, this, hit]
            omega
    · have hnx : ∀ ty, (Instr.next (.pointer (some ⟨it, 0, none⟩)) true ty).run Tryz.prog wr = _ := fun ty => Lib.run_next_end_at wr it s pos ty hit hp
      have AN := Lib.hid (anyB_any h.book h.good hgb h.row h.lt)
      have he : s.data.toList.drop pos = [] := List.drop_eq_nil_of_le (by rw [← Lib.size_eq]; omega)
      have hr := h.run
      rw [he, Ut.allL_nil] at hr
      have HRR := Lib.hid hr
      have HB5 := Lib.hid (fun q => BB.out _ _ (h.book.next' (Rg.below_drewN wr q)))
      clear h hr he hpos
      go_wp2_with (first
        | (go_at_call 40; ((with_reducible refine AN.out.mono ?_); rintro e w6 ⟨rfl, q, rfl⟩))
        | fail)
      go_ret2
      exact ⟨by rw [← HRR.out]; rfl, HB5.out _⟩
end
end Go.Proofs.YtbkafoaoddajoaaGreatDoor.Dv

namespace Go.Proofs.YtbkafoaoddajoaaGreatDoor.Ar
open Go Go.RowKit Go.Shelf
open Go.Proofs.YtbkafoaoddajoaaGreatDoor.Rg (R RngsAt RowsAt nthL add_zero own_next)

theorem ret_b {a b : Bool} (h : a = b) : Ending.returned (.bool a) = .returned (.bool b) := by rw [h]
/-- are numbers all from 0 on, and less than n -/
def belowB (n : Int) (l : List Int) : Bool := l.all fun i => decide (0 ≤ i) && decide (i < n)
theorem belowB_at {n : Int} {l : List Int} {k : Nat} (h : k < l.length) : belowB n (l.drop k) = (decide (0 ≤ l.getD k 0) && decide (l.getD k 0 < n) && belowB n (l.drop (k + 1))) := by
  have e : l.getD k 0 = l[k] := by simp [List.getD, h]
  rw [e]
  unfold belowB
  rw [List.drop_eq_getElem_cons h, List.all_cons]

set_option maxRecDepth 100000 in
set_option maxHeartbeats 1000000 in
theorem below_any (n : Int) (v : Value) (l : List Int) (w : World) (h : IntsAt w v l) :
    Calls Tryz.prog 34 #[.int .i64 n, v] w fun e w' => e = .returned (.bool (belowB n l)) ∧ w' = w := by
  obtain ⟨ao, cap, rfl, hm, hc⟩ := h.shape
  have HC := Lib.hid hc
  clear hc h
  obtain ⟨b, hb⟩ : ∃ b, belowB n l = b := ⟨_, rfl⟩
  have HB := Lib.hid hb
  rw [hb]
  clear hb
  go_enter Tryz.func34, Tryz.ntmps34
  go_wp2
  go_loop [9] (fun i => ∃ k : Nat, k ≤ l.length ∧ i = .int .i64 k ∧ b = belowB n (l.drop k)) (fun i => l.length - (intOf i).toNat)
  case atStart => exact ⟨0, Nat.zero_le _, rfl, by rw [← HB.out]; rfl⟩
  case round =>
    obtain ⟨k, hk, rfl, he⟩ := hrel
    by_cases hlt : k < l.length
    · obtain ⟨ad, rfl, hcell⟩ := HC.out k hlt
      rw [belowB_at hlt] at he
      have HE := Lib.hid he
      clear he
      generalize l.getD k 0 = x at *
      go_wp2
      all_goals first
        | (go_ret; refine ⟨ret_b ?_, rfl⟩; rw [HE.out]; simp; omega)
        | (go_round
           case rel => exact ⟨k + 1, by omega, by go_num, by rw [HE.out]; simp; omega⟩
           case measure => simp [intOf]; omega)
    · obtain rfl : k = l.length := by omega
      rw [List.drop_length] at he
      have HE := Lib.hid he
      clear he
      go_wp2
      go_ret
      exact ⟨ret_b (by rw [HE.out]; rfl), rfl⟩

theorem timesB_eq (lo hi : Int) : timesB lo hi = true ↔ 0 ≤ lo ∧ lo ≤ 255 ∧ (hi = -1 ∨ lo ≤ hi ∧ hi ≤ 255) := by
  unfold timesB; simp; omega
set_option maxRecDepth 100000 in
set_option maxHeartbeats 1000000 in
theorem times_any (lo hi : Int) (w : World) :
    Calls Tryz.prog 52 #[.int .i64 lo, .int .i64 hi] w fun e w' => e = .returned (.bool (timesB lo hi)) ∧ w' = w := by
  have HT := Lib.hid (timesB_eq lo hi)
  generalize timesB lo hi = b at *
  go_enter Tryz.func52, Tryz.ntmps52
  go_wp2
  all_goals (
    go_ret
    refine ⟨ret_b ?_, rfl⟩
    rw [Bool.eq_iff_iff, HT.out]
    simp
    omega)
set_option maxRecDepth 100000 in
set_option maxHeartbeats 1000000 in
theorem rtimes_any (lo hi : Int) (w : World) :
    Calls Tryz.prog 44 #[.int .i64 lo, .int .i64 hi] w fun e w' => e = .returned (.bool (timesB lo hi)) ∧ w' = w := by
  have HT := Lib.hid (timesB_eq lo hi)
  generalize timesB lo hi = b at *
  go_enter Tryz.func44, Tryz.ntmps44
  go_wp2
  all_goals (
    go_ret
    refine ⟨ret_b ?_, rfl⟩
    rw [Bool.eq_iff_iff, HT.out]
    simp
    omega)

/-- the numbers of a node's parts, in a slice of the call's own -/
def PartsOut (n : Nd) (w : World) (e : Ending) (w' : World) : Prop := ∃ v, e = .returned v ∧ w'.ownsRow w.heap.size 3 1 v (partsL n).length ((partsL n).map (Value.int .i64)) ∧ Below w.heap.size w w'

set_option maxRecDepth 100000 in
set_option maxHeartbeats 1000000 in
theorem parts_any (n : Nd) (w : World) : Calls Tryz.prog 51 #[aggN n] w fun e w' => PartsOut n w e w' := by
  unfold aggN
  by_cases h3 : n.op = 3 ∨ n.op = 4
  · have e : partsL n = [n.a, n.b] := by unfold partsL; rw [if_pos h3]
    have hop : (n.op == 3) = true ∨ ((n.op == 3) = false ∧ (n.op == 4) = true) := by
      rcases h3 with h | h
      · exact .inl (by simpa using h)
      · exact .inr ⟨by simp; omega, by simpa using h⟩
    unfold PartsOut
    rw [e]
    clear h3 e
    rcases hop with z3 | ⟨z3, z4⟩
    all_goals (
      go_enter Tryz.func51, Tryz.ntmps51
      go_wp2
      go_ret
      refine ⟨_, rfl, ?_, ((Below.refl w.heap.size w).alloc (Nat.le_refl _) _).alloc (by simp) _⟩
      have := World.ownsRow_lit (base := w.heap.size) (e := 3) (size := 1) (w.alloc (.cells #[.int .i64 n.op, .int .i64 n.a, .int .i64 n.b, .int .i64 n.lo, .int .i64 n.hi, .int .i64 n.set] 35)) #[.int .i64 n.a, .int .i64 n.b] 2 (by simp) (by decide) rfl
      simpa using this)
  · by_cases h5 : n.op = 5
    · have e : partsL n = [n.a] := by unfold partsL; rw [if_neg h3, if_pos h5]
      have z3 : (n.op == 3) = false := by simp; omega
      have z4 : (n.op == 4) = false := by simp; omega
      have z5 : (n.op == 5) = true := by simpa using h5
      unfold PartsOut
      rw [e]
      clear h3 h5 e
      go_enter Tryz.func51, Tryz.ntmps51
      go_wp2
      go_ret
      refine ⟨_, rfl, ?_, ((Below.refl w.heap.size w).alloc (Nat.le_refl _) _).alloc (by simp) _⟩
      have := World.ownsRow_lit (base := w.heap.size) (e := 3) (size := 1) (w.alloc (.cells #[.int .i64 n.op, .int .i64 n.a, .int .i64 n.b, .int .i64 n.lo, .int .i64 n.hi, .int .i64 n.set] 35)) #[.int .i64 n.a] 1 (by simp) (by decide) rfl
      simpa using this
    · have e : partsL n = [] := by unfold partsL; rw [if_neg h3, if_neg h5]
      have z3 : (n.op == 3) = false := by simp; omega
      have z4 : (n.op == 4) = false := by simp; omega
      have z5 : (n.op == 5) = false := by simpa using h5
      unfold PartsOut
      rw [e]
      clear h3 h5 e
      go_enter Tryz.func51, Tryz.ntmps51
      go_wp2
      go_ret
      exact ⟨_, rfl, World.ownsRow_nil _ _ _ _, (Below.refl w.heap.size w).alloc (Nat.le_refl _) _⟩

theorem nodeB_1 {n : Nd} {i s : Int} (h : n.op = 1) : nodeB n i s = decide (n.a = 0 ∧ n.b = 0 ∧ n.lo = 0 ∧ n.hi = 0 ∧ n.set = 0) := by unfold nodeB; rw [if_pos h]
theorem nodeB_2 {n : Nd} {i s : Int} (h : n.op = 2) : nodeB n i s = decide (n.a = 0 ∧ n.b = 0 ∧ n.lo = 0 ∧ n.hi = 0 ∧ 0 ≤ n.set ∧ n.set < s) := by unfold nodeB; rw [if_neg (by omega), if_pos h]
theorem nodeB_3 {n : Nd} {i s : Int} (h : n.op = 3 ∨ n.op = 4) : nodeB n i s = decide (0 ≤ n.a ∧ n.a < i ∧ 0 ≤ n.b ∧ n.b < i ∧ n.lo = 0 ∧ n.hi = 0 ∧ n.set = 0) := by unfold nodeB; rw [if_neg (by omega), if_neg (by omega), if_pos h]
theorem nodeB_5 {n : Nd} {i s : Int} (h : n.op = 5) : nodeB n i s = (decide (0 ≤ n.a ∧ n.a < i ∧ n.b = 0 ∧ n.set = 0) && timesB n.lo n.hi) := by unfold nodeB; rw [if_neg (by omega), if_neg (by omega), if_neg (by omega), if_pos h]
theorem nodeB_0 {n : Nd} {i s : Int} (h : n.op ≠ 1) (h2 : n.op ≠ 2) (h3 : ¬ (n.op = 3 ∨ n.op = 4)) (h5 : n.op ≠ 5) : nodeB n i s = false := by unfold nodeB; rw [if_neg h, if_neg h2, if_neg h3, if_neg h5]

/-- how a node's kind is told by tests -/
theorem op_ways (n : Nd) : (n.op == 1) = true ∨ ((n.op == 1) = false ∧ (n.op == 2) = true) ∨ ((n.op == 1) = false ∧ (n.op == 2) = false ∧ (n.op == 3) = true) ∨ ((n.op == 1) = false ∧ (n.op == 2) = false ∧ (n.op == 3) = false ∧ (n.op == 4) = true) ∨ ((n.op == 1) = false ∧ (n.op == 2) = false ∧ (n.op == 3) = false ∧ (n.op == 4) = false ∧ (n.op == 5) = true) ∨ ((n.op == 1) = false ∧ (n.op == 2) = false ∧ (n.op == 3) = false ∧ (n.op == 4) = false ∧ (n.op == 5) = false) := by
  simp only [beq_iff_eq, beq_eq_false_iff_ne, ne_eq]; omega

end Go.Proofs.YtbkafoaoddajoaaGreatDoor.Ar

namespace Go.Proofs.YtbkafoaoddajoaaGreatDoor.Ar
open Go Go.RowKit Go.Shelf
open Go.Proofs.YtbkafoaoddajoaaGreatDoor.Rg (R RngsAt RowsAt nthL add_zero own_next)

theorem slice_one (w : World) (a : Int) : IntsAt (w.alloc (.cells #[.int .i64 a] 3)) (.slice (some ⟨w.heap.size, 0, none⟩) 1 1) [a] := by
  refine .inr ⟨_, 1, rfl, by unfold maxLen; simp, fun i hi => ?_⟩
  have : i = 0 := by simp at hi; omega
  subst this
  rw [show (⟨w.heap.size, 0, none⟩ : Addr).add 0 = ⟨w.heap.size, 0, none⟩ from rfl, World.cell?_alloc_new]; rfl
theorem slice_oneAt (w : World) (N : Nat) (hN : w.heap.size = N) (a : Int) : IntsAt (w.alloc (.cells #[.int .i64 a] 3)) (.slice (some ⟨N, 0, none⟩) 1 1) [a] := by
  subst hN; exact slice_one w a
theorem belowB_one (n a : Int) : belowB n [a] = (decide (0 ≤ a) && decide (a < n)) := by simp [belowB]
theorem belowB_two (n a b : Int) : belowB n [a, b] = (decide (0 ≤ a) && decide (a < n) && (decide (0 ≤ b) && decide (b < n))) := by simp [belowB]

set_option maxRecDepth 100000 in
set_option maxHeartbeats 8000000 in
theorem may_any (n : Nd) (i s : Int) (w : World) :
    Calls Tryz.prog 36 #[aggN n, .int .i64 i, .int .i64 s] w fun e w' => e = .returned (.bool (nodeB n i s)) ∧ Below w.heap.size w w' := by
  have cp := Lib.hid (fun n w => parts_any n w)
  have cb := Lib.hid (fun m v l w (h : IntsAt w v l) => below_any m v l w h)
  have ct := Lib.hid (fun w => times_any n.lo n.hi w)
  have b1 := Lib.hid (fun o => (Below.refl w.heap.size w).alloc (Nat.le_refl _) o)
  have b2 := Lib.hid (fun o u => ((Below.refl w.heap.size w).alloc (Nat.le_refl _) o).alloc (by simp) u)
  have P3 := Lib.hid (fun (n : Nd) (h : n.op = 3 ∨ n.op = 4) => show partsL n = [n.a, n.b] by unfold partsL; rw [if_pos h])
  have P5 := Lib.hid (fun (n : Nd) (h : n.op = 5) => show partsL n = [n.a] by unfold partsL; rw [if_neg (by omega), if_pos h])
  unfold aggN at *
  have hop := op_ways n
  have E1 := Lib.hid (nodeB_1 (n := n) (i := i) (s := s))
  have E2 := Lib.hid (nodeB_2 (n := n) (i := i) (s := s))
  have E3 := Lib.hid (nodeB_3 (n := n) (i := i) (s := s))
  have E5 := Lib.hid (nodeB_5 (n := n) (i := i) (s := s))
  have E0 := Lib.hid (nodeB_0 (n := n) (i := i) (s := s))
  obtain ⟨op, a, b, lo, hi, set⟩ := n
  dsimp only at *
  generalize nodeB ⟨op, a, b, lo, hi, set⟩ i s = r at *
  rcases hop with z1 | ⟨z1, z2⟩ | ⟨z1, z2, z3⟩ | ⟨z1, z2, z3, z4⟩ | ⟨z1, z2, z3, z4, z5⟩ | ⟨z1, z2, z3, z4, z5⟩
  · have E := Lib.hid (E1.out (by simpa using z1))
    go_enter Tryz.func36, Tryz.ntmps36
    go_wp2
    all_goals (
      go_ret
      refine ⟨ret_b ?_, b1.out _⟩
      rw [E.out, Bool.eq_iff_iff]
      simp
      omega)
  · have E := Lib.hid (E2.out (by simpa using z2))
    by_cases hz : a = 0 ∧ b = 0 ∧ lo = 0 ∧ hi = 0
    · obtain ⟨rfl, rfl, rfl, rfl⟩ := hz
      have HB := Lib.hid (belowB_one s set)
      have CB := Lib.hid (fun v w (h : IntsAt w v [set]) => cb.out s v [set] w h)
      generalize belowB s [set] = x at *
      go_enter Tryz.func36, Tryz.ntmps36
      go_wp2_with (go_at_call 34; (with_reducible refine (CB.out _ _ (slice_oneAt _ _ (by simp) _)).mono ?_); rintro e w1 ⟨rfl, rfl⟩)
      go_ret
      refine ⟨ret_b ?_, b2.out _ _⟩
      rw [E.out, HB.out, Bool.eq_iff_iff]; simp
    · go_enter Tryz.func36, Tryz.ntmps36
      go_wp2_with (go_at_call 34; exfalso; omega)
      all_goals (
        go_ret
        refine ⟨ret_b ?_, b1.out _⟩
        rw [E.out, Bool.eq_iff_iff]; simp; omega)
  · have E := Lib.hid (E3.out (.inl (by simpa using z3)))
    by_cases hz : lo = 0 ∧ hi = 0 ∧ set = 0
    · obtain ⟨rfl, rfl, rfl⟩ := hz
      have HP := Lib.hid (P3.out ⟨op, a, b, 0, 0, 0⟩ (.inl (by simpa using z3)))
      have HB := Lib.hid (belowB_two i a b)
      have CP := Lib.hid (fun w => cp.out ⟨op, a, b, 0, 0, 0⟩ w)
      have CB := Lib.hid (fun v w (h : IntsAt w v [a, b]) => cb.out i v [a, b] w h)
      dsimp only at HP CP
      generalize belowB i [a, b] = x at *
      clear cp
      go_enter Tryz.func36, Tryz.ntmps36
      go_wp2_with (first
        | (go_at_call 51; (with_reducible refine (CP.out _).mono ?_); rintro e w1 ⟨v, rfl, hr, hb⟩; go_must (rw [HP.out] at hr; have R1 := Lib.hid (ints_of_row hr); have H1 := Lib.hid ((b1.out (.cells #[.int .i64 op, .int .i64 a, .int .i64 b, .int .i64 0, .int .i64 0, .int .i64 0] 35)).trans (hb.mono (by simp))); clear hr hb))
        | (go_at_call 34; (with_reducible refine (CB.out _ _ R1.out).mono ?_); rintro e w2 ⟨rfl, rfl⟩)
        | fail)
      go_ret
      refine ⟨ret_b ?_, H1.out⟩
      rw [E.out, HB.out, Bool.eq_iff_iff]; simp; omega
    · go_enter Tryz.func36, Tryz.ntmps36
      go_wp2_with (go_at_call 51; exfalso; omega)
      all_goals (
        go_ret
        refine ⟨ret_b ?_, b1.out _⟩
        rw [E.out, Bool.eq_iff_iff]; simp; omega)
  · have E := Lib.hid (E3.out (.inr (by simpa using z4)))
    by_cases hz : lo = 0 ∧ hi = 0 ∧ set = 0
    · obtain ⟨rfl, rfl, rfl⟩ := hz
      have HP := Lib.hid (P3.out ⟨op, a, b, 0, 0, 0⟩ (.inr (by simpa using z4)))
      have HB := Lib.hid (belowB_two i a b)
      have CP := Lib.hid (fun w => cp.out ⟨op, a, b, 0, 0, 0⟩ w)
      have CB := Lib.hid (fun v w (h : IntsAt w v [a, b]) => cb.out i v [a, b] w h)
      dsimp only at HP CP
      generalize belowB i [a, b] = x at *
      clear cp
      go_enter Tryz.func36, Tryz.ntmps36
      go_wp2_with (first
        | (go_at_call 51; (with_reducible refine (CP.out _).mono ?_); rintro e w1 ⟨v, rfl, hr, hb⟩; go_must (rw [HP.out] at hr; have R1 := Lib.hid (ints_of_row hr); have H1 := Lib.hid ((b1.out (.cells #[.int .i64 op, .int .i64 a, .int .i64 b, .int .i64 0, .int .i64 0, .int .i64 0] 35)).trans (hb.mono (by simp))); clear hr hb))
        | (go_at_call 34; (with_reducible refine (CB.out _ _ R1.out).mono ?_); rintro e w2 ⟨rfl, rfl⟩)
        | fail)
      go_ret
      refine ⟨ret_b ?_, H1.out⟩
      rw [E.out, HB.out, Bool.eq_iff_iff]; simp; omega
    · go_enter Tryz.func36, Tryz.ntmps36
      go_wp2_with (go_at_call 51; exfalso; omega)
      all_goals (
        go_ret
        refine ⟨ret_b ?_, b1.out _⟩
        rw [E.out, Bool.eq_iff_iff]; simp; omega)
  · have E := Lib.hid (E5.out (by simpa using z5))
    by_cases hz : b = 0 ∧ set = 0
    · obtain ⟨rfl, rfl⟩ := hz
      have HP := Lib.hid (P5.out ⟨op, a, 0, lo, hi, 0⟩ (by simpa using z5))
      have HB := Lib.hid (belowB_one i a)
      have CP := Lib.hid (fun w => cp.out ⟨op, a, 0, lo, hi, 0⟩ w)
      have CB := Lib.hid (fun v w (h : IntsAt w v [a]) => cb.out i v [a] w h)
      dsimp only at HP CP
      generalize belowB i [a] = x at *
      generalize timesB lo hi = T at *
      clear cp
      cases x
      all_goals (
        go_enter Tryz.func36, Tryz.ntmps36
        go_wp2_with (first
          | (go_at_call 51; (with_reducible refine (CP.out _).mono ?_); rintro e w1 ⟨v, rfl, hr, hb⟩; go_must (rw [HP.out] at hr; have R1 := Lib.hid (ints_of_row hr); have H1 := Lib.hid ((b1.out (.cells #[.int .i64 op, .int .i64 a, .int .i64 0, .int .i64 lo, .int .i64 hi, .int .i64 0] 35)).trans (hb.mono (by simp))); have q0 := cell_next (a := ⟨w.heap.size, 0, none⟩) (v := .int .i64 op) (by simp) hb; have q1 := cell_next (a := ⟨w.heap.size, 1, none⟩) (v := .int .i64 a) (by simp) hb; have q2 := cell_next (a := ⟨w.heap.size, 2, none⟩) (v := .int .i64 0) (by simp) hb; have q3 := cell_next (a := ⟨w.heap.size, 3, none⟩) (v := .int .i64 lo) (by simp) hb; have q4 := cell_next (a := ⟨w.heap.size, 4, none⟩) (v := .int .i64 hi) (by simp) hb; have q5 := cell_next (a := ⟨w.heap.size, 5, none⟩) (v := .int .i64 0) (by simp) hb; clear hr hb))
          | (go_at_call 34; (with_reducible refine (CB.out _ _ R1.out).mono ?_); rintro e w2 ⟨rfl, rfl⟩)
          | (go_at_call 52; (with_reducible refine (ct.out _).mono ?_); rintro e w3 ⟨rfl, rfl⟩)
          | fail)
        go_ret
        refine ⟨ret_b ?_, H1.out⟩
        have hb := HB.out
        rw [E.out]
        cases T
        all_goals (rw [Bool.eq_iff_iff]; simp at hb ⊢)
        all_goals (try omega))
    · go_enter Tryz.func36, Tryz.ntmps36
      go_wp2_with (go_at_call 51; exfalso; omega)
      all_goals (
        go_ret
        refine ⟨ret_b ?_, b1.out _⟩
        have hf : decide (0 ≤ a ∧ a < i ∧ b = 0 ∧ set = 0) = false := by simp; omega
        rw [E.out, hf]; rfl)
  · have E := Lib.hid (E0.out (by simpa using z1) (by simpa using z2) (by simp at z3 z4; omega) (by simpa using z5))
    go_enter Tryz.func36, Tryz.ntmps36
    go_wp2
    go_ret
    exact ⟨ret_b E.out.symm, b1.out _⟩

end Go.Proofs.YtbkafoaoddajoaaGreatDoor.Ar

namespace Go.Proofs.YtbkafoaoddajoaaGreatDoor.Rg
open Go.RowKit Go.Shelf

/-- what Right tells -/
def RightOut (l : List R) (w : World) (e : Ending) (w' : World) : Prop := ∃ b, e = .returned (.bool b) ∧ (b = true ↔ setFrom 0 l) ∧ Below w.heap.size w w'
def RightRel (l : List R) (w : World) (s i : Value) (wr : World) : Prop :=
  ∃ (k : Nat) (m : Int), i = .int .i64 k ∧ s = .int .i64 m ∧ k ≤ l.length ∧ 0 ≤ m ∧ m ≤ 1114113 ∧ (setFrom 0 l ↔ setFrom m (l.drop k)) ∧ Below w.heap.size w wr

set_option maxHeartbeats 1600000 in
theorem right_any (l : List R) (v : Value) (w : World) (hv : RngsAt w v l) :
    Calls Tryz.prog 35 #[v] w fun e w' => RightOut l w e w' := by
  obtain ⟨ao, cap, rfl, hm, hcs⟩ := hv.shape
  have HC := Lib.hid hcs
  clear hcs hv
  go_enter Tryz.func35, Tryz.ntmps35
  go_wp2
  go_loopw [3, 8] (fun s i wr => RightRel l w s i wr) (fun _ i _ => l.length - (intOf i).toNat)
  case atStart => exact ⟨0, 0, rfl, rfl, Nat.zero_le _, by omega, by omega, Iff.rfl, Below.refl _ _⟩
  case round =>
    obtain ⟨k, m, rfl, rfl, hk, hm0, hm1, hset, hb⟩ := hrel
    by_cases hlt : k < l.length
    · obtain ⟨g, rfl, c1, c2⟩ := HC.out k hlt
      replace c1 := cell_next c1 hb
      replace c2 := cell_next c2 hb
      rw [set_at hlt] at hset
      have HS := Lib.hid hset
      have HB := Lib.hid hb
      have hsz := hb.size
      clear hset hb
      go_wp2
      all_goals first
        | (go_ret; exact ⟨_, rfl, ⟨fun h => (by cases h), fun h => by obtain ⟨h1, h2, h3, _⟩ := HS.out.1 h; omega⟩, HB.out.alloc hsz _⟩)
        | (go_roundw
           case rel => exact ⟨k + 1, _, by go_num, rfl, by omega, by omega, by omega, by rw [HS.out]; exact ⟨fun h => h.2.2.2, fun h => ⟨by omega, by omega, by omega, h⟩⟩, HB.out.alloc hsz _⟩
           case measure => simp [intOf]; omega)
    · obtain rfl : k = l.length := by omega
      rw [List.drop_length] at hset
      have HS := Lib.hid hset
      clear hset
      go_wp2
      go_ret
      exact ⟨_, rfl, by rw [HS.out]; simp [setFrom], hb⟩


end Go.Proofs.YtbkafoaoddajoaaGreatDoor.Rg

namespace Go.Proofs.YtbkafoaoddajoaaGreatDoor.Ar
open Go Go.RowKit Go.Shelf
open Go.Proofs.YtbkafoaoddajoaaGreatDoor.Rg (R RngsAt RowsAt nthL add_zero own_next rightB right_any rightB_of)

theorem right_b (l : List R) (v : Value) (w : World) (h : RngsAt w v l) : Calls Tryz.prog 35 #[v] w fun e w' => e = .returned (.bool (rightB l)) ∧ Below w.heap.size w w' := by
  refine (right_any l v w h).mono ?_
  rintro e w' ⟨b, rfl, hb, h2⟩
  exact ⟨by rw [rightB_of hb], h2⟩

set_option maxRecDepth 100000 in
set_option maxHeartbeats 8000000 in
theorem check_any (t : Tr) (v : Value) (w : World) (h : TreeAt w v t) :
    Calls Tryz.prog 17 #[v] w fun e w' => e = .returned (.int .i64 (checkE t)) ∧ Below w.heap.size w w' := by
  have HV := Lib.hid h
  obtain ⟨ao, cap, so, scap, rfl, hm, hm2, hn, hs⟩ := h.shape
  have HN := Lib.hid hn
  have HS := Lib.hid hs
  clear hn hs h
  have b1 := (Below.refl w.heap.size w).alloc (Nat.le_refl _) (.cells #[.slice ao t.ns.length cap, .slice so t.sets.length scap, .int .i64 t.root] 25)
  have B1 := Lib.hid b1
  have T0 := Lib.hid (TBox.new w (.slice ao t.ns.length cap) (.slice so t.sets.length scap) t.root)
  by_cases hbig : 4096 < t.ns.length ∨ 4096 < t.sets.length
  · rw [check_big hbig]
    have hh : (4096 : Int) < t.ns.length ∨ (¬ (4096 : Int) < t.ns.length ∧ (4096 : Int) < t.sets.length) := by omega
    clear hbig
    rcases hh with h1 | ⟨h1, h2⟩
    all_goals (
      go_enter Tryz.func17, Tryz.ntmps17
      go_wp2
      go_ret
      exact ⟨rfl, b1⟩)
  · have n1 : ¬ (4096 : Int) < t.ns.length := by omega
    have n2 : ¬ (4096 : Int) < t.sets.length := by omega
    have HBIG := Lib.hid hbig
    have CR := Lib.hid (check_root (t := t) hbig)
    have CS := Lib.hid (check_sets (t := t) hbig)
    have CN := Lib.hid (check_node (t := t) hbig)
    have CA := Lib.hid (check_all (t := t) hbig)
    generalize checkE t = E at *
    have CB := Lib.hid (fun v w (h : IntsAt w v [t.root]) => below_any t.ns.length v [t.root] w h)
    have HB := Lib.hid (show rootB t = belowB t.ns.length [t.root] by rw [belowB_one]; rfl)
    generalize rootB t = r at *
    rw [← HB.out] at CB
    clear hbig
    cases r
    · have e := CR.out rfl
      go_enter Tryz.func17, Tryz.ntmps17
      go_wp2_with (go_at_call 34; (with_reducible refine (CB.out _ _ (slice_oneAt _ _ (by simp) _)).mono ?_); rintro e w1 ⟨rfl, rfl⟩)
      go_ret
      exact ⟨ret_e e.symm, b1.alloc (by simp) _⟩
    · go_enter Tryz.func17, Tryz.ntmps17
      go_wp2_with (go_at_call 34; (with_reducible refine (CB.out _ _ (slice_oneAt _ _ (by simp) _)).mono ?_); rintro e w1 ⟨rfl, rfl⟩)
      have HW := Lib.hid (show Below (w.heap.size + 1) (w.alloc (.cells #[.slice ao t.ns.length cap, .slice so t.sets.length scap, .int .i64 t.root] 25)) ((w.alloc (.cells #[.slice ao t.ns.length cap, .slice so t.sets.length scap, .int .i64 t.root] 25)).alloc (.cells #[.int .i64 t.root] 3)) from (Below.refl _ _).alloc (by simp) _)
      have HSZ : (w.alloc (.cells #[.slice ao t.ns.length cap, .slice so t.sets.length scap, .int .i64 t.root] 25)).heap.size = w.heap.size + 1 := by simp
      generalize w.alloc (.cells #[.slice ao t.ns.length cap, .slice so t.sets.length scap, .int .i64 t.root] 25) = W1 at *
      go_loopw [28] (fun i wr => ∃ k : Nat, i = .int .i64 k ∧ k ≤ t.sets.length ∧ setsB t.sets k = true ∧ Below (w.heap.size + 1) W1 wr) (fun i _ => t.sets.length - (intOf i).toNat)
      case atStart => exact ⟨0, rfl, Nat.zero_le _, rfl, HW.out⟩
      case round =>
        obtain ⟨k, rfl, hk, hset, hbw⟩ := hrel
        obtain ⟨q0, q1, q2⟩ := T0.out.next (hbw.mono (by omega))
        have hsz := hbw.size
        have HBW := Lib.hid hbw
        clear hbw
        by_cases hlt : k < t.sets.length
        · obtain ⟨gs, x, rfl, x1, x2⟩ := HS.out k hlt
          have hB := B1.out.trans (HBW.out.mono (by omega))
          have y1 := cell_next x1 hB
          have HR := Lib.hid (right_b (nthL t.sets k) x wr (x2.next hB))
          have HSS := Lib.hid (setsB_succ hlt)
          have HSF := Lib.hid (fun h => setsB_false (S := t.sets) (k := k + 1) (n := t.sets.length) h (by omega))
          rw [hset, Bool.true_and] at HSS
          have HSET := Lib.hid hset
          clear hset x1 x2 hB
          replace HSS : Hid (setsB t.sets (k + 1) = rightB (nthL t.sets k)) := HSS
          generalize rightB (nthL t.sets k) = b at *
          cases b
          all_goals (
            go_wp2_with (go_at_call 35; (with_reducible refine HR.out.mono ?_); rintro e w2 ⟨rfl, hb2⟩; go_must (have B2 := Lib.hid (HBW.out.trans (hb2.mono (by omega))); clear hb2))
            first
              | (go_ret; exact ⟨ret_e (CS.out (HSF.out HSS.out)).symm, B1.out.trans (B2.out.mono (by omega))⟩)
              | (go_roundw
                 case rel => exact ⟨k + 1, by go_num, by omega, HSS.out, B2.out⟩
                 case measure => simp [intOf]; omega))
        · obtain rfl : k = t.sets.length := by omega
          have HSET := Lib.hid hset
          clear hset
          go_wp2
          go_loopw [39] (fun i wr => ∃ k : Nat, i = .int .i64 k ∧ k ≤ t.ns.length ∧ allB t.ns t.sets.length k = true ∧ Below (w.heap.size + 1) W1 wr) (fun i _ => t.ns.length - (intOf i).toNat)
          case atStart => exact ⟨0, rfl, Nat.zero_le _, rfl, HBW.out⟩
          case round =>
            clear q0 q1 q2 hsz
            obtain ⟨k, rfl, hk, hall, hbw⟩ := hrel
            obtain ⟨q0, q1, q2⟩ := T0.out.next (hbw.mono (by omega))
            have hsz := hbw.size
            have HBW2 := Lib.hid hbw
            clear hbw
            by_cases hlt : k < t.ns.length
            · obtain ⟨g, rfl, hnode⟩ := HN.out k hlt
              have hB := B1.out.trans (HBW2.out.mono (by omega))
              obtain ⟨c0, c1, c2, c3, c4, c5⟩ := hnode.next hB
              have hl0 := cell_lt c0
              have hl1 : w.heap.size < wr.heap.size := by omega
              have HM := Lib.hid (fun W => may_any (nd t.ns k) k t.sets.length W)
              have HSS := Lib.hid (allB_succ t.ns t.sets.length k)
              have HSF := Lib.hid (fun h => allB_false (l := t.ns) (s := t.sets.length) (k := k + 1) (n := t.ns.length) h (by omega))
              rw [hall, Bool.true_and] at HSS
              clear hall hnode hB
              unfold aggN at HM
              generalize nodeB (nd t.ns k) k t.sets.length = b at *
              generalize nd t.ns k = n at *
              cases b
              all_goals (
                go_wp2_with (go_at_call 36; (with_reducible refine (HM.out _).mono ?_); rintro e w2 ⟨rfl, hb2⟩; go_must (have B2 := Lib.hid (HBW2.out.trans ((((Below.refl wr.heap.size wr).alloc (Nat.le_refl _) (.cells #[.int .i64 n.op, .int .i64 n.a, .int .i64 n.b, .int .i64 n.lo, .int .i64 n.hi, .int .i64 n.set] 35)).mono (by omega)).trans (hb2.mono (by simp; omega)))); clear hb2))
                first
                  | (go_ret; exact ⟨ret_e (CN.out (HSF.out HSS.out)).symm, B1.out.trans (B2.out.mono (by omega))⟩)
                  | (go_roundw
                     case rel => exact ⟨k + 1, by go_num, by omega, HSS.out, B2.out⟩
                     case measure => simp [intOf]; omega))
            · obtain rfl : k = t.ns.length := by omega
              have e := CA.out (by simp) HSET.out hall
              have HE := Lib.hid e
              clear e hall
              go_wp2
              go_ret
              exact ⟨ret_e HE.out.symm, B1.out.trans (HBW2.out.mono (by omega))⟩

end Go.Proofs.YtbkafoaoddajoaaGreatDoor.Ar

namespace Go.Proofs.YtbkafoaoddajoaaGreatDoor.Dv
open Go Go.RowKit Go.Shelf Go.Maps
open Go.Proofs.YtbkafoaoddajoaaGreatDoor.Ar (timesB Nd nd nodeB Tr Ok TreeAt checkE check_ok check_any)
open Go.Proofs.YtbkafoaoddajoaaGreatDoor.Rg (R RngsAt RowsAt nthL add_zero own_next)
open Go.Proofs.YtbkafoaoddajoaaGreatDoor.Ut (allL validL valid_any Tabs tabs_next)

/-- what Matches tells -/
noncomputable def matchesF (t : Tr) (s : List UInt8) : Bool × Int := if checkE t = 0 then if validL s = true then matchF t (allL s) else (false, 0) else (false, checkE t)
/-- what Nullable tells -/
noncomputable def nullF (t : Tr) : Bool := if checkE t = 0 then bareAt (mkF t).1 (mkF t).2.2 else false
section
variable {w : World} {s : ByteArray} {t : Tr} {v : Value}
set_option maxHeartbeats 800000 in
theorem ways_any (w : World) : Calls Tryz.prog 19 #[] w fun e w' => e = .returned (.slice (some ⟨w.heap.size, 0, none⟩) 2 2) ∧ w' = w.alloc (.cells #[.func (.func 38) #[] #[], .func (.func 39) #[] #[]] 47) := by
  go_enter Tryz.func19, Tryz.ntmps19
  go_wp2
  go_ret
  exact ⟨rfl, rfl⟩

set_option maxRecDepth 100000 in
set_option maxHeartbeats 8000000 in
theorem matches_any (hT : TreeAt w v t) (hU : Tabs w) (hs : s.size ≤ maxLen) :
    Calls Tryz.prog 7 #[v, .string s] w fun e w' => e = .returned (.tuple #[.bool (matchesF t s.data.toList).1, .int .i64 (matchesF t s.data.toList).2]) ∧ Below w.heap.size w w' := by
  have HT := Lib.hid hT
  have HU := Lib.hid hU
  obtain ⟨ao, cap, so, scap, rfl, _, _, _, _⟩ := hT.shape
  have b1 : Below w.heap.size w (w.alloc (.cells #[.slice ao t.ns.length cap, .slice so t.sets.length scap, .int .i64 t.root] 25)) := (Below.refl w.heap.size w).alloc (Nat.le_refl _) _
  have B1 := Lib.hid b1
  have CC := Lib.hid (check_any t _ _ (hT.next b1))
  have t0 : ∀ X, Below (w.alloc (.cells #[.slice ao t.ns.length cap, .slice so t.sets.length scap, .int .i64 t.root] 25)).heap.size (w.alloc (.cells #[.slice ao t.ns.length cap, .slice so t.sets.length scap, .int .i64 t.root] 25)) X → X.cell? ⟨w.heap.size, 0, none⟩ = some (.slice ao t.ns.length cap) ∧ X.cell? ⟨w.heap.size, 1, none⟩ = some (.slice so t.sets.length scap) ∧ X.cell? ⟨w.heap.size, 2, none⟩ = some (.int .i64 t.root) := fun X hX => ⟨cell_next (by simp) hX, cell_next (by simp) hX, cell_next (by simp) hX⟩
  have T0 := Lib.hid t0
  have V := Lib.hid (fun X (hX : Below w.heap.size w X) => valid_any s X hs (tabs_next hU hX))
  clear hT hU t0
  by_cases hc : checkE t = 0
  · obtain ⟨hok, hN, _⟩ := check_ok hc
    by_cases hv : validL s.data.toList = true
    · rw [hv] at V
      have C0 := Lib.hid (fun X (hX : Below w.heap.size w X) => has_tree_any spread_c hok hN (HT.out.next hX) hv)
      have C1 := Lib.hid (fun X (hX : Below w.heap.size w X) => has_tree_any whole_c hok hN (HT.out.next hX) hv)
      have hM : matchesF t s.data.toList = matchF t (allL s.data.toList) := by unfold matchesF; rw [if_pos hc, if_pos hv]
      unfold matchF at hM
      rw [hc] at CC
      generalize hasF spreadF (mkF t).1 [(mkF t).2.2] (allL s.data.toList) = P at *
      generalize hasF wholeF (mkF t).1 [(mkF t).2.2] (allL s.data.toList) = Q at *
      generalize matchesF t s.data.toList = R at *
      have HM := Lib.hid hM
      clear hM hc hok hN hv HT HU
      go_enter Tryz.func7, Tryz.ntmps7
      go_upto_region 1 with fail
      clear b1
      generalize w.alloc (.cells #[.slice ao t.ns.length cap, .slice so t.sets.length scap, .int .i64 t.root] 25) = W1 at *
      obtain ⟨t1, t2, t3⟩ := T0.out W1 (Below.refl _ _)
      have hs1 := cell_lt t1
      go_wp2_with (first
        | (go_at_call 17; ((with_reducible refine CC.out.mono ?_); rintro e w2 ⟨rfl, h2⟩); go_must (have B2 := Lib.hid h2; clear h2))
        | (go_at_call 18; ((with_reducible refine (V.out _ (B1.out.trans (B2.out.mono B1.out.size))).mono ?_); rintro e w3 ⟨rfl, h3⟩); go_must (have B3 := Lib.hid (B2.out.trans (h3.mono B2.out.size)); clear h3))
        | (go_at_call 19; ((with_reducible refine (ways_any _).mono ?_); rintro e w4 ⟨rfl, hw4⟩); go_must (have B4 := Lib.hid (B3.out.trans (show Below W1.heap.size w3 w4 from hw4 ▸ ((Below.refl w3.heap.size w3).alloc (Nat.le_refl _) _).mono B3.out.size)); have f0 : w4.cell? ⟨w3.heap.size, 0, none⟩ = some (.func (.func 38) #[] #[]) := (by rw [hw4]; simp); have f1 : w4.cell? ⟨w3.heap.size, 1, none⟩ = some (.func (.func 39) #[] #[]) := (by rw [hw4]; simp); clear hw4))
        | fail)
      generalize w3.heap.size = gw at *
      go_loopw [21] (fun i wr => ∃ k : Nat, i = .int .i64 k ∧ k ≤ 2 ∧ Below w4.heap.size w4 wr ∧ (1 ≤ k → P.2 = false) ∧ (2 ≤ k → Q.2 = false)) (fun i _ => 2 - (intOf i).toNat)
      case atStart => exact ⟨0, rfl, by omega, Below.refl _ _, fun h => by omega, fun h => by omega⟩
      case round =>
        obtain ⟨k, rfl, hk, hb, hP, hQ⟩ := hrel
        have HB := Lib.hid (B4.out.trans (hb.mono B4.out.size))
        have HW := Lib.hid (B1.out.trans (HB.out.mono B1.out.size))
        obtain ⟨r1, r2, r3⟩ := T0.out wr HB.out
        have e0 := cell_next f0 hb
        have e1 := cell_next f1 hb
        have HBB := Lib.hid hb
        clear hb f0 f1 t1 t2 t3
        rcases (show k = 0 ∨ k = 1 ∨ k = 2 by omega) with rfl | rfl | rfl
        · have K0 := Lib.hid (C0.out wr HW.out)
          cases hp : P.2
          · go_wp2_with (first
              | (go_at_call 20; ((with_reducible refine K0.out.mono ?_); rintro e w5 ⟨rfl, h5⟩); go_must (have B5 := Lib.hid h5; clear h5))
              | fail)
            go_roundw
            case rel => exact ⟨1, rfl, by omega, HBB.out.trans (B5.out.mono HBB.out.size), fun _ => (by first | exact hp | trivial), fun h => by omega⟩
            case measure => simp [intOf]
          · go_wp2_with (first
              | (go_at_call 20; ((with_reducible refine K0.out.mono ?_); rintro e w5 ⟨rfl, h5⟩); go_must (have B5 := Lib.hid h5; clear h5))
              | fail)
            go_ret2
            exact ⟨by rw [HM.out, if_pos hp]; rfl, HW.out.trans (B5.out.mono HW.out.size)⟩
        · have K0 := Lib.hid (C1.out wr HW.out)
          cases hp : Q.2
          · go_wp2_with (first
              | (go_at_call 20; ((with_reducible refine K0.out.mono ?_); rintro e w5 ⟨rfl, h5⟩); go_must (have B5 := Lib.hid h5; clear h5))
              | fail)
            go_roundw
            case rel => exact ⟨2, rfl, by omega, HBB.out.trans (B5.out.mono HBB.out.size), fun _ => hP (by omega), fun _ => (by first | exact hp | trivial)⟩
            case measure => simp [intOf]
          · go_wp2_with (first
              | (go_at_call 20; ((with_reducible refine K0.out.mono ?_); rintro e w5 ⟨rfl, h5⟩); go_must (have B5 := Lib.hid h5; clear h5))
              | fail)
            go_ret2
            exact ⟨by rw [HM.out, if_neg (by simp [hP]), if_pos hp]; rfl, HW.out.trans (B5.out.mono HW.out.size)⟩
        · go_wp2
          go_ret2
          exact ⟨by rw [HM.out, if_neg (by simp [hP]), if_neg (by simp [hQ])]; rfl, HW.out⟩
    · rw [Bool.not_eq_true] at hv
      rw [hv] at V
      have hM : matchesF t s.data.toList = (false, 0) := by unfold matchesF; rw [if_pos hc, if_neg (by simp [hv])]
      rw [hc] at CC
      rw [hM]
      clear hM hc hok hN hv HT HU b1
      go_enter Tryz.func7, Tryz.ntmps7
      go_wp2_with (first
        | (go_at_call 17; ((with_reducible refine CC.out.mono ?_); rintro e w2 ⟨rfl, h2⟩); go_must (have B2 := Lib.hid h2; clear h2))
        | (go_at_call 18; ((with_reducible refine (V.out _ (B1.out.trans (B2.out.mono B1.out.size))).mono ?_); rintro e w3 ⟨rfl, h3⟩); go_must (have B3 := Lib.hid (B2.out.trans (h3.mono B2.out.size)); clear h3))
        | fail)
      go_ret2
      exact ⟨rfl, B1.out.trans (B3.out.mono B1.out.size)⟩
  · have hM : matchesF t s.data.toList = (false, checkE t) := by unfold matchesF; rw [if_neg hc]
    rw [hM]
    have hce : (checkE t == 0) = false := by simpa using hc
    clear hM HT HU b1 hc
    generalize checkE t = E at *
    go_enter Tryz.func7, Tryz.ntmps7
    go_wp2_with (first
      | (go_at_call 17; ((with_reducible refine CC.out.mono ?_); rintro e w2 ⟨rfl, h2⟩); go_must (have B2 := Lib.hid h2; clear h2))
      | fail)
    go_ret2
    exact ⟨rfl, B1.out.trans (B2.out.mono B1.out.size)⟩

set_option maxRecDepth 100000 in
set_option maxHeartbeats 8000000 in
theorem nullable_any (hT : TreeAt w v t) :
    Calls Tryz.prog 9 #[v] w fun e w' => e = .returned (.bool (nullF t)) ∧ Below w.heap.size w w' := by
  have HT := Lib.hid hT
  obtain ⟨ao, cap, so, scap, rfl, _, _, _, _⟩ := hT.shape
  have b1 : Below w.heap.size w (w.alloc (.cells #[.slice ao t.ns.length cap, .slice so t.sets.length scap, .int .i64 t.root] 25)) := (Below.refl w.heap.size w).alloc (Nat.le_refl _) _
  have B1 := Lib.hid b1
  have CC := Lib.hid (check_any t _ _ (hT.next b1))
  have t0 : ∀ X, Below (w.alloc (.cells #[.slice ao t.ns.length cap, .slice so t.sets.length scap, .int .i64 t.root] 25)).heap.size (w.alloc (.cells #[.slice ao t.ns.length cap, .slice so t.sets.length scap, .int .i64 t.root] 25)) X → X.cell? ⟨w.heap.size, 0, none⟩ = some (.slice ao t.ns.length cap) ∧ X.cell? ⟨w.heap.size, 1, none⟩ = some (.slice so t.sets.length scap) ∧ X.cell? ⟨w.heap.size, 2, none⟩ = some (.int .i64 t.root) := fun X hX => ⟨cell_next (by simp) hX, cell_next (by simp) hX, cell_next (by simp) hX⟩
  have T0 := Lib.hid t0
  clear hT t0
  by_cases hc : checkE t = 0
  · obtain ⟨hok, hN, _⟩ := check_ok hc
    obtain ⟨m1, m2, m3, m4⟩ := mkF_out hok hN
    have MD := Lib.hid (fun W0 X bb M (hW : Below w.heap.size w W0) (hX : BookAt W0 bb M startB X) => made_any hok hN hX (HT.out.next hW))
    have hM : nullF t = bareAt (mkF t).1 (mkF t).2.2 := by unfold nullF; rw [if_pos hc]
    unfold MadeOut at MD
    rw [hc] at CC
    rw [hM]
    generalize (mkF t).2.2 = x0 at *
    generalize (mkF t).1 = B0 at *
    have HG := Lib.hid m1
    clear hM hc hok hN HT m1 m2 m4
    go_enter Tryz.func9, Tryz.ntmps9
    go_upto_region 1 with fail
    clear b1
    generalize w.alloc (.cells #[.slice ao t.ns.length cap, .slice so t.sets.length scap, .int .i64 t.root] 25) = W1 at *
    obtain ⟨s1, s2, s3⟩ := T0.out W1 (Below.refl _ _)
    have hs1 := cell_lt s1
    go_upto_region 5 with (first
      | (go_at_call 17; ((with_reducible refine CC.out.mono ?_); rintro e w2 ⟨rfl, h2⟩); go_must (have B2 := Lib.hid h2; clear h2))
      | (go_at_call 23; ((with_reducible refine (opened_any w2).mono ?_); rintro e w3 ⟨rfl, h3⟩); go_must (have H3 := Lib.hid h3; have B3 := Lib.hid (B2.out.trans (h3.below.mono B2.out.size)); obtain ⟨t1, t2, t3⟩ := T0.out w3 B3.out; clear h3))
      | (go_at_call 24; ((with_reducible refine (MD.out w2 _ _ _ (B1.out.trans (B2.out.mono B1.out.size)) H3.out).mono ?_); rintro e w4 ⟨rfl, h4, k4⟩); go_must (have H4 := Lib.hid h4; have B4 := Lib.hid (B2.out.trans (h4.below.mono B2.out.size)); clear h4 k4))
      | fail)
    obtain ⟨pv, sv, bv, xs, hb⟩ := H4.out
    have b2 := hb.cell2
    obtain ⟨gv, cp, rfl, hl, hcx⟩ := hb.bareAt HG.out m3
    have hxi : (x0 : Int) < (B0.parts.length : Int) := by omega
    clear hb MD CC
    go_wp2
    go_ret
    exact ⟨rfl, B1.out.trans (B4.out.mono B1.out.size)⟩
  · have hM : nullF t = false := by unfold nullF; rw [if_neg hc]
    rw [hM]
    have hce : (checkE t == 0) = false := by simpa using hc
    clear hM HT b1 hc
    generalize checkE t = E at *
    go_enter Tryz.func9, Tryz.ntmps9
    go_wp2_with (first
      | (go_at_call 17; ((with_reducible refine CC.out.mono ?_); rintro e w2 ⟨rfl, h2⟩); go_must (have B2 := Lib.hid h2; clear h2))
      | fail)
    go_ret
    exact ⟨rfl, B1.out.trans (B2.out.mono B1.out.size)⟩
end
end Go.Proofs.YtbkafoaoddajoaaGreatDoor.Dv

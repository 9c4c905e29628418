/- A range over a right text: the rune at a place, the iterator's step. Has a tree a text: the program's has, of either way. One node: its parts, may it be; how many times. -/
import Derived.Test.YtjmdlioakkibcaaGreatDoorPk19
import Derived.Lib.OthersKept
import Derived.Lib.RuneCount
import Derived.Test.YtjmdlioakkibcaaGreatDoorPk18
import Derived.Test.YtjmdlioakkibcaaGreatDoorPk04
import Derived.Deep.RegionHeld3

namespace Go.Proofs.YtjmdlioakkibcaaGreatDoor.Ut
open Go.RowKit Go.Shelf

theorem iter_grown {w : World} {k : Nat} {s : ByteArray} (pos' : Nat) : w.grownBy (w.iterAt k s pos') (some k) :=
  ⟨rfl, rfl, rfl, by rw [Lib.iterAt_size]; exact Nat.le_refl _, fun j _ hj => Lib.iterAt_other w k j s pos' (fun e => hj (by rw [e]))⟩

/-- the rune at a place of a right text -/
theorem right_at {s : ByteArray} {pos : Nat} {pre : List Int} (hp : pos < s.size) (hv : validL s.data.toList = true) (ha : allL s.data.toList = pre ++ allL (s.data.toList.drop pos)) :
    1 ≤ (Utf8.decode s pos).2 ∧ pos + (Utf8.decode s pos).2 ≤ s.size ∧ (Utf8.decode s pos).1 ≤ 1114111 ∧ allL s.data.toList = (pre ++ [((Utf8.decode s pos).1 : Int)]) ++ allL (s.data.toList.drop (pos + (Utf8.decode s pos).2)) := by
  have hsz := Lib.size_eq s
  have hl : pos < s.data.toList.length := by omega
  have hst := all_step hl
  have hne : s.data.toList.drop pos ≠ [] := by
    intro e
    have := congrArg List.length e
    simp only [List.length_drop, List.length_nil] at this; omega
  have hd : Utf8.decode s pos = dN (s.data.toList.drop pos) := by
    rw [Lib.decode_N]
    unfold dN
    rw [Lib.getD_dropU, Lib.getD_dropU, Lib.getD_dropU, Lib.getD_dropU, List.length_drop]
    rfl
  rcases getL_cases hne with h | h
  · exfalso
    rw [hst, h] at ha
    unfold validL at hv
    rw [ha, List.all_append] at hv
    simp at hv
  · have h1 := dN_of h
    have h2 := h.len
    have h3 := h.scalar
    rw [scalar_iff] at h3
    rw [List.length_drop] at h2
    rw [hd, h1]
    refine ⟨by simp only; omega, by simp only; omega, by simp only; omega, ?_⟩
    rw [ha, hst]
    have e : (((getL (s.data.toList.drop pos)).1.toNat : Nat) : Int) = (getL (s.data.toList.drop pos)).1 := by omega
    simp [e]

end Go.Proofs.YtjmdlioakkibcaaGreatDoor.Ut

namespace Go.Proofs.YtjmdlioakkibcaaGreatDoor.Dv
open Go Go.RowKit Go.Shelf Go.Maps
open Go.Proofs.YtjmdlioakkibcaaGreatDoor.Ar (timesB Nd nd nodeB nodeB_ways NRow cellsN aggN flatN Book WfN Wf NodeAt node_new nodes_of_row Tr Ok TreeAt)
open Go.Proofs.YtjmdlioakkibcaaGreatDoor.Rg (R RngsAt RowsAt nthL add_zero own_next)
open Go.Proofs.YtjmdlioakkibcaaGreatDoor.Ut (allL validL right_at iter_grown)
section
variable {w0 w : World} {bb M gb k : Nat} {B : Bk} {lv : Value} {l : List Nat} {s : ByteArray} {pos : Nat}
theorem Kg.of_iter (hN : w0.heap.size ≤ k) (pos' : Nat) : Kg w0.heap.size (fun j => j = k) (fun _ => False) w (w.iterAt k s pos') := Kg.of_grown (iter_grown pos') fun g e => by cases e; exact ⟨hN, .inl rfl⟩
theorem BookAt.iter (h : BookAt w0 bb M B w) (hk : w.heap[k]? = some (.stringIter s pos)) (hN : w0.heap.size ≤ k) (pos' : Nat) : BookAt w0 bb M B (w.iterAt k s pos') := by
  obtain ⟨pv, sv, bv, xs, hb⟩ := h
  have hz : ∀ {e : TypeId} {s m : Nat} {v : Value} {ys : List Value}, w.ownsRow w0.heap.size e s v m ys → ∀ g, v.ownBlock = some g → ¬ g = k := fun hr g hv e => by
    obtain ⟨_, cs, hh⟩ := row_block hr hv
    rw [e, hk] at hh; cases hh
  refine ⟨pv, sv, bv, xs, hb.keep (Kg.of_iter hN pos') rfl ?_ ?_ (fun _ _ => id) (fun g hg => ?_)⟩
  · rintro rfl
    have := hb.box
    rw [hk] at this; cases this
  · rintro rfl
    obtain ⟨D, h1, _⟩ := hb.map.map
    obtain ⟨es, clock, hh, _⟩ := h1
    rw [hk] at hh; cases hh
  · rcases hg with hg | hg | hg
    · exact hz hb.parts g hg
    · exact hz hb.sets g hg
    · exact hz hb.bare g hg
theorem RowI.iter (h : RowI w lv l) (hk : w.heap[k]? = some (.stringIter s pos)) (pos' : Nat) : RowI (w.iterAt k s pos') lv l :=
  h.kg (Kg.of_grown (iter_grown pos') fun g e => by cases e; exact ⟨Nat.zero_le _, .inl rfl⟩ : Kg 0 (fun j => j = k) (fun _ => False) w (w.iterAt k s pos')) id (fun g hg e => h.ne hk (fun _ _ e => by cases e) hg e)
theorem BookAt.next' {w' : World} (h : BookAt w0 bb M B w) (hb : Below w.heap.size w w') : BookAt w0 bb M B w' := by
  obtain ⟨_, _, _, _, h⟩ := h
  exact ⟨_, _, _, _, h.next hb⟩
theorem BookAt.full (h : BookAt w0 bb M B w) : w.cell? ⟨bb, 4, none⟩ = some (.bool B.full) := by
  obtain ⟨_, _, _, _, h⟩ := h
  exact h.cell4
theorem BookAt.below (h : BookAt w0 bb M B w) : Below w0.heap.size w0 w := by
  obtain ⟨_, _, _, _, h⟩ := h
  exact h.below
/-- a way, as a function's number -/
structure WayC (K : Nat) (way : Way) : Prop where
  ok : WayOk way
  enters : Enters Tryz.prog K
  calls : ∀ (w0 w : World) (bb M : Nat) (B : Bk) (lv : Value) (l : List Nat) (c : Int), BookAt w0 bb M B w → Good B → RowI w lv l → (∀ x, x ∈ l → x < B.parts.length) → Calls Tryz.prog K #[.pointer (some ⟨bb, 0, none⟩), lv, .int .i64 c] w (WayAt w0 bb M w (way B l c))
theorem spread_c : WayC 38 spreadF := ⟨spread_ok, enters_of Tryz.func38 (by kernel_rfl) rfl, fun _ _ _ _ _ _ _ _ h g hr hl => spread_any h g hr hl⟩
theorem whole_c : WayC 39 wholeF := ⟨whole_ok, enters_of Tryz.func39 (by kernel_rfl) rfl, fun _ _ _ _ _ _ _ _ h g hr hl => whole_any h g hr hl⟩

/-- what is left to be looked at -/
structure HasAt (W1 : World) (bb M gb it : Nat) (way : Way) (s : ByteArray) (R : Bool × Bool) (lv : Value) (pos : Nat) (B : Bk) (l : List Nat) (w : World) : Prop where
  le : pos ≤ s.size
  obj : w.heap[it]? = some (.stringIter s pos)
  box : w.heap[gb]? = some (.cells #[.pointer (some ⟨bb, 0, none⟩)] 53 (0, 0))
  book : BookAt W1 bb M B w
  good : Good B
  row : RowI w lv l
  lt : ∀ x, x ∈ l → x < B.parts.length
  ahead : ∃ pre, allL s.data.toList = pre ++ allL (s.data.toList.drop pos)
  run : hasF way B l (allL (s.data.toList.drop pos)) = R
theorem HasAt.step {W1 : World} {bb M gb it : Nat} {way : Way} {R : Bool × Bool} {c m : Nat} (h : HasAt W1 bb M gb it way s R lv pos B l w) (hb : W1.heap.size ≤ it) (hp : pos + m ≤ s.size) (hw : WayOk way)
    {pre : List Int} (ha : allL s.data.toList = (pre ++ [(c : Int)]) ++ allL (s.data.toList.drop (pos + m))) (hc : allL (s.data.toList.drop pos) = (c : Int) :: allL (s.data.toList.drop (pos + m)))
    {X Y : World} {v : Value} (hX : Below (w.iterAt it s (pos + m)).heap.size (w.iterAt it s (pos + m)) X) (k : Kg W1.heap.size (Ub bb M) Tw X Y) (hbY : BookAt W1 bb M (way B l c).1 Y) (hrY : RowI Y v (way B l c).2) :
    ((way B l c).1.full = true → R = (false, false)) ∧ ((way B l c).1.full = false → (way B l c).2 = [] → R = (false, true)) ∧ ((way B l c).1.full = false → (way B l c).2 ≠ [] → HasAt W1 bb M gb it way s R v (pos + m) (way B l c).1 (way B l c).2 Y) ∧
    Y.heap[gb]? = some (.cells #[.pointer (some ⟨bb, 0, none⟩)] 53 (0, 0)) ∧ (∀ x, x ∈ (way B l c).2 → x < (way B l c).1.parts.length) ∧ Good (way B l c).1 := by
  have o := hw B l c h.good h.lt
  have hr := h.run
  rw [hc] at hr
  unfold hasF at hr
  have hit1 := Lib.iterAt_heap w it s pos (pos + m) h.obj
  have hgb : gb ≠ it := by
    rintro rfl
    have := h.box
    rw [h.obj] at this; cases this
  have hbx1 : (w.iterAt it s (pos + m)).heap[gb]? = some (.cells #[.pointer (some ⟨bb, 0, none⟩)] 53 (0, 0)) := (Lib.iterAt_other w it gb s (pos + m) hgb).trans h.box
  have hit2 := (hX.block it (Array.getElem?_eq_some_iff.1 hit1).1).trans hit1
  have hbx2 := (hX.block gb (Array.getElem?_eq_some_iff.1 hbx1).1).trans hbx1
  have hbX := (h.book.iter h.obj hb (pos + m)).next' hX
  have hbx3 := k.heap hbx2 (hbX.neU hbx2 (by decide)) (fun _ _ _ e => by cases e; unfold Tw Tb; decide)
  have hit3 : Y.heap[it]? = some (.stringIter s (pos + m)) := k.heap hit2 (fun e => by
    obtain ⟨_, _, _, _, hk⟩ := hbX
    rcases e with rfl | rfl
    · have := hk.box
      rw [hit2] at this; cases this
    · obtain ⟨D, h1, _⟩ := hk.map.map
      obtain ⟨es, clock, hh, _⟩ := h1
      rw [hit2] at hh; cases hh) (fun _ _ _ e => by cases e)
  refine ⟨fun hf => ?_, fun hf hn => ?_, fun hf hn => ?_, hbx3, o.lt, o.good⟩
  · rw [if_pos hf] at hr; exact hr.symm
  · rw [if_neg (by simp [hf]), if_pos hn] at hr; exact hr.symm
  · rw [if_neg (by simp [hf]), if_neg hn] at hr
    exact ⟨hp, hit3, hbx3, hbY, o.good, hrY, o.lt, ⟨_, ha⟩, hr⟩
set_option maxRecDepth 100000 in
set_option maxHeartbeats 8000000 in
theorem has_tree_any {K : Nat} {way : Way} (hK : WayC K way) {t : Tr} (ht : Ok t) (hN : t.ns.length ≤ 4096) {vn vs : Value} (hT : TreeAt w (.agg #[vn, vs, .int .i64 t.root]) t) (hv : validL s.data.toList = true) :
    Calls Tryz.prog 20 #[.agg #[vn, vs, .int .i64 t.root], .string s, .func (.func K) #[] #[]] w fun e w' => e = .returned (.tuple #[.bool (hasF way (mkF t).1 [(mkF t).2.2] (allL s.data.toList)).1, .bool (hasF way (mkF t).1 [(mkF t).2.2] (allL s.data.toList)).2]) ∧ Below w.heap.size w w' := by
  have hE : ∀ (args : Array Value) (w : World), (callFunc K args).run Tryz.prog w = .ok (.enter K args) w := hK.enters
  obtain ⟨m1, m2, m3, m4⟩ := mkF_out ht hN
  have HM := Lib.hid m1
  have b1 : Below w.heap.size w (w.alloc (.cells #[vn, vs, .int .i64 t.root] 25)) := (Below.refl w.heap.size w).alloc (Nat.le_refl _) _
  have B1 := Lib.hid b1
  have OP := Lib.hid (opened_any (w.alloc (.cells #[vn, vs, .int .i64 t.root] 25)))
  have hs1 : (w.alloc (.cells #[vn, vs, .int .i64 t.root] 25)).heap.size = w.heap.size + 1 := by simp
  have t0 : ∀ X, Below (w.alloc (.cells #[vn, vs, .int .i64 t.root] 25)).heap.size (w.alloc (.cells #[vn, vs, .int .i64 t.root] 25)) X → X.cell? ⟨w.heap.size, 0, none⟩ = some vn ∧ X.cell? ⟨w.heap.size, 1, none⟩ = some vs ∧ X.cell? ⟨w.heap.size, 2, none⟩ = some (.int .i64 t.root) := fun X hX => ⟨cell_next (by simp) hX, cell_next (by simp) hX, cell_next (by simp) hX⟩
  have T0 := Lib.hid t0
  have MD := Lib.hid (fun X bb M (hX : BookAt (w.alloc (.cells #[vn, vs, .int .i64 t.root] 25)) bb M startB X) => made_any ht hN hX (hT.next b1))
  clear hT t0 m1
  generalize hR : hasF way (mkF t).1 [(mkF t).2.2] (allL s.data.toList) = RR at *
  have HRR := Lib.hid hR
  unfold OpenAt at OP
  unfold MadeOut at MD
  go_enter Tryz.func20, Tryz.ntmps20
  go_upto_region 1 with fail
  have HS1 := Lib.hid hs1
  clear b1 hs1
  generalize w.alloc (.cells #[vn, vs, .int .i64 t.root] 25) = W1 at *
  generalize hX0 : (mkF t).2.2 = x0 at *
  generalize hB0 : (mkF t).1 = B0 at *
  clear hX0 hB0 hR
  go_upto_region 3 with (first
    | (go_at_call 23; (with_reducible refine OP.out.mono ?_); rintro e w1 ⟨rfl, h1⟩; go_must (have H1 := Lib.hid h1; obtain ⟨u0, u1, u2⟩ := T0.out _ h1.below; have hs2 : w.heap.size < w1.heap.size := cell_lt u0; have g0 := World.alloc_heap_new w1 (.cells #[.pointer (some ⟨W1.heap.size + 1, 0, none⟩)] 53); have G0 := Lib.hid g0; have BW := Lib.hid (fun o => (Below.refl w1.heap.size w1).alloc (Nat.le_refl _) o); clear h1 g0))
    | (go_at_call 24; (with_reducible refine (MD.out _ _ _ (H1.out.next' (BW.out _))).mono ?_); rintro e w2 ⟨rfl, h2, k2⟩; go_must (have H2 := Lib.hid h2; have G2 := Lib.hid (k2.heap G0.out ((H1.out.next' (BW.out _)).neU G0.out (by decide)) (fun _ _ _ e => by cases e; unfold Tb; decide)); clear h2 k2))
    | fail)
  clear MD OP T0 BW G0 H1
  generalize w1.heap.size = gb at *
  have BV := Lib.hid (fun o => (Below.refl w2.heap.size w2).alloc (Nat.le_refl _) o)
  have R0 : RowI (w2.alloc (.cells #[.int .i64 (x0 : Nat)] 3)) (.slice (some ⟨w2.heap.size, 0, none⟩) 1 1) [x0] := .inr ⟨w2.heap.size, 1, _, rfl, (by unfold maxLen; simp), World.alloc_heap_new w2 _, (by simp [castL])⟩
  have HR0 := Lib.hid R0
  have hit0 : ∀ (X : World), (X.alloc (.stringIter s 0)).heap[X.heap.size]? = some (.stringIter s 0) := fun X => World.alloc_heap_new X _
  have HI0 := Lib.hid hit0
  clear R0 hit0
  have H3 := Lib.hid (H2.out.next' (BV.out (.cells #[.int .i64 (x0 : Nat)] 3)))
  have G3 := Lib.hid (((BV.out (.cells #[.int .i64 (x0 : Nat)] 3)).block gb (Array.getElem?_eq_some_iff.1 G2.out).1).trans G2.out)
  clear H2 G2 BV u0 u1 u2
  generalize W1.heap.size + 1 = bb at *
  generalize w2.heap.size = rb at *
  generalize w2.alloc (.cells #[.int .i64 (x0 : Nat)] 3) = W3 at *
  have hW3 : W1.heap.size ≤ W3.heap.size := H3.out.below.size
  have H4 := Lib.hid (show HasAt W1 bb W1.heap.size gb W3.heap.size way s RR (.slice (some ⟨rb, 0, none⟩) 1 1) 0 B0 [x0] (W3.iter s 0) from by
    have b4 := (Below.refl W3.heap.size W3).alloc (Nat.le_refl _) (.stringIter s 0)
    exact ⟨Nat.zero_le _, HI0.out W3, (b4.block gb (Array.getElem?_eq_some_iff.1 G3.out).1).trans G3.out, H3.out.next' b4, HM.out, HR0.out.below b4, (fun x hx => by rw [List.mem_singleton] at hx; subst hx; exact m3), ⟨[], by simp⟩, by rw [List.drop_zero]; exact HRR.out⟩)
  clear H3 G3 HI0 HR0 HM HRR m2 m3 m4
  have BB := Lib.hid (fun (C : Bk) (X : World) (hX : BookAt W1 bb W1.heap.size C X) => B1.out.trans (hX.below.mono B1.out.size))
  have ef : ∀ args w, (callFunc 41 args).run Tryz.prog w = .ok (.enter 41 args) w := enters_of Tryz.func41 (by kernel_rfl) rfl
  go_wp2
  generalize W3.iter s 0 = W4 at *
  generalize W3.heap.size = it at *
  go_loopw [9] (fun v wr => ∃ (pos : Nat) (B : Bk) (l : List Nat), HasAt W1 bb W1.heap.size gb it way s RR v pos B l wr) (fun _ wr => s.size - wr.iterPos it)
  case atStart => exact ⟨0, B0, [x0], H4.out⟩
  case round =>
    clear H4
    obtain ⟨pos, B, l, h⟩ := hrel
    have hpos := h.le
    have hit := h.obj
    obtain ⟨ao, cap, rfl, hlm, _⟩ := h.row.at'
    have hgb : wr.cell? ⟨gb, 0, none⟩ = some (.pointer (some ⟨bb, 0, none⟩)) := by simp [World.cell?, h.box]
    by_cases hp : pos < s.size
    · obtain ⟨pre, hpre⟩ := h.ahead
      obtain ⟨hw1, hw2, hr1, ha2⟩ := right_at hp hv hpre
      have hnx : ∀ ty, (Instr.next (.pointer (some ⟨it, 0, none⟩)) true ty).run Tryz.prog wr = _ := fun ty => Lib.run_next_any_at wr it s pos ty hit hp
      have hcut : allL (s.data.toList.drop pos) = ((Utf8.decode s pos).1 : Int) :: allL (s.data.toList.drop (pos + (Utf8.decode s pos).2)) := by
        have e := hpre.symm.trans ha2
        rw [List.append_assoc] at e
        exact List.append_cancel_left e
      have hit2 := Lib.iterAt_heap wr it s pos (pos + (Utf8.decode s pos).2) hit
      have hgi : gb ≠ it := by
        rintro rfl
        have := h.box
        rw [hit] at this; cases this
      have hgb2 : (wr.iterAt it s (pos + (Utf8.decode s pos).2)).cell? ⟨gb, 0, none⟩ = some (.pointer (some ⟨bb, 0, none⟩)) := by
        rw [World.cell?_of_block (Lib.iterAt_other wr it gb s (pos + (Utf8.decode s pos).2) hgi)]; exact hgb
      have CK := Lib.hid (hK.calls W1 (wr.iterAt it s (pos + (Utf8.decode s pos).2)) bb W1.heap.size B (.slice ao l.length cap) l ((Utf8.decode s pos).1 : Nat) (h.book.iter hit hW3 _) h.good (h.row.iter hit _) h.lt)
      have ST := Lib.hid (fun (Y : World) (v : Value) (hr : RowI Y v (way B l ((Utf8.decode s pos).1 : Nat)).2) (hb : BookAt W1 bb W1.heap.size (way B l ((Utf8.decode s pos).1 : Nat)).1 Y) (k : Kg W1.heap.size (Ub bb W1.heap.size) Tw (wr.iterAt it s (pos + (Utf8.decode s pos).2)) Y) => h.step hW3 hw2 hK.ok ha2 hcut (Below.refl _ _) k hb hr)
      clear h hpre ha2 hcut hgb
      generalize (Utf8.decode s pos).1 = c at *
      generalize (Utf8.decode s pos).2 = m at *
      generalize wr.iterAt it s (pos + m) = W at *
      generalize hQ : way B l (c : Nat) = Q at *
      clear hQ
      unfold WayAt at CK
      by_cases hfull : Q.1.full = true
      · go_wp2_with (first
          | (go_at_fn K; ((with_reducible refine CK.out.mono ?_); rintro e w5 ⟨v, rfl, hr5, hb5, k5⟩); go_must (obtain ⟨z1, z2, z3, z4, z5, z6⟩ := ST.out w5 v hr5 hb5 k5; have f4 := hb5.full; rw [hfull] at f4; have g5 : w5.cell? ⟨gb, 0, none⟩ = some (.pointer (some ⟨bb, 0, none⟩)) := (by simp [World.cell?, z4]); have Z1 := Lib.hid (z1 hfull); have HB5 := Lib.hid (BB.out _ _ hb5); clear z1 z2 z3 z4 z5 z6 hr5 hb5 k5))
          | fail)
        go_ret2
        exact ⟨by rw [Z1.out]; rfl, HB5.out⟩
      · rw [Bool.not_eq_true] at hfull
        by_cases hnil : Q.2 = []
        · go_wp2_with (first
            | (go_at_fn K; ((with_reducible refine CK.out.mono ?_); rintro e w5 ⟨v, rfl, hr5, hb5, k5⟩); go_must (obtain ⟨z1, z2, z3, z4, z5, z6⟩ := ST.out w5 v hr5 hb5 k5; have f4 := hb5.full; rw [hfull] at f4; have g5 : w5.cell? ⟨gb, 0, none⟩ = some (.pointer (some ⟨bb, 0, none⟩)) := (by simp [World.cell?, z4]); have Z1 := Lib.hid (z2 hfull hnil); have AN := Lib.hid (fun X (hX : Below w5.heap.size w5 X) => anyB_any (hb5.next' hX) z6 (cell_next g5 hX) (hr5.below hX) z5); have HB5 := Lib.hid (fun X (hX : Below w5.heap.size w5 X) => BB.out _ _ (hb5.next' hX)); obtain ⟨ao5, cap5, rfl, _, _⟩ := hr5.at'; simp only [hnil, List.length_nil, List.any_nil] at AN; simp only [hnil, List.length_nil]; clear z1 z2 z3 z4 z5 z6 hr5 hb5 k5))
            | (go_at_call 40; ((with_reducible refine (AN.out _ (Below.refl _ _)).mono ?_); rintro e w6 ⟨rfl, q, rfl⟩))
            | fail)
          go_ret2
          exact ⟨by rw [Z1.out]; rfl, HB5.out _ (Rg.below_drewN _ _)⟩
        · go_wp2_with (first
            | (go_at_fn K; ((with_reducible refine CK.out.mono ?_); rintro e w5 ⟨v, rfl, hr5, hb5, k5⟩); go_must (obtain ⟨z1, z2, z3, z4, z5, z6⟩ := ST.out w5 v hr5 hb5 k5; have f4 := hb5.full; rw [hfull] at f4; have g5 : w5.cell? ⟨gb, 0, none⟩ = some (.pointer (some ⟨bb, 0, none⟩)) := (by simp [World.cell?, z4]); have Z3 := Lib.hid (z3 hfull hnil); obtain ⟨ao5, cap5, rfl, hm5, _⟩ := hr5.at'; have hl5 : ((Q.2.length : Int) == 0) = false := (by have := List.length_pos_iff.2 hnil; simp; omega); clear z1 z2 z3 z4 z5 z6 hr5 hb5 k5))
            | fail)
          go_roundw
          case rel => exact ⟨pos + m, Q.1, Q.2, Z3.out⟩
          case measure =>
            have := Z3.out.obj
            simp only [World.iterPos, this, hit]
            omega
    · have hnx : ∀ ty, (Instr.next (.pointer (some ⟨it, 0, none⟩)) true ty).run Tryz.prog wr = _ := fun ty => Lib.run_next_end_at wr it s pos ty hit hp
      have AN := Lib.hid (anyB_any h.book h.good hgb h.row h.lt)
      have he : s.data.toList.drop pos = [] := List.drop_eq_nil_of_le (by rw [← Lib.size_eq]; omega)
      have hr := h.run
      rw [he, Ut.allL_nil] at hr
      have HRR := Lib.hid hr
      have HB5 := Lib.hid (fun q => BB.out _ _ (h.book.next' (Rg.below_drewN wr q)))
      clear h hr he hpos
      go_wp2_with (first
        | (go_at_call 40; ((with_reducible refine AN.out.mono ?_); rintro e w6 ⟨rfl, q, rfl⟩))
        | fail)
      go_ret2
      exact ⟨by rw [← HRR.out]; rfl, HB5.out _⟩
end
end Go.Proofs.YtjmdlioakkibcaaGreatDoor.Dv

namespace Go.Proofs.YtjmdlioakkibcaaGreatDoor.Ar
open Go Go.RowKit Go.Shelf
open Go.Proofs.YtjmdlioakkibcaaGreatDoor.Rg (R RngsAt RowsAt nthL add_zero own_next)

theorem ret_b {a b : Bool} (h : a = b) : Ending.returned (.bool a) = .returned (.bool b) := by rw [h]
/-- are numbers all from 0 on, and less than n -/
def belowB (n : Int) (l : List Int) : Bool := l.all fun i => decide (0 ≤ i) && decide (i < n)
theorem belowB_at {n : Int} {l : List Int} {k : Nat} (h : k < l.length) : belowB n (l.drop k) = (decide (0 ≤ l.getD k 0) && decide (l.getD k 0 < n) && belowB n (l.drop (k + 1))) := by
  have e : l.getD k 0 = l[k] := by simp [List.getD, h]
  rw [e]
  unfold belowB
  rw [List.drop_eq_getElem_cons h, List.all_cons]

set_option maxRecDepth 100000 in
set_option maxHeartbeats 1000000 in
theorem below_any (n : Int) (v : Value) (l : List Int) (w : World) (h : IntsAt w v l) :
    Calls Tryz.prog 34 #[.int .i64 n, v] w fun e w' => e = .returned (.bool (belowB n l)) ∧ w' = w := by
  obtain ⟨ao, cap, rfl, hm, hc⟩ := h.shape
  have HC := Lib.hid hc
  clear hc h
  obtain ⟨b, hb⟩ : ∃ b, belowB n l = b := ⟨_, rfl⟩
  have HB := Lib.hid hb
  rw [hb]
  clear hb
  go_enter Tryz.func34, Tryz.ntmps34
  go_wp2
  go_loop [9] (fun i => ∃ k : Nat, k ≤ l.length ∧ i = .int .i64 k ∧ b = belowB n (l.drop k)) (fun i => l.length - (intOf i).toNat)
  case atStart => exact ⟨0, Nat.zero_le _, rfl, by rw [← HB.out]; rfl⟩
  case round =>
    obtain ⟨k, hk, rfl, he⟩ := hrel
    by_cases hlt : k < l.length
    · obtain ⟨ad, rfl, hcell⟩ := HC.out k hlt
      rw [belowB_at hlt] at he
      have HE := Lib.hid he
      clear he
      generalize l.getD k 0 = x at *
      go_wp2
      all_goals first
        | (go_ret; refine ⟨ret_b ?_, rfl⟩; rw [HE.out]; simp; omega)
        | (go_round
           case rel => exact ⟨k + 1, by omega, by go_num, by rw [HE.out]; simp; omega⟩
           case measure => simp [intOf]; omega)
    · obtain rfl : k = l.length := by omega
      rw [List.drop_length] at he
      have HE := Lib.hid he
      clear he
      go_wp2
      go_ret
      exact ⟨ret_b (by rw [HE.out]; rfl), rfl⟩

theorem timesB_eq (lo hi : Int) : timesB lo hi = true ↔ 0 ≤ lo ∧ lo ≤ 255 ∧ (hi = -1 ∨ lo ≤ hi ∧ hi ≤ 255) := by
  unfold timesB; simp; omega
set_option maxRecDepth 100000 in
set_option maxHeartbeats 1000000 in
theorem times_any (lo hi : Int) (w : World) :
    Calls Tryz.prog 52 #[.int .i64 lo, .int .i64 hi] w fun e w' => e = .returned (.bool (timesB lo hi)) ∧ w' = w := by
  have HT := Lib.hid (timesB_eq lo hi)
  generalize timesB lo hi = b at *
  go_enter Tryz.func52, Tryz.ntmps52
  go_wp2
  all_goals (
    go_ret
    refine ⟨ret_b ?_, rfl⟩
    rw [Bool.eq_iff_iff, HT.out]
    simp
    omega)
set_option maxRecDepth 100000 in
set_option maxHeartbeats 1000000 in
theorem rtimes_any (lo hi : Int) (w : World) :
    Calls Tryz.prog 44 #[.int .i64 lo, .int .i64 hi] w fun e w' => e = .returned (.bool (timesB lo hi)) ∧ w' = w := by
  have HT := Lib.hid (timesB_eq lo hi)
  generalize timesB lo hi = b at *
  go_enter Tryz.func44, Tryz.ntmps44
  go_wp2
  all_goals (
    go_ret
    refine ⟨ret_b ?_, rfl⟩
    rw [Bool.eq_iff_iff, HT.out]
    simp
    omega)

/-- the numbers of a node's parts, in a slice of the call's own -/
def PartsOut (n : Nd) (w : World) (e : Ending) (w' : World) : Prop := ∃ v, e = .returned v ∧ w'.ownsRow w.heap.size 3 1 v (partsL n).length ((partsL n).map (Value.int .i64)) ∧ Below w.heap.size w w'

set_option maxRecDepth 100000 in
set_option maxHeartbeats 1000000 in
theorem parts_any (n : Nd) (w : World) : Calls Tryz.prog 51 #[aggN n] w fun e w' => PartsOut n w e w' := by
  unfold aggN
  by_cases h3 : n.op = 3 ∨ n.op = 4
  · have e : partsL n = [n.a, n.b] := by unfold partsL; rw [if_pos h3]
    have hop : (n.op == 3) = true ∨ ((n.op == 3) = false ∧ (n.op == 4) = true) := by
      rcases h3 with h | h
      · exact .inl (by simpa using h)
      · exact .inr ⟨by simp; omega, by simpa using h⟩
    unfold PartsOut
    rw [e]
    clear h3 e
    rcases hop with z3 | ⟨z3, z4⟩
    all_goals (
      go_enter Tryz.func51, Tryz.ntmps51
      go_wp2
      go_ret
      refine ⟨_, rfl, ?_, ((Below.refl w.heap.size w).alloc (Nat.le_refl _) _).alloc (by simp) _⟩
      have := World.ownsRow_lit (base := w.heap.size) (e := 3) (size := 1) (w.alloc (.cells #[.int .i64 n.op, .int .i64 n.a, .int .i64 n.b, .int .i64 n.lo, .int .i64 n.hi, .int .i64 n.set] 35)) #[.int .i64 n.a, .int .i64 n.b] 2 (by simp) (by decide) rfl
      simpa using this)
  · by_cases h5 : n.op = 5
    · have e : partsL n = [n.a] := by unfold partsL; rw [if_neg h3, if_pos h5]
      have z3 : (n.op == 3) = false := by simp; omega
      have z4 : (n.op == 4) = false := by simp; omega
      have z5 : (n.op == 5) = true := by simpa using h5
      unfold PartsOut
      rw [e]
      clear h3 h5 e
      go_enter Tryz.func51, Tryz.ntmps51
      go_wp2
      go_ret
      refine ⟨_, rfl, ?_, ((Below.refl w.heap.size w).alloc (Nat.le_refl _) _).alloc (by simp) _⟩
      have := World.ownsRow_lit (base := w.heap.size) (e := 3) (size := 1) (w.alloc (.cells #[.int .i64 n.op, .int .i64 n.a, .int .i64 n.b, .int .i64 n.lo, .int .i64 n.hi, .int .i64 n.set] 35)) #[.int .i64 n.a] 1 (by simp) (by decide) rfl
      simpa using this
    · have e : partsL n = [] := by unfold partsL; rw [if_neg h3, if_neg h5]
      have z3 : (n.op == 3) = false := by simp; omega
      have z4 : (n.op == 4) = false := by simp; omega
      have z5 : (n.op == 5) = false := by simpa using h5
      unfold PartsOut
      rw [e]
      clear h3 h5 e
      go_enter Tryz.func51, Tryz.ntmps51
      go_wp2
      go_ret
      exact ⟨_, rfl, World.ownsRow_nil _ _ _ _, (Below.refl w.heap.size w).alloc (Nat.le_refl _) _⟩

theorem nodeB_1 {n : Nd} {i s : Int} (h : n.op = 1) : nodeB n i s = decide (n.a = 0 ∧ n.b = 0 ∧ n.lo = 0 ∧ n.hi = 0 ∧ n.set = 0) := by unfold nodeB; rw [if_pos h]
theorem nodeB_2 {n : Nd} {i s : Int} (h : n.op = 2) : nodeB n i s = decide (n.a = 0 ∧ n.b = 0 ∧ n.lo = 0 ∧ n.hi = 0 ∧ 0 ≤ n.set ∧ n.set < s) := by unfold nodeB; rw [if_neg (by omega), if_pos h]
theorem nodeB_3 {n : Nd} {i s : Int} (h : n.op = 3 ∨ n.op = 4) : nodeB n i s = decide (0 ≤ n.a ∧ n.a < i ∧ 0 ≤ n.b ∧ n.b < i ∧ n.lo = 0 ∧ n.hi = 0 ∧ n.set = 0) := by unfold nodeB; rw [if_neg (by omega), if_neg (by omega), if_pos h]
theorem nodeB_5 {n : Nd} {i s : Int} (h : n.op = 5) : nodeB n i s = (decide (0 ≤ n.a ∧ n.a < i ∧ n.b = 0 ∧ n.set = 0) && timesB n.lo n.hi) := by unfold nodeB; rw [if_neg (by omega), if_neg (by omega), if_neg (by omega), if_pos h]
theorem nodeB_0 {n : Nd} {i s : Int} (h : n.op ≠ 1) (h2 : n.op ≠ 2) (h3 : ¬ (n.op = 3 ∨ n.op = 4)) (h5 : n.op ≠ 5) : nodeB n i s = false := by unfold nodeB; rw [if_neg h, if_neg h2, if_neg h3, if_neg h5]

/-- how a node's kind is told by tests -/
theorem op_ways (n : Nd) : (n.op == 1) = true ∨ ((n.op == 1) = false ∧ (n.op == 2) = true) ∨ ((n.op == 1) = false ∧ (n.op == 2) = false ∧ (n.op == 3) = true) ∨ ((n.op == 1) = false ∧ (n.op == 2) = false ∧ (n.op == 3) = false ∧ (n.op == 4) = true) ∨ ((n.op == 1) = false ∧ (n.op == 2) = false ∧ (n.op == 3) = false ∧ (n.op == 4) = false ∧ (n.op == 5) = true) ∨ ((n.op == 1) = false ∧ (n.op == 2) = false ∧ (n.op == 3) = false ∧ (n.op == 4) = false ∧ (n.op == 5) = false) := by
  simp only [beq_iff_eq, beq_eq_false_iff_ne, ne_eq]; omega

end Go.Proofs.YtjmdlioakkibcaaGreatDoor.Ar

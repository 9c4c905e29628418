/- A tree's node read into a book: a repetition. A new book. A tree read into a book: the whole of it. A tree read into a book: the program's made. -/
import Derived.Test.YtjmdlioakkibcaaGreatDoorPk16
import Derived.Test.YtjmdlioakkibcaaGreatDoorPk15
import Derived.Test.YtjmdlioakkibcaaGreatDoorPk05
import Derived.Laws.EntriesVeiled

namespace Go.Proofs.YtjmdlioakkibcaaGreatDoor.Dv
open Go Go.RowKit Go.Shelf Go.Maps
open Go.Proofs.YtjmdlioakkibcaaGreatDoor.Ar (timesB Nd nd nodeB nodeB_ways NRow cellsN aggN flatN Book WfN Wf NodeAt node_new nodes_of_row Tr Ok TreeAt NodesAt)
open Go.Proofs.YtjmdlioakkibcaaGreatDoor.Rg (R RngsAt RowsAt nthL add_zero own_next)

section
variable {w0 w w' w1 w2 : World} {bb M Md : Nat} {B : Bk} {gd gt gm gn : Nat} {vn vs : Value} {t : Tr} {D : Mm}
set_option maxRecDepth 100000 in
set_option maxHeartbeats 8000000 in
theorem made_rep (h : MkAt w0 bb M Md gd gt gm gn vn vs t B D w) (hN : t.ns.length ≤ 4096) {i : Nat} (hi : i < t.ns.length) (hx : D.lookup i = none) (hop : (nd t.ns i).op = 5) {a : Nat} {lo hi' : Int} (ha : (nd t.ns i).a = (a : Nat)) (hb : (nd t.ns i).lo = lo) (hb' : (nd t.ns i).hi = hi') {p : Bk × Mm × Nat} {r : Bk × Nat}
    (K1 : ∀ X, MkAt w0 bb M Md gd gt gm gn vn vs t B D X → Calls Tryz.prog 47 #[.int .i64 (a : Nat), .pointer (some ⟨gd, 0, none⟩), .pointer (some ⟨gt, 0, none⟩), .pointer (some ⟨gm, 0, none⟩), .pointer (some ⟨gn, 0, none⟩)] X (MadeAt w0 bb M Md gd gt gm gn vn vs t X p))
    (K3 : ∀ X, BookAt w0 bb M p.1 X → Calls Tryz.prog 99 #[.pointer (some ⟨bb, 0, none⟩), .int .i64 (p.2.2 : Nat), .int .i64 lo, .int .i64 hi'] X (OpAt w0 bb M X r))
    (hr : r.2 < 1000000) (hl : p.2.1.length < 1000000) (hn : p.2.1.lookup i = none) :
    Calls Tryz.prog 47 #[.int .i64 (i : Nat), .pointer (some ⟨gd, 0, none⟩), .pointer (some ⟨gt, 0, none⟩), .pointer (some ⟨gm, 0, none⟩), .pointer (some ⟨gn, 0, none⟩)] w (MadeAt w0 bb M Md gd gt gm gn vn vs t w (r.1, (i, r.2) :: p.2.1, r.2)) := by
  have hE : ∀ (args : Array Value) (w : World), (callFunc 99 args).run Tryz.prog w = .ok (.enter 99 args) w := eRepB
  have hE2 : ∀ (args : Array Value) (w : World), (callFunc 47 args).run Tryz.prog w = .ok (.enter 47 args) w := eMade
  obtain ⟨c1, c2, c3, c4, c5⟩ := h.cells
  obtain ⟨c, hlk0⟩ := ilook_out h.done (by omega) hx
  have hlk := hlk0 w (Below.refl _ _)
  clear hlk0
  have d1 := cell_lt c1
  have d2 := cell_lt c2
  have d4 := cell_lt c4
  have d5 := cell_lt c5
  obtain ⟨l1, l2, l3, l4, l5, l6⟩ := h.ltAll
  obtain ⟨ao, cap, so, scap, hv, hm, hm2, hns, _⟩ := h.tree.shape
  simp only [Value.agg.injEq, Array.mk.injEq, List.cons.injEq, and_true] at hv
  obtain ⟨rfl, rfl⟩ := hv
  obtain ⟨ga, rfl, hnd⟩ := hns i hi
  have hnd' := hnd.same (l6.block _ (cell_lt hnd.c0))
  obtain ⟨q0, q1, q2, q3, q4, q5⟩ := hnd'
  have hii : (i : Int) < (t.ns.length : Int) := by omega
  have BW := Lib.hid (fun o => (Below.refl w.heap.size w).alloc (Nat.le_refl _) o)
  have hm1 := fun W N => byBook W bb _ _ N fRep
  have hm2 := fun W N => nilBook W bb _ _ N fRep
  rw [hop] at q0
  rw [ha] at q1
  rw [hb] at q3
  rw [hb'] at q4
  generalize nd t.ns i = n at *
  have BD := Lib.hid ((BW.out (.cells #[.int .i64 5, .int .i64 (a : Nat), .int .i64 n.b, .int .i64 lo, .int .i64 hi', .int .i64 n.set] 35)).trans (below_drew _))
  have NB := Lib.hid (nb_new h ⟨5, (a : Nat), n.b, lo, hi', n.set⟩)
  have HD := Lib.hid (h.next BD.out)
  have C1 := Lib.hid (K1 _ HD.out)
  have C3 := Lib.hid K3
  have HNN := Lib.hid hn
  have FD := Lib.hid (Fm.of_below BD.out l1 : Fm bb M Md w _)
  unfold MadeAt at C1
  unfold OpAt at C3
  clear h hns hx hm hnd K1 K3 hn ha hb hb'
  go_enter Tryz.func47, Tryz.ntmps47
  go_wp2
  go_region_held3 (fun X => X.cell? ⟨gm, 0, none⟩ = some (.iface 53 (.pointer (some ⟨bb, 0, none⟩))) ∧ X.cell? ⟨gn, 0, none⟩ = some (.func (.func 47) #[] #[.pointer (some ⟨gd, 0, none⟩), .pointer (some ⟨gt, 0, none⟩), .pointer (some ⟨gm, 0, none⟩), .pointer (some ⟨gn, 0, none⟩)]) ∧ X.cell? ⟨w.heap.size, 1, none⟩ = some (.int .i64 (a : Nat)) ∧ X.cell? ⟨w.heap.size, 3, none⟩ = some (.int .i64 lo) ∧ X.cell? ⟨w.heap.size, 4, none⟩ = some (.int .i64 hi')) (first | exact ⟨by assumption, by assumption, by assumption, by assumption, by assumption⟩ | go_keep)
    (first
      | (go_at_fn 47; ((with_reducible refine C1.out.mono ?_); rintro e w1 ⟨rfl, h1, k1⟩); go_must (have nb := NB.out.fm k1; obtain ⟨_, _, _, u4, u5⟩ := h1.cells; have u6 := nb.box.at'.c1; have u7 := nb.box.at'.c3; have u8 := nb.box.at'.c4; have H1 := Lib.hid h1; have NB1 := Lib.hid nb; have F1 := Lib.hid (FD.out.trans k1); clear h1 k1 nb C1))
      | (go_at_fn 99; ((with_reducible refine (C3.out _ H1.out.book).mono ?_); rintro e w3 ⟨rfl, h3, k3⟩); go_must (have H3 := Lib.hid (H1.out.kb h3 k3); have nb := NB1.out.fm (Fm.of_fz k3); obtain ⟨v1, _, _, v4, v5⟩ := H3.out.cells; have v6 := nb.box.at'.c1; have v7 := nb.box.at'.c3; have v8 := nb.box.at'.c4; have F3 := Lib.hid (F1.out.trans (Fm.of_fz k3)); clear h3 k3 nb C3 u4 u5 u6 u7 u8))
      | fail)
  all_goals
    obtain ⟨w4, hrun, hM4, hF4⟩ := H3.out.note (i := i) (x := r.2) (by omega) hr hl HNN.out
    have HM4 := Lib.hid hM4
    have HF4 := Lib.hid (F3.out.trans hF4)
    clear hM4 hF4 hlk c1 c2 c3 c4 c5
    go_wp2
    go_ret
    exact ⟨rfl, HM4.out, HF4.out⟩

end
end Go.Proofs.YtjmdlioakkibcaaGreatDoor.Dv

namespace Go.Proofs.YtjmdlioakkibcaaGreatDoor.Dv
open Go Go.RowKit Go.Shelf Go.Maps
open Go.Proofs.YtjmdlioakkibcaaGreatDoor.Ar (timesB Nd nd nodeB nodeB_ways NRow cellsN aggN flatN Book WfN Wf NodeAt node_new nodes_of_row book_new)
open Go.Proofs.YtjmdlioakkibcaaGreatDoor.Rg (R RngsAt RowsAt nthL add_zero own_next has_any inB equal_any)

theorem start_steps : number (setF ⟨[], [], [], false⟩ []).1 nEmp true = (startB, 1) := by rfl
theorem start_set : (setF ⟨[], [], [], false⟩ []).1 = ⟨[nSet 0], [[]], [false], false⟩ := by rfl
/-- a book of nothing -/
theorem bare_book (w : World) : BookAt w (w.heap.size + 1) w.heap.size ⟨[], [], [], false⟩ ((w.alloc (.map #[] 0)).alloc (.cells #[.slice none 0 0, .slice none 0 0, .slice none 0 0, .map (some w.heap.size), .bool false] 58)) := by
  have b2 := (Below.refl (w.alloc (.map #[] 0)).heap.size _).alloc (Nat.le_refl _) (.cells #[.slice none 0 0, .slice none 0 0, .slice none 0 0, .map (some w.heap.size), .bool false] 58)
  have hs : (w.alloc (.map #[] 0)).heap.size = w.heap.size + 1 := by simp
  refine ⟨.slice none 0 0, .slice none 0 0, .slice none 0 0, [], ⟨((Below.refl w.heap.size w).alloc (Nat.le_refl _) _).alloc (by simp) _, by omega, Nat.le_refl _, ?_, ⟨rfl, .inl ⟨rfl, rfl⟩⟩, ⟨rfl, .inl ⟨rfl, rfl⟩⟩, fun i hi => by simp at hi, ⟨rfl, .inl ⟨rfl, rfl⟩⟩, ?_⟩⟩
  · rw [← hs]
    exact World.alloc_heap_new _ _
  · have hb := book_new w
    refine ⟨hb.nodup, hb.wf, ?_⟩
    obtain ⟨D, h1, h2⟩ := hb.map
    exact ⟨D, (Kg.of_below b2 : Kg 0 (fun _ => False) (fun _ => False) _ _).map h1 id, h2⟩

def OpenAt (w : World) (e : Ending) (w' : World) : Prop := e = .returned (.pointer (some ⟨w.heap.size + 1, 0, none⟩)) ∧ BookAt w (w.heap.size + 1) w.heap.size startB w'
set_option maxRecDepth 100000 in
set_option maxHeartbeats 4000000 in
theorem opened_any (w : World) : Calls Tryz.prog 23 #[] w (OpenAt w) := by
  have hmm := @run_makeMap Tryz.prog
  have C1 := Lib.hid (bset_any (bare_book w) rfl (by decide) (l := []) (vl := .slice none 0 0) (.inl ⟨rfl, rfl⟩) (by decide))
  have C2 := Lib.hid (fun X (hX : BookAt w (w.heap.size + 1) w.heap.size (setF ⟨[], [], [], false⟩ []).1 X) => number0_any nEmp true hX (by rw [start_set]; rfl) (by rw [start_set]; decide) (wfN_of (by decide)))
  unfold aggN nEmp at C2
  dsimp only at C2
  unfold OpAt at C1 C2
  have HE := Lib.hid start_steps
  unfold nEmp at HE
  generalize setF ⟨[], [], [], false⟩ [] = S at *
  generalize number S.1 _ true = S2 at *
  go_enter Tryz.func23, Tryz.ntmps23
  go_wp2_with (first
    | (go_at_call 45; (with_reducible refine C1.out.mono ?_); rintro e w1 ⟨rfl, h1, k1⟩; go_must (have H1 := Lib.hid h1; clear h1 k1 hmm))
    | (go_at_call 46; (with_reducible refine (C2.out _ H1.out).mono ?_); rintro e w2 ⟨rfl, h2, k2⟩; go_must (have H2 := Lib.hid h2; clear h2 k2))
    | fail)
  go_ret
  have e1 := HE.out
  subst e1
  exact ⟨rfl, H2.out⟩
end Go.Proofs.YtjmdlioakkibcaaGreatDoor.Dv

namespace Go.Proofs.YtjmdlioakkibcaaGreatDoor.Dv
open Go Go.RowKit Go.Shelf Go.Maps
open Go.Proofs.YtjmdlioakkibcaaGreatDoor.Ar (timesB Nd nd nodeB nodeB_ways NRow cellsN aggN flatN Book WfN Wf NodeAt node_new nodes_of_row Tr Ok TreeAt NodesAt)
open Go.Proofs.YtjmdlioakkibcaaGreatDoor.Rg (R RngsAt RowsAt nthL add_zero own_next)

/-! how many sets a book has -/
theorem number_sets (B : Bk) (n : Nd) (e : Bool) : (number B n e).1.sets = B.sets := by
  unfold number
  split
  · rfl
  · split <;> rfl
theorem setF_sets (B : Bk) (l : List R) : (setF B l).1.sets.length ≤ B.sets.length + 1 := by
  unfold setF
  split
  · rw [number_sets]; omega
  · rw [number_sets]; simp
theorem catF_sets (B : Bk) (x y : Nat) : (catF B x y).1.sets = B.sets := by
  unfold catF
  split
  · rfl
  · split
    · rfl
    · split
      · rfl
      · exact number_sets _ _ _
theorem altF_sets (B : Bk) (x y : Nat) : (altF B x y).1.sets = B.sets := by
  unfold altF altG
  split
  · rfl
  · exact number_sets _ _ _
theorem repF_sets (B : Bk) (x : Nat) (lo hi : Int) : (repF B x lo hi).1.sets = B.sets := by
  unfold repF repG
  repeat' split
  all_goals first | rfl | exact number_sets _ _ _
theorem mk_sets (t : Tr) : ∀ (f : Nat) (B : Bk) (D : Mm) (i : Nat), B.sets.length ≤ 1 + D.length → (mk t f B D i).1.sets.length ≤ 1 + (mk t f B D i).2.1.length
  | 0, B, D, i, h => h
  | f + 1, B, D, i, h => by
    unfold mk
    split
    · exact h
    · split
      · have := setF_sets B (t.sets.getD (nd t.ns i).set.toNat [])
        show _ ≤ 1 + (D.length + 1)
        dsimp only
        omega
      · have h1 := mk_sets t f B D (nd t.ns i).a.toNat h
        have h2 := mk_sets t f _ _ (nd t.ns i).b.toNat h1
        split
        · dsimp only; rw [catF_sets, List.length_cons]; omega
        · split
          · dsimp only; rw [altF_sets, List.length_cons]; omega
          · split
            · dsimp only; rw [repF_sets, List.length_cons]; omega
            · dsimp only; rw [List.length_cons]; omega

section
variable {w0 : World} {bb M Md : Nat} {gd gt gm gn : Nat} {vn vs : Value} {t : Tr}
theorem lookup_of_not {D : Mm} {i : Nat} (h : i ∉ D.map Prod.fst) : D.lookup i = none := by
  induction D with
  | nil => rfl
  | cons p D ih =>
    obtain ⟨k, y⟩ := p
    rw [List.map_cons, List.mem_cons, not_or] at h
    rw [List.lookup_cons, show (i == k) = false by simpa using h.1]
    exact ih h.2
theorem mem_len {B : Bk} {D : Mm} (h : Mem t B D) (hN : t.ns.length ≤ 4096) : D.length ≤ 4096 := by
  have h3 := nodup_lt t.ns.length _ h.keys (fun x hx => by
    obtain ⟨p, hp, rfl⟩ := List.mem_map.1 hx
    exact (h.each p hp).1)
  simp at h3
  omega
theorem made1_any (ht : Ok t) (hN : t.ns.length ≤ 4096) : ∀ (f : Nat) (B : Bk) (D : Mm) (i : Nat) (w : World), MkAt w0 bb M Md gd gt gm gn vn vs t B D w → Mem t B D → B.sets.length ≤ 1 + D.length → i < f → i < t.ns.length →
    Calls Tryz.prog 47 #[.int .i64 (i : Nat), .pointer (some ⟨gd, 0, none⟩), .pointer (some ⟨gt, 0, none⟩), .pointer (some ⟨gm, 0, none⟩), .pointer (some ⟨gn, 0, none⟩)] w (MadeAt w0 bb M Md gd gt gm gn vn vs t w (mk t f B D i)) := by
  intro f
  induction f with
  | zero => intro B D i w _ _ _ h; omega
  | succ f ih =>
    intro B D i w hw hm hse hf hi
    have hnode := ht.node i hi
    have hl := mem_len hm hN
    have hsb : B.sets.length ≤ 100000 := by omega
    unfold mk
    split
    · rename_i x hx
      exact made_old hw (by omega) hx
    · rename_i hx
      have hn := lookup_none hx
      rcases nodeB_ways hnode with ⟨h1, h2⟩ | ⟨h1, h2⟩ | ⟨h1 | h1, h2⟩ | ⟨h1, h2⟩
      · rw [if_neg (by omega), if_neg (by omega), if_neg (by omega), if_neg (by omega)]
        exact made_emp hw hN hi hx (by omega) h1
      · rw [if_pos h1]
        exact made_set hw hm.good hsb hN hi hx (by omega) h1 (by omega) (by omega)
      · rw [if_neg (by omega), if_pos h1]
        have p := mk_out ht hN f B D (nd t.ns i).a.toNat hm (by omega) (by omega)
        have q := mk_out ht hN f _ _ (nd t.ns i).b.toNat p.mem (by omega) (by omega)
        have ps := mk_sets t f B D (nd t.ns i).a.toNat hse
        have o := catF_out q.mem.good (x := (mk t f B D (nd t.ns i).a.toNat).2.2) (Nat.lt_of_lt_of_le p.lt q.ext.le) q.lt
        have hn' : i ∉ (mk t f (mk t f B D (nd t.ns i).a.toNat).1 (mk t f B D (nd t.ns i).a.toNat).2.1 (nd t.ns i).b.toNat).2.1.map Prod.fst := fun h => by
          rcases q.keys i h with h | h
          · rcases p.keys i h with h | h
            · exact hn h
            · omega
          · omega
        have hql := mem_len q.mem hN
        exact made_cat hw hN hi hx h1 (a := (nd t.ns i).a.toNat) (b := (nd t.ns i).b.toNat) (by omega) (by omega)
          (fun X hX => ih B D _ X hX hm hse (by omega) (by omega)) (fun X hX => ih _ _ _ X hX p.mem ps (by omega) (by omega))
          (fun X hX => cat_any hX q.mem.good (Nat.lt_of_lt_of_le p.lt q.ext.le) q.lt) (by have := o.lt; have := o.good.small; omega) (by omega) (lookup_of_not hn')
      · rw [if_neg (by omega), if_neg (by omega), if_pos h1]
        have p := mk_out ht hN f B D (nd t.ns i).a.toNat hm (by omega) (by omega)
        have q := mk_out ht hN f _ _ (nd t.ns i).b.toNat p.mem (by omega) (by omega)
        have ps := mk_sets t f B D (nd t.ns i).a.toNat hse
        have o := altF_out q.mem.good (x := (mk t f B D (nd t.ns i).a.toNat).2.2) (Nat.lt_of_lt_of_le p.lt q.ext.le) q.lt
        have hn' : i ∉ (mk t f (mk t f B D (nd t.ns i).a.toNat).1 (mk t f B D (nd t.ns i).a.toNat).2.1 (nd t.ns i).b.toNat).2.1.map Prod.fst := fun h => by
          rcases q.keys i h with h | h
          · rcases p.keys i h with h | h
            · exact hn h
            · omega
          · omega
        have hql := mem_len q.mem hN
        exact made_alt hw hN hi hx h1 (a := (nd t.ns i).a.toNat) (b := (nd t.ns i).b.toNat) (by omega) (by omega)
          (fun X hX => ih B D _ X hX hm hse (by omega) (by omega)) (fun X hX => ih _ _ _ X hX p.mem ps (by omega) (by omega))
          (fun X hX => alt_any hX q.mem.good (Nat.lt_of_lt_of_le p.lt q.ext.le) q.lt) (by have := o.lt; have := o.good.small; omega) (by omega) (lookup_of_not hn')
      · rw [if_neg (by omega), if_neg (by omega), if_neg (by omega), if_pos h1]
        have p := mk_out ht hN f B D (nd t.ns i).a.toNat hm (by omega) (by omega)
        have o := repF_out p.mem.good p.lt (node_times hnode h1)
        have hn' : i ∉ (mk t f B D (nd t.ns i).a.toNat).2.1.map Prod.fst := fun h => by
          rcases p.keys i h with h | h
          · exact hn h
          · omega
        have hql := mem_len p.mem hN
        exact made_rep hw hN hi hx h1 (a := (nd t.ns i).a.toNat) (by omega) rfl rfl
          (fun X hX => ih B D _ X hX hm hse (by omega) (by omega))
          (fun X hX => rep_any hX p.mem.good p.lt (node_times hnode h1)) (by have := o.lt; have := o.good.small; omega) (by omega) (lookup_of_not hn')
end
end Go.Proofs.YtjmdlioakkibcaaGreatDoor.Dv

namespace Go.Proofs.YtjmdlioakkibcaaGreatDoor.Dv
open Go Go.RowKit Go.Shelf Go.Maps
open Go.Proofs.YtjmdlioakkibcaaGreatDoor.Ar (timesB Nd nd nodeB nodeB_ways NRow cellsN aggN flatN Book WfN Wf NodeAt node_new nodes_of_row Tr Ok TreeAt NodesAt)
open Go.Proofs.YtjmdlioakkibcaaGreatDoor.Rg (R RngsAt RowsAt nthL add_zero own_next)
section
variable {w0 w : World} {bb M : Nat} {vn vs : Value} {t : Tr}
def MadeOut (w0 : World) (bb M : Nat) (t : Tr) (w : World) (e : Ending) (w' : World) : Prop := e = .returned (.int .i64 ((mkF t).2.2 : Nat)) ∧ BookAt w0 bb M (mkF t).1 w' ∧ Kg w0.heap.size (Ub bb M) Tb w w'
theorem Fm.kg {Md : Nat} {B : Bk} {X Y : World} (k : Fm bb M Md X Y) (h : BookAt w0 bb M B X) (hd : w0.heap.size ≤ Md) : Kg w0.heap.size (fun k => Ub bb M k ∨ k = Md) Tb X Y := by
  obtain ⟨pv, sv, bv, xs, h⟩ := h
  refine ⟨k.os, k.tape, k.output, k.size, fun i hi hc => k.block i hi ?_ ?_ ?_ ?_⟩
  · rintro rfl
    have := h.base
    rcases hc with hc | hc
    · omega
    · exact hc.1 (.inl (.inl rfl))
  · rintro rfl
    have := h.baseM
    rcases hc with hc | hc
    · omega
    · exact hc.1 (.inl (.inr rfl))
  · rintro rfl
    rcases hc with hc | hc
    · omega
    · exact hc.1 (.inr rfl)
  · intro hr
    obtain ⟨h1, cs, t, fz, h2, h3⟩ := h.rowTb hr
    rcases hc with hc | hc
    · omega
    · exact hc.2 cs t fz h2 h3
/-- the world of a reading that begins: its boxes, the last one still empty -/
def startW (w : World) (bb : Nat) (vn vs : Value) (r : Int) : World :=
  ((((w.alloc (.cells #[.iface 53 (.pointer (some ⟨bb, 0, none⟩))] 82)).alloc (.cells #[vn, vs, .int .i64 r] 25)).alloc (.map #[] 0)).alloc (.cells #[.map (some (w.heap.size + 1 + 1))] 83)).alloc (.cells #[.nilFunc] 84)
def selfF (N : Nat) : Value := .func (.func 47) #[] #[.pointer (some ⟨N + 1 + 1 + 1, 0, none⟩), .pointer (some ⟨N + 1, 0, none⟩), .pointer (some ⟨N, 0, none⟩), .pointer (some ⟨N + 1 + 1 + 1 + 1, 0, none⟩)]
theorem new_at (w : World) (o : Obj) {k : Nat} (h : k = w.heap.size) : (w.alloc o).heap[k]? = some o := by rw [h]; exact World.alloc_heap_new w o
theorem mk_start (h : BookAt w0 bb M startB w) (hT : TreeAt w0 (.agg #[vn, vs, .int .i64 t.root]) t) :
    ((startW w bb vn vs t.root).cell? ⟨w.heap.size + 1 + 1 + 1 + 1, 0, none⟩ = some .nilFunc ∧ (startW w bb vn vs t.root).frozen? ⟨w.heap.size + 1 + 1 + 1 + 1, 0, none⟩ = false) ∧
    MkAt w0 bb M (w.heap.size + 1 + 1) (w.heap.size + 1 + 1 + 1) (w.heap.size + 1) w.heap.size (w.heap.size + 1 + 1 + 1 + 1) vn vs t startB [] ((startW w bb vn vs t.root).setCell ⟨w.heap.size + 1 + 1 + 1 + 1, 0, none⟩ (selfF w.heap.size)) ∧
    Kg w0.heap.size (fun _ => False) (fun _ => False) w ((startW w bb vn vs t.root).setCell ⟨w.heap.size + 1 + 1 + 1 + 1, 0, none⟩ (selfF w.heap.size)) := by
  have hs : (startW w bb vn vs t.root).heap.size = w.heap.size + 5 := by simp [startW]
  have e0 : (startW w bb vn vs t.root).heap[w.heap.size]? = some (.cells #[.iface 53 (.pointer (some ⟨bb, 0, none⟩))] 82 (0, 0)) := by
    unfold startW
    rw [heap_alloc_old _ _ (by simp <;> omega), heap_alloc_old _ _ (by simp <;> omega), heap_alloc_old _ _ (by simp <;> omega), heap_alloc_old _ _ (by simp), World.alloc_heap_new]
  have e1 : (startW w bb vn vs t.root).heap[w.heap.size + 1]? = some (.cells #[vn, vs, .int .i64 t.root] 25 (0, 0)) := by
    unfold startW
    rw [heap_alloc_old _ _ (by simp <;> omega), heap_alloc_old _ _ (by simp <;> omega), heap_alloc_old _ _ (by simp)]
    exact new_at _ _ (by simp)
  have e3 : (startW w bb vn vs t.root).heap[w.heap.size + 1 + 1 + 1]? = some (.cells #[.map (some (w.heap.size + 1 + 1))] 83 (0, 0)) := by
    unfold startW
    rw [heap_alloc_old _ _ (by simp)]
    exact new_at _ _ (by simp)
  have e4 : (startW w bb vn vs t.root).heap[w.heap.size + 1 + 1 + 1 + 1]? = some (.cells #[.nilFunc] 84 (0, 0)) := by
    unfold startW
    exact new_at _ _ (by simp)
  have hb : Below w.heap.size w (startW w bb vn vs t.root) := by
    unfold startW
    exact (((((Below.refl w.heap.size w).alloc (Nat.le_refl _) _).alloc (by simp) _).alloc (by simp <;> omega) _).alloc (by simp <;> omega) _).alloc (by simp <;> omega) _
  obtain ⟨pv, sv, bv, xs, hk⟩ := h
  have hbX := hk.next hb
  have hbb := hk.lt
  have hM := hk.ltM
  have hw0 : w0.heap.size ≤ w.heap.size := hk.below.size
  have kS : Kg w0.heap.size (fun k => k = w.heap.size + 1 + 1 + 1 + 1) (fun _ => False) (startW w bb vn vs t.root) ((startW w bb vn vs t.root).setCell ⟨w.heap.size + 1 + 1 + 1 + 1, 0, none⟩ (selfF w.heap.size)) := Kg.of_set (by omega) rfl
  have keep : ∀ {k : Nat} {o : Obj}, (startW w bb vn vs t.root).heap[k]? = some o → k ≠ w.heap.size + 1 + 1 + 1 + 1 → ((startW w bb vn vs t.root).setCell ⟨w.heap.size + 1 + 1 + 1 + 1, 0, none⟩ (selfF w.heap.size)).heap[k]? = some o := fun hk hn => kS.heap hk hn (fun _ _ _ _ h => h)
  have hz : ∀ {e : TypeId} {s m : Nat} {v : Value} {ys : List Value}, w.ownsRow w0.heap.size e s v m ys → ∀ g, v.ownBlock = some g → ¬ g = w.heap.size + 1 + 1 + 1 + 1 := fun hr g hv e => by
    have := (hr.lt g hv).2
    omega
  have hset := heap_setCell_same (startW w bb vn vs t.root) (w.heap.size + 1 + 1 + 1 + 1) 0 _ 84 (selfF w.heap.size) e4
  have hmap : IMap (w.heap.size + 1 + 1) [] (startW w bb vn vs t.root) := by
    have h0 := imap_new ((w.alloc (.cells #[.iface 53 (.pointer (some ⟨bb, 0, none⟩))] 82)).alloc (.cells #[vn, vs, .int .i64 t.root] 25))
    have hsz : ((w.alloc (.cells #[.iface 53 (.pointer (some ⟨bb, 0, none⟩))] 82)).alloc (.cells #[vn, vs, .int .i64 t.root] 25)).heap.size = w.heap.size + 1 + 1 := by simp
    rw [hsz] at h0
    have hb2 := ((Below.refl _ ((((w.alloc (.cells #[.iface 53 (.pointer (some ⟨bb, 0, none⟩))] 82)).alloc (.cells #[vn, vs, .int .i64 t.root] 25)).alloc (.map #[] 0)))).alloc (Nat.le_refl _) (.cells #[.map (some (w.heap.size + 1 + 1))] 83)).alloc (by simp) (.cells #[.nilFunc] 84)
    exact h0.kg (Kg.of_below hb2 : Kg 0 (fun _ => False) (fun _ => False) _ _) id
  refine ⟨⟨by simp [World.cell?, e4], frozen_of_row _ _ 0 _ _ e4⟩, ⟨⟨pv, sv, bv, xs, ?_⟩, hmap.kg kS (by omega), by omega, by omega, hT, keep e3 (by omega), keep e1 (by omega), keep e0 (by omega), ?_⟩, ((Kg.of_below hb).trans kS).mono (fun k hk hU => by omega) (fun _ h => h)⟩
  · refine hbX.keep kS rfl (by omega) (by omega) (fun _ _ => id) (fun g hg => ?_)
    rcases hg with hg | hg | hg
    · exact hz hk.parts g hg
    · exact hz hk.sets g hg
    · exact hz hk.bare g hg
  · simpa [selfF] using hset

set_option maxRecDepth 100000 in
set_option maxHeartbeats 8000000 in
theorem made_any (ht : Ok t) (hN : t.ns.length ≤ 4096) (h : BookAt w0 bb M startB w) (hT : TreeAt w0 (.agg #[vn, vs, .int .i64 t.root]) t) :
    Calls Tryz.prog 24 #[.iface 53 (.pointer (some ⟨bb, 0, none⟩)), .agg #[vn, vs, .int .i64 t.root]] w (MadeOut w0 bb M t w) := by
  have hE : ∀ (args : Array Value) (w : World), (callFunc 47 args).run Tryz.prog w = .ok (.enter 47 args) w := eMade
  have hmm := @run_makeMap Tryz.prog
  obtain ⟨⟨s1, s2⟩, hk, hkg⟩ := mk_start h hT
  have hws : w0.heap.size ≤ w.heap.size := by obtain ⟨_, _, _, _, hb⟩ := h; exact hb.below.size
  have KG := Lib.hid (fun (Y : World) (k : Kg w0.heap.size (fun _ => False) (fun _ => False) w Y) (Z : World) (k1 : Fm bb M (w.heap.size + 1 + 1) Y Z) (hY : BookAt w0 bb M startB Y) => (show Kg w0.heap.size (Ub bb M) Tb w Z from ((k.mono (fun _ _ h => h.elim) (fun _ h => h.elim)).trans (k1.kg hY (by omega))).mono (fun k hk hU => hU.elim id (fun e => by omega)) (fun _ h => h)))
  have HKG := Lib.hid hkg
  clear hkg
  have HK := Lib.hid hk
  obtain ⟨r, hr⟩ := Int.eq_ofNat_of_zero_le ht.root0
  have hr1 := ht.root1
  have C := Lib.hid (fun X (hX : MkAt w0 bb M (w.heap.size + 1 + 1) (w.heap.size + 1 + 1 + 1) (w.heap.size + 1) w.heap.size (w.heap.size + 1 + 1 + 1 + 1) vn vs t startB [] X) => made1_any ht hN (r + 1) startB [] r X hX ⟨start_good, rfl, by decide, List.nodup_nil, fun p hp => by simp at hp⟩ (by decide) (by omega) (by omega))
  have hF : mkF t = mk t (r + 1) startB [] r := by unfold mkF; rw [hr]; rfl
  obtain ⟨u1, _, u3, u4, u5⟩ := hk.cells
  have u2 : ((startW w bb vn vs t.root).setCell ⟨w.heap.size + 1 + 1 + 1 + 1, 0, none⟩ (selfF w.heap.size)).cell? ⟨w.heap.size + 1, 2, none⟩ = some (.int .i64 (r : Nat)) := by rw [← hr]; simp [World.cell?, hk.bt]
  unfold selfF at HK HKG u1 u2 u3 u4 u5
  unfold MadeOut
  rw [hF]
  generalize mk t (r + 1) startB [] r = p at *
  clear h hk hr1 hr hF
  unfold MadeAt at C
  have HS : startW w bb vn vs t.root = ((((w.alloc (.cells #[.iface 53 (.pointer (some ⟨bb, 0, none⟩))] 82)).alloc (.cells #[vn, vs, .int .i64 t.root] 25)).alloc (.map #[] 0)).alloc (.cells #[.map (some (w.heap.size + 1 + 1))] 83)).alloc (.cells #[.nilFunc] 84) := rfl
  go_enter Tryz.func24, Tryz.ntmps24
  go_upto_region 3 with fail
  rw [← HS]
  clear hmm HS
  generalize startW w bb vn vs t.root = X at *
  generalize w.heap.size + 1 + 1 + 1 + 1 = gn at *
  generalize w.heap.size + 1 + 1 + 1 = gd at *
  generalize w.heap.size + 1 + 1 = Md at *
  generalize w.heap.size + 1 = gt at *
  generalize w.heap.size = gm at *
  go_upto_region 4 with fail
  generalize X.setCell ⟨gn, 0, none⟩ _ = Y at *
  clear s1 s2
  go_wp2_with (go_at_fn 47; (with_reducible refine (C.out _ HK.out).mono ?_); rintro e w1 ⟨rfl, h1, k1⟩; go_must (have H1 := Lib.hid h1.book; have K1 := Lib.hid (KG.out _ HKG.out _ k1 HK.out.book); clear h1 k1))
  go_ret
  exact ⟨rfl, H1.out, K1.out⟩
end
end Go.Proofs.YtjmdlioakkibcaaGreatDoor.Dv

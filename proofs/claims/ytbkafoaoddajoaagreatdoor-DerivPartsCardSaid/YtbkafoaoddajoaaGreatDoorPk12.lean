/- A tree's node read into a book: a repetition. A new book. A tree read into a book: the whole of it. A tree read into a book: the program's made. What is left in the end: is one of the parts bare? What is left of a part, node by node; which numbers are told on the way. What is left of a part, in memory: a step's box, its map, and which method goes with a kind. -/
import Derived.Test.YtbkafoaoddajoaaGreatDoorPk11
import Derived.Test.YtbkafoaoddajoaaGreatDoorPk10
import Derived.Test.YtbkafoaoddajoaaGreatDoorPk04
import Derived.Laws.EntriesVeiled
import Derived.Test.YtbkafoaoddajoaaGreatDoorPk09
import Derived.Test.YtbkafoaoddajoaaGreatDoorPk08

namespace Go.Proofs.YtbkafoaoddajoaaGreatDoor.Dv
open Go Go.RowKit Go.Shelf Go.Maps
open Go.Proofs.YtbkafoaoddajoaaGreatDoor.Ar (timesB Nd nd nodeB nodeB_ways NRow cellsN aggN flatN Book WfN Wf NodeAt node_new nodes_of_row Tr Ok TreeAt NodesAt)
open Go.Proofs.YtbkafoaoddajoaaGreatDoor.Rg (R RngsAt RowsAt nthL add_zero own_next)

section
variable {w0 w w' w1 w2 : World} {bb M Md : Nat} {B : Bk} {gd gt gm gn : Nat} {vn vs : Value} {t : Tr} {D : Mm}
set_option maxRecDepth 100000 in
set_option maxHeartbeats 8000000 in
theorem made_rep (h : MkAt w0 bb M Md gd gt gm gn vn vs t B D w) (hN : t.ns.length ≤ 4096) {i : Nat} (hi : i < t.ns.length) (hx : D.lookup i = none) (hop : (nd t.ns i).op = 5) {a : Nat} {lo hi' : Int} (ha : (nd t.ns i).a = (a : Nat)) (hb : (nd t.ns i).lo = lo) (hb' : (nd t.ns i).hi = hi') {p : Bk × Mm × Nat} {r : Bk × Nat}
    (K1 : ∀ X, MkAt w0 bb M Md gd gt gm gn vn vs t B D X → Calls Tryz.prog 47 #[.int .i64 (a : Nat), .pointer (some ⟨gd, 0, none⟩), .pointer (some ⟨gt, 0, none⟩), .pointer (some ⟨gm, 0, none⟩), .pointer (some ⟨gn, 0, none⟩)] X (MadeAt w0 bb M Md gd gt gm gn vn vs t X p))
    (K3 : ∀ X, BookAt w0 bb M p.1 X → Calls Tryz.prog 99 #[.pointer (some ⟨bb, 0, none⟩), .int .i64 (p.2.2 : Nat), .int .i64 lo, .int .i64 hi'] X (OpAt w0 bb M X r))
    (hr : r.2 < 1000000) (hl : p.2.1.length < 1000000) (hn : p.2.1.lookup i = none) :
    Calls Tryz.prog 47 #[.int .i64 (i : Nat), .pointer (some ⟨gd, 0, none⟩), .pointer (some ⟨gt, 0, none⟩), .pointer (some ⟨gm, 0, none⟩), .pointer (some ⟨gn, 0, none⟩)] w (MadeAt w0 bb M Md gd gt gm gn vn vs t w (r.1, (i, r.2) :: p.2.1, r.2)) := by
  have hE : ∀ (args : Array Value) (w : World), (callFunc 99 args).run Tryz.prog w = .ok (.enter 99 args) w := eRepB
  have hE2 : ∀ (args : Array Value) (w : World), (callFunc 47 args).run Tryz.prog w = .ok (.enter 47 args) w := eMade
  obtain ⟨c1, c2, c3, c4, c5⟩ := h.cells
  obtain ⟨c, hlk0⟩ := ilook_out h.done (by omega) hx
  have hlk := hlk0 w (Below.refl _ _)
  clear hlk0
  have d1 := cell_lt c1
  have d2 := cell_lt c2
  have d4 := cell_lt c4
  have d5 := cell_lt c5
  obtain ⟨l1, l2, l3, l4, l5, l6⟩ := h.ltAll
  obtain ⟨ao, cap, so, scap, hv, hm, hm2, hns, _⟩ := h.tree.shape
  simp only [Value.agg.injEq, Array.mk.injEq, List.cons.injEq, and_true] at hv
  obtain ⟨rfl, rfl⟩ := hv
  obtain ⟨ga, rfl, hnd⟩ := hns i hi
  have hnd' := hnd.same (l6.block _ (cell_lt hnd.c0))
  obtain ⟨q0, q1, q2, q3, q4, q5⟩ := hnd'
  have hii : (i : Int) < (t.ns.length : Int) := by omega
  have BW := Lib.hid (fun o => (Below.refl w.heap.size w).alloc (Nat.le_refl _) o)
  have hm1 := fun W N => byBook W bb _ _ N fRep
  have hm2 := fun W N => nilBook W bb _ _ N fRep
  rw [hop] at q0
  rw [ha] at q1
  rw [hb] at q3
  rw [hb'] at q4
  generalize nd t.ns i = n at *
  have BD := Lib.hid ((BW.out (.cells #[.int .i64 5, .int .i64 (a : Nat), .int .i64 n.b, .int .i64 lo, .int .i64 hi', .int .i64 n.set] 35)).trans (below_drew _))
  have NB := Lib.hid (nb_new h ⟨5, (a : Nat), n.b, lo, hi', n.set⟩)
  have HD := Lib.hid (h.next BD.out)
  have C1 := Lib.hid (K1 _ HD.out)
  have C3 := Lib.hid K3
  have HNN := Lib.hid hn
  have FD := Lib.hid (Fm.of_below BD.out l1 : Fm bb M Md w _)
  unfold MadeAt at C1
  unfold OpAt at C3
  clear h hns hx hm hnd K1 K3 hn ha hb hb'
  go_enter Tryz.func47, Tryz.ntmps47
  go_wp2
  go_region_held3 (fun X => X.cell? ⟨gm, 0, none⟩ = some (.iface 53 (.pointer (some ⟨bb, 0, none⟩))) ∧ X.cell? ⟨gn, 0, none⟩ = some (.func (.func 47) #[] #[.pointer (some ⟨gd, 0, none⟩), .pointer (some ⟨gt, 0, none⟩), .pointer (some ⟨gm, 0, none⟩), .pointer (some ⟨gn, 0, none⟩)]) ∧ X.cell? ⟨w.heap.size, 1, none⟩ = some (.int .i64 (a : Nat)) ∧ X.cell? ⟨w.heap.size, 3, none⟩ = some (.int .i64 lo) ∧ X.cell? ⟨w.heap.size, 4, none⟩ = some (.int .i64 hi')) (first | exact ⟨by assumption, by assumption, by assumption, by assumption, by assumption⟩ | go_keep)
    (first
      | (go_at_fn 47; ((with_reducible refine C1.out.mono ?_); rintro e w1 ⟨rfl, h1, k1⟩); go_must (have nb := NB.out.fm k1; obtain ⟨_, _, _, u4, u5⟩ := h1.cells; have u6 := nb.box.at'.c1; have u7 := nb.box.at'.c3; have u8 := nb.box.at'.c4; have H1 := Lib.hid h1; have NB1 := Lib.hid nb; have F1 := Lib.hid (FD.out.trans k1); clear h1 k1 nb C1))
      | (go_at_fn 99; ((with_reducible refine (C3.out _ H1.out.book).mono ?_); rintro e w3 ⟨rfl, h3, k3⟩); go_must (have H3 := Lib.hid (H1.out.kb h3 k3); have nb := NB1.out.fm (Fm.of_fz k3); obtain ⟨v1, _, _, v4, v5⟩ := H3.out.cells; have v6 := nb.box.at'.c1; have v7 := nb.box.at'.c3; have v8 := nb.box.at'.c4; have F3 := Lib.hid (F1.out.trans (Fm.of_fz k3)); clear h3 k3 nb C3 u4 u5 u6 u7 u8))
      | fail)
  all_goals
    obtain ⟨w4, hrun, hM4, hF4⟩ := H3.out.note (i := i) (x := r.2) (by omega) hr hl HNN.out
    have HM4 := Lib.hid hM4
    have HF4 := Lib.hid (F3.out.trans hF4)
    clear hM4 hF4 hlk c1 c2 c3 c4 c5
    go_wp2
    go_ret
    exact ⟨rfl, HM4.out, HF4.out⟩

end
end Go.Proofs.YtbkafoaoddajoaaGreatDoor.Dv

namespace Go.Proofs.YtbkafoaoddajoaaGreatDoor.Dv
open Go Go.RowKit Go.Shelf Go.Maps
open Go.Proofs.YtbkafoaoddajoaaGreatDoor.Ar (timesB Nd nd nodeB nodeB_ways NRow cellsN aggN flatN Book WfN Wf NodeAt node_new nodes_of_row book_new)
open Go.Proofs.YtbkafoaoddajoaaGreatDoor.Rg (R RngsAt RowsAt nthL add_zero own_next has_any inB equal_any)

theorem start_steps : number (setF ⟨[], [], [], false⟩ []).1 nEmp true = (startB, 1) := by rfl
theorem start_set : (setF ⟨[], [], [], false⟩ []).1 = ⟨[nSet 0], [[]], [false], false⟩ := by rfl
/-- a book of nothing -/
theorem bare_book (w : World) : BookAt w (w.heap.size + 1) w.heap.size ⟨[], [], [], false⟩ ((w.alloc (.map #[] 0)).alloc (.cells #[.slice none 0 0, .slice none 0 0, .slice none 0 0, .map (some w.heap.size), .bool false] 58)) := by
  have b2 := (Below.refl (w.alloc (.map #[] 0)).heap.size _).alloc (Nat.le_refl _) (.cells #[.slice none 0 0, .slice none 0 0, .slice none 0 0, .map (some w.heap.size), .bool false] 58)
  have hs : (w.alloc (.map #[] 0)).heap.size = w.heap.size + 1 := by simp
  refine ⟨.slice none 0 0, .slice none 0 0, .slice none 0 0, [], ⟨((Below.refl w.heap.size w).alloc (Nat.le_refl _) _).alloc (by simp) _, by omega, Nat.le_refl _, ?_, ⟨rfl, .inl ⟨rfl, rfl⟩⟩, ⟨rfl, .inl ⟨rfl, rfl⟩⟩, fun i hi => by simp at hi, ⟨rfl, .inl ⟨rfl, rfl⟩⟩, ?_⟩⟩
  · rw [← hs]
    exact World.alloc_heap_new _ _
  · have hb := book_new w
    refine ⟨hb.nodup, hb.wf, ?_⟩
    obtain ⟨D, h1, h2⟩ := hb.map
    exact ⟨D, (Kg.of_below b2 : Kg 0 (fun _ => False) (fun _ => False) _ _).map h1 id, h2⟩

def OpenAt (w : World) (e : Ending) (w' : World) : Prop := e = .returned (.pointer (some ⟨w.heap.size + 1, 0, none⟩)) ∧ BookAt w (w.heap.size + 1) w.heap.size startB w'
set_option maxRecDepth 100000 in
set_option maxHeartbeats 4000000 in
theorem opened_any (w : World) : Calls Tryz.prog 23 #[] w (OpenAt w) := by
  have hmm := @run_makeMap Tryz.prog
  have C1 := Lib.hid (bset_any (bare_book w) rfl (by decide) (l := []) (vl := .slice none 0 0) (.inl ⟨rfl, rfl⟩) (by decide))
  have C2 := Lib.hid (fun X (hX : BookAt w (w.heap.size + 1) w.heap.size (setF ⟨[], [], [], false⟩ []).1 X) => number0_any nEmp true hX (by rw [start_set]; rfl) (by rw [start_set]; decide) (wfN_of (by decide)))
  unfold aggN nEmp at C2
  dsimp only at C2
  unfold OpAt at C1 C2
  have HE := Lib.hid start_steps
  unfold nEmp at HE
  generalize setF ⟨[], [], [], false⟩ [] = S at *
  generalize number S.1 _ true = S2 at *
  go_enter Tryz.func23, Tryz.ntmps23
  go_wp2_with (first
    | (go_at_call 45; (with_reducible refine C1.out.mono ?_); rintro e w1 ⟨rfl, h1, k1⟩; go_must (have H1 := Lib.hid h1; clear h1 k1 hmm))
    | (go_at_call 46; (with_reducible refine (C2.out _ H1.out).mono ?_); rintro e w2 ⟨rfl, h2, k2⟩; go_must (have H2 := Lib.hid h2; clear h2 k2))
    | fail)
  go_ret
  have e1 := HE.out
  subst e1
  exact ⟨rfl, H2.out⟩
end Go.Proofs.YtbkafoaoddajoaaGreatDoor.Dv

namespace Go.Proofs.YtbkafoaoddajoaaGreatDoor.Dv
open Go Go.RowKit Go.Shelf Go.Maps
open Go.Proofs.YtbkafoaoddajoaaGreatDoor.Ar (timesB Nd nd nodeB nodeB_ways NRow cellsN aggN flatN Book WfN Wf NodeAt node_new nodes_of_row Tr Ok TreeAt NodesAt)
open Go.Proofs.YtbkafoaoddajoaaGreatDoor.Rg (R RngsAt RowsAt nthL add_zero own_next)

/-! how many sets a book has -/
theorem number_sets (B : Bk) (n : Nd) (e : Bool) : (number B n e).1.sets = B.sets := by
  unfold number
  split
  · rfl
  · split <;> rfl
theorem setF_sets (B : Bk) (l : List R) : (setF B l).1.sets.length ≤ B.sets.length + 1 := by
  unfold setF
  split
  · rw [number_sets]; omega
  · rw [number_sets]; simp
theorem catF_sets (B : Bk) (x y : Nat) : (catF B x y).1.sets = B.sets := by
  unfold catF
  split
  · rfl
  · split
    · rfl
    · split
      · rfl
      · exact number_sets _ _ _
theorem altF_sets (B : Bk) (x y : Nat) : (altF B x y).1.sets = B.sets := by
  unfold altF altG
  split
  · rfl
  · exact number_sets _ _ _
theorem repF_sets (B : Bk) (x : Nat) (lo hi : Int) : (repF B x lo hi).1.sets = B.sets := by
  unfold repF repG
  repeat' split
  all_goals first | rfl | exact number_sets _ _ _
theorem mk_sets (t : Tr) : ∀ (f : Nat) (B : Bk) (D : Mm) (i : Nat), B.sets.length ≤ 1 + D.length → (mk t f B D i).1.sets.length ≤ 1 + (mk t f B D i).2.1.length
  | 0, B, D, i, h => h
  | f + 1, B, D, i, h => by
    unfold mk
    split
    · exact h
    · split
      · have := setF_sets B (t.sets.getD (nd t.ns i).set.toNat [])
        show _ ≤ 1 + (D.length + 1)
        dsimp only
        omega
      · have h1 := mk_sets t f B D (nd t.ns i).a.toNat h
        have h2 := mk_sets t f _ _ (nd t.ns i).b.toNat h1
        split
        · dsimp only; rw [catF_sets, List.length_cons]; omega
        · split
          · dsimp only; rw [altF_sets, List.length_cons]; omega
          · split
            · dsimp only; rw [repF_sets, List.length_cons]; omega
            · dsimp only; rw [List.length_cons]; omega

section
variable {w0 : World} {bb M Md : Nat} {gd gt gm gn : Nat} {vn vs : Value} {t : Tr}
theorem lookup_of_not {D : Mm} {i : Nat} (h : i ∉ D.map Prod.fst) : D.lookup i = none := by
  induction D with
  | nil => rfl
  | cons p D ih =>
    obtain ⟨k, y⟩ := p
    rw [List.map_cons, List.mem_cons, not_or] at h
    rw [List.lookup_cons, show (i == k) = false by simpa using h.1]
    exact ih h.2
theorem mem_len {B : Bk} {D : Mm} (h : Mem t B D) (hN : t.ns.length ≤ 4096) : D.length ≤ 4096 := by
  have h3 := nodup_lt t.ns.length _ h.keys (fun x hx => by
    obtain ⟨p, hp, rfl⟩ := List.mem_map.1 hx
    exact (h.each p hp).1)
  simp at h3
  omega
theorem made1_any (ht : Ok t) (hN : t.ns.length ≤ 4096) : ∀ (f : Nat) (B : Bk) (D : Mm) (i : Nat) (w : World), MkAt w0 bb M Md gd gt gm gn vn vs t B D w → Mem t B D → B.sets.length ≤ 1 + D.length → i < f → i < t.ns.length →
    Calls Tryz.prog 47 #[.int .i64 (i : Nat), .pointer (some ⟨gd, 0, none⟩), .pointer (some ⟨gt, 0, none⟩), .pointer (some ⟨gm, 0, none⟩), .pointer (some ⟨gn, 0, none⟩)] w (MadeAt w0 bb M Md gd gt gm gn vn vs t w (mk t f B D i)) := by
  intro f
  induction f with
  | zero => intro B D i w _ _ _ h; omega
  | succ f ih =>
    intro B D i w hw hm hse hf hi
    have hnode := ht.node i hi
    have hl := mem_len hm hN
    have hsb : B.sets.length ≤ 100000 := by omega
    unfold mk
    split
    · rename_i x hx
      exact made_old hw (by omega) hx
    · rename_i hx
      have hn := lookup_none hx
      rcases nodeB_ways hnode with ⟨h1, h2⟩ | ⟨h1, h2⟩ | ⟨h1 | h1, h2⟩ | ⟨h1, h2⟩
      · rw [if_neg (by omega), if_neg (by omega), if_neg (by omega), if_neg (by omega)]
        exact made_emp hw hN hi hx (by omega) h1
      · rw [if_pos h1]
        exact made_set hw hm.good hsb hN hi hx (by omega) h1 (by omega) (by omega)
      · rw [if_neg (by omega), if_pos h1]
        have p := mk_out ht hN f B D (nd t.ns i).a.toNat hm (by omega) (by omega)
        have q := mk_out ht hN f _ _ (nd t.ns i).b.toNat p.mem (by omega) (by omega)
        have ps := mk_sets t f B D (nd t.ns i).a.toNat hse
        have o := catF_out q.mem.good (x := (mk t f B D (nd t.ns i).a.toNat).2.2) (Nat.lt_of_lt_of_le p.lt q.ext.le) q.lt
        have hn' : i ∉ (mk t f (mk t f B D (nd t.ns i).a.toNat).1 (mk t f B D (nd t.ns i).a.toNat).2.1 (nd t.ns i).b.toNat).2.1.map Prod.fst := fun h => by
          rcases q.keys i h with h | h
          · rcases p.keys i h with h | h
            · exact hn h
            · omega
          · omega
        have hql := mem_len q.mem hN
        exact made_cat hw hN hi hx h1 (a := (nd t.ns i).a.toNat) (b := (nd t.ns i).b.toNat) (by omega) (by omega)
          (fun X hX => ih B D _ X hX hm hse (by omega) (by omega)) (fun X hX => ih _ _ _ X hX p.mem ps (by omega) (by omega))
          (fun X hX => cat_any hX q.mem.good (Nat.lt_of_lt_of_le p.lt q.ext.le) q.lt) (by have := o.lt; have := o.good.small; omega) (by omega) (lookup_of_not hn')
      · rw [if_neg (by omega), if_neg (by omega), if_pos h1]
        have p := mk_out ht hN f B D (nd t.ns i).a.toNat hm (by omega) (by omega)
        have q := mk_out ht hN f _ _ (nd t.ns i).b.toNat p.mem (by omega) (by omega)
        have ps := mk_sets t f B D (nd t.ns i).a.toNat hse
        have o := altF_out q.mem.good (x := (mk t f B D (nd t.ns i).a.toNat).2.2) (Nat.lt_of_lt_of_le p.lt q.ext.le) q.lt
        have hn' : i ∉ (mk t f (mk t f B D (nd t.ns i).a.toNat).1 (mk t f B D (nd t.ns i).a.toNat).2.1 (nd t.ns i).b.toNat).2.1.map Prod.fst := fun h => by
          rcases q.keys i h with h | h
          · rcases p.keys i h with h | h
            · exact hn h
            · omega
          · omega
        have hql := mem_len q.mem hN
        exact made_alt hw hN hi hx h1 (a := (nd t.ns i).a.toNat) (b := (nd t.ns i).b.toNat) (by omega) (by omega)
          (fun X hX => ih B D _ X hX hm hse (by omega) (by omega)) (fun X hX => ih _ _ _ X hX p.mem ps (by omega) (by omega))
          (fun X hX => alt_any hX q.mem.good (Nat.lt_of_lt_of_le p.lt q.ext.le) q.lt) (by have := o.lt; have := o.good.small; omega) (by omega) (lookup_of_not hn')
      · rw [if_neg (by omega), if_neg (by omega), if_neg (by omega), if_pos h1]
        have p := mk_out ht hN f B D (nd t.ns i).a.toNat hm (by omega) (by omega)
        have o := repF_out p.mem.good p.lt (node_times hnode h1)
        have hn' : i ∉ (mk t f B D (nd t.ns i).a.toNat).2.1.map Prod.fst := fun h => by
          rcases p.keys i h with h | h
          · exact hn h
          · omega
        have hql := mem_len p.mem hN
        exact made_rep hw hN hi hx h1 (a := (nd t.ns i).a.toNat) (by omega) rfl rfl
          (fun X hX => ih B D _ X hX hm hse (by omega) (by omega))
          (fun X hX => rep_any hX p.mem.good p.lt (node_times hnode h1)) (by have := o.lt; have := o.good.small; omega) (by omega) (lookup_of_not hn')
end
end Go.Proofs.YtbkafoaoddajoaaGreatDoor.Dv

namespace Go.Proofs.YtbkafoaoddajoaaGreatDoor.Dv
open Go Go.RowKit Go.Shelf Go.Maps
open Go.Proofs.YtbkafoaoddajoaaGreatDoor.Ar (timesB Nd nd nodeB nodeB_ways NRow cellsN aggN flatN Book WfN Wf NodeAt node_new nodes_of_row Tr Ok TreeAt NodesAt)
open Go.Proofs.YtbkafoaoddajoaaGreatDoor.Rg (R RngsAt RowsAt nthL add_zero own_next)
section
variable {w0 w : World} {bb M : Nat} {vn vs : Value} {t : Tr}
def MadeOut (w0 : World) (bb M : Nat) (t : Tr) (w : World) (e : Ending) (w' : World) : Prop := e = .returned (.int .i64 ((mkF t).2.2 : Nat)) ∧ BookAt w0 bb M (mkF t).1 w' ∧ Kg w0.heap.size (Ub bb M) Tb w w'
theorem Fm.kg {Md : Nat} {B : Bk} {X Y : World} (k : Fm bb M Md X Y) (h : BookAt w0 bb M B X) (hd : w0.heap.size ≤ Md) : Kg w0.heap.size (fun k => Ub bb M k ∨ k = Md) Tb X Y := by
  obtain ⟨pv, sv, bv, xs, h⟩ := h
  refine ⟨k.os, k.tape, k.output, k.size, fun i hi hc => k.block i hi ?_ ?_ ?_ ?_⟩
  · rintro rfl
    have := h.base
    rcases hc with hc | hc
    · omega
    · exact hc.1 (.inl (.inl rfl))
  · rintro rfl
    have := h.baseM
    rcases hc with hc | hc
    · omega
    · exact hc.1 (.inl (.inr rfl))
  · rintro rfl
    rcases hc with hc | hc
    · omega
    · exact hc.1 (.inr rfl)
  · intro hr
    obtain ⟨h1, cs, t, fz, h2, h3⟩ := h.rowTb hr
    rcases hc with hc | hc
    · omega
    · exact hc.2 cs t fz h2 h3
/-- the world of a reading that begins: its boxes, the last one still empty -/
def startW (w : World) (bb : Nat) (vn vs : Value) (r : Int) : World :=
  ((((w.alloc (.cells #[.iface 53 (.pointer (some ⟨bb, 0, none⟩))] 82)).alloc (.cells #[vn, vs, .int .i64 r] 25)).alloc (.map #[] 0)).alloc (.cells #[.map (some (w.heap.size + 1 + 1))] 83)).alloc (.cells #[.nilFunc] 84)
def selfF (N : Nat) : Value := .func (.func 47) #[] #[.pointer (some ⟨N + 1 + 1 + 1, 0, none⟩), .pointer (some ⟨N + 1, 0, none⟩), .pointer (some ⟨N, 0, none⟩), .pointer (some ⟨N + 1 + 1 + 1 + 1, 0, none⟩)]
theorem new_at (w : World) (o : Obj) {k : Nat} (h : k = w.heap.size) : (w.alloc o).heap[k]? = some o := by rw [h]; exact World.alloc_heap_new w o
theorem mk_start (h : BookAt w0 bb M startB w) (hT : TreeAt w0 (.agg #[vn, vs, .int .i64 t.root]) t) :
    ((startW w bb vn vs t.root).cell? ⟨w.heap.size + 1 + 1 + 1 + 1, 0, none⟩ = some .nilFunc ∧ (startW w bb vn vs t.root).frozen? ⟨w.heap.size + 1 + 1 + 1 + 1, 0, none⟩ = false) ∧
    MkAt w0 bb M (w.heap.size + 1 + 1) (w.heap.size + 1 + 1 + 1) (w.heap.size + 1) w.heap.size (w.heap.size + 1 + 1 + 1 + 1) vn vs t startB [] ((startW w bb vn vs t.root).setCell ⟨w.heap.size + 1 + 1 + 1 + 1, 0, none⟩ (selfF w.heap.size)) ∧
    Kg w0.heap.size (fun _ => False) (fun _ => False) w ((startW w bb vn vs t.root).setCell ⟨w.heap.size + 1 + 1 + 1 + 1, 0, none⟩ (selfF w.heap.size)) := by
  have hs : (startW w bb vn vs t.root).heap.size = w.heap.size + 5 := by simp [startW]
  have e0 : (startW w bb vn vs t.root).heap[w.heap.size]? = some (.cells #[.iface 53 (.pointer (some ⟨bb, 0, none⟩))] 82 (0, 0)) := by
    unfold startW
    rw [heap_alloc_old _ _ (by simp <;> omega), heap_alloc_old _ _ (by simp <;> omega), heap_alloc_old _ _ (by simp <;> omega), heap_alloc_old _ _ (by simp), World.alloc_heap_new]
  have e1 : (startW w bb vn vs t.root).heap[w.heap.size + 1]? = some (.cells #[vn, vs, .int .i64 t.root] 25 (0, 0)) := by
    unfold startW
    rw [heap_alloc_old _ _ (by simp <;> omega), heap_alloc_old _ _ (by simp <;> omega), heap_alloc_old _ _ (by simp)]
    exact new_at _ _ (by simp)
  have e3 : (startW w bb vn vs t.root).heap[w.heap.size + 1 + 1 + 1]? = some (.cells #[.map (some (w.heap.size + 1 + 1))] 83 (0, 0)) := by
    unfold startW
    rw [heap_alloc_old _ _ (by simp)]
    exact new_at _ _ (by simp)
  have e4 : (startW w bb vn vs t.root).heap[w.heap.size + 1 + 1 + 1 + 1]? = some (.cells #[.nilFunc] 84 (0, 0)) := by
    unfold startW
    exact new_at _ _ (by simp)
  have hb : Below w.heap.size w (startW w bb vn vs t.root) := by
    unfold startW
    exact (((((Below.refl w.heap.size w).alloc (Nat.le_refl _) _).alloc (by simp) _).alloc (by simp <;> omega) _).alloc (by simp <;> omega) _).alloc (by simp <;> omega) _
  obtain ⟨pv, sv, bv, xs, hk⟩ := h
  have hbX := hk.next hb
  have hbb := hk.lt
  have hM := hk.ltM
  have hw0 : w0.heap.size ≤ w.heap.size := hk.below.size
  have kS : Kg w0.heap.size (fun k => k = w.heap.size + 1 + 1 + 1 + 1) (fun _ => False) (startW w bb vn vs t.root) ((startW w bb vn vs t.root).setCell ⟨w.heap.size + 1 + 1 + 1 + 1, 0, none⟩ (selfF w.heap.size)) := Kg.of_set (by omega) rfl
  have keep : ∀ {k : Nat} {o : Obj}, (startW w bb vn vs t.root).heap[k]? = some o → k ≠ w.heap.size + 1 + 1 + 1 + 1 → ((startW w bb vn vs t.root).setCell ⟨w.heap.size + 1 + 1 + 1 + 1, 0, none⟩ (selfF w.heap.size)).heap[k]? = some o := fun hk hn => kS.heap hk hn (fun _ _ _ _ h => h)
  have hz : ∀ {e : TypeId} {s m : Nat} {v : Value} {ys : List Value}, w.ownsRow w0.heap.size e s v m ys → ∀ g, v.ownBlock = some g → ¬ g = w.heap.size + 1 + 1 + 1 + 1 := fun hr g hv e => by
    have := (hr.lt g hv).2
    omega
  have hset := heap_setCell_same (startW w bb vn vs t.root) (w.heap.size + 1 + 1 + 1 + 1) 0 _ 84 (selfF w.heap.size) e4
  have hmap : IMap (w.heap.size + 1 + 1) [] (startW w bb vn vs t.root) := by
    have h0 := imap_new ((w.alloc (.cells #[.iface 53 (.pointer (some ⟨bb, 0, none⟩))] 82)).alloc (.cells #[vn, vs, .int .i64 t.root] 25))
    have hsz : ((w.alloc (.cells #[.iface 53 (.pointer (some ⟨bb, 0, none⟩))] 82)).alloc (.cells #[vn, vs, .int .i64 t.root] 25)).heap.size = w.heap.size + 1 + 1 := by simp
    rw [hsz] at h0
    have hb2 := ((Below.refl _ ((((w.alloc (.cells #[.iface 53 (.pointer (some ⟨bb, 0, none⟩))] 82)).alloc (.cells #[vn, vs, .int .i64 t.root] 25)).alloc (.map #[] 0)))).alloc (Nat.le_refl _) (.cells #[.map (some (w.heap.size + 1 + 1))] 83)).alloc (by simp) (.cells #[.nilFunc] 84)
    exact h0.kg (Kg.of_below hb2 : Kg 0 (fun _ => False) (fun _ => False) _ _) id
  refine ⟨⟨by simp [World.cell?, e4], frozen_of_row _ _ 0 _ _ e4⟩, ⟨⟨pv, sv, bv, xs, ?_⟩, hmap.kg kS (by omega), by omega, by omega, hT, keep e3 (by omega), keep e1 (by omega), keep e0 (by omega), ?_⟩, ((Kg.of_below hb).trans kS).mono (fun k hk hU => by omega) (fun _ h => h)⟩
  · refine hbX.keep kS rfl (by omega) (by omega) (fun _ _ => id) (fun g hg => ?_)
    rcases hg with hg | hg | hg
    · exact hz hk.parts g hg
    · exact hz hk.sets g hg
    · exact hz hk.bare g hg
  · simpa [selfF] using hset

set_option maxRecDepth 100000 in
set_option maxHeartbeats 8000000 in
theorem made_any (ht : Ok t) (hN : t.ns.length ≤ 4096) (h : BookAt w0 bb M startB w) (hT : TreeAt w0 (.agg #[vn, vs, .int .i64 t.root]) t) :
    Calls Tryz.prog 24 #[.iface 53 (.pointer (some ⟨bb, 0, none⟩)), .agg #[vn, vs, .int .i64 t.root]] w (MadeOut w0 bb M t w) := by
  have hE : ∀ (args : Array Value) (w : World), (callFunc 47 args).run Tryz.prog w = .ok (.enter 47 args) w := eMade
  have hmm := @run_makeMap Tryz.prog
  obtain ⟨⟨s1, s2⟩, hk, hkg⟩ := mk_start h hT
  have hws : w0.heap.size ≤ w.heap.size := by obtain ⟨_, _, _, _, hb⟩ := h; exact hb.below.size
  have KG := Lib.hid (fun (Y : World) (k : Kg w0.heap.size (fun _ => False) (fun _ => False) w Y) (Z : World) (k1 : Fm bb M (w.heap.size + 1 + 1) Y Z) (hY : BookAt w0 bb M startB Y) => (show Kg w0.heap.size (Ub bb M) Tb w Z from ((k.mono (fun _ _ h => h.elim) (fun _ h => h.elim)).trans (k1.kg hY (by omega))).mono (fun k hk hU => hU.elim id (fun e => by omega)) (fun _ h => h)))
  have HKG := Lib.hid hkg
  clear hkg
  have HK := Lib.hid hk
  obtain ⟨r, hr⟩ := Int.eq_ofNat_of_zero_le ht.root0
  have hr1 := ht.root1
  have C := Lib.hid (fun X (hX : MkAt w0 bb M (w.heap.size + 1 + 1) (w.heap.size + 1 + 1 + 1) (w.heap.size + 1) w.heap.size (w.heap.size + 1 + 1 + 1 + 1) vn vs t startB [] X) => made1_any ht hN (r + 1) startB [] r X hX ⟨start_good, rfl, by decide, List.nodup_nil, fun p hp => by simp at hp⟩ (by decide) (by omega) (by omega))
  have hF : mkF t = mk t (r + 1) startB [] r := by unfold mkF; rw [hr]; rfl
  obtain ⟨u1, _, u3, u4, u5⟩ := hk.cells
  have u2 : ((startW w bb vn vs t.root).setCell ⟨w.heap.size + 1 + 1 + 1 + 1, 0, none⟩ (selfF w.heap.size)).cell? ⟨w.heap.size + 1, 2, none⟩ = some (.int .i64 (r : Nat)) := by rw [← hr]; simp [World.cell?, hk.bt]
  unfold selfF at HK HKG u1 u2 u3 u4 u5
  unfold MadeOut
  rw [hF]
  generalize mk t (r + 1) startB [] r = p at *
  clear h hk hr1 hr hF
  unfold MadeAt at C
  have HS : startW w bb vn vs t.root = ((((w.alloc (.cells #[.iface 53 (.pointer (some ⟨bb, 0, none⟩))] 82)).alloc (.cells #[vn, vs, .int .i64 t.root] 25)).alloc (.map #[] 0)).alloc (.cells #[.map (some (w.heap.size + 1 + 1))] 83)).alloc (.cells #[.nilFunc] 84) := rfl
  go_enter Tryz.func24, Tryz.ntmps24
  go_upto_region 3 with fail
  rw [← HS]
  clear hmm HS
  generalize startW w bb vn vs t.root = X at *
  generalize w.heap.size + 1 + 1 + 1 + 1 = gn at *
  generalize w.heap.size + 1 + 1 + 1 = gd at *
  generalize w.heap.size + 1 + 1 = Md at *
  generalize w.heap.size + 1 = gt at *
  generalize w.heap.size = gm at *
  go_upto_region 4 with fail
  generalize X.setCell ⟨gn, 0, none⟩ _ = Y at *
  clear s1 s2
  go_wp2_with (go_at_fn 47; (with_reducible refine (C.out _ HK.out).mono ?_); rintro e w1 ⟨rfl, h1, k1⟩; go_must (have H1 := Lib.hid h1.book; have K1 := Lib.hid (KG.out _ HKG.out _ k1 HK.out.book); clear h1 k1))
  go_ret
  exact ⟨rfl, H1.out, K1.out⟩
end
end Go.Proofs.YtbkafoaoddajoaaGreatDoor.Dv

namespace Go.Proofs.YtbkafoaoddajoaaGreatDoor.Dv
open Go Go.RowKit Go.Shelf Go.Maps
open Go.Proofs.YtbkafoaoddajoaaGreatDoor.Ar (timesB Nd nd nodeB nodeB_ways NRow cellsN aggN flatN Book WfN Wf NodeAt node_new nodes_of_row Tr Ok TreeAt)
open Go.Proofs.YtbkafoaoddajoaaGreatDoor.Rg (R RngsAt RowsAt nthL add_zero own_next)
section
variable {w0 w : World} {bb M gb : Nat} {B : Bk} {lv : Value} {l : List Nat}
set_option maxHeartbeats 1600000 in
theorem has1_any (h : BookAt w0 bb M B w) (g : Good B) (hb : w.cell? ⟨gb, 0, none⟩ = some (.pointer (some ⟨bb, 0, none⟩))) {x : Nat} (hx : x < B.parts.length) :
    Calls Tryz.prog 41 #[.int .i64 (x : Nat), .pointer (some ⟨gb, 0, none⟩)] w fun e w' => e = .returned (.bool (bareAt B x)) ∧ ∃ q, w' = w.drewN q := by
  obtain ⟨pv, sv, bv, xs, h⟩ := h
  have c2 := h.cell2
  obtain ⟨gv, cap, rfl, hl, hcx⟩ := h.bareAt g hx
  have hxi : (x : Int) < (B.parts.length : Int) := by omega
  clear h
  go_enter Tryz.func41, Tryz.ntmps41
  go_wp2
  go_ret
  exact ⟨rfl, 0, rfl⟩
theorem anyB_any (h : BookAt w0 bb M B w) (g : Good B) (hb : w.cell? ⟨gb, 0, none⟩ = some (.pointer (some ⟨bb, 0, none⟩))) (hr : RowI w lv l) (hl : ∀ x, x ∈ l → x < B.parts.length) :
    Calls Tryz.prog 40 #[lv, .func (.func 41) #[] #[.pointer (some ⟨gb, 0, none⟩)]] w fun e w' => e = .returned (.bool (l.any (bareAt B))) ∧ ∃ q, w' = w.drewN q := by
  haveI : Inhabited (Fin B.parts.length) := ⟨⟨0, by have := g.two; omega⟩⟩
  rcases hr with ⟨rfl, rfl⟩ | ⟨b, cap, cs, rfl, h1, h2, h3⟩
  · refine (Tryz.slices_ContainsFunc_empty (α := Nat) none 0 (.func (.func 41) #[] #[.pointer (some ⟨gb, 0, none⟩)]) w).mono ?_
    rintro e w' ⟨rfl, rfl⟩
    exact ⟨rfl, 0, rfl⟩
  · have eg : ∀ args w, (callFunc 41 args).run Tryz.prog w = .ok (.enter 41 args) w := enters_of Tryz.func41 (by kernel_rfl) rfl
    have hp : PredAt Tryz.prog 41 #[.pointer (some ⟨gb, 0, none⟩)] (fun (x : Fin B.parts.length) => Value.int .i64 ((x.val : Nat) : Int)) (fun x => bareAt B x.val) w := fun W x hW => by
      obtain ⟨pv, sv, bv, xs, hk⟩ := h
      exact has1_any ⟨pv, sv, bv, xs, hk.next hW⟩ g (cell_next hb hW) x.isLt
    have hz : ∃ zs : List (Fin B.parts.length), zs.map Fin.val = l := ⟨l.pmap Fin.mk hl, by rw [List.map_pmap]; simp⟩
    obtain ⟨zs, hzs⟩ := hz
    have hzl : zs.length = l.length := by rw [← hzs, List.length_map]
    have key := Tryz.slices_ContainsFunc (fun (x : Fin B.parts.length) => Value.int .i64 ((x.val : Nat) : Int)) (fun x => bareAt B x.val) 41 #[.pointer (some ⟨gb, 0, none⟩)] eg b 0 zs.length cap zs w hp (Nat.le_refl _) (by unfold maxLen at h1; omega) (fun j hj => by
      have hj' : j < l.length := by omega
      have e : (cs.toList.take l.length)[j]? = some (.int .i64 (l.getD j 0 : Nat)) := by rw [h3]; simp [castL, hj', List.getD]
      rw [List.getElem?_take_of_lt hj'] at e
      rw [Nat.zero_add, Lib.cell_of_heap h2]
      have hv : (zs[j]!).val = l.getD j 0 := by
        rw [getElem!_pos zs j hj, List.getD, ← hzs]
        simp [hj]
      simp only [hv]
      simpa using e)
    rw [hzl] at key
    refine key.mono ?_
    rintro e w' ⟨rfl, q, rfl⟩
    refine ⟨?_, q, rfl⟩
    rw [← hzl, List.take_length, ← hzs, List.any_map]
    rfl
end
end Go.Proofs.YtbkafoaoddajoaaGreatDoor.Dv

namespace Go.Proofs.YtbkafoaoddajoaaGreatDoor.Dv
open Go.Proofs.YtbkafoaoddajoaaGreatDoor.Ar (Nd nd nodeB nodeB_ways timesB)
open Go.Proofs.YtbkafoaoddajoaaGreatDoor.Rg (R inB)

/-- what is left of a node, not noted yet -/
def lwN (c : Int) (f : Nat) (B : Bk) (D : Mm) (n : Nd) : Bk × Mm × Nat :=
  if n.op = 2 then (B, D, if inB (B.sets.getD n.set.toNat []) c = true then 1 else 0)
  else if n.op = 3 then
    if bareAt (catF (lw c f B D n.a.toNat).1 (lw c f B D n.a.toNat).2.2 n.b.toNat).1 n.a.toNat = true then
      ((altF (lw c f (catF (lw c f B D n.a.toNat).1 (lw c f B D n.a.toNat).2.2 n.b.toNat).1 (lw c f B D n.a.toNat).2.1 n.b.toNat).1 (catF (lw c f B D n.a.toNat).1 (lw c f B D n.a.toNat).2.2 n.b.toNat).2 (lw c f (catF (lw c f B D n.a.toNat).1 (lw c f B D n.a.toNat).2.2 n.b.toNat).1 (lw c f B D n.a.toNat).2.1 n.b.toNat).2.2).1,
        (lw c f (catF (lw c f B D n.a.toNat).1 (lw c f B D n.a.toNat).2.2 n.b.toNat).1 (lw c f B D n.a.toNat).2.1 n.b.toNat).2.1,
        (altF (lw c f (catF (lw c f B D n.a.toNat).1 (lw c f B D n.a.toNat).2.2 n.b.toNat).1 (lw c f B D n.a.toNat).2.1 n.b.toNat).1 (catF (lw c f B D n.a.toNat).1 (lw c f B D n.a.toNat).2.2 n.b.toNat).2 (lw c f (catF (lw c f B D n.a.toNat).1 (lw c f B D n.a.toNat).2.2 n.b.toNat).1 (lw c f B D n.a.toNat).2.1 n.b.toNat).2.2).2)
    else ((catF (lw c f B D n.a.toNat).1 (lw c f B D n.a.toNat).2.2 n.b.toNat).1, (lw c f B D n.a.toNat).2.1, (catF (lw c f B D n.a.toNat).1 (lw c f B D n.a.toNat).2.2 n.b.toNat).2)
  else if n.op = 4 then
    ((altF (lw c f (lw c f B D n.a.toNat).1 (lw c f B D n.a.toNat).2.1 n.b.toNat).1 (lw c f B D n.a.toNat).2.2 (lw c f (lw c f B D n.a.toNat).1 (lw c f B D n.a.toNat).2.1 n.b.toNat).2.2).1, (lw c f (lw c f B D n.a.toNat).1 (lw c f B D n.a.toNat).2.1 n.b.toNat).2.1, (altF (lw c f (lw c f B D n.a.toNat).1 (lw c f B D n.a.toNat).2.1 n.b.toNat).1 (lw c f B D n.a.toNat).2.2 (lw c f (lw c f B D n.a.toNat).1 (lw c f B D n.a.toNat).2.1 n.b.toNat).2.2).2)
  else if n.op = 5 then
    ((catF (fewerF (lw c f B D n.a.toNat).1 n).1 (lw c f B D n.a.toNat).2.2 (fewerF (lw c f B D n.a.toNat).1 n).2).1, (lw c f B D n.a.toNat).2.1, (catF (fewerF (lw c f B D n.a.toNat).1 n).1 (lw c f B D n.a.toNat).2.2 (fewerF (lw c f B D n.a.toNat).1 n).2).2)
  else (B, D, 0)
theorem lw_some {c : Int} {f : Nat} {B : Bk} {D : Mm} {x y : Nat} (h : D.lookup x = some y) : lw c (f + 1) B D x = (B, D, y) := by
  unfold lw; rw [h]
theorem lw_none {c : Int} {f : Nat} {B : Bk} {D : Mm} {x : Nat} (h : D.lookup x = none) : lw c (f + 1) B D x = ((lwN c f B D (nd B.parts x)).1, (x, (lwN c f B D (nd B.parts x)).2.2) :: (lwN c f B D (nd B.parts x)).2.1, (lwN c f B D (nd B.parts x)).2.2) := by
  unfold lw lwN; rw [h]
  dsimp only
  split
  · rfl
  · split
    · split <;> rfl
    · split
      · rfl
      · split <;> rfl

theorem lookup_keys : ∀ {D : Mm} {x : Nat}, x ∉ D.map Prod.fst → D.lookup x = none
  | [], _, _ => rfl
  | (k, v) :: D, x, h => by
    rw [List.map_cons, List.mem_cons, not_or] at h
    rw [List.lookup_cons, show (x == k) = false by simpa using h.1]
    exact lookup_keys h.2
theorem keys_lookup : ∀ {D : Mm} {x : Nat}, D.lookup x = none → x ∉ D.map Prod.fst
  | [], _, _ => by simp
  | (k, v) :: D, x, h => by
    rw [List.lookup_cons] at h
    by_cases e : x = k
    · subst e; simp at h
    · rw [show (x == k) = false by simpa using e] at h
      rw [List.map_cons, List.mem_cons, not_or]
      exact ⟨e, keys_lookup h⟩
/-- which numbers are told on the way to x -/
structure KeysTo (x : Nat) (D E : Mm) : Prop where
  nodup : (E.map Prod.fst).Nodup
  keys : ∀ k, k ∈ E.map Prod.fst → k ∈ D.map Prod.fst ∨ k < x
theorem KeysTo.refl {D : Mm} {x : Nat} (h : (D.map Prod.fst).Nodup) : KeysTo x D D := ⟨h, fun _ h => .inl h⟩
theorem KeysTo.trans {D E F : Mm} {x y : Nat} (h : KeysTo x D E) (k : KeysTo y E F) (hxy : x ≤ y) : KeysTo y D F :=
  ⟨k.nodup, fun i hi => (k.keys i hi).elim (fun hi => (h.keys i hi).elim .inl (fun h => .inr (by omega))) .inr⟩
theorem KeysTo.mono {D E : Mm} {x y : Nat} (h : KeysTo x D E) (hxy : x ≤ y) : KeysTo y D E := ⟨h.nodup, fun i hi => (h.keys i hi).imp id (fun h => by omega)⟩
theorem KeysTo.put {D E : Mm} {x y : Nat} (h : KeysTo x D E) (hx : x ∉ D.map Prod.fst) : KeysTo (x + 1) D ((x, y) :: E) := by
  refine ⟨?_, fun k hk => ?_⟩
  · rw [List.map_cons, List.nodup_cons]
    exact ⟨fun hm => (h.keys x hm).elim hx (fun h => by omega), h.nodup⟩
  · rw [List.map_cons, List.mem_cons] at hk
    rcases hk with rfl | hk
    · exact .inr (Nat.lt_succ_self _)
    · exact (h.keys k hk).imp id (fun h => by omega)
theorem Lem.len {c : Int} {B0 B : Bk} {D : Mm} (h : Lem c B0 B D) (hn : (D.map Prod.fst).Nodup) : D.length ≤ B0.parts.length := by
  have := nodup_lt B0.parts.length _ hn (fun x hx => by
    obtain ⟨p, hp, rfl⟩ := List.mem_map.1 hx
    exact (h.lt p hp).1)
  simpa using this

theorem lw_keys {c : Int} {B0 : Bk} (g0 : Good B0) : ∀ (f : Nat) (B : Bk) (D : Mm) (x : Nat), Lem c B0 B D → (D.map Prod.fst).Nodup → x < f → x < B0.parts.length → KeysTo (x + 1) D (lw c f B D x).2.1 := by
  intro f
  induction f with
  | zero => intro B D x _ _ h; omega
  | succ f ih =>
    intro B D x hm hk hf hx
    have hnode := g0.node x hx
    have hnd := hm.ext.nd hx
    cases hy : D.lookup x with
    | some y => rw [lw_some hy]; exact KeysTo.refl hk
    | none =>
      rw [lw_none hy, hnd]
      have hreps := g0.reps x hx
      refine KeysTo.put ?_ (keys_lookup hy)
      have hle := hm.ext.le
      generalize hn : nd B0.parts x = n at hnode hreps ⊢
      unfold lwN
      rcases nodeB_ways hnode with ⟨h1, h2⟩ | ⟨h1, h2⟩ | ⟨h1 | h1, h2⟩ | ⟨h1, h2⟩
      · rw [if_neg (by omega), if_neg (by omega), if_neg (by omega), if_neg (by omega)]
        exact KeysTo.refl hk
      · rw [if_pos h1]
        exact KeysTo.refl hk
      · rw [if_neg (by omega), if_pos h1]
        have p := lw_out g0 f B D n.a.toNat hm (by omega) (by omega)
        have kp := ih B D n.a.toNat hm hk (by omega) (by omega)
        have hpl := p.mem.ext.le
        have k := catF_out p.mem.good p.lt (y := n.b.toNat) (by omega)
        have hm1 := p.mem.next k.good k.ext
        split
        · have kq := ih _ _ n.b.toNat hm1 kp.nodup (by omega) (by omega)
          exact (kp.mono (by omega)).trans (kq.mono (by omega)) (Nat.le_refl _)
        · exact kp.mono (by omega)
      · rw [if_neg (by omega), if_neg (by omega), if_pos h1]
        have p := lw_out g0 f B D n.a.toNat hm (by omega) (by omega)
        have kp := ih B D n.a.toNat hm hk (by omega) (by omega)
        have kq := ih _ _ n.b.toNat p.mem kp.nodup (by omega) (by omega)
        exact (kp.mono (by omega)).trans (kq.mono (by omega)) (Nat.le_refl _)
      · rw [if_neg (by omega), if_neg (by omega), if_neg (by omega), if_pos h1]
        have kp := ih B D n.a.toNat hm hk (by omega) (by omega)
        exact kp.mono (by omega)
end Go.Proofs.YtbkafoaoddajoaaGreatDoor.Dv

namespace Go.Proofs.YtbkafoaoddajoaaGreatDoor.Dv
open Go Go.RowKit Go.Shelf Go.Maps
open Go.Proofs.YtbkafoaoddajoaaGreatDoor.Ar (timesB Nd nd nodeB nodeB_ways NRow cellsN aggN flatN Book WfN Wf NodeAt node_new nodes_of_row)
open Go.Proofs.YtbkafoaoddajoaaGreatDoor.Rg (R RngsAt RowsAt nthL add_zero own_next has_any inB)

structure StAt (w0 : World) (bb M sb Md : Nat) (c : Int) (B : Bk) (D : Mm) (w : World) : Prop where
  book : BookAt w0 bb M B w
  done : IMap Md D w
  base : w0.heap.size ≤ sb
  baseM : w0.heap.size ≤ Md
  neM : Md ≠ M
  box : w.heap[sb]? = some (.cells #[.pointer (some ⟨bb, 0, none⟩), .int .i64 c, .map (some Md)] 107 (0, 0))
section
variable {w0 w w' : World} {bb M sb Md : Nat} {c : Int} {B : Bk} {D : Mm}
theorem StAt.ltAll (h : StAt w0 bb M sb Md c B D w) : bb < w.heap.size ∧ M < w.heap.size ∧ Md < w.heap.size ∧ sb < w.heap.size ∧ bb ≠ Md ∧ sb ≠ Md ∧ w0.heap.size ≤ bb ∧ Below w0.heap.size w0 w := by
  obtain ⟨pv, sv, bv, xs, hb⟩ := h.book
  have hmap : ∀ {k : Nat} {cs : Array Value} {t : TypeId} {z : Nat × Nat}, w.heap[k]? = some (.cells cs t z) → k ≠ Md := fun hk e => by
    obtain ⟨E, h1, _⟩ := h.done.map
    obtain ⟨es, clock, hh, _⟩ := h1
    rw [e, hh] at hk; cases hk
  exact ⟨hb.lt, hb.ltM, h.done.lt, (Array.getElem?_eq_some_iff.1 h.box).1, hmap hb.box, hmap h.box, hb.base, hb.below⟩
theorem StAt.c0 (h : StAt w0 bb M sb Md c B D w) : w.cell? ⟨sb, 0, none⟩ = some (.pointer (some ⟨bb, 0, none⟩)) := by simp [World.cell?, h.box]
theorem StAt.c1 (h : StAt w0 bb M sb Md c B D w) : w.cell? ⟨sb, 1, none⟩ = some (.int .i64 c) := by simp [World.cell?, h.box]
theorem StAt.c2 (h : StAt w0 bb M sb Md c B D w) : w.cell? ⟨sb, 2, none⟩ = some (.map (some Md)) := by simp [World.cell?, h.box]
theorem StAt.kb (h : StAt w0 bb M sb Md c B D w) {B' : Bk} (hb : BookAt w0 bb M B' w') (k : Fz bb M w w') : StAt w0 bb M sb Md c B' D w' := by
  have kk := k.kb h.book
  have hd : ¬ Ub bb M Md := by
    obtain ⟨_, _, _, _, h4, _⟩ := h.ltAll
    rintro (e | e)
    · exact h4 e.symm
    · exact h.neM e
  exact ⟨hb, h.done.kg kk hd, h.base, h.baseM, h.neM, kk.heap h.box (h.book.neU h.box (by decide)) (fun _ _ _ e => by cases e; unfold Tb; decide)⟩
theorem StAt.next (h : StAt w0 bb M sb Md c B D w) (hb : Below w.heap.size w w') : StAt w0 bb M sb Md c B D w' := by
  obtain ⟨h1, _⟩ := h.ltAll
  refine h.kb ?_ (Fz.of_below hb h1)
  obtain ⟨pv, sv, bv, xs, hk⟩ := h.book
  exact ⟨pv, sv, bv, xs, hk.next hb⟩
theorem StAt.turned (h : StAt w0 bb M sb Md c B D w) {D' : Mm} (hd : IMap Md D' w') (hw : w.mapTurned w' Md) : StAt w0 bb M sb Md c B D' w' := by
  obtain ⟨_, _, _, _, h4, h5, _⟩ := h.ltAll
  have k : Kg w0.heap.size (fun k => k = Md) (fun _ => False) w w' := Kg.of_turned hw h.baseM rfl
  have hMd : ∃ es clock, w.heap[Md]? = some (.map es clock) := by
    obtain ⟨E, h1, _⟩ := h.done.map
    obtain ⟨es, clock, hh, _⟩ := h1
    exact ⟨es, clock, hh⟩
  obtain ⟨es, clock, hmd⟩ := hMd
  refine ⟨?_, hd, h.base, h.baseM, h.neM, k.heap h.box h5 (fun _ _ _ _ h => h)⟩
  obtain ⟨pv, sv, bv, xs, hb⟩ := h.book
  have hz : ∀ {e : TypeId} {s m : Nat} {v : Value} {ys : List Value}, w.ownsRow w0.heap.size e s v m ys → ∀ g, v.ownBlock = some g → ¬ g = Md := fun hr g hv e => by
    obtain ⟨_, cs, hh⟩ := row_block hr hv
    rw [e, hmd] at hh; cases hh
  refine ⟨pv, sv, bv, xs, hb.keep k rfl h4 (fun e => h.neM e.symm) (fun _ _ => id) (fun g hg => ?_)⟩
  rcases hg with hg | hg | hg
  · exact hz hb.parts g hg
  · exact hz hb.sets g hg
  · exact hz hb.bare g hg
/-- what is left, in memory -/
def LeftAt (w0 : World) (bb M sb Md : Nat) (c : Int) (w : World) (r : Bk × Mm × Nat) (e : Ending) (w' : World) : Prop := e = .returned (.int .i64 (r.2.2 : Nat)) ∧ StAt w0 bb M sb Md c r.1 r.2.1 w' ∧ Fm bb M Md w w'
def LeftOk (w0 : World) (bb M sb Md : Nat) (c : Int) (B0 : Bk) (f : Nat) : Prop :=
  ∀ (B : Bk) (D : Mm) (x : Nat) (w : World), StAt w0 bb M sb Md c B D w → Lem c B0 B D → (D.map Prod.fst).Nodup → x < f → x < B0.parts.length →
    Calls Tryz.prog 60 #[.pointer (some ⟨sb, 0, none⟩), .int .i64 (x : Nat)] w (LeftAt w0 bb M sb Md c w (lw c f B D x))
theorem NBox.fm {X Y : World} {N : Nat} {n : Nd} (h : NBox X N n) (k : Fm bb M Md X Y) (h1 : N ≠ bb) (h2 : N ≠ M) (h4 : N ≠ Md) (h3 : ¬ rowsOf X bb N) : NBox Y N n := (k.block N (Array.getElem?_eq_some_iff.1 h).1 h1 h2 h4 h3).trans h
theorem Fm.young {X Y : World} {N : Nat} (k : Fm bb M Md X Y) (h : ¬ rowsOf X bb N) (hN : N < X.heap.size) : ¬ rowsOf Y bb N := fun hr => (k.rows _ hr).elim h (fun hge => by omega)

/-! which method -/
def kindS (op : Int) : Nat := if op = 2 then 95 else if op = 3 then 96 else if op = 4 then 97 else if op = 5 then 98 else 94
set_option maxRecDepth 100000 in
set_option maxHeartbeats 1000000 in
theorem kind_s (op : Int) (a b x y z : Value) (w : World) : Calls Tryz.prog 93 #[.int .i64 op, a, b, x, y, z] w fun e w' => e = .returned (if op = 2 then b else if op = 3 then x else if op = 4 then y else if op = 5 then z else a) ∧ w' = w := by
  by_cases h2 : op = 2
  · subst h2
    go_enter Tryz.func93, Tryz.ntmps93
    go_wp2
    go_ret
    exact ⟨rfl, rfl⟩
  · rw [if_neg h2]
    have e2 : (op == 2) = false := by simpa using h2
    by_cases h3 : op = 3
    · subst h3
      go_enter Tryz.func93, Tryz.ntmps93
      go_wp2
      go_ret
      exact ⟨rfl, rfl⟩
    · rw [if_neg h3]
      have e3 : (op == 3) = false := by simpa using h3
      by_cases h4 : op = 4
      · subst h4
        go_enter Tryz.func93, Tryz.ntmps93
        go_wp2
        go_ret
        exact ⟨rfl, rfl⟩
      · rw [if_neg h4]
        have e4 : (op == 4) = false := by simpa using h4
        by_cases h5 : op = 5
        · subst h5
          go_enter Tryz.func93, Tryz.ntmps93
          go_wp2
          go_ret
          exact ⟨rfl, rfl⟩
        · rw [if_neg h5]
          have e5 : (op == 5) = false := by simpa using h5
          clear h2 h3 h4 h5
          go_enter Tryz.func93, Tryz.ntmps93
          go_wp2
          go_ret
          exact ⟨rfl, rfl⟩
set_option maxRecDepth 100000 in
set_option maxHeartbeats 1000000 in
theorem reckoned_any (op : Int) (w : World) : Calls Tryz.prog 76 #[.int .i64 op] w fun e w' => e = .returned (.func (.func (kindS op)) #[] #[]) ∧ w' = w := by
  have C := Lib.hid (kind_s op (.func (.func 94) #[] #[]) (.func (.func 95) #[] #[]) (.func (.func 96) #[] #[]) (.func (.func 97) #[] #[]) (.func (.func 98) #[] #[]) w)
  have hk : (if op = 2 then Value.func (.func 95) #[] #[] else if op = 3 then .func (.func 96) #[] #[] else if op = 4 then .func (.func 97) #[] #[] else if op = 5 then .func (.func 98) #[] #[] else .func (.func 94) #[] #[]) = .func (.func (kindS op)) #[] #[] := by
    unfold kindS
    split
    · rfl
    · split
      · rfl
      · split
        · rfl
        · split <;> rfl
  rw [hk] at C
  clear hk
  generalize kindS op = k at *
  go_enter Tryz.func76, Tryz.ntmps76
  go_wp2_with (go_at_call 93; (with_reducible refine C.out.mono ?_); rintro e w1 ⟨rfl, hw⟩; subst w1)
  go_ret
  exact ⟨rfl, rfl⟩
theorem enters_s (op : Int) : Enters Tryz.prog (kindS op) := by
  unfold kindS
  split
  · exact enters_of Tryz.func95 (by kernel_rfl) rfl
  · split
    · exact enters_of Tryz.func96 (by kernel_rfl) rfl
    · split
      · exact enters_of Tryz.func97 (by kernel_rfl) rfl
      · split
        · exact enters_of Tryz.func98 (by kernel_rfl) rfl
        · exact enters_of Tryz.func94 (by kernel_rfl) rfl

set_option maxRecDepth 100000 in
set_option maxHeartbeats 1000000 in
theorem lempty_any (h : StAt w0 bb M sb Md c B D w) (n : Nd) : Calls Tryz.prog 94 #[.pointer (some ⟨sb, 0, none⟩), aggN n] w (LeftAt w0 bb M sb Md c w (B, D, 0)) := by
  have H := Lib.hid h
  have hl := h.ltAll.1
  clear h
  unfold aggN
  go_enter Tryz.func94, Tryz.ntmps94
  go_wp2
  go_ret
  exact ⟨rfl, H.out.next ((Below.refl _ _).alloc (Nat.le_refl _) _), Fm.of_below ((Below.refl _ _).alloc (Nat.le_refl _) _) hl⟩

set_option maxRecDepth 100000 in
set_option maxHeartbeats 8000000 in
theorem lset_any (h : StAt w0 bb M sb Md c B D w) {n : Nd} (h0 : 0 ≤ n.set) (h1 : n.set < B.sets.length) :
    Calls Tryz.prog 95 #[.pointer (some ⟨sb, 0, none⟩), aggN n] w (LeftAt w0 bb M sb Md c w (B, D, if inB (B.sets.getD n.set.toNat []) c = true then 1 else 0)) := by
  obtain ⟨op, a, b, lo, hi', set⟩ := n
  dsimp only at h0 h1
  obtain ⟨i, rfl⟩ := Int.eq_ofNat_of_zero_le h0
  have hil : i < B.sets.length := by omega
  have HB := Lib.hid h
  obtain ⟨lbb, _, _, lsb, _, _, _, hw0⟩ := h.ltAll
  have BW := Lib.hid (fun o => (Below.refl w.heap.size w).alloc (Nat.le_refl _) o)
  have c0 := h.c0
  have c1 := h.c1
  obtain ⟨pv, sv, bv, xs, hb⟩ := h.book
  have b1 := hb.cell1
  obtain ⟨gs, cap, x, rfl, hx, hr⟩ := hb.setAt hil
  have hgs := cell_lt hx
  have CH := Lib.hid (fun X (hX : Below w.heap.size w X) => has_any (nthL B.sets i) c x X (hr.next hX))
  have hp : B.sets.getD (Nd.mk op a b lo hi' (i : Int)).set.toNat [] = nthL B.sets i := by rw [Int.toNat_natCast]; rfl
  rw [hp]
  clear hp h hb hr
  generalize inB (nthL B.sets i) c = y at *
  generalize hns : B.sets.length = ns at *
  unfold aggN
  dsimp only
  cases y
  · rw [if_neg (by simp)]
    go_enter Tryz.func95, Tryz.ntmps95
    go_wp2
    go_region_held3 (fun X => X.cell? ⟨sb, 0, none⟩ = some (.pointer (some ⟨bb, 0, none⟩)) ∧ X.cell? ⟨sb, 1, none⟩ = some (.int .i64 c) ∧ X.cell? ⟨bb, 1, none⟩ = some (.slice (some ⟨gs, 0, none⟩) ns cap) ∧ X.cell? ⟨gs, i, none⟩ = some x ∧ X.cell? ⟨w.heap.size, 5, none⟩ = some (.int .i64 (i : Nat))) (first | exact ⟨by assumption, by assumption, by assumption, by assumption, by assumption⟩ | go_keep)
      (first
        | (go_at_call 79; ((with_reducible refine (CH.out _ ((BW.out _).trans (below_drew _))).mono ?_); rintro e w2 ⟨rfl, h2⟩); go_must (have hb2 := ((BW.out (.cells #[.int .i64 op, .int .i64 a, .int .i64 b, .int .i64 lo, .int .i64 hi', .int .i64 (i : Nat)] 35)).trans (below_drew _)).trans (h2.mono (by simp)); have p0 := cell_next c0 hb2; have p1 := cell_next c1 hb2; have p2 := cell_next b1 hb2; have p3 := cell_next hx hb2; have p4 := cell_next (a := ⟨w.heap.size, 5, none⟩) (v := .int .i64 (i : Nat)) (by simp) h2; have B2 := Lib.hid hb2; clear h2 hb2))
        | fail)
    go_wp2
    go_ret
    exact ⟨rfl, HB.out.next B2.out, Fm.of_below B2.out lbb⟩
  · rw [if_pos rfl]
    go_enter Tryz.func95, Tryz.ntmps95
    go_wp2
    go_region_held3 (fun X => X.cell? ⟨sb, 0, none⟩ = some (.pointer (some ⟨bb, 0, none⟩)) ∧ X.cell? ⟨sb, 1, none⟩ = some (.int .i64 c) ∧ X.cell? ⟨bb, 1, none⟩ = some (.slice (some ⟨gs, 0, none⟩) ns cap) ∧ X.cell? ⟨gs, i, none⟩ = some x ∧ X.cell? ⟨w.heap.size, 5, none⟩ = some (.int .i64 (i : Nat))) (first | exact ⟨by assumption, by assumption, by assumption, by assumption, by assumption⟩ | go_keep)
      (first
        | (go_at_call 79; ((with_reducible refine (CH.out _ ((BW.out _).trans (below_drew _))).mono ?_); rintro e w2 ⟨rfl, h2⟩); go_must (have hb2 := ((BW.out (.cells #[.int .i64 op, .int .i64 a, .int .i64 b, .int .i64 lo, .int .i64 hi', .int .i64 (i : Nat)] 35)).trans (below_drew _)).trans (h2.mono (by simp)); have p0 := cell_next c0 hb2; have p1 := cell_next c1 hb2; have p2 := cell_next b1 hb2; have p3 := cell_next hx hb2; have p4 := cell_next (a := ⟨w.heap.size, 5, none⟩) (v := .int .i64 (i : Nat)) (by simp) h2; have B2 := Lib.hid hb2; clear h2 hb2))
        | fail)
    go_wp2
    go_ret
    exact ⟨rfl, HB.out.next B2.out, Fm.of_below B2.out lbb⟩
end
end Go.Proofs.YtbkafoaoddajoaaGreatDoor.Dv

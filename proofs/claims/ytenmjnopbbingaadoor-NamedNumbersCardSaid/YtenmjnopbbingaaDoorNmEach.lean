/- The ranges of names, one by one. -/
import Derived.Test.YtenmjnopbbingaaDoorNmRow
import Derived.Test.YtenmjnopbbingaaDoorNmRange
import Derived.RangeFuncCalls
import Derived.Shelf.Abstract
import Derived.Shelf.RegionOpen
import Derived.OwnWalkIn
import Derived.TacticsInMore
import Derived.LoopNIn
import Derived.LoopIn
namespace Go.Proofs.YtenmjnopbbingaaDoor.Nm
open Go.RowKit Go.Shelf Go.Proofs.YtenmjnopbbingaaDoor.Rg

attribute [local go_sem] Oper.semAt_some

theorem each_any (v : Value) (ns : List ByteArray) (w0 w : World) (hv : StrsAt w0 v ns) : Calls Tryd.prog 20 #[v] w fun e w' => e = .returned (.func (.func 30) #[] #[.pointer (some ⟨w.heap.size, 0, none⟩)]) ∧ w' = w.alloc (.cells #[v] 31) := by
  obtain ⟨ao, cap, rfl, _, _⟩ := hv.shape
  clear hv
  go_enter Tryd.func20, Tryd.ntmps20
  go_wp2
  go_ret
  exact ⟨rfl, rfl⟩

/-- the types of an iterator's own boxes -/
def TyN (t : TypeId) : Prop := t = 58 ∨ t = 52 ∨ t = 31
/-- a range as a value -/
def rV (x : R) : Value := .agg #[.int .i64 x.1, .int .i64 x.2]
/-- what each tells of names: these ranges -/
def Ctr (ns : List ByteArray) (X : List R) : Prop :=
  ∀ (w0 W : World) (Bn : Nat) (v : Value), Tab w0 → Below w0.heap.size w0 W → StrsAt w0 v ns → Boxed W Bn 31 v →
    Seq Tryd.prog TyN w0.heap.size 30 #[.pointer (some ⟨Bn, 0, none⟩)] rV X W

/-- the activation between two names -/
def EachAct (l Bn By : Nat) (ao : Option Addr) (n cap k : Nat) (ds : List Deferred) (a : Act) : Prop :=
  ∃ u3 u4 u5 u6 u7 u11 u12 u13 u14 u15 u16 u17 u18 u19 u20 u21 u22 u23 u24 u25 u26 u27 u28 u29 u30 u31 u32 u33 u34 u35 u36 u37 u38 u39 u40 u41 u42 u43 u44 u45 u46, a = { tmps := #[.func (.yield l) #[] #[], .pointer (some ⟨Bn, 0, none⟩), .pointer (some ⟨By, 0, none⟩), u3, u4, u5, u6, u7, .slice ao n cap, .int .i64 (n : Nat), .int .i64 (k : Nat), u11, u12, u13, u14, u15, u16, u17, u18, u19, u20, u21, u22, u23, u24, u25, u26, u27, u28, u29, u30, u31, u32, u33, u34, u35, u36, u37, u38, u39, u40, u41, u42, u43, u44, u45, u46], defers := ds }

/-- a box of three cells -/
def Box3 (W : World) (b : Nat) (x y z : Value) : Prop := W.heap[b]? = some (.cells #[x, y, z] 52 (0, 0))
theorem Box3.lt {W : World} {b : Nat} {x y z : Value} (h : Box3 W b x y z) : b < W.heap.size := (Array.getElem?_eq_some_iff.1 h).1
theorem Box3.cells {W : World} {b : Nat} {x y z : Value} (h : Box3 W b x y z) : W.cell? ⟨b, 0, none⟩ = some x ∧ W.cell? ⟨b, 1, none⟩ = some y ∧ W.cell? ⟨b, 2, none⟩ = some z := by
  refine ⟨?_, ?_, ?_⟩ <;> simp [World.cell?, show W.heap[b]? = _ from h]
theorem Box3.kept {A C : World} {row : Option Nat} {b : Nat} {x y z : Value} (h : Box3 A b x y z) (hg : A.grownBy C row) (hr : ∀ r, row = some r → ∃ o : Obj, A.heap[r]? = some o ∧ o.isCells = false) : Box3 C b x y z :=
  (grownBy_keeps_cells hg hr h rfl).trans h
theorem box_kept {A B : World} {row : Option Nat} {b : Nat} {t : TypeId} {v : Value} (h : Boxed A b t v) (hg : A.grownBy B row) (hr : ∀ r, row = some r → ∃ o : Obj, A.heap[r]? = some o ∧ o.isCells = false) : Boxed B b t v :=
  (grownBy_keeps_cells hg hr h rfl).trans h
/-- a range in a box -/
def BoxR (W : World) (b : Nat) (x : R) : Prop := W.heap[b]? = some (.cells #[.int .i64 x.1, .int .i64 x.2] 40 (0, 0))
theorem BoxR.cells {W : World} {b : Nat} {x : R} (h : BoxR W b x) : W.cell? ⟨b, 0, none⟩ = some (.int .i64 x.1) ∧ W.cell? ⟨b, 1, none⟩ = some (.int .i64 x.2) := by
  refine ⟨?_, ?_⟩ <;> simp [World.cell?, show W.heap[b]? = _ from h]
theorem BoxR.kept {A C : World} {row : Option Nat} {b : Nat} {x : R} (h : BoxR A b x) (hg : A.grownBy C row) (hr : ∀ r, row = some r → ∃ o : Obj, A.heap[r]? = some o ∧ o.isCells = false) : BoxR C b x :=
  (grownBy_keeps_cells hg hr h rfl).trans h

/-- what holds between two names, W0 being the world of the call; T: no mark lies from there on -/
structure EachSt (w0 W0 : World) (l : Nat) (ds : List Deferred) (T : Nat) (W : World) : Prop where
  box : Boxed W W0.heap.size 58 (.func (.yield l) #[] #[])
  below : Below w0.heap.size w0 W
  marks : MarksAt W0.heap.size T ds W
  top : T ≤ W.heap.size
theorem EachSt.size {w0 W0 : World} {l T : Nat} {ds : List Deferred} {W : World} (h : EachSt w0 W0 l ds T W) : W0.heap.size < W.heap.size := h.box.lt
/-- new memory alone -/
theorem EachSt.next {w0 W0 : World} {l T : Nat} {ds : List Deferred} {W W' : World} (h : EachSt w0 W0 l ds T W) (hb : Below W.heap.size W W') : EachSt w0 W0 l ds W.heap.size W' :=
  ⟨(hb.block _ h.box.lt).trans h.box, h.below.trans (hb.mono h.below.size), (h.marks.grown (grown_below hb) (fun r e => by cases e)).up h.top, hb.size⟩
/-- behind a round -/
theorem EachSt.kept {w0 W0 : World} {l n₁ T : Nat} {ds : List Deferred} {W W' : World} (h : EachSt w0 W0 l ds T W) (hk : Keeps TyN w0.heap.size n₁ W W') (hn : n₁ ≤ W0.heap.size) : EachSt w0 W0 l ds T W' :=
  ⟨hk.box (.inl rfl) h.box, h.below.trans hk.below, h.marks.kept fun k o hB ho hc => hk.obj (by omega) ho hc, Nat.le_trans h.top hk.below.size⟩
theorem EachSt.own {β : Type} {w0 W0 : World} {l T B : Nat} {ds : List Deferred} (hT : T ≤ B) (h0 : w0.heap.size ≤ B) : OwnFrom B (fun (_ : β) W => EachSt w0 W0 l ds T W) := fun _ _ _ _ h hg hr =>
  ⟨box_kept h.box hg (fun r e => (hr r e).2), h.below.grown hg h.below.size (fun k e => Nat.le_trans h0 (hr k e).1), h.marks.grown hg (fun r e => Nat.le_trans hT (hr r e).1), Nat.le_trans h.top hg.size⟩
theorem EachSt.mark {w0 W0 : World} {l T D : Nat} {ds : List Deferred} {W : World} (h : EachSt w0 W0 l ds T W) (hT : T ≤ D) (hD : W0.heap.size ≤ D) (hd : W.heap[D]? = some (.deferred (some []))) : EachSt w0 W0 l ({ target := .collected D, args := #[] } :: ds) (D + 1) W :=
  ⟨h.box, h.below, ⟨D, rfl, hD, Nat.lt_succ_self _, hd, h.marks.up hT⟩, (Array.getElem?_eq_some_iff.1 hd).1⟩
theorem box3_own {β : Type} (b : Nat) (x y z : Value) : Own (fun (_ : β) W => Box3 W b x y z) := fun _ _ _ _ h hg hr => h.kept hg hr
theorem marks_own {β : Type} {B0 T B : Nat} {ds : List Deferred} (hT : T ≤ B) : OwnFrom B (fun (_ : β) W => MarksAt B0 T ds W) := fun _ _ _ _ h hg hr => h.grown hg (fun r e => Nat.le_trans hT (hr r e).1)
theorem own_at {β γ : Type} {B : Nat} {I : β → World → Prop} (h : OwnFrom B I) (g : γ → β) : OwnFrom B (fun s W => I (g s) W) := fun s A C row hs hg hr => h (g s) A C row hs hg hr

theorem take_flat (ns : List ByteArray) (f : ByteArray → List R) {k : Nat} (hk : k < ns.length) : (ns.take (k + 1)).flatMap f = (ns.take k).flatMap f ++ f (ns.getD k ⟨#[]⟩) := by
  rw [List.take_add_one, List.flatMap_append, List.getElem?_eq_getElem hk, List.getD_eq_getElem?_getD, List.getElem?_eq_getElem hk]
  simp
theorem flat_take_prefix (ns : List ByteArray) (f : ByteArray → List R) (k : Nat) : (ns.take k).flatMap f <+: ns.flatMap f :=
  ⟨(ns.drop k).flatMap f, by rw [← List.flatMap_append, List.take_append_drop]⟩

theorem leave_any {n : Nat} {W : World} {J Jx : List R → World → Prop} {X : List R} (hJ : OwnFrom W.heap.size J) (hJx : OwnFrom W.heap.size Jx) {tmps : Array Value} {ds : List Deferred} {T : Nat} {W' : World} (hm : MarksAt W.heap.size T ds W')
    (h : J X W' ∨ ∃ pre, pre <+: X ∧ Jx pre W') : LeavesInM Fence.wide n Tryd.prog Tryd.f30 tmps (fun e W' => (∃ v, e = .returned v) ∧ (J X W' ∨ ∃ pre, pre <+: X ∧ Jx pre W')) ds .returning W' :=
  leave_marks (K := fun W' => J X W' ∨ ∃ pre, pre <+: X ∧ Jx pre W')
    (fun _ _ h hB hd => h.elim (fun h => .inl (hJ.putObj _ h hB hd rfl)) (fun ⟨p, hp, h⟩ => .inr ⟨p, hp, hJx.putObj _ h hB hd rfl⟩))
    (fun _ h => ⟨_, results_none rfl _ _ _, ⟨_, rfl⟩, h⟩) hm h
theorem nums_even (nm : ByteArray) : (rowN nm).2.2.length % 2 = 0 := by
  rcases row_cases nm with ⟨k, hk, rfl⟩ | h
  · rw [rowN_at hk]
    rcases is_k hk with rfl | rfl | rfl | rfl | rfl | rfl | rfl | rfl | rfl | rfl | rfl | rfl | rfl | rfl | rfl | rfl <;> rfl
  · rw [rowN_none h]; rfl
theorem prs_take : ∀ (q : Nat) (l : List Int), 2 * q + 1 < l.length → prs (l.take (2 * (q + 1))) = prs (l.take (2 * q)) ++ [(l.getD (2 * q) 0, l.getD (2 * q + 1) 0)]
  | 0, x :: y :: t, _ => by simp [prs]
  | q + 1, x :: y :: t, h => by
    have ih := prs_take q t (by simp at h; omega)
    rw [show 2 * (q + 1 + 1) = (2 * (q + 1)) + 1 + 1 by omega, show 2 * (q + 1) = 2 * q + 1 + 1 by omega] at *
    simp only [List.take_succ_cons, prs, List.cons_append, List.cons.injEq, true_and]
    rw [ih]; simp
  | _, [], h => by simp at h
  | _, [_], h => by simp at h

theorem add_succ (g : Addr) (j : Nat) : g.add (j + 1) = ⟨g.block, g.off + (j + 1), none⟩ := by
  unfold Addr.add; split
  · rename_i h; cases h
  · rfl
theorem prs_prefix : ∀ (q : Nat) (l : List Int), prs (l.take (2 * q)) <+: prs l
  | 0, _ => List.nil_prefix
  | _ + 1, [] => List.prefix_refl _
  | q + 1, [x] => by rw [List.take_of_length_le (by simp; omega)]; exact List.prefix_refl _
  | q + 1, x :: y :: t => by
    obtain ⟨r, hr⟩ := prs_prefix q t
    rw [show 2 * (q + 1) = 2 * q + 1 + 1 by omega, List.take_succ_cons, List.take_succ_cons]
    exact ⟨r, by simp only [prs, List.cons_append, hr]⟩
/-- a region alone: how it ends otherwise is not asked -/
def NormOnly (K : Act → World → Prop) : Exit → Act → World → Prop
  | .normal, a, w => K a w
  | _, _, _ => False
theorem normOnly_then {K : Act → World → Prop} {Q : Exit → Act → World → Prop} (e : Exit) (a : Act) (w : World) (h : NormOnly K e a w) : Exit.then K Q e a w := by
  cases e with
  | normal => exact h
  | _ => exact h.elim
/-- a round's end, by the flag that it hands back -/
def RoundB (n₀ n₁ : Nat) (J Jx : List R → World → Prop) (xs : List R) (W W' : World) (b : Bool) : Prop :=
  (b = true → J xs W' ∧ Keeps TyN n₀ n₁ W W') ∧ (b = false → Jx xs W' ∧ KeepsFrom n₁ W W')
theorem roundB_of {n₀ n₁ : Nat} {J Jx : List R → World → Prop} {xs : List R} {W W' : World} {e : Ending} (h : RoundEnd TyN n₀ n₁ J Jx xs W e W') : ∃ b, e = .returned (.bool b) ∧ RoundB n₀ n₁ J Jx xs W W' b := by
  rcases h with ⟨rfl, h1, h2⟩ | ⟨rfl, h1, h2⟩
  · exact ⟨true, rfl, fun _ => ⟨h1, h2⟩, fun h => by cases h⟩
  · exact ⟨false, rfl, (fun h => by cases h), fun _ => ⟨h1, h2⟩⟩
theorem prs_len : ∀ l : List Int, (prs l).length = l.length / 2
  | [] => rfl
  | [_] => by simp [prs]
  | x :: y :: t => by
    have := prs_len t
    simp only [prs, List.length_cons, this]; omega
set_option maxRecDepth 100000 in
set_option maxHeartbeats 4000000 in
theorem each1_step (ns : List ByteArray) (Y : ByteArray → List R) (hin : ∀ nm ∈ ns, Ctr (rowN nm).2.1 (Y nm)) : Ctr ns (ns.flatMap fun nm => Y nm ++ prs (rowN nm).2.2) := by
  intro w0 W Bn v hT hb hv hB l J Jx hl hJ hJx hY h0
  obtain ⟨ao, cap, rfl, hm, hcs⟩ := hv.shape
  obtain ⟨f, hf⟩ : ∃ f, (fun nm => Y nm ++ prs (rowN nm).2.2) = f := ⟨_, rfl⟩
  rw [hf] at hY ⊢
  have HF := Lib.hid hf
  have HC := Lib.hid hcs
  have HT := Lib.hid hT
  have HI := Lib.hid hin
  have HY := Lib.hid hY
  clear hcs hv hf hT hin hY
  refine (callsIn_wide (n := 9)).1 (callsIn_of_wp_marks Tryd.func30 rfl trivial ?_ rfl)
  simp only [Tryd.ntmps30, List.size_toArray, List.length_cons, List.length_nil, Nat.reduceAdd, Nat.reduceSub, Array.replicate_succ, Array.replicate_zero, List.push_toArray, List.append_toArray, List.nil_append, List.cons_append]
  have bY := Boxed.new W 58 (.func (.yield l) #[] #[])
  have bN := hB.alloc (.cells #[.func (.yield l) #[] #[]] 58)
  have cN := bN.cell
  have hb1 := hb.alloc hb.size (.cells #[.func (.yield l) #[] #[]] 58)
  have j1 := hJ.alloc (.cells #[.func (.yield l) #[] #[]] 58) h0
  have st1 : EachSt w0 W l [] 0 (W.alloc (.cells #[.func (.yield l) #[] #[]] 58)) := ⟨bY, hb1, trivial, Nat.zero_le _⟩
  gi_wp2
  refine wpIn_loop (fun a W' => ∃ (k : Nat) (ds : List Deferred) (T : Nat), EachAct l Bn W.heap.size ao ns.length cap k ds a ∧ k ≤ ns.length ∧ J ((ns.take k).flatMap f) W' ∧ EachSt w0 W l ds T W') (fun a _ => ns.length - (intOf (a.tmps.getD 10 undef)).toNat) ⟨0, [], 0, ?_, Nat.zero_le _, j1, st1⟩ ?_
  · unfold EachAct
    repeat apply Exists.intro
    rfl
  clear bY bN cN hb1 j1 st1 hb h0
  rintro a W1 ⟨k, ds, T, ⟨u3, u4, u5, u6, u7, u11, u12, u13, u14, u15, u16, u17, u18, u19, u20, u21, u22, u23, u24, u25, u26, u27, u28, u29, u30, u31, u32, u33, u34, u35, u36, u37, u38, u39, u40, u41, u42, u43, u44, u45, u46, rfl⟩, hk, hj, hst⟩
  by_cases hlt : k < ns.length
  · obtain ⟨nm, hnm⟩ : ∃ nm, ns.getD k ⟨#[]⟩ = nm := ⟨_, rfl⟩
    have hmem : nm ∈ ns := by rw [← hnm, List.getD_eq_getElem?_getD, List.getElem?_eq_getElem hlt]; exact List.getElem_mem hlt
    obtain ⟨ad, rfl, c0⟩ := HC.out k hlt
    rw [hnm] at c0
    have c1 := cell_next c0 hst.below
    have hn : (k : Int) < ns.length := by omega
    have R0 := Lib.hid (rowOf_any nm w0 W1 HT.out hst.below)
    have h39 : Fence.wide.depth.isSome = true → 1 ≤ 9 - 1 - 1 := fun h => by cases h
    gi_wp2_with (first
      | (refine ⟨trivial, ?_⟩; gi_at_call 31; refine (callsIn_wide.2 R0.out).mono ?_; rintro e W2 ⟨pv, nv, rfl, sp, sn, hb2⟩; go_must (obtain ⟨po, pc, rfl, _, _⟩ := sp.shape; obtain ⟨no, nc, rfl, _, _⟩ := sn.shape; have SP := Lib.hid sp; have SN := Lib.hid sn; have HB2 := Lib.hid hb2; clear sp sn hb2))
      | (refine ⟨trivial, ?_⟩; gi_at_call 20; refine (callsIn_wide.2 (each_any _ _ w0 _ SP.out)).mono ?_; rintro e W3 ⟨rfl, rfl⟩))
    have hV2 := HB2.out.size
    have b3 : Box3 (W2.alloc (.cells #[.string (rowN nm).1, .slice po (rowN nm).2.1.length pc, .slice no (rowN nm).2.2.length nc] 52)) W2.heap.size _ _ _ := World.alloc_heap_new W2 _
    have bP := Boxed.new (W2.alloc (.cells #[.string (rowN nm).1, .slice po (rowN nm).2.1.length pc, .slice no (rowN nm).2.2.length nc] 52)) 31 (.slice po (rowN nm).2.1.length pc)
    have b3' : Box3 ((W2.alloc (.cells #[.string (rowN nm).1, .slice po (rowN nm).2.1.length pc, .slice no (rowN nm).2.2.length nc] 52)).alloc (.cells #[.slice po (rowN nm).2.1.length pc] 31)) W2.heap.size _ _ _ := (Below.heap_alloc _ _ _ (by simp)).trans b3
    have hbV : Below W2.heap.size W2 ((W2.alloc (.cells #[.string (rowN nm).1, .slice po (rowN nm).2.1.length pc, .slice no (rowN nm).2.2.length nc] 52)).alloc (.cells #[.slice po (rowN nm).2.1.length pc] 31)) := ((Below.refl _ _).alloc (Nat.le_refl _) _).alloc (by simp) _
    simp only [World.size_alloc] at bP
    have hVs : ((W2.alloc (.cells #[.string (rowN nm).1, .slice po (rowN nm).2.1.length pc, .slice no (rowN nm).2.2.length nc] 52)).alloc (.cells #[.slice po (rowN nm).2.1.length pc] 31)).heap.size = W2.heap.size + 2 := by simp
    replace hVs := Nat.le_of_eq hVs.symm
    clear b3
    generalize (W2.alloc (.cells #[.string (rowN nm).1, .slice po (rowN nm).2.1.length pc, .slice no (rowN nm).2.2.length nc] 52)).alloc (.cells #[.slice po (rowN nm).2.1.length pc] 31) = V at *
    have hb1V := HB2.out.trans (hbV.mono hV2)
    have hsz := hst.size
    have stV := hst.next hb1V
    have jV : J ((ns.take k).flatMap f ++ []) V := by rw [List.append_nil]; exact hJ _ W1 V none hj (grown_below hb1V) (fun r e => by cases e)
    have hw0 := stV.below.size
    have hfl : ∃ P0, (ns.take k).flatMap f = P0 := ⟨_, rfl⟩
    obtain ⟨P0, hP0⟩ := hfl
    have hall : ∃ rest, ns.flatMap f = P0 ++ (f nm ++ rest) := by
      obtain ⟨rest, hr⟩ := flat_take_prefix ns f (k + 1)
      rw [take_flat ns f hlt, hnm, hP0] at hr
      exact ⟨rest, by rw [← hr]; simp⟩
    rw [hP0] at jV
    have HP0 := Lib.hid hP0
    have HALL := Lib.hid hall
    clear hP0 hall hst hj
    refine range_law (Ty := TyN) (n₀ := w0.heap.size) (gf := 30) (lb := #[.pointer (some ⟨W2.heap.size + 1, 0, none⟩)]) rfl (enters_of Tryd.func30 (by kernel_rfl) rfl) (enc := rV) (X := Y nm)
      (fun W1' hW => HI.out nm hmem w0 W1' _ _ HT.out (stV.below.trans (hW.mono hw0)) SP.out ((hW.block _ bP.lt).trans bP)) hw0 rfl
      (fun pre W' => J (P0 ++ pre) W' ∧ EachSt w0 W l ds W1.heap.size W' ∧ Box3 W' W2.heap.size (.string (rowN nm).1) (.slice po (rowN nm).2.1.length pc) (.slice no (rowN nm).2.2.length nc))
      (fun pre W' => Jx (P0 ++ pre) W' ∧ MarksAt W.heap.size V.heap.size ds W')
      (OwnFrom.and (own_later (own_at hJ _) (by omega)) (OwnFrom.and (EachSt.own (by omega) hw0) (Own.from (box3_own _ _ _ _) _)))
      (OwnFrom.and (own_later (own_at hJx _) (by omega)) (marks_own (Nat.le_refl _)))
      ⟨jV, stV, b3'⟩
      (fun x a' W' => ∃ Bx, BoxR W' Bx x ∧ a' = { tmps := #[.func (.yield l) #[] #[], .pointer (some ⟨Bn, 0, none⟩), .pointer (some ⟨W.heap.size, 0, none⟩), u3, .string nm, .pointer (some ⟨W2.heap.size, 0, none⟩), .pointer (some ⟨Bx, 0, none⟩), u7, .slice (some ad) ns.length cap, .int .i64 (ns.length : Nat), .int .i64 (k : Nat), .bool true, .pointer (some (ad.add k)), .string nm, .string nm, .agg #[.string (rowN nm).1, .slice po (rowN nm).2.1.length pc, .slice no (rowN nm).2.2.length nc], .pointer (some ⟨W2.heap.size, 1, none⟩), .slice po (rowN nm).2.1.length pc, .func (.func 30) #[] #[.pointer (some ⟨W2.heap.size + 1, 0, none⟩)], rV x, u20, u21, u22, u23, u24, u25, u26, u27, u28, u29, u30, u31, u32, u33, u34, u35, u36, u37, u38, u39, u40, u41, u42, u43, u44, u45, u46], defers := [] })
      ?hAx ?assign ?body ?done ?stop
    case hAx =>
      rintro x a' _ A C row ⟨Bx, h1, h2⟩ hg hr
      exact ⟨Bx, h1.kept hg (fun r e => (hr r e).2), h2⟩
    case assign =>
      rintro l2 pre ⟨x, y⟩ W4 K ⟨hj4, st4, b34⟩ hK
      simp only [rV] at hK ⊢
      have hz4 := st4.top
      gi_wp2
      have hal := (Below.refl W4.heap.size W4).alloc (Nat.le_refl _) (.cells #[.int .i64 x, .int .i64 y] 40)
      exact hK _ _ (Keeps.of_below hal st4.below.size) ⟨hJ.alloc _ hj4, ⟨box_kept st4.box (World.grownBy_alloc W4 _ none) (fun r e => by cases e), st4.below.alloc st4.below.size _, st4.marks.grown (World.grownBy_alloc W4 _ none) (fun r e => by cases e), by simp; omega⟩, b34.kept (World.grownBy_alloc W4 _ none) (fun r e => by cases e)⟩ ⟨W4.heap.size, World.alloc_heap_new W4 _, rfl⟩
    case body =>
      rintro l2 pre ⟨x, y⟩ a' W4 ⟨hj4, st4, b34⟩ ⟨Bx, bX, rfl⟩ hlen
      obtain ⟨hx1, hx2⟩ := bX.cells
      have cY := st4.box.cell
      simp only at hx1 hx2
      have hl4 : (P0 ++ pre).length < (ns.flatMap f).length := by
        obtain ⟨rest, hr⟩ := HALL.out
        rw [hr, ← HF.out]
        simp; omega
      obtain ⟨fn, tmps, assign, body, hy, hR⟩ := yield_any (m' := 8) (HY.out (P0 ++ pre) (x, y) W4 hj4 hl4)
      dsimp only [rV] at hy
      simp only [rV]
      gi_wp2
      refine (round_in hR).mono ?_
      rintro e W5 (⟨rfl, hj5, hk5⟩ | ⟨rfl, hx5, hk5⟩)
      · gi_wp2
        exact ⟨hk5.later (by omega), by rw [← List.append_assoc]; exact hj5, st4.kept hk5 (Nat.le_refl _), hk5.typed _ _ _ _ b34 (.inr (.inl rfl))⟩
      · gi_wp2
        exact ⟨keepsFrom_mono hk5 (by omega), by rw [← List.append_assoc]; exact hx5, (st4.marks.kept fun k o hB ho hc => hk5.same k o hB ho hc).up (by omega)⟩
    case stop =>
      rintro pre W5 hp ⟨hx, hmk⟩ hd
      have hpre : P0 ++ pre <+: ns.flatMap f := by
        obtain ⟨rest, hr⟩ := HALL.out
        obtain ⟨t, ht⟩ := hp
        rw [hr, ← HF.out]
        exact ⟨t ++ prs (rowN nm).2.2 ++ rest, by simp only [← ht, List.append_assoc]⟩
      gi_wp2
      exact leave_any hJ hJx (T := V.heap.size + 1) ⟨V.heap.size, rfl, by omega, Nat.lt_succ_self _, hd, hmk⟩ (.inr ⟨_, hpre, hx⟩)
    case done =>
      rintro W5 ⟨hj5, st5, b35⟩ hd
      have st6 := st5.mark (D := V.heap.size) (by omega) (by omega) hd
      have hev := nums_even nm
      have j6 : J (P0 ++ Y nm ++ prs ((rowN nm).2.2.take 0)) W5 := by simpa [prs] using hj5
      obtain ⟨_, _, c2⟩ := b35.cells
      obtain ⟨_, _, hne, hnl, hnc⟩ := SN.out.shape
      have hnl := hnl
      obtain ⟨rfl, rfl⟩ : no = _ ∧ nc = _ := by simpa using hne
      have HNC := Lib.hid hnc
      have HEV := Lib.hid hev
      clear hnc hne hev st5 hd hj5
      gi_wp2
      gi_loopw [7] (fun i wr => ∃ q j : Nat, j = 2 * q ∧ i = .int .i64 (j : Nat) ∧ j ≤ (rowN nm).2.2.length ∧ J (P0 ++ Y nm ++ prs ((rowN nm).2.2.take (2 * q))) wr ∧ EachSt w0 W l ({ target := .collected V.heap.size, args := #[] } :: ds) (V.heap.size + 1) wr ∧ Box3 wr W2.heap.size (.string (rowN nm).1) (.slice po (rowN nm).2.1.length pc) (.slice no (rowN nm).2.2.length nc)) (fun i _ => (rowN nm).2.2.length - (intOf i).toNat)
      case atStart => exact ⟨0, 0, rfl, rfl, Nat.zero_le _, j6, st6, b35⟩
      case round =>
        obtain ⟨q, j, hjq, rfl, hq, hj7, st7, b37⟩ := hrel
        have hd : (rowN nm).2.2.length = 2 * ((rowN nm).2.2.length / 2) := by have := HEV.out; omega
        have HD := Lib.hid hd
        clear hd
        obtain ⟨_, _, d2⟩ := b37.cells
        by_cases hlt7 : j + 1 < (rowN nm).2.2.length
        · have hdr : Below wr.heap.size wr wr.drew := (Below.refl _ wr).drew
          have st8 : EachSt w0 W l ({ target := .collected V.heap.size, args := #[] } :: ds) (V.heap.size + 1) wr.drew := ⟨st7.box, st7.below.drew, st7.marks.grown (grown_below hdr) (fun r e => by cases e), st7.top⟩
          have b38 : Box3 wr.drew W2.heap.size (.string (rowN nm).1) (.slice po (rowN nm).2.1.length pc) (.slice _ (rowN nm).2.2.length _) := b37
          have j8 := hJ _ wr wr.drew none hj7 (grown_below hdr) (fun r e => by cases e)
          have cY := st8.box.cell
          have cY0 := st7.box.cell
          obtain ⟨g, hg, e0⟩ := HNC.out j (by omega)
          obtain ⟨g', hg', e1⟩ := HNC.out (j + 1) hlt7
          obtain rfl : g = g' := Option.some.inj (hg.symm.trans hg')
          subst hg
          replace e0 := cell_next e0 st7.below
          replace e1 := cell_next e1 st7.below
          have hl7 : (P0 ++ Y nm ++ prs ((rowN nm).2.2.take (2 * q))).length < (ns.flatMap f).length := by
            obtain ⟨rest, hr⟩ := HALL.out
            have := prs_len ((rowN nm).2.2.take (2 * q))
            have := prs_len (rowN nm).2.2
            rw [hr, ← HF.out]
            simp; simp at *; omega
          have hst7 := prs_take q (rowN nm).2.2 (by omega)
          rw [← hjq] at hst7
          obtain ⟨x, hx⟩ : ∃ x, (rowN nm).2.2.getD j 0 = x := ⟨_, rfl⟩
          obtain ⟨y, hy0⟩ : ∃ y, (rowN nm).2.2.getD (j + 1) 0 = y := ⟨_, rfl⟩
          rw [hx] at e0 hst7
          rw [hy0] at e1 hst7
          obtain ⟨fn, tmps, assign, body, hy, hR⟩ := yield_any (m' := 8) (HY.out _ (x, y) wr.drew j8 hl7)
          dsimp only [rV] at hy
          have HS7 := Lib.hid hst7
          have i1 : (j : Int) < ((rowN nm).2.2.length : Nat) := by omega
          have i2 : (j : Int) + 1 < ((rowN nm).2.2.length : Nat) := by omega
          have i3 : IntKind.i64.wrap ((j : Int) + 1) = (j : Int) + 1 := by rw [IntKind.wrap_i64]; omega
          have i4 : ((j : Int) + 1).toNat = j + 1 := by omega
          have i5 : 0 ≤ (j : Int) + 1 := by omega
          have e0d : wr.drew.cell? (g.add j) = some (.int .i64 x) := e0
          have e1d : wr.drew.cell? (g.add (j + 1)) = some (.int .i64 y) := e1
          obtain ⟨_, _, d2d⟩ := b38.cells
          have e1' : wr.cell? ⟨g.block, g.off + (j + 1), none⟩ = some (.int .i64 y) := by rw [← add_succ]; exact e1
          have HQ := Lib.hid hjq
          clear hjq
          have mx : Tryd.prog.follows .mixedOrders = true := by kernel_rfl
          clear hst7 hx hy0 hl7
          gi_wp2
          refine wpIn_mono (Q := NormOnly (fun a' W' => ∃ b, a' = { tmps := #[.func (.yield l) #[] #[], .pointer (some ⟨Bn, 0, none⟩), .pointer (some ⟨W.heap.size, 0, none⟩), u3, .string nm, .pointer (some ⟨W2.heap.size, 0, none⟩), u6, .int .i64 (j : Nat), .slice (some ad) ns.length cap, .int .i64 (ns.length : Nat), .int .i64 (k : Nat), .bool true, .pointer (some (ad.add k)), .string nm, .string nm, .agg #[.string (rowN nm).1, .slice po (rowN nm).2.1.length pc, .slice (some g) (rowN nm).2.2.length nc], .pointer (some ⟨W2.heap.size, 1, none⟩), .slice po (rowN nm).2.1.length pc, .func (.func 30) #[] #[.pointer (some ⟨W2.heap.size + 1, 0, none⟩)], u19, u20, u21, u22, u23,
            .int .i64 (j : Nat), .pointer (some ⟨W2.heap.size, 2, none⟩), .slice (some g) (rowN nm).2.2.length nc, .int .i64 ((rowN nm).2.2.length : Nat), .bool true, u29, u30, .func (.yield l) #[] #[], .pointer (some ⟨W2.heap.size, 2, none⟩), .slice (some g) (rowN nm).2.2.length nc, .int .i64 (j : Nat), .pointer (some (g.add j)), .int .i64 x, .pointer (some ⟨W2.heap.size, 2, none⟩), .slice (some g) (rowN nm).2.2.length nc, .int .i64 (j : Nat), .int .i64 ((j : Int) + 1), .pointer (some ⟨g.block, g.off + (j + 1), none⟩), .int .i64 y, .agg #[.int .i64 x, .int .i64 y], .bool b, .bool (!b), u46], defers := { target := .collected V.heap.size, args := #[] } :: ds } ∧ RoundB w0.heap.size W.heap.size J Jx (P0 ++ Y nm ++ prs ((rowN nm).2.2.take (2 * q)) ++ [(x, y)]) wr.drew W' b)) ?_ ?_
          · clear HC HT HI HY HALL HNC HEV HD HP0 HF HS7 HQ SP SN HB2 hb1V hbV bP st7 st8 b37 b38 hj7 j8 stV jV b3' hVs hV2 hw0 hsz hJ hJx hB hl hk hm hmem hnm c0 c1 hn h39 R0
            gi_region_with_o (refine hR.mono ?_; intro e W8 hre; obtain ⟨b, rfl, h8⟩ := roundB_of hre; clear hre)
            all_goals exact ⟨_, rfl, h8⟩
          · intro e a8 W8 hq8
            cases e with
            | normal =>
              obtain ⟨b, rfl, h8⟩ := hq8
              simp only [Exit.then]
              clear hR hy e0 e1 e0d e1d e1' i1 i2 i3 i4 i5 cY cY0 d2 d2d
              cases b with
              | true =>
                obtain ⟨j9, k9⟩ := h8.1 rfl
                have st9 := st8.kept k9 (Nat.le_refl _)
                have b39 : Box3 W8 W2.heap.size (.string (rowN nm).1) (.slice po (rowN nm).2.1.length pc) (.slice (some g) (rowN nm).2.2.length nc) := k9.typed _ _ _ _ b38 (.inr (.inl rfl))
                rw [List.append_assoc, ← HQ.out, ← HS7.out] at j9
                clear h8 k9 hj7 st7 b37 st8 b38 j8
                gi_wp2
                go_roundw
                case rel => exact ⟨q + 1, j + 2, by have := HQ.out; omega, by go_num, by omega, j9, st9, b39⟩
                case measure => simp [intOf]; omega
              | false =>
                obtain ⟨x9, k9⟩ := h8.2 rfl
                have mk9 := st8.marks.kept fun k o hB ho hc => k9.same k o hB ho hc
                have hpre : P0 ++ Y nm ++ prs ((rowN nm).2.2.take (2 * q)) ++ [(x, y)] <+: ns.flatMap f := by
                  obtain ⟨rest, hr⟩ := HALL.out
                  obtain ⟨t, ht⟩ := prs_prefix (q + 1) (rowN nm).2.2
                  rw [List.append_assoc, ← HQ.out, ← HS7.out, hr, ← HF.out]
                  exact ⟨t ++ rest, by simp only [← ht, List.append_assoc]⟩
                clear h8 k9 hj7 st7 b37 st8 b38 j8
                gi_wp2
                exact leave_any hJ hJx mk9 (.inr ⟨_, hpre, x9⟩)
            | _ => exact hq8.elim
        · have hjl : j = (rowN nm).2.2.length := by have := HD.out; omega
          have i0 : ¬ ((j : Int) < ((rowN nm).2.2.length : Nat)) := by omega
          have hfin : (ns.take (k + 1)).flatMap f = P0 ++ Y nm ++ prs ((rowN nm).2.2.take (2 * q)) := by
            rw [take_flat ns f hlt, hnm, HP0.out, ← HF.out, ← hjq, hjl, List.take_length, List.append_assoc]
          rw [← hfin] at hj7
          have HQ := Lib.hid hjq
          clear hjq hjl hfin
          gi_wp2
          refine ⟨⟨k + 1, _, ?_, by omega, hj7, _, st7⟩, ?_⟩
          · unfold EachAct
            repeat apply Exists.intro
            go_num
          · simp [intOf]; omega
  · obtain rfl : k = ns.length := by omega
    have hn : ¬ ((ns.length : Int) < (ns.length : Nat)) := by omega
    rw [List.take_length] at hj
    gi_wp2
    exact leave_any hJ hJx hst.marks (.inl hj)

theorem ctr_all : ∀ (d : Nat) (ns : List ByteArray), Okd d ns → Ctr ns (eachF d ns)
  | 0, ns, h => by
    subst h
    exact each1_step [] (fun _ => []) (fun nm h => by cases h)
  | d + 1, ns, h => each1_step ns (fun nm => eachF d (rowN nm).2.1) fun nm hn => ctr_all d _ (h nm hn)

end Go.Proofs.YtenmjnopbbingaaDoor.Nm

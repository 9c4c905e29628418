/- What a builder tells of a tree. -/
import Derived.Test.YtdgpanofehfjdaaArBs
import Derived.Laws.ResultCell
namespace Go.Proofs.Ytdgpanofehfjdaa.Ar
open Go Go.RowKit Go.Shelf
open Go.Proofs.Ytdgpanofehfjdaa.Rg (R RngsAt RowsAt nthL add_zero own_next RowsOwn flatR infoS row_apart row_base SetOut of_any inB hasB setFrom rngs_of_row)

theorem nthL_eq' {L : List (List R)} {i : Nat} (h : i < L.length) : L.take (i + 1) = L.take i ++ [nthL L i] := by
  rw [List.take_succ_eq_append_getElem h, Rg.nthL_eq h]
/-- the box of a tree in the making -/
structure TSt (B T : Nat) (w : World) (vn vs : Value) (r : Int) (ns : List Nd) (S : List (List R)) (xs : List Value) : Prop where
  base : B ≤ T
  box : w.heap[T]? = some (.cells #[vn, vs, .int .i64 r] 25 (0, 0))
  nodes : w.ownsRow B 41 6 vn ns.length (flatN ns)
  sets : RowsOwn B w vs S xs
section
variable {B T : Nat} {w w' : World} {vn vs : Value} {r : Int} {ns : List Nd} {S : List (List R)} {xs : List Value}
theorem TSt.lt (h : TSt B T w vn vs r ns S xs) : T < w.heap.size := (Array.getElem?_eq_some_iff.1 h.box).1
theorem TSt.cell0 (h : TSt B T w vn vs r ns S xs) : w.cell? ⟨T, 0, none⟩ = some vn := by simp [World.cell?, h.box]
theorem TSt.cell1 (h : TSt B T w vn vs r ns S xs) : w.cell? ⟨T, 1, none⟩ = some vs := by simp [World.cell?, h.box]
theorem TSt.cell2 (h : TSt B T w vn vs r ns S xs) : w.cell? ⟨T, 2, none⟩ = some (.int .i64 r) := by simp [World.cell?, h.box]
theorem TSt.next (h : TSt B T w vn vs r ns S xs) (hb : Below w.heap.size w w') : TSt B T w' vn vs r ns S xs :=
  ⟨h.base, (hb.block _ h.lt).trans h.box, own_next h.nodes hb, h.sets.next hb⟩
theorem TSt.shapeS (h : TSt B T w vn vs r ns S xs) : ∃ (ao : Option Addr) (cap : Nat), vs = .slice ao S.length cap := by
  obtain ⟨ao, cap, e, _, _⟩ := (h.sets.at').shape
  exact ⟨ao, cap, e⟩
theorem TSt.ne1 (h : TSt B T w vn vs r ns S xs) : vs.ownBlock ≠ some T := by
  rcases h.sets.own.2 with ⟨rfl, _⟩ | ⟨g, cap, cur, rfl, _, hg, _⟩
  · simp [Value.ownBlock]
  · intro e
    obtain rfl : g = T := by simpa [Value.ownBlock] using e
    rw [h.box] at hg
    simp at hg
theorem TSt.ne0 (h : TSt B T w vn vs r ns S xs) : vn.ownBlock ≠ some T := by
  rcases h.nodes.2 with ⟨rfl, _⟩ | ⟨g, cap, cur, rfl, _, hg, _⟩
  · simp [Value.ownBlock]
  · intro e
    obtain rfl : g = T := by simpa [Value.ownBlock] using e
    rw [h.box] at hg
    simp at hg
end
/-- a set more in a tree in the making -/
theorem tadded {B T g cap : Nat} {w W w1 : World} {vn vs x : Value} {r : Int} {ns : List Nd} {S : List (List R)} {xs : List Value} {L : List R} (hp : TSt B T w vn vs r ns S xs) (hb : Below w.heap.size w W)
    (hx : W.ownsRow B 55 2 x L.length (flatR L))
    (hown : w1.ownsRow B 37 1 (.slice (some ⟨g, 0, none⟩) (S.length + 1) cap) (S.length + 1) (xs ++ [x])) (hg : W.grownBy w1 vs.ownBlock) (hat : vs.ownBlock = some g ∨ g = W.heap.size) :
    w1.cell? ⟨T, 1, none⟩ = some vs ∧ w1.frozen? ⟨T, 1, none⟩ = false ∧
      TSt B T (w1.setCell ⟨T, 1, none⟩ (.slice (some ⟨g, 0, none⟩) (S.length + 1) cap)) vn (.slice (some ⟨g, 0, none⟩) (S.length + 1) cap) r ns (S ++ [L]) (xs ++ [x]) ∧
      Below B w (w1.setCell ⟨T, 1, none⟩ (.slice (some ⟨g, 0, none⟩) (S.length + 1) cap)) := by
  have hW := hp.next hb
  have hlt := hW.lt
  have hlt0 := hp.lt
  have hsz := hb.size
  have hbase := hp.base
  have hbx : w1.heap[T]? = some (.cells #[vn, vs, .int .i64 r] 25 (0, 0)) := (hg.block T hlt (Ne.symm hW.ne1)).trans hW.box
  have hne : T ≠ g := by
    rintro rfl
    rcases hat with h | h
    · exact hW.ne1 h
    · omega
  have hset := set_grown w1 T 1 (.slice (some ⟨g, 0, none⟩) (S.length + 1) cap)
  have hbox := heap_setCell_same w1 T 1 #[vn, vs, .int .i64 r] 25 (.slice (some ⟨g, 0, none⟩) (S.length + 1) cap) hbx
  have hk1 : Kx (fun b => B ≤ b) W w1 := Kx.of_grown hg (fun k hk => (hW.sets.own.lt k hk).1)
  have hk : Kx (fun b => B ≤ b) w (w1.setCell ⟨T, 1, none⟩ (.slice (some ⟨g, 0, none⟩) (S.length + 1) cap)) := ((Kx.of_below hb).trans hk1).trans (Kx.of_set hbase)
  refine ⟨by simp [World.cell?, hbx], frozen_of_row w1 T 1 _ _ hbx, ⟨hp.base, ?_, ?_, ?_⟩, hk.below (by omega) (fun k hk => by omega)⟩
  · simpa using hbox
  · refine (hW.nodes.kept hg ?_).kept hset ?_
    · exact row_apart (by decide) hW.sets.own hW.nodes
    · exact .inr hW.ne0
  · have r1 := hW.sets.app hx hown hg
    refine ⟨r1.own.kept hset ?_, fun i hi => ?_⟩
    · exact .inr (by simp [Value.ownBlock]; exact fun h => hne h.symm)
    · obtain ⟨y, h1, h2⟩ := r1.row i hi
      refine ⟨y, h1, h2.kept hset ?_⟩
      rcases h2.2 with ⟨rfl, _⟩ | ⟨g', cap', cur, rfl, _, hgg, _⟩
      · exact .inl rfl
      · right
        intro e
        obtain rfl : g' = T := by simpa [Value.ownBlock] using e
        rw [hbx] at hgg
        simp at hgg

/-- two results, the first one out of a box -/
theorem results_row_tmp {P : Program} {fn : Func} {p u : Tmp} {ty : TypeId} (h : fn.results = #[.cell p ty, .tmp u]) (tmps : Array Value) (w : World) (g : Nat) (t : TypeId) (cs : Array Value) (fr : Nat × Nat) (d : TypeDesc)
    (hp : tmps.getD p undef = .pointer (some ⟨g, 0, none⟩)) (hg : w.heap[g]? = some (.cells cs t fr))
    (hu : P.underlying ty = some d) (hd : (match d with | .struct _ | .array _ _ => true | _ => false) = true) (hi : (P.info? ty).map (·.size) = some cs.size) :
    (results fn tmps).run P w = .ok (.tuple #[.agg cs, tmps.getD u undef]) w := by
  have hp' : tmps[p]?.getD undef = .pointer (some ⟨g, 0, none⟩) := by simpa using hp
  rw [results_cell_tmp h]
  simp [hp', asAddr, run_loadVar_row w g t ty cs fr d hg hu hd hi, Result.andThen]
theorem boxed3 {W : World} {B : Nat} {u0 u1 u2 : Value} {t : TypeId} (h : W.heap[B]? = some (.cells #[u0, u1, u2] t (0, 0))) (v0 v1 v2 : Value) :
    (((W.setCell ⟨B, 0, none⟩ v0).setCell ⟨B, 1, none⟩ v1).setCell ⟨B, 2, none⟩ v2).heap[B]? = some (.cells #[v0, v1, v2] t (0, 0)) ∧ Kx (fun b => b = B) W (((W.setCell ⟨B, 0, none⟩ v0).setCell ⟨B, 1, none⟩ v1).setCell ⟨B, 2, none⟩ v2) := by
  have h0 := heap_setCell_same W B 0 #[u0, u1, u2] t v0 h
  have h1 := heap_setCell_same _ B 1 _ t v1 h0
  have h2 := heap_setCell_same _ B 2 _ t v2 h1
  have ks : ∀ (X : World) (o : Nat) (u : Value), Kx (fun b => b = B) X (X.setCell ⟨B, o, none⟩ u) := fun X o u => Kx.of_set (U := fun b => b = B) rfl
  exact ⟨by rw [h2]; simp, ((ks _ _ _).trans (ks _ _ _)).trans (ks _ _ _)⟩
/-- what Tree tells of a node that there is -/
def TreeOut (w : World) (ns : List Nd) (S : List (List R)) (r : Int) (e : Ending) (w' : World) : Prop :=
  ∃ vn vs xs, e = .returned (.tuple #[.agg #[vn, vs, .int .i64 r], .int .i64 0]) ∧ NRow w' w.heap.size vn ns ∧ RowsOwn w.heap.size w' vs S xs ∧ Below w.heap.size w w'
/-- what Tree tells where there is no such node -/
def NoTree (w : World) (e : Ending) (w' : World) : Prop := e = .returned (.tuple #[.agg #[.slice none 0 0, .slice none 0 0, .int .i64 0], .int .i64 10]) ∧ Below w.heap.size w w'

set_option maxRecDepth 100000 in
set_option maxHeartbeats 4000000 in
theorem tree_nil (r : Int) (w : World) : Calls Try.prog 25 #[.pointer none, .int .i64 r] w (NoTree w) := by
  have CL := Lib.hid len_nil
  have CB := Lib.hid (fun v w (h : IntsAt w v [r]) => below_any 0 v [r] w h)
  have hf : belowB 0 [r] = false := by rw [belowB_one]; cases h : decide (0 ≤ r) <;> simp_all <;> omega
  rw [hf] at CB
  clear hf
  go_enter Try.func25, Try.ntmps25
  go_wp2_with (first
    | (go_at_call 26; (with_reducible refine (CL.out _).mono ?_); rintro e w1 ⟨rfl, hw⟩; subst w1)
    | (go_at_call 30; (with_reducible refine (CB.out _ _ (slice_oneAt _ _ (by simp) _)).mono ?_); rintro e w1 ⟨rfl, hw⟩; subst w1)
    | fail)
  refine bodyPost_ret (results_row_tmp rfl _ _ w.heap.size 25 #[.slice none 0 0, .slice none 0 0, .int .i64 0] (0, 0) _ rfl ((heap_alloc_old _ _ (by simp)).trans (heap_alloc_new _ _)) Try.underlying25 rfl (by kernel_rfl)) rfl ?_
  exact ⟨rfl, ((Below.refl _ _).alloc (Nat.le_refl _) _).alloc (by simp) _⟩

set_option maxRecDepth 100000 in
set_option maxHeartbeats 4000000 in
theorem tree_no {B bb : Nat} {ns : List Nd} {S : List (List R)} {nv sv : Value} {xs : List Value} (r : Int) (w : World) (h : Bd B w bb ns S nv sv xs) (hr : ¬ (0 ≤ r ∧ r < ns.length)) : Calls Try.prog 25 #[.pointer (some ⟨bb, 0, none⟩), .int .i64 r] w (NoTree w) := by
  have CL := Lib.hid (len_any _ (h.next ((Below.refl w.heap.size w).alloc (Nat.le_refl _) (.cells #[.slice none 0 0, .slice none 0 0, .int .i64 0] 25))))
  have CB := Lib.hid (fun v w (h : IntsAt w v [r]) => below_any ns.length v [r] w h)
  have hf : belowB ns.length [r] = false := by rw [belowB_one]; cases h : decide (0 ≤ r) <;> simp_all <;> omega
  rw [hf] at CB
  clear hf h hr
  go_enter Try.func25, Try.ntmps25
  go_wp2_with (first
    | (go_at_call 26; (with_reducible refine CL.out.mono ?_); rintro e w1 ⟨rfl, hw⟩; subst w1)
    | (go_at_call 30; (with_reducible refine (CB.out _ _ (slice_oneAt _ _ (by simp) _)).mono ?_); rintro e w1 ⟨rfl, hw⟩; subst w1)
    | fail)
  refine bodyPost_ret (results_row_tmp rfl _ _ w.heap.size 25 #[.slice none 0 0, .slice none 0 0, .int .i64 0] (0, 0) _ rfl ((heap_alloc_old _ _ (by simp)).trans (heap_alloc_new _ _)) Try.underlying25 rfl (by kernel_rfl)) rfl ?_
  exact ⟨rfl, ((Below.refl _ _).alloc (Nat.le_refl _) _).alloc (by simp) _⟩

set_option maxRecDepth 100000 in
set_option maxHeartbeats 8000000 in
theorem tree_any {B bb : Nat} {ns : List Nd} {S : List (List R)} {nv sv : Value} {xs : List Value} (q : Nat) (w : World) (h : Bd B w bb ns S nv sv xs) (hq : q < ns.length) (h1 : ns.length ≤ 4096) (h2 : S.length ≤ 4096) (hS : ∀ s, s ∈ S → s.length ≤ 1000000) :
    Calls Try.prog 25 #[.pointer (some ⟨bb, 0, none⟩), .int .i64 q] w (TreeOut w ns S q) := by
  obtain ⟨i0, hi, hz0, hz1, hz2⟩ := info_parts infoS
  have BW := Lib.hid (fun o => (Below.refl w.heap.size w).alloc (Nat.le_refl _) o)
  have c0 := h.cell0
  have c1 := h.cell1
  have hlt := h.lt
  have HB := Lib.hid h
  have CL := Lib.hid (len_any _ (h.next (BW.out (.cells #[.slice none 0 0, .slice none 0 0, .int .i64 0] 25))))
  have CB := Lib.hid (fun v w (h : IntsAt w v [(q : Int)]) => below_any ns.length v [(q : Int)] w h)
  have hf : belowB ns.length [(q : Int)] = true := by rw [belowB_one]; simp; omega
  rw [hf] at CB
  have CC := Lib.hid (fun W (hb : Below w.heap.size w W) => clone_nodes ns nv W (nodes_of_row (h.next hb).nodes) (by omega))
  have HRS := Lib.hid h.sets.at'
  have HLS := Lib.hid hS
  obtain ⟨ao, cap, rfl⟩ := h.shapeN
  obtain ⟨so, scap, hsv, hsm, hsc⟩ := HRS.out.shape
  subst hsv
  have HSC := Lib.hid hsc
  clear h hf hsc hS
  go_enter Try.func25, Try.ntmps25
  go_wp2_with (first
    | (go_at_call 26; (with_reducible refine CL.out.mono ?_); rintro e w1 ⟨rfl, hw⟩; subst w1)
    | (go_at_call 30; (with_reducible refine (CB.out _ _ (slice_oneAt _ _ (by simp) _)).mono ?_); rintro e w1 ⟨rfl, hw⟩; subst w1)
    | (go_at_call 48; (with_reducible refine (CC.out _ ((BW.out _).alloc (by simp) _)).mono ?_); rintro e w1 ⟨vn, rfl, hvn, hb1⟩; go_must (obtain ⟨no, ncap, rfl, _, _⟩ := (nodes_of_row hvn).shape; have HVN := Lib.hid hvn; have B1 := Lib.hid (((BW.out (.cells #[.slice none 0 0, .slice none 0 0, .int .i64 0] 25)).alloc (by simp) (.cells #[.int .i64 (q : Int)] 3)).trans (hb1.mono (by simp; omega))); have q0 := cell_next c0 B1.out; have q1 := cell_next c1 B1.out; have hbl : bb < w1.heap.size := cell_lt q1; have hs1 : w.heap.size + 2 ≤ w1.heap.size := (by have := hb1.size; simp at this; omega); have HB1 := Lib.hid hb1; clear hvn hb1))
    | fail)
  have hst : TSt (w.heap.size + 1) w1.heap.size (w1.alloc (.cells #[.slice no ns.length ncap, .slice none 0 0, .int .i64 (q : Int)] 25)) (.slice no ns.length ncap) (.slice none 0 0) q ns [] [] :=
    ⟨by omega, heap_alloc_new _ _, (row_base HVN.out (by simp)).alloc _, RowsOwn.nil _ _⟩
  have hbw : Below (w.heap.size + 1) (w.alloc (.cells #[.slice none 0 0, .slice none 0 0, .int .i64 0] 25)) (w1.alloc (.cells #[.slice no ns.length ncap, .slice none 0 0, .int .i64 (q : Int)] 25)) :=
    (((Below.refl (w.heap.size + 1) _).alloc (by simp) _).trans (HB1.out.mono (by simp))).alloc (by omega) _
  have HST := Lib.hid hst
  have HBW := Lib.hid hbw
  have q1' := cell_next q1 ((Below.refl _ _).alloc (Nat.le_refl _) (.cells #[.slice no ns.length ncap, .slice none 0 0, .int .i64 (q : Int)] 25))
  generalize w1.alloc (.cells #[.slice no ns.length ncap, .slice none 0 0, .int .i64 (q : Int)] 25) = W2 at *
  have HA4 := Lib.hid (show (w.alloc (.cells #[.slice none 0 0, .slice none 0 0, .int .i64 0] 25)).heap[w.heap.size]? = some (.cells #[.slice none 0 0, .slice none 0 0, .int .i64 0] 25) from heap_alloc_new _ _)
  have BA := Lib.hid (BW.out (.cells #[.slice none 0 0, .slice none 0 0, .int .i64 0] 25))
  have hsA : w.heap.size + 1 ≤ (w.alloc (.cells #[.slice none 0 0, .slice none 0 0, .int .i64 0] 25)).heap.size := by simp
  generalize w.alloc (.cells #[.slice none 0 0, .slice none 0 0, .int .i64 0] 25) = WA at *
  obtain ⟨T, hT⟩ : ∃ T, T = w1.heap.size := ⟨_, rfl⟩
  rw [← hT] at HST hs1 ⊢
  have CG := Lib.hid (fun (k : Nat) (hk : k < S.length) (x : Value) (W : World) (hx : RngsAt W x (nthL S k)) => clone_rngs (nthL S k) x W hx (HLS.out _ (by rw [Rg.nthL_eq hk]; exact List.getElem_mem hk)))
  clear hst hbw q0 q1 hbl hT CC CL CB c0 c1 HVN HB1 B1 HLS HRS HB
  go_loopw [28] (fun i wr => ∃ (k : Nat) (vs : Value) (xs' : List Value), i = .int .i64 k ∧ k ≤ S.length ∧ TSt (w.heap.size + 1) T wr (.slice no ns.length ncap) vs q ns (S.take k) xs' ∧ Below (w.heap.size + 1) WA wr) (fun i _ => S.length - (intOf i).toNat)
  case atStart => exact ⟨0, _, [], rfl, Nat.zero_le _, by rw [List.take_zero]; exact HST.out, HBW.out⟩
  case round =>
    clear q1' HST HBW
    obtain ⟨k, vs, xs', rfl, hk, hst, hbw⟩ := hrel
    obtain ⟨wo, rfl⟩ : ∃ x, x = wr := ⟨_, rfl⟩
    have t0 := hst.cell0
    have t1 := hst.cell1
    have t2 := hst.cell2
    have htl := hst.lt
    have HST := Lib.hid hst
    have HBW := Lib.hid hbw
    have hsz := hbw.size
    have hB := BA.out.trans (hbw.mono (by omega))
    have HBO := Lib.hid hB
    by_cases hlt : k < S.length
    · obtain ⟨gs, y, rfl, y1, y2⟩ := HSC.out k hlt
      have y3 := cell_next y1 hB
      have CL := Lib.hid (fun W (hb : Below wo.heap.size wo W) => CG.out k hlt y W ((y2.next hB).next hb))
      obtain ⟨yo, ycap, rfl, _, _⟩ := (y2.next hB).shape
      obtain ⟨vo, vcap, hve⟩ := hst.shapeS
      have hlk : (S.take k).length = k := by simp; omega
      rw [hlk] at hve
      subst hve
      have HTK := Lib.hid (nthL_eq' hlt)
      generalize S.take k = Sk at *
      generalize nthL S k = L at *
      have HLK := Lib.hid hlk
      clear hst hbw hB y1 y2 hlk
      go_wp2
      go_region_law (first
        | (refine step_append_lies _ rfl (.tmp 33) (.tmp 36) 23 rfl (w.heap.size + 1) 37 i0 (.slice none 0 0) 1 24 Try.underlying23 hi hz0 hz1 hz2 rfl (by decide) (.slice vo k vcap) k xs' (by rfl) (by have h0 := own_next HST.out.sets.own (B3.out (.cells #[.slice xo L.length xcap] 37)); rw [HLK.out] at h0; exact h0) ⟨w2.heap.size, 0, none⟩ 1 1 [.slice xo L.length xcap] (by rfl) rfl (World.news_of_block (World.alloc_heap_new w2 _)) (by simp [Value.oneCell']) (by decide) (by unfold maxLen; omega) (by omega) (by have := B2.out.size; simp; omega) _ rfl ?_; intro g cap2 w3 hown hg hat _; go_must (rw [← HLK.out] at hown; obtain ⟨z1, z2, z3, z4⟩ := tadded (L := L) HST.out (B3.out _) ((row_base HX.out (show w.heap.size + 1 ≤ wo.heap.size by omega)).alloc _) hown hg hat; rw [HLK.out] at z3 z4; have Z3 := Lib.hid z3; have Z4 := Lib.hid z4; clear z3 z4 hown hg hat))
        | ((have hg := CL); clear hg; go_simp; go_wp2_with (go_at_call 49; (with_reducible refine (CL.out _ (by first | exact below_drew _ | exact Below.refl _ _)).mono ?_); rintro e w2 ⟨x, rfl, hx, h3⟩; go_must (obtain ⟨xo, xcap, rfl, _, _⟩ := (rngs_of_row hx).shape; have HX := Lib.hid hx; have hb2 : Below wo.heap.size wo w2 := (below_drew _).trans h3; have q3 := cell_next t1 hb2; have q6 : ∀ (cs : Array Value) (t : TypeId), (w2.alloc (.cells cs t)).cell? ⟨T, 1, none⟩ = some (.slice vo k vcap) := (fun cs t => cell_next q3 ((Below.refl _ _).alloc (Nat.le_refl _) _)); have B2 := Lib.hid hb2; have B3 := Lib.hid (fun o => hb2.trans (((Below.refl w2.heap.size w2).alloc (Nat.le_refl _) o).mono hb2.size)); clear hx h3 hb2 CL)))
        | fail)
      all_goals (
        go_wp2
        go_roundw
        case rel => exact ⟨k + 1, _, _, by go_num, by omega, by rw [HTK.out]; exact Z3.out, (HBW.out.trans Z4.out)⟩
        case measure => simp [intOf]; omega)
    · obtain rfl : k = S.length := by omega
      rw [List.take_length] at hst HST
      obtain ⟨vo, vcap, hve⟩ := hst.shapeS
      subst hve
      have a0 := HA4.out
      have hA : wo.heap[w.heap.size]? = some (.cells #[.slice none 0 0, .slice none 0 0, .int .i64 0] 25 (0, 0)) := (hbw.block _ (by omega)).trans a0
      have f0 : wo.cell? ⟨w.heap.size, 0, none⟩ = some (.slice none 0 0) := by simp [World.cell?, hA]
      have f1 : wo.cell? ⟨w.heap.size, 1, none⟩ = some (.slice none 0 0) := by simp [World.cell?, hA]
      have f2 : wo.cell? ⟨w.heap.size, 2, none⟩ = some (.int .i64 0) := by simp [World.cell?, hA]
      have g0 := frozen_of_row wo w.heap.size 0 _ _ hA
      have g1 := frozen_of_row wo w.heap.size 1 _ _ hA
      have g2 := frozen_of_row wo w.heap.size 2 _ _ hA
      have HAA := Lib.hid hA
      clear hA a0 hst hbw hB
      go_wp2
      obtain ⟨e1, e2⟩ := boxed3 (B := w.heap.size) (W := wo) HAA.out (.slice no ns.length ncap) (.slice vo S.length vcap) (.int .i64 (q : Int))
      have HE1 := Lib.hid e1
      have HE2 := Lib.hid e2
      clear e1 e2
      generalize ((wo.setCell ⟨w.heap.size, 0, none⟩ (.slice no ns.length ncap)).setCell ⟨w.heap.size, 1, none⟩ (.slice vo S.length vcap)).setCell ⟨w.heap.size, 2, none⟩ (.int .i64 (q : Int)) = W9 at *
      refine bodyPost_ret (results_row_tmp rfl _ _ w.heap.size 25 #[.slice no ns.length ncap, .slice vo S.length vcap, .int .i64 (q : Int)] (0, 0) _ rfl HE1.out Try.underlying25 rfl (by kernel_rfl)) rfl ?_
      have t9 := HE2.out
      have own9 : ∀ {e : TypeId} {s n : Nat} {u : Value} {ys : List Value}, wo.ownsRow (w.heap.size + 1) e s u n ys → W9.ownsRow w.heap.size e s u n ys := fun ho => row_base (t9.own ho (fun k hk hb => by have := (ho.lt k hk).1; omega)) (by omega)
      refine ⟨_, _, xs', rfl, own9 HST.out.nodes, ⟨own9 HST.out.sets.own, fun i hi => ?_⟩, (HBO.out.trans (Below.refl _ _)).trans (t9.below (by omega) (fun k hk => by omega))⟩
      obtain ⟨x, h1, h2⟩ := HST.out.sets.row i hi
      exact ⟨x, h1, own9 h2⟩

end Go.Proofs.Ytdgpanofehfjdaa.Ar

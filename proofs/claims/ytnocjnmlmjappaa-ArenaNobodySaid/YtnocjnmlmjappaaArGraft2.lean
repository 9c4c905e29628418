/- A tree added to a builder: the call. -/
import Derived.Test.YtnocjnmlmjappaaArGraft
namespace Go.Proofs.Ytnocjnmlmjappaa.Ar
open Go Go.RowKit Go.Shelf
open Go.Proofs.Ytnocjnmlmjappaa.Rg (R RngsAt RowsAt nthL add_zero own_next RowsOwn flatR infoS row_apart row_base rngs_of_row)

/-- what Graft tells -/
def GraftOut (B : Nat) (w : World) (bb : Nat) (ns : List Nd) (S : List (List R)) (nv sv : Value) (t : Tr) (e : Ending) (w' : World) : Prop :=
  e = .returned (.int .i64 ((ns.length : Int) + t.root)) ∧ BStep B w bb nv sv (graft ns S t).ns (graft ns S t).sets w'

theorem graft_fin {B bb : Nat} {w wo w' : World} {ns : List Nd} {S : List (List R)} {nv sv sv' : Value} {xs' : List Value} {t : Tr} {e : Ending} (hk : Kx (US bb sv) w wo) (hs : ∀ b, sv'.ownBlock = some b → sv.ownBlock = some b ∨ w.heap.size + 1 ≤ b)
    (h : GThr B bb wo ns (S ++ t.sets) nv sv' xs' S.length t e w') : GraftOut B w bb ns S nv sv t e w' := by
  obtain ⟨he, nv', h1, h2, h3⟩ := h
  have hz := hk.size
  refine ⟨he, nv', sv', xs', h1, (hk.mono (fun k _ h => h.elim .inl fun h => .inr (.inr h))).trans (h2.mono fun k _ h => h.elim .inl fun h => .inr (.inl h)), fun k hk => (h3 k hk).imp id (fun h => by omega), fun k hk => (hs k hk).imp id (fun h => by omega)⟩

set_option maxRecDepth 100000 in
set_option maxHeartbeats 16000000 in
theorem graft_any {B bb : Nat} {ns : List Nd} {S : List (List R)} {nv sv : Value} {xs : List Value} (t : Tr) (v : Value) (w W0 : World) (h : Bd B w bb ns S nv sv xs) (hv : TreeAt W0 v t) (hB0 : Below W0.heap.size W0 w) (hB : W0.heap.size ≤ B) (hok : checkE t = 0) (h1 : ns.length + t.ns.length ≤ 4096) (h2 : S.length + t.sets.length ≤ 4096) (hS : ∀ s, s ∈ t.sets → s.length ≤ 1000000) :
    Calls Try.prog 47 #[.pointer (some ⟨bb, 0, none⟩), v] w (GraftOut B w bb ns S nv sv t) := by
  obtain ⟨i0, hi, hz0, hz1, hz2⟩ := info_parts infoI
  obtain ⟨j0, hj, hy0, hy1, hy2⟩ := info_parts infoS
  have hlt := h.lt
  have hbase := h.base
  have HB := Lib.hid h
  obtain ⟨ao, cap, so, scap, rfl, hm, hm2, _, _⟩ := hv.shape
  have BW := Lib.hid (fun o => (Below.refl w.heap.size w).alloc (Nat.le_refl _) o)
  have HT := Lib.hid (fun W (hb : Below W0.heap.size W0 W) => hv.next hb)
  have H0 := Lib.hid hB0
  have HS0 := Lib.hid hB0.size
  have CC := Lib.hid (fun W (hb : Below w.heap.size w W) => (show Calls Try.prog 9 #[.agg #[.slice ao t.ns.length cap, .slice so t.sets.length scap, .int .i64 t.root]] W (fun e w' => e = .returned (.int .i64 0) ∧ Below W.heap.size W w') by
    have := check_any t _ W (hv.next (hB0.trans (hb.mono hB0.size)))
    rw [hok] at this; exact this))
  have CR := Lib.hid (fun W (hb : Below w.heap.size w W) => room_any t.ns.length t.sets.length W (h.next hb) h1 h2)
  have HR := Lib.hid (fun W (hb : Below W0.heap.size W0 W) i (hi : i < t.sets.length) => show ∃ g x, so = some g ∧ W.cell? (g.add i) = some x ∧ RngsAt W x (nthL t.sets i) by
    obtain ⟨ao', cap', so', scap', he, _, _, _, hs⟩ := (hv.next hb).shape
    simp only [Value.agg.injEq, Array.mk.injEq, List.cons.injEq, Value.slice.injEq] at he
    rw [he.2.1.1]; exact hs i hi)
  have HUB := Lib.hid (fun (b : Nat) (hb : US bb sv b) => show B ≤ b by
    rcases hb with rfl | hb
    · exact h.base
    · exact (h.sets.own.lt _ hb).1)
  have HSV := Lib.hid (fun (b : Nat) (hb : sv.ownBlock = some b) => (h.sets.own.lt _ hb).2)
  have T0 := Lib.hid (TBox.new w (.slice ao t.ns.length cap) (.slice so t.sets.length scap) t.root)
  have OK := Lib.hid (check_ok hok)
  have HLS := Lib.hid hS
  clear h hv hB0 hok hS
  go_enter Try.func47, Try.ntmps47
  go_wp2_with (first
    | (go_at_call 9; (with_reducible refine (CC.out _ (BW.out _)).mono ?_); rintro e w1 ⟨rfl, hb1⟩; go_must (obtain ⟨r0, r1, r2⟩ := T0.out.next hb1; have B1 := Lib.hid ((BW.out (.cells #[.slice ao t.ns.length cap, .slice so t.sets.length scap, .int .i64 t.root] 25)).trans (hb1.mono (by simp))); have hs1 : w.heap.size + 1 ≤ w1.heap.size := (by have := hb1.size; simp at this; omega); clear hb1))
    | (go_at_call 56; (with_reducible refine (CR.out _ B1.out).mono ?_); rintro e w2 ⟨rfl, hw⟩; subst w2)
    | fail)
  have hst : GSt B w bb ns S nv sv t (.slice ao t.ns.length cap) (.slice so t.sets.length scap) 0 (.slice none 0 0) w1 :=
    ⟨⟨sv, xs, by rw [List.take_zero, List.append_nil]; exact HB.out.next B1.out, fun b hb => .inl hb⟩, World.ownsRow_nil _ _ _ _, ⟨r0, r1, r2⟩, Kx.of_below B1.out⟩
  have HST := Lib.hid hst
  clear hst CC CR T0
  go_loopw [5, 25] (fun o i wr => ∃ (k : Nat) (vo : Value), i = .int .i64 k ∧ vo = o ∧ k ≤ t.sets.length ∧ GSt B w bb ns S nv sv t (.slice ao t.ns.length cap) (.slice so t.sets.length scap) k vo wr) (fun _ i _ => t.sets.length - (intOf i).toNat)
  case atStart => exact ⟨0, _, rfl, rfl, Nat.zero_le _, HST.out⟩
  case round =>
    clear r0 r1 r2
    obtain ⟨k, o, rfl, rfl, hk, hst⟩ := hrel
    obtain ⟨wo, rfl⟩ : ∃ x, x = wr := ⟨_, rfl⟩
    obtain ⟨⟨sv', xs', hbd, hsv⟩, hrow, ⟨r0, r1, r2⟩, hkx⟩ := hst
    have hwz := hkx.size
    have hbT : Below W0.heap.size W0 wo := H0.out.trans (hkx.below HS0.out (fun b hb hu => by have := HUB.out b hu; omega))
    have HBT := Lib.hid hbT
    have HBD := Lib.hid hbd
    have HSV2 := Lib.hid hsv
    have HROW := Lib.hid hrow
    have HBOX := Lib.hid (TBox.mk r0 r1 r2)
    have HKX := Lib.hid hkx
    have hN := cell_lt r0
    have hN1 : w.heap.size + 1 ≤ wo.heap.size := hN
    have c1 := hbd.cell1
    have hlen : (S ++ t.sets.take k).length = S.length + k := by simp; omega
    have hbl := hbd.lt
    obtain ⟨uo, ucap, hue⟩ := hbd.shapeS
    rw [hlen] at hue
    subst hue
    have HLEN := Lib.hid hlen
    clear hbd hsv hrow hkx hlen hbT hN
    by_cases hlt2 : k < t.sets.length
    · obtain ⟨gs, y, rfl, y0, y2⟩ := HR.out W0 (Below.refl _ _) k hlt2
      have y1 := cell_next y0 HBT.out
      have hgs := cell_lt y1
      have HTK := Lib.hid (nthL_eq' hlt2)
      have HLL := Lib.hid (show (nthL t.sets k).length ≤ 1000000 from HLS.out _ (by rw [Rg.nthL_eq hlt2]; exact List.getElem_mem hlt2))
      obtain ⟨yo, ycap, rfl, _, _⟩ := y2.shape
      generalize nthL t.sets k = L at *
      have CL := Lib.hid (fun W (hb : Below W0.heap.size W0 W) => clone_rngs L _ W (y2.next hb) HLL.out)
      clear y2 y0
      go_wp2_with (at_builtin; refine wpList_append_own _ rfl _ _ 53 rfl (w.heap.size + 1) 3 i0 (.int .i64 0) 1 8 Try.underlying53 hi hz0 hz1 hz2 rfl (by decide) o k ((numI S.length k).map (Value.int .i64)) rfl (HROW.out.alloc _) ⟨wo.heap.size, 0, none⟩ 1 1 [.int .i64 ((S.length : Int) + k)] rfl rfl (by simpa using cell_one_new wo _ _) (by simp [Value.oneCell']) (by unfold maxLen; omega) (by omega) (by simp; omega) ?_; intro v' w7 hown hg _; go_must (obtain ⟨z1, z2, z3, z4, z5⟩ := gst_num HBD.out HROW.out HBOX.out HKX.out hN1 hown hg; have q1 := z1.cell1; have ql := z1.lt; have Z1 := Lib.hid z1; have Z2 := Lib.hid z2; have Z3 := Lib.hid z3; have Z4 := Lib.hid z4; have Z7 := Lib.hid (show Below W0.heap.size W0 w7 from H0.out.trans (Z4.out.below HS0.out (fun b hb hu => by have := HUB.out b hu; omega))); clear z1 z2 z3 z4 hown hg))
      go_region_law (first
        | (refine step_append_lies _ rfl (.tmp 41) (.tmp 44) 23 rfl B 37 j0 (.slice none 0 0) 1 24 Try.underlying23 hj hy0 hy1 hy2 rfl (by decide) (.slice uo (S.length + k) ucap) (S.length + k) xs' (by rfl) (by have hq := own_next Z1.out.sets.own (B3.out (.cells #[.slice xo L.length xcap] 37)); rw [HLEN.out] at hq; exact hq) ⟨w2.heap.size, 0, none⟩ 1 1 [.slice xo L.length xcap] (by rfl) rfl (World.news_of_block (World.alloc_heap_new w2 _)) (by simp [Value.oneCell']) (by decide) (by unfold maxLen; omega) (by omega) (by have := B2.out.size; simp; omega) _ rfl ?_; intro g cap2 w3 hown hg hat _; go_must (obtain ⟨u1, u2, u3⟩ := gst_set HTK.out HLEN.out Z1.out HSV2.out HSV.out hlt Z2.out Z3.out Z4.out (B3.out _) ((row_base HX.out (show B ≤ w7.heap.size by omega)).alloc _) hown hg hat (by omega); have U3 := Lib.hid u3; clear u3 hown hg hat))
        | ((have hg := CL); clear hg; go_simp; go_wp2_with (go_at_call 49; (with_reducible refine (CL.out _ (by first | exact Z7.out.trans (below_drew _) | exact Z7.out)).mono ?_); rintro e w2 ⟨x, rfl, hx, h3⟩; go_must (obtain ⟨xo, xcap, rfl, _, _⟩ := (rngs_of_row hx).shape; have HX := Lib.hid hx; have hb2 : Below w7.heap.size w7 w2 := (below_drew _).trans h3; have q3 := cell_next q1 hb2; have q6 : ∀ (cs : Array Value) (t : TypeId), (w2.alloc (.cells cs t)).cell? ⟨bb, 1, none⟩ = some (.slice uo (S.length + k) ucap) := (fun cs t => cell_next q3 ((Below.refl _ _).alloc (Nat.le_refl _) _)); have B2 := Lib.hid hb2; have B3 := Lib.hid (fun o => hb2.trans (((Below.refl w2.heap.size w2).alloc (Nat.le_refl _) o).mono hb2.size)); clear hx h3 hb2 CL)))
        | fail)
      all_goals (
        go_wp2
        go_roundw
        case rel => exact ⟨k + 1, _, by go_num, rfl, by omega, U3.out⟩
        case measure => simp [intOf]; omega)
    · obtain rfl : k = t.sets.length := by omega
      rw [List.take_length] at HBD
      have CT := Lib.hid (graft_thr t OK.out.1 (.agg #[.slice ao t.ns.length cap, .slice so t.sets.length scap, .int .i64 t.root]) o wo HBD.out h1 h2 (fun W hW => HT.out W (HBT.out.trans (hW.below (show W0.heap.size ≤ wo.heap.size from HBT.out.size) (fun b hb hu => by
        rcases hu with rfl | hu
        · omega
        · have := (HBD.out.nodes.lt _ hu).1; omega)))) HROW.out)
      go_wp2_with (go_at_call 38; (with_reducible refine CT.out.mono ?_); intro e w9 hg; go_must (have G9 := Lib.hid (graft_fin HKX.out HSV2.out hg); have hge := hg.1; clear hg); subst hge)
      go_ret
      exact G9.out

end Go.Proofs.Ytnocjnmlmjappaa.Ar

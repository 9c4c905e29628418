/- Whether a set has all of another; Same. -/
import Derived.Test.YtemmaoapicaloaaDoorBtCnt0
import Derived.Test.YtemmaoapicaloaaDoorBtOf
namespace Go.Proofs.YtemmaoapicaloaaDoor.Bt
open Go.RowKit Go.Shelf

attribute [local go_sem] Oper.semAt_some

/-- are these words' bits all in those words -/
def subX (X : List (Nat × Nat)) (L : List Nat) : Bool := X.all fun x => decide (x.2 &&& (18446744073709551615 - L.getD x.1 0) = 0)
theorem subX_snoc (X : List (Nat × Nat)) (x : Nat × Nat) (L : List Nat) : subX (X ++ [x]) L = (subX X L && decide (x.2 &&& (18446744073709551615 - L.getD x.1 0) = 0)) := by
  unfold subX
  rw [List.all_append]; simp
theorem subX_not {X Y : List (Nat × Nat)} {L : List Nat} (h : Y <+: X) (hn : subX Y L = false) : subX X L = false := by
  obtain ⟨Z, rfl⟩ := h
  unfold subX at *
  rw [List.all_append, hn]; rfl

set_option maxRecDepth 100000 in
set_option maxHeartbeats 2000000 in
theorem within_any (B room B2 room2 : Nat) (v v2 : Value) (L L2 : List Nat) (w : World) (h : SetAt w B room v L) (k : SetAt w B2 room2 v2 L2) :
    Calls Tryd.prog 48 #[setV room v, setV room2 v2] w fun e w' => e = .returned (.bool (subX (fromL 0 L) L2)) ∧ Below w.heap.size w w' := by
  obtain ⟨ao, cap, rfl, hL, hcap, hc⟩ := h.shape
  obtain ⟨bo, cap2, rfl, hL2, hcap2, hc2⟩ := k.shape
  have HC := Lib.hid (fun W (hW : Below w.heap.size w W) => show Rd ao L W from fun i hi => by
    obtain ⟨g, e, hcell⟩ := hc i hi
    exact ⟨g, e, cell_next hcell hW⟩)
  have HC2 := Lib.hid (fun W (hW : Below w.heap.size w W) => show Rd bo L2 W from fun i hi => by
    obtain ⟨g, e, hcell⟩ := hc2 i hi
    exact ⟨g, e, cell_next hcell hW⟩)
  have HX := Lib.hid (fun x => from_word 0 L x)
  have HW := Lib.hid (And.intro h.word k.word)
  clear hc h hc2 k
  unfold setV
  refine (callsIn_wide (n := 9)).1 (callsIn_of_wp_marks Tryd.func48 rfl trivial ?_ rfl)
  simp only [Tryd.ntmps48, List.size_toArray, List.length_cons, List.length_nil, Nat.reduceAdd, Nat.reduceSub, Array.replicate_succ, Array.replicate_zero, List.push_toArray, List.append_toArray, List.nil_append, List.cons_append]
  have hB1 := (Below.refl w.heap.size w).alloc (Nat.le_refl _) (.cells #[.int .i64 (room : Nat), .slice ao L.length cap] 34)
  have hB2 := hB1.alloc hB1.size (.cells #[.int .i64 (room2 : Nat), .slice bo L2.length cap2] 34)
  have hB3 := hB2.alloc hB2.size (.cells #[.bool false] 4)
  have bT := BoxS.next (World.alloc_heap_new (w.alloc (.cells #[.int .i64 (room : Nat), .slice ao L.length cap] 34)) (.cells #[.int .i64 (room2 : Nat), .slice bo L2.length cap2] 34)) ((Below.refl _ _).alloc (Nat.le_refl _) (.cells #[.bool false] 4))
  have bR := Boxed.new ((w.alloc (.cells #[.int .i64 (room : Nat), .slice ao L.length cap] 34)).alloc (.cells #[.int .i64 (room2 : Nat), .slice bo L2.length cap2] 34)) 4 (.bool false)
  simp only [World.size_alloc] at bR bT
  gi_wp2
  refine range_law (rc := .agg #[.int .i64 (room : Nat), .slice ao L.length cap]) (gf := 28) rfl (enters_of Tryd.func28 (by kernel_rfl) rfl) (enc := encP) (X := fromL 0 L) (Rd := Rd ao L)
    (fun W1 _ => filled_seq room _ L ao cap rfl hL W1) (fun _ => rfl)
    (fun pre W => (subX pre L2 = true ∧ Boxed W (w.heap.size + 1 + 1) 4 (.bool false)) ∧ BoxS W (w.heap.size + 1) room2 (.slice bo L2.length cap2) ∧ Below w.heap.size w W)
    (fun pre W => (subX pre L2 = false ∧ Boxed W (w.heap.size + 1 + 1) 4 (.bool false)) ∧ Below w.heap.size w W)
    (OwnFrom.and (OwnFrom.and (ownFrom_pure _ _) (Own.from (boxed_own (w.heap.size + 1 + 1) 4 (fun _ => .bool false)) _)) (OwnFrom.and (own_heap _ _) (ownFrom_below (Nat.le_refl _) (by simp; omega))))
    (OwnFrom.and (OwnFrom.and (ownFrom_pure _ _) (Own.from (boxed_own (w.heap.size + 1 + 1) 4 (fun _ => .bool false)) _)) (ownFrom_below (Nat.le_refl _) (by simp; omega)))
    (fun pre W hI => HC.out W hI.2.2)
    ⟨⟨rfl, bR⟩, bT, hB3⟩
    (fun x => { tmps := #[.agg #[.int .i64 (room : Nat), .slice ao L.length cap], .agg #[.int .i64 (room2 : Nat), .slice bo L2.length cap2], .pointer (some ⟨w.heap.size, 0, none⟩), .pointer (some ⟨w.heap.size + 1, 0, none⟩), .pointer (some ⟨w.heap.size + 1 + 1, 0, none⟩), .int .i64 (x.1 : Nat), .int .u64 (x.2 : Nat), .agg #[.int .i64 (room : Nat), .slice ao L.length cap], .func (.func 28) #[.agg #[.int .i64 (room : Nat), .slice ao L.length cap]] #[], .int .i64 (x.1 : Nat), .int .u64 (x.2 : Nat), undef, undef, undef, undef, undef, undef], defers := [] })
    ?assign ?body ?done ?stop
  case assign =>
    intro l x W K hK
    simp only [encP]
    gi_wp2
    exact hK
  case body =>
    rintro l pre ⟨i, x⟩ W ⟨⟨hs, bR⟩, bT, hb⟩ hp
    obtain ⟨h1, h2, h3, h4⟩ := HX.out (i, x) (hp.subset (by simp))
    have hx : x < 18446744073709551616 := by
      simp only [Nat.sub_zero] at h3
      rw [h3]
      exact HW.out.1 _
    have hy := HW.out.2 i
    have E := subX_snoc pre (i, x) L2
    rw [hs, Bool.true_and] at E
    have q1 := u64_andNot_nat x (L2.getD i 0) hx hy
    have C := Lib.hid (show CallsIn (Fence.wide.inRound l) 8 Tryd.prog 46 #[.agg #[.int .i64 (room2 : Nat), .slice bo L2.length cap2], .int .i64 (i : Nat)] W _ from callsIn_wide.2 (word_any room2 i _ L2 W bo cap2 rfl (HC2.out W hb)))
    have hcs := bT.cells
    have hcr := bR.cell
    have hfr := bR.frozen
    clear h1 h2 h3 h4 hp hs hx hy
    simp only at E
    generalize L2.getD i 0 = y at *
    generalize x &&& (18446744073709551615 - y) = z at *
    by_cases hz : z = 0
    · rw [show decide (z = 0) = true by simpa using hz] at E
      have HE := Lib.hid E
      subst hz
      clear E
      gi_wp2_with (refine ⟨trivial, ?_⟩; gi_at_call 46; (with_reducible refine C.out.mono ?_); rintro e w' ⟨rfl, hw⟩; subst hw)
      have hk := (Below.refl W.heap.size W).alloc (Nat.le_refl _) (.cells #[.int .i64 (room2 : Nat), .slice bo L2.length cap2] 34)
      exact ⟨(KeepsOthers.alloc _ _).from _, ⟨HE.out, bR.alloc _⟩, bT.next hk, hb.alloc hb.size _⟩
    · rw [show decide (z = 0) = false by simpa using hz] at E
      have HE := Lib.hid E
      have d0 : ((z : Int) == 0) = false := by simp; omega
      have hlt := bR.lt
      clear E
      gi_wp2_with (refine ⟨trivial, ?_⟩; gi_at_call 46; (with_reducible refine C.out.mono ?_); rintro e w' ⟨rfl, hw⟩; subst hw)
      have hb2 := hb.setCell (p := ⟨w.heap.size + 1 + 1, 0, none⟩) (by simp; omega) (.bool false)
      exact ⟨((KeepsOthers.setCell _ _ _).trans (KeepsOthers.alloc _ _)).from _, ⟨HE.out, (bR.set _).alloc _⟩, hb2.alloc hb2.size _⟩
  case done =>
    rintro W ⟨⟨hs, bR⟩, bT, hb⟩ hd
    have hcell := bR.cell
    have hfr := bR.frozen
    gi_wp2
    have hK' := (KeepsOthers.setCell W ⟨w.heap.size + 1 + 1, 0, none⟩ (.bool true)).same _ _ hd rfl
    refine ⟨by simp, .inl ⟨_, _, rfl, run_takeDeferred hK', ?_⟩⟩
    have hc5 := cell_kept (World.cell?_setCell_same' W ⟨w.heap.size + 1 + 1, 0, none⟩ (.bool true) (by rw [hcell]; rfl)) (grownBy_putObj' _ _ (.deferred none)) (fun r e => by cases e; exact ⟨_, hK', rfl⟩)
    refine ⟨.bool true, ?_, by rw [hs], (hb.setCell (p := ⟨w.heap.size + 1 + 1, 0, none⟩) (by simp; omega) _).grown (grownBy_putObj' _ _ (.deferred none)) (hb.setCell (p := ⟨w.heap.size + 1 + 1, 0, none⟩) (by simp; omega) _).size (fun k e => by cases e; simp; omega)⟩
    simp only [World.size_alloc] at hc5
    simp [results, Tryd.f48, go_sem, hc5]
  case stop =>
    rintro pre W hp ⟨⟨hs, bR⟩, hb⟩ hd
    have hcell := bR.cell
    gi_wp2
    refine ⟨by simp, .inl ⟨_, _, rfl, run_takeDeferred hd, ?_⟩⟩
    have hc5 := cell_kept hcell (grownBy_putObj' _ _ (.deferred none)) (fun r e => by cases e; exact ⟨_, hd, rfl⟩)
    refine ⟨.bool false, ?_, by rw [subX_not hp hs], hb.grown (grownBy_putObj' _ _ (.deferred none)) hb.size (fun k e => by cases e; simp; omega)⟩
    simp only [World.size_alloc] at hc5
    simp [results, Tryd.f48, go_sem, hc5]

/-- are two sets the same -/
theorem same_sets (B room B2 room2 : Nat) (v v2 : Value) (L L2 : List Nat) (w : World) (h : SetAt w B room v L) (k : SetAt w B2 room2 v2 L2) :
    Calls Tryd.prog 44 #[setV room v, setV room2 v2] w fun e w' => e = .returned (.bool (subX (fromL 0 L) L2 && subX (fromL 0 L2) L)) ∧ Below w.heap.size w w' := by
  have c1 := Lib.hid (fun W (hW : Below w.heap.size w W) => within_any B room B2 room2 v v2 L L2 W (h.next hW) (k.next hW))
  have c2 := Lib.hid (fun W (hW : Below w.heap.size w W) => within_any B2 room2 B room v2 v L2 L W (k.next hW) (h.next hW))
  obtain ⟨ao, an, cap, rfl⟩ := h.val
  obtain ⟨bo, bn, cap2, rfl⟩ := k.val
  clear h k
  generalize subX (fromL 0 L) L2 = p at *
  generalize subX (fromL 0 L2) L = q at *
  unfold setV at *
  have hB1 := (Below.refl w.heap.size w).alloc (Nat.le_refl _) (.cells #[.int .i64 (room : Nat), .slice ao an cap] 34)
  have hB2 := hB1.alloc hB1.size (.cells #[.int .i64 (room2 : Nat), .slice bo bn cap2] 34)
  have b1 := BoxS.next (World.alloc_heap_new w (.cells #[.int .i64 (room : Nat), .slice ao an cap] 34)) ((Below.refl _ _).alloc (Nat.le_refl _) (.cells #[.int .i64 (room2 : Nat), .slice bo bn cap2] 34))
  have b2 := World.alloc_heap_new (w.alloc (.cells #[.int .i64 (room : Nat), .slice ao an cap] 34)) (.cells #[.int .i64 (room2 : Nat), .slice bo bn cap2] 34)
  simp only [World.size_alloc] at b2
  have HH := Lib.hid (And.intro hB2 (And.intro b1 (show BoxS _ (w.heap.size + 1) room2 (.slice bo bn cap2) from b2)))
  clear hB1 hB2 b1 b2
  cases p
  · go_enter Tryd.func44, Tryd.ntmps44
    go_wp2_with (go_at_call 48; (with_reducible refine (c1.out _ HH.out.1).mono ?_); rintro e w1 ⟨rfl, hb⟩)
    go_ret
    exact ⟨by simp, HH.out.1.trans (hb.mono HH.out.1.size)⟩
  · go_enter Tryd.func44, Tryd.ntmps44
    go_wp2_with (go_at_call 48; first
      | ((with_reducible refine (c1.out _ HH.out.1).mono ?_); rintro e w1 ⟨rfl, hb⟩; obtain ⟨x0, x1⟩ := (HH.out.2.1.next hb).cells; obtain ⟨y0, y1⟩ := (HH.out.2.2.next hb).cells; have HB := Lib.hid (HH.out.1.trans (hb.mono HH.out.1.size)); clear hb)
      | ((with_reducible refine (c2.out _ HB.out).mono ?_); rintro e w2 ⟨rfl, hb2⟩))
    go_ret
    exact ⟨by simp, HB.out.trans (hb2.mono HB.out.size)⟩

end Go.Proofs.YtemmaoapicaloaaDoor.Bt

/- The second law: two sets of any rooms. -/
import Derived.Test.YtcjpelmcofeknaaDoorBtSLaw
namespace Go.Proofs.YtcjpelmcofeknaaDoor.Bt
open Go Go.RowKit Go.Proofs.YtcjpelmcofeknaaDoor.Ut

/-- two rooms in a box -/
def Box16 (W : World) (b : Nat) (x y : Nat) : Prop := W.heap[b]? = some (.cells #[.int .u16 (x : Nat), .int .u16 (y : Nat)] 43 (0, 0))
theorem Box16.cells {W : World} {b x y : Nat} (h : Box16 W b x y) : W.cell? ⟨b, 0, none⟩ = some (.int .u16 (x : Nat)) ∧ W.cell? ⟨b, 1, none⟩ = some (.int .u16 (y : Nat)) := by simp [World.cell?, show W.heap[b]? = _ from h]
theorem Box16.lt {W : World} {b x y : Nat} (h : Box16 W b x y) : b < W.heap.size := (Array.getElem?_eq_some_iff.1 h).1
theorem Box16.kept {W W' : World} {row : Option Nat} {b x y : Nat} (h : Box16 W b x y) (hg : W.grownBy W' row) (hne : some b ≠ row) : Box16 W' b x y := (hg.block b h.lt hne).trans h
theorem Box16.next {W W' : World} {b x y : Nat} (h : Box16 W b x y) (hb : Below W.heap.size W W') : Box16 W' b x y := (hb.block b (Array.getElem?_eq_some_iff.1 h).1).trans h

set_option maxRecDepth 100000 in
set_option maxHeartbeats 8000000 in
theorem same_far (x y : Nat) (va vb : Value) (la lb : List Int) (w : World) (hT : Tab w) (ha : IntsAt w va la) (hb : IntsAt w vb lb) (hl : 60 < la.length ∨ 60 < lb.length) :
    Calls Tryd.prog 4 #[.agg #[.int .u16 (x : Nat), .int .u16 (y : Nat)], va, vb] w fun e w' => e = .returned (.bool true) ∧ Below w.heap.size w w' := by
  obtain ⟨ao, cap, rfl, hm, _⟩ := ha.shape
  obtain ⟨bo, cap2, rfl, hm2, _⟩ := hb.shape
  have hB1 := (Below.refl w.heap.size w).alloc (Nat.le_refl _) (.cells #[.int .u16 (x : Nat), .int .u16 (y : Nat)] 43)
  have A := Lib.hid (alive_any _ (hT.next hB1))
  have HB := Lib.hid hB1
  clear hT ha hb hB1
  by_cases h1 : 60 < la.length
  · have h1' : (60 : Int) < (la.length : Int) := by omega
    clear hl
    go_enter Tryd.func4, Tryd.ntmps4
    go_wp2_with (go_at_call 6; (with_reducible refine A.out.mono ?_); rintro e w' ⟨rfl, hb⟩)
    go_ret
    exact ⟨rfl, HB.out.trans (hb.mono HB.out.size)⟩
  · have h1' : ¬ (60 : Int) < (la.length : Int) := by omega
    have h2' : (60 : Int) < (lb.length : Int) := by omega
    clear hl
    go_enter Tryd.func4, Tryd.ntmps4
    go_wp2_with (go_at_call 6; (with_reducible refine A.out.mono ?_); rintro e w' ⟨rfl, hb⟩)
    go_ret
    exact ⟨rfl, HB.out.trans (hb.mono HB.out.size)⟩

/-- a part's end, where nothing leaves it -/
def OnNormal (R : Act → World → Prop) : Exit → Act → World → Prop
  | .normal, a, w => R a w
  | _, _, _ => False
theorem wp_monoR {P : Program} {c : Code} {Q' : Exit → Act → World → Prop} {a : Act} {w : World} (R : Act → Act → World → Prop) (h : c.wp P (OnNormal (R a)) a w) (hq : ∀ a' W, R a a' W → Q' .normal a' W) : c.wp P Q' a w :=
  wp_mono h (fun e a' W hR => by cases e <;> first | exact hq a' W hR | exact (hR : False).elim)
/-- what is made of the two rows -/
structure Two (w : World) (x y b7 b8 : Nat) (s1 s2 : Value) (L1 L2 : List Nat) (W : World) : Prop where
  below : Below w.heap.size w W
  b16 : Box16 W w.heap.size x y
  s7 : BoxS W b7 x s1
  s8 : BoxS W b8 y s2
  set1 : SetAt W w.heap.size x s1 L1
  set2 : SetAt W w.heap.size y s2 L2
theorem Two.next {w W W' : World} {x y b7 b8 : Nat} {s1 s2 : Value} {L1 L2 : List Nat} (h : Two w x y b7 b8 s1 s2 L1 L2 W) (hb : Below W.heap.size W W') : Two w x y b7 b8 s1 s2 L1 L2 W' :=
  ⟨h.below.trans (hb.mono h.below.size), h.b16.next hb, h.s7.next hb, h.s8.next hb, h.set1.next hb, h.set2.next hb⟩
/-- and the first one's numbers beside them -/
structure PQ (w : World) (x y b7 b8 : Nat) (s1 s2 : Value) (L1 L2 : List Nat) (p : Value) (W : World) : Prop where
  two : Two w x y b7 b8 s1 s2 L1 L2 W
  row : W.ownsRow w.heap.size 3 1 p (nums L1).length (iV (nums L1))
theorem PQ.next {w W W' : World} {x y b7 b8 : Nat} {s1 s2 p : Value} {L1 L2 : List Nat} (h : PQ w x y b7 b8 s1 s2 L1 L2 p W) (hb : Below W.heap.size W W') : PQ w x y b7 b8 s1 s2 L1 L2 p W' := ⟨h.two.next hb, row_next h.row hb⟩
theorem PQ.cells {w W : World} {x y b7 b8 : Nat} {s1 s2 p : Value} {L1 L2 : List Nat} (h : PQ w x y b7 b8 s1 s2 L1 L2 p W) : W.cell? ⟨w.heap.size, 0, none⟩ = some (.int .u16 (x : Nat)) ∧ W.cell? ⟨w.heap.size, 1, none⟩ = some (.int .u16 (y : Nat)) ∧ W.cell? ⟨b7, 0, none⟩ = some (.int .i64 (x : Nat)) ∧ W.cell? ⟨b7, 1, none⟩ = some s1 ∧ W.cell? ⟨b8, 0, none⟩ = some (.int .i64 (y : Nat)) ∧ W.cell? ⟨b8, 1, none⟩ = some s2 :=
  ⟨h.two.b16.cells.1, h.two.b16.cells.2, h.two.s7.cells.1, h.two.s7.cells.2, h.two.s8.cells.1, h.two.s8.cells.2⟩
/-- rows of other elements lie apart -/
theorem rows_apart2 {w : World} {B1 B2 s1 s2 n1 n2 : Nat} {e1 e2 : TypeId} {v1 v2 : Value} {x1 x2 : List Value} (h : w.ownsRow B1 e1 s1 v1 n1 x1) (k : w.ownsRow B2 e2 s2 v2 n2 x2) (hne : e1 ≠ e2) : v1.ownBlock = none ∨ v1.ownBlock ≠ v2.ownBlock := by
  rcases h.2 with ⟨rfl, _⟩ | ⟨g, cap, cur, rfl, _, hg, _⟩
  · exact .inl (by simp [Value.ownBlock])
  · refine .inr fun e => ?_
    rcases k.2 with ⟨rfl, _⟩ | ⟨g2, cap2, cur2, rfl, _, hg2, _⟩
    · simp [Value.ownBlock] at e
    · have : g = g2 := by simpa [Value.ownBlock] using e
      subst this
      rw [hg] at hg2
      simp only [Option.some.injEq, Obj.cells.injEq] at hg2
      exact hne hg2.2.1

/-- the first one, its numbers, and its copy -/
structure PZ (w : World) (x b7 bz : Nat) (s1 zv : Value) (L1 : List Nat) (p : Value) (Lz : List Nat) (W : World) : Prop where
  below : Below w.heap.size w W
  s7 : BoxS W b7 x s1
  sz : BoxS W bz x zv
  set1 : SetAt W w.heap.size x s1 L1
  setz : SetAt W w.heap.size x zv Lz
  row : W.ownsRow w.heap.size 3 1 p (nums L1).length (iV (nums L1))
  apart : s1.ownBlock = none ∨ s1.ownBlock ≠ zv.ownBlock
theorem PZ.next {w W W' : World} {x b7 bz : Nat} {s1 zv p : Value} {L1 Lz : List Nat} (h : PZ w x b7 bz s1 zv L1 p Lz W) (hb : Below W.heap.size W W') : PZ w x b7 bz s1 zv L1 p Lz W' :=
  ⟨h.below.trans (hb.mono h.below.size), h.s7.next hb, h.sz.next hb, h.set1.next hb, h.setz.next hb, row_next h.row hb, h.apart⟩
theorem PZ.turn {w W W' : World} {x b7 bz : Nat} {s1 zv p : Value} {L1 Lz Lz' : List Nat} (h : PZ w x b7 bz s1 zv L1 p Lz W) (hs : SetAt W' w.heap.size x zv Lz') (hg : W.grownBy W' zv.ownBlock) : PZ w x b7 bz s1 zv L1 p Lz' W' :=
  ⟨h.below.grown hg h.below.size (fun k e => (h.setz.row.lt k e).1), h.s7.kept hg (h.s7.not_row h.setz), h.sz.kept hg (h.sz.not_row h.setz), h.set1.kept hg h.apart, hs, h.row.kept hg (rows_apart2 h.row h.setz.row (by decide)), h.apart⟩
theorem PZ.cells {w W : World} {x b7 bz : Nat} {s1 zv p : Value} {L1 Lz : List Nat} (h : PZ w x b7 bz s1 zv L1 p Lz W) : W.cell? ⟨b7, 0, none⟩ = some (.int .i64 (x : Nat)) ∧ W.cell? ⟨b7, 1, none⟩ = some s1 ∧ W.cell? ⟨bz, 0, none⟩ = some (.int .i64 (x : Nat)) ∧ W.cell? ⟨bz, 1, none⟩ = some zv :=
  ⟨h.s7.cells.1, h.s7.cells.2, h.sz.cells.1, h.sz.cells.2⟩
set_option linter.unusedSimpArgs false in
set_option maxRecDepth 100000 in
set_option maxHeartbeats 8000000 in
theorem same_near (x y : Nat) (hx : x ≤ 65535) (hy : y ≤ 65535) (va vb : Value) (la lb : List Int) (w : World) (hT : Tab w) (ha : IntsAt w va la) (hb : IntsAt w vb lb) (hl : la.length ≤ 60) (hl2 : lb.length ≤ 60) :
    Calls Tryd.prog 4 #[.agg #[.int .u16 (x : Nat), .int .u16 (y : Nat)], va, vb] w fun e w' => e = .returned (.bool true) ∧ Below w.heap.size w w' := by
  obtain ⟨ao, cap, rfl, hm, hca⟩ := ha.shape
  obtain ⟨bo, cap2, rfl, hm2, hcb⟩ := hb.shape
  have HT := Lib.hid hT
  have HA := Lib.hid ha
  have HBB := Lib.hid hb
  have HCA := Lib.hid hca
  have HCB := Lib.hid hcb
  clear hT ha hb hca hcb
  have h1 : ¬ (60 : Int) < (la.length : Int) := by omega
  have h2 : ¬ (60 : Int) < (lb.length : Int) := by omega
  have b0 : Box16 (w.alloc (.cells #[.int .u16 (x : Nat), .int .u16 (y : Nat)] 43)) w.heap.size x y := World.alloc_heap_new w _
  have hB1 := (Below.refl w.heap.size w).alloc (Nat.le_refl _) (.cells #[.int .u16 (x : Nat), .int .u16 (y : Nat)] 43)
  go_enter Tryd.func4, Tryd.ntmps4
  have O1 := Lib.hid (fun W (hW : Below w.heap.size w W) => show Calls Tryd.prog 14 #[.int .i64 (x : Nat), .slice ao la.length cap] W (fun e W' => OfOut W x la e W') from by
    have := of_any (x : Int) _ la W (HA.out.next hW)
    rwa [roomF_nat (by omega)] at this)
  have O2 := Lib.hid (fun W (hW : Below w.heap.size w W) => show Calls Tryd.prog 14 #[.int .i64 (y : Nat), .slice bo lb.length cap2] W (fun e W' => OfOut W y lb e W') from by
    have := of_any (y : Int) _ lb W (HBB.out.next hW)
    rwa [roomF_nat (by omega)] at this)
  go_wp2
  -- from here on by a program
  have hwx : IntKind.i64.wrap (x : Int) = (x : Int) := by rw [IntKind.wrap_i64]; omega
  have hwy : IntKind.i64.wrap (y : Int) = (y : Int) := by rw [IntKind.wrap_i64]; omega
  refine wp_monoR (R := fun a a' W => ∃ (b7 b8 : Nat) (c1 : Option Addr) (d1 e1 : Nat) (c2 : Option Addr) (d2 e2 : Nat) (L1 L2 : List Nat), a' = (Act.put (Act.put (Act.put (Act.put (Act.put (Act.put (Act.put (Act.put (Act.put (Act.put (Act.put (Act.put a (some 26) (.pointer (some ⟨w.heap.size, 0, none⟩))) (some 27) (.int .u16 (x : Nat))) (some 28) (.int .i64 (x : Nat))) (some 29) (.slice ao la.length cap)) (some 31) (.pointer (some ⟨w.heap.size, 1, none⟩))) (some 32) (.int .u16 (y : Nat))) (some 33) (.int .i64 (y : Nat))) (some 34) (.slice bo lb.length cap2)) (some 30) (.agg #[.int .i64 (x : Nat), .slice c1 d1 e1])) (some 35) (.agg #[.int .i64 (y : Nat), .slice c2 d2 e2])) (some 7) (.pointer (some ⟨b7, 0, none⟩))) (some 8) (.pointer (some ⟨b8, 0, none⟩))) ∧ Two w x y b7 b8 (.slice c1 d1 e1) (.slice c2 d2 e2) L1 L2 W ∧ (∀ m, memL L1 m = ofB x la m) ∧ (∀ m, memL L2 m = ofB y lb m)) ?reg ?rest
  case reg =>
    obtain ⟨r0, r1⟩ := b0.cells
    refine wp_region_held_drew (S := (fun W => Below w.heap.size w W ∧ W.cell? ⟨w.heap.size, 0, none⟩ = some (.int .u16 (x : Nat)) ∧ W.cell? ⟨w.heap.size, 1, none⟩ = some (.int .u16 (y : Nat)) ∧ Box16 W w.heap.size x y)) (by kernel_rfl) ⟨hB1.drew, r0, r1, b0.next ((Below.refl _ _).drew)⟩ (fun hS_0 => ?_)
    generalize (w.alloc (.cells #[.int .u16 (x : Nat), .int .u16 (y : Nat)] 43)).drew = W0 at hS_0 ⊢
    clear hB1 b0 r0 r1
    refine wpAnyH_take (i := 0) (v := ?_) rfl (by kernel_rfl) (by kernel_rfl) (by kernel_rfl) (fun _ _ _ h => h) (Or.inl ⟨by rfl, ?_⟩) hS_0 ?_
    rotate_left
    · (intro w hSw; (try dsimp only at hSw); go_simp <;> with_reducible rfl)
    simp only [Act.put, List.getElem_toArray, List.getElem_cons_succ, List.getElem_cons_zero, List.setIfInBounds_toArray, List.set_cons_zero, List.set_cons_succ]
    refine wpAnyH_take (i := 1) (v := ?_) rfl (by kernel_rfl) (by kernel_rfl) (by kernel_rfl) (fun _ _ _ h => h) (Or.inl ⟨by rfl, ?_⟩) hS_0 ?_
    rotate_left
    · (intro w hSw; (try dsimp only at hSw); go_simp <;> with_reducible rfl)
    simp only [Act.put, List.getElem_toArray, List.getElem_cons_succ, List.getElem_cons_zero, List.setIfInBounds_toArray, List.set_cons_zero, List.set_cons_succ]
    refine wpAnyH_take (i := 2) (v := ?_) rfl (by kernel_rfl) (by kernel_rfl) (by kernel_rfl) (fun _ _ _ h => h) (Or.inl ⟨by rfl, ?_⟩) hS_0 ?_
    rotate_left
    · (intro w hSw; (try dsimp only at hSw); go_simp <;> with_reducible rfl)
    simp only [Act.put, List.getElem_toArray, List.getElem_cons_succ, List.getElem_cons_zero, List.setIfInBounds_toArray, List.set_cons_zero, List.set_cons_succ]
    refine wpAnyH_take (i := 3) (v := ?_) rfl (by kernel_rfl) (by kernel_rfl) (by kernel_rfl) (fun _ _ _ h => h) (Or.inl ⟨by rfl, ?_⟩) hS_0 ?_
    rotate_left
    · (intro w hSw; (try dsimp only at hSw); go_simp <;> with_reducible rfl)
    simp only [Act.put, List.getElem_toArray, List.getElem_cons_succ, List.getElem_cons_zero, List.setIfInBounds_toArray, List.set_cons_zero, List.set_cons_succ]
    refine wpAnyH_take (i := 5) (v := ?_) rfl (by kernel_rfl) (by kernel_rfl) (by kernel_rfl) (fun _ _ _ h => h) (Or.inl ⟨by rfl, ?_⟩) hS_0 ?_
    rotate_left
    · (intro w hSw; (try dsimp only at hSw); go_simp <;> with_reducible rfl)
    simp only [Act.put, List.getElem_toArray, List.getElem_cons_succ, List.getElem_cons_zero, List.setIfInBounds_toArray, List.set_cons_zero, List.set_cons_succ]
    refine wpAnyH_take (i := 6) (v := ?_) rfl (by kernel_rfl) (by kernel_rfl) (by kernel_rfl) (fun _ _ _ h => h) (Or.inl ⟨by rfl, ?_⟩) hS_0 ?_
    rotate_left
    · (intro w hSw; (try dsimp only at hSw); go_simp <;> with_reducible rfl)
    simp only [Act.put, List.getElem_toArray, List.getElem_cons_succ, List.getElem_cons_zero, List.setIfInBounds_toArray, List.set_cons_zero, List.set_cons_succ]
    refine wpAnyH_take (i := 7) (v := ?_) rfl (by kernel_rfl) (by kernel_rfl) (by kernel_rfl) (fun _ _ _ h => h) (Or.inl ⟨by rfl, ?_⟩) hS_0 ?_
    rotate_left
    · (intro w hSw; (try dsimp only at hSw); go_simp <;> with_reducible rfl)
    simp only [Act.put, List.getElem_toArray, List.getElem_cons_succ, List.getElem_cons_zero, List.setIfInBounds_toArray, List.set_cons_zero, List.set_cons_succ]
    refine wpAnyH_take (i := 8) (v := ?_) rfl (by kernel_rfl) (by kernel_rfl) (by kernel_rfl) (fun _ _ _ h => h) (Or.inl ⟨by rfl, ?_⟩) hS_0 ?_
    rotate_left
    · (intro w hSw; (try dsimp only at hSw); go_simp <;> with_reducible rfl)
    simp only [Act.put, List.getElem_toArray, List.getElem_cons_succ, List.getElem_cons_zero, List.setIfInBounds_toArray, List.set_cons_zero, List.set_cons_succ]
    refine wpAnyH_ready (rs := [4, 10, 11]) (by kernel_rfl) (by simp) ?_
    refine AllReadyH.cons rfl (fun K hK => ?_) ?_
    · simp only [List.getElem_toArray, List.getElem_cons_succ, List.getElem_cons_zero]
      go_simp
      go_at_call 14
      (with_reducible refine (O1.out _ hS_0.1).mono ?_)
      rintro e W1 ⟨v1, L1, rfl, hs1, hm1, up⟩
      obtain ⟨c1, d1, e1, rfl⟩ := hs1.val
      unfold setV
      have hS_1 : Below w.heap.size w W1 ∧ World.cell? W1 ⟨w.heap.size, 0, none⟩ = some (.int .u16 (x : Nat)) ∧ World.cell? W1 ⟨w.heap.size, 1, none⟩ = some (.int .u16 (y : Nat)) ∧ Box16 W1 w.heap.size x y := ⟨hS_0.1.trans (up.mono hS_0.1.size), cell_next hS_0.2.1 up, cell_next hS_0.2.2.1 up, hS_0.2.2.2.next up⟩
      have H1_1 := hs1.base hS_0.1.size
      have M1 := Lib.hid hm1
      refine hK.out _ _ hS_1 (fun _ => ?_)
      clear hK K up hs1 hm1 hS_0 
      try simp only [Act.put, List.getElem_toArray, List.getElem_cons_succ, List.getElem_cons_zero, List.setIfInBounds_toArray, List.set_cons_zero, List.set_cons_succ]
      refine wpAnyH_ready (rs := [9, 10, 11]) (by kernel_rfl) (by simp) ?_
      refine AllReadyH.cons rfl (fun K hK => ?_) ?_
      · simp only [List.getElem_toArray, List.getElem_cons_succ, List.getElem_cons_zero]
        go_simp
        go_at_call 14
        (with_reducible refine (O2.out _ hS_1.1).mono ?_)
        rintro e W2 ⟨v2, L2, rfl, hs2, hm2, up⟩
        obtain ⟨c2, d2, e2, rfl⟩ := hs2.val
        unfold setV
        have hS_2 : Below w.heap.size w W2 ∧ World.cell? W2 ⟨w.heap.size, 0, none⟩ = some (.int .u16 (x : Nat)) ∧ World.cell? W2 ⟨w.heap.size, 1, none⟩ = some (.int .u16 (y : Nat)) ∧ Box16 W2 w.heap.size x y := ⟨hS_1.1.trans (up.mono hS_1.1.size), cell_next hS_1.2.1 up, cell_next hS_1.2.2.1 up, hS_1.2.2.2.next up⟩
        have H2_2 := hs2.base hS_1.1.size
        have M2 := Lib.hid hm2
        have H1_2 := H1_1.next up
        refine hK.out _ _ hS_2 (fun _ => ?_)
        clear hK K up hs2 hm2 hS_1 H1_1
        try simp only [Act.put, List.getElem_toArray, List.getElem_cons_succ, List.getElem_cons_zero, List.setIfInBounds_toArray, List.set_cons_zero, List.set_cons_succ]
        refine wpAnyH_ready (rs := [10, 11]) (by kernel_rfl) (by simp) ?_
        refine AllReadyH.cons rfl (fun K hK => ?_) ?_
        · simp only [List.getElem_toArray, List.getElem_cons_succ, List.getElem_cons_zero]
          go_simp
          have up := (Below.refl W2.heap.size W2).alloc (Nat.le_refl _) (.cells #[.int .i64 0, .slice none 0 0] 26)
          have hS_3 : Below w.heap.size w (W2.alloc (.cells #[.int .i64 0, .slice none 0 0] 26)) ∧ World.cell? (W2.alloc (.cells #[.int .i64 0, .slice none 0 0] 26)) ⟨w.heap.size, 0, none⟩ = some (.int .u16 (x : Nat)) ∧ World.cell? (W2.alloc (.cells #[.int .i64 0, .slice none 0 0] 26)) ⟨w.heap.size, 1, none⟩ = some (.int .u16 (y : Nat)) ∧ Box16 (W2.alloc (.cells #[.int .i64 0, .slice none 0 0] 26)) w.heap.size x y := ⟨hS_2.1.alloc hS_2.1.size _, cell_next hS_2.2.1 up, cell_next hS_2.2.2.1 up, hS_2.2.2.2.next up⟩
          have n7 : w.heap.size < W2.heap.size := Box16.lt hS_2.2.2.2
          have H1_3 := H1_2.next up
          have H2_3 := H2_2.next up
          have Z7_3 : BoxS (W2.alloc (.cells #[.int .i64 0, .slice none 0 0] 26)) W2.heap.size 0 (.slice none 0 0) := World.alloc_heap_new W2 _
          refine hK.out _ _ hS_3 (fun _ => ?_)
          clear hK K up hS_2 H1_2 H2_2
          generalize W2.alloc (.cells #[.int .i64 0, .slice none 0 0] 26) = W3 at *
          generalize W2.heap.size = b7 at *
          try simp only [Act.put, List.getElem_toArray, List.getElem_cons_succ, List.getElem_cons_zero, List.setIfInBounds_toArray, List.set_cons_zero, List.set_cons_succ]
          refine wpAnyH_ready (rs := [11]) (by kernel_rfl) (by simp) ?_
          refine AllReadyH.cons rfl (fun K hK => ?_) ?_
          · simp only [List.getElem_toArray, List.getElem_cons_succ, List.getElem_cons_zero]
            go_simp
            have up := (Below.refl W3.heap.size W3).alloc (Nat.le_refl _) (.cells #[.int .i64 0, .slice none 0 0] 26)
            have hS_4 : Below w.heap.size w (W3.alloc (.cells #[.int .i64 0, .slice none 0 0] 26)) ∧ World.cell? (W3.alloc (.cells #[.int .i64 0, .slice none 0 0] 26)) ⟨w.heap.size, 0, none⟩ = some (.int .u16 (x : Nat)) ∧ World.cell? (W3.alloc (.cells #[.int .i64 0, .slice none 0 0] 26)) ⟨w.heap.size, 1, none⟩ = some (.int .u16 (y : Nat)) ∧ Box16 (W3.alloc (.cells #[.int .i64 0, .slice none 0 0] 26)) w.heap.size x y := ⟨hS_3.1.alloc hS_3.1.size _, cell_next hS_3.2.1 up, cell_next hS_3.2.2.1 up, hS_3.2.2.2.next up⟩
            have n8 : w.heap.size < W3.heap.size := Box16.lt hS_3.2.2.2
            have NE : W3.heap.size ≠ b7 := (Nat.ne_of_lt Z7_3.lt).symm
            have Z7_4 := Z7_3.next up
            have H1_4 := H1_3.next up
            have H2_4 := H2_3.next up
            have Z8_4 : BoxS (W3.alloc (.cells #[.int .i64 0, .slice none 0 0] 26)) W3.heap.size 0 (.slice none 0 0) := World.alloc_heap_new W3 _
            refine hK.out _ _ hS_4 (fun _ => ?_)
            clear hK K up hS_3 Z7_3 H1_3 H2_3
            generalize W3.alloc (.cells #[.int .i64 0, .slice none 0 0] 26) = W4 at *
            generalize W3.heap.size = b8 at *
            try simp only [Act.put, List.getElem_toArray, List.getElem_cons_succ, List.getElem_cons_zero, List.setIfInBounds_toArray, List.set_cons_zero, List.set_cons_succ]
            refine wpAnyH_ready (rs := [12]) (by kernel_rfl) (by simp) ?_
            refine AllReadyH.cons rfl (fun K hK => ?_) AllReadyH.nil
            simp only [List.getElem_toArray, List.getElem_cons_succ, List.getElem_cons_zero]
            obtain ⟨q0, q1⟩ := Z7_4.cells
            have f0 : W4.frozen? ⟨b7, 0, none⟩ = false := by simp [World.frozen?, show W4.heap[b7]? = _ from Z7_4]
            have f1 : W4.frozen? ⟨b7, 1, none⟩ = false := by simp [World.frozen?, show W4.heap[b7]? = _ from Z7_4]
            go_simp
            obtain ⟨m1, m2⟩ := two_stores (x := .int .i64 (x : Nat)) (y := .slice c1 d1 e1) Z7_4
            have Y7_5 : BoxS _ b7 x (.slice c1 d1 e1) := m1
            have Z8_5 := Z8_4.kept m2 (fun e => NE (Option.some.inj e))
            have H1_5 := H1_4.kept m2 (.inr (fun e => Z7_4.not_row H1_4 e.symm))
            have H2_5 := H2_4.kept m2 (.inr (fun e => Z7_4.not_row H2_4 e.symm))
            have X_5 := hS_4.2.2.2.kept m2 (fun e => Nat.ne_of_lt n7 (Option.some.inj e))
            have hS_5 : Below w.heap.size w _ ∧ World.cell? _ ⟨w.heap.size, 0, none⟩ = some (.int .u16 (x : Nat)) ∧ World.cell? _ ⟨w.heap.size, 1, none⟩ = some (.int .u16 (y : Nat)) ∧ Box16 _ w.heap.size x y := ⟨hS_4.1.grown m2 hS_4.1.size (fun j e => by cases e; exact Nat.le_of_lt n7), X_5.cells.1, X_5.cells.2, X_5⟩
            refine hK.out _ _ hS_5 (fun _ => ?_)
            clear hK K q0 q1 f0 f1 m1 m2 hS_4 X_5 H1_4 H2_4 Z8_4 Z7_4
            generalize (W4.setCell ⟨b7, 0, none⟩ _).setCell ⟨b7, 1, none⟩ _ = W5 at *
            try simp only [Act.put, List.getElem_toArray, List.getElem_cons_succ, List.getElem_cons_zero, List.setIfInBounds_toArray, List.set_cons_zero, List.set_cons_succ]
            refine wpAnyH_ready (rs := [13]) (by kernel_rfl) (by simp) ?_
            refine AllReadyH.cons rfl (fun K hK => ?_) AllReadyH.nil
            simp only [List.getElem_toArray, List.getElem_cons_succ, List.getElem_cons_zero]
            obtain ⟨q0, q1⟩ := Z8_5.cells
            have f0 : W5.frozen? ⟨b8, 0, none⟩ = false := by simp [World.frozen?, show W5.heap[b8]? = _ from Z8_5]
            have f1 : W5.frozen? ⟨b8, 1, none⟩ = false := by simp [World.frozen?, show W5.heap[b8]? = _ from Z8_5]
            go_simp
            obtain ⟨m1, m2⟩ := two_stores (x := .int .i64 (y : Nat)) (y := .slice c2 d2 e2) Z8_5
            have Y8_6 : BoxS _ b8 y (.slice c2 d2 e2) := m1
            have Y7_6 := Y7_5.kept m2 (fun e => NE (Option.some.inj e).symm)
            have H1_6 := H1_5.kept m2 (.inr (fun e => Z8_5.not_row H1_5 e.symm))
            have H2_6 := H2_5.kept m2 (.inr (fun e => Z8_5.not_row H2_5 e.symm))
            have X_6 := hS_5.2.2.2.kept m2 (fun e => Nat.ne_of_lt n8 (Option.some.inj e))
            have hS_6 : Below w.heap.size w _ ∧ World.cell? _ ⟨w.heap.size, 0, none⟩ = some (.int .u16 (x : Nat)) ∧ World.cell? _ ⟨w.heap.size, 1, none⟩ = some (.int .u16 (y : Nat)) ∧ Box16 _ w.heap.size x y := ⟨hS_5.1.grown m2 hS_5.1.size (fun j e => by cases e; exact Nat.le_of_lt n8), X_6.cells.1, X_6.cells.2, X_6⟩
            refine hK.out _ _ hS_6 (fun _ => ?_)
            clear hK K q0 q1 f0 f1 m1 m2 hS_5 X_6 H1_5 H2_5 Z8_5 Y7_5
            generalize (W5.setCell ⟨b8, 0, none⟩ _).setCell ⟨b8, 1, none⟩ _ = W6 at *
            try simp only [Act.put, List.getElem_toArray, List.getElem_cons_succ, List.getElem_cons_zero, List.setIfInBounds_toArray, List.set_cons_zero, List.set_cons_succ]
            refine wpAnyH_done (by kernel_rfl) ?_ _
            exact ⟨b7, b8, c1, d1, e1, c2, d2, e2, L1, L2, rfl, ⟨hS_6.1, hS_6.2.2.2, Y7_6, Y8_6, H1_6, H2_6⟩, M1.out, M2.out⟩
          exact AllReadyH.nil
        refine AllReadyH.cons rfl (fun K hK => ?_) ?_
        · simp only [List.getElem_toArray, List.getElem_cons_succ, List.getElem_cons_zero]
          go_simp
          have up := (Below.refl W2.heap.size W2).alloc (Nat.le_refl _) (.cells #[.int .i64 0, .slice none 0 0] 26)
          have hS_3 : Below w.heap.size w (W2.alloc (.cells #[.int .i64 0, .slice none 0 0] 26)) ∧ World.cell? (W2.alloc (.cells #[.int .i64 0, .slice none 0 0] 26)) ⟨w.heap.size, 0, none⟩ = some (.int .u16 (x : Nat)) ∧ World.cell? (W2.alloc (.cells #[.int .i64 0, .slice none 0 0] 26)) ⟨w.heap.size, 1, none⟩ = some (.int .u16 (y : Nat)) ∧ Box16 (W2.alloc (.cells #[.int .i64 0, .slice none 0 0] 26)) w.heap.size x y := ⟨hS_2.1.alloc hS_2.1.size _, cell_next hS_2.2.1 up, cell_next hS_2.2.2.1 up, hS_2.2.2.2.next up⟩
          have n8 : w.heap.size < W2.heap.size := Box16.lt hS_2.2.2.2
          have H1_3 := H1_2.next up
          have H2_3 := H2_2.next up
          have Z8_3 : BoxS (W2.alloc (.cells #[.int .i64 0, .slice none 0 0] 26)) W2.heap.size 0 (.slice none 0 0) := World.alloc_heap_new W2 _
          refine hK.out _ _ hS_3 (fun _ => ?_)
          clear hK K up hS_2 H1_2 H2_2
          generalize W2.alloc (.cells #[.int .i64 0, .slice none 0 0] 26) = W3 at *
          generalize W2.heap.size = b8 at *
          try simp only [Act.put, List.getElem_toArray, List.getElem_cons_succ, List.getElem_cons_zero, List.setIfInBounds_toArray, List.set_cons_zero, List.set_cons_succ]
          refine wpAnyH_ready (rs := [10]) (by kernel_rfl) (by simp) ?_
          refine AllReadyH.cons rfl (fun K hK => ?_) ?_
          · simp only [List.getElem_toArray, List.getElem_cons_succ, List.getElem_cons_zero]
            go_simp
            have up := (Below.refl W3.heap.size W3).alloc (Nat.le_refl _) (.cells #[.int .i64 0, .slice none 0 0] 26)
            have hS_4 : Below w.heap.size w (W3.alloc (.cells #[.int .i64 0, .slice none 0 0] 26)) ∧ World.cell? (W3.alloc (.cells #[.int .i64 0, .slice none 0 0] 26)) ⟨w.heap.size, 0, none⟩ = some (.int .u16 (x : Nat)) ∧ World.cell? (W3.alloc (.cells #[.int .i64 0, .slice none 0 0] 26)) ⟨w.heap.size, 1, none⟩ = some (.int .u16 (y : Nat)) ∧ Box16 (W3.alloc (.cells #[.int .i64 0, .slice none 0 0] 26)) w.heap.size x y := ⟨hS_3.1.alloc hS_3.1.size _, cell_next hS_3.2.1 up, cell_next hS_3.2.2.1 up, hS_3.2.2.2.next up⟩
            have n7 : w.heap.size < W3.heap.size := Box16.lt hS_3.2.2.2
            have NE : b8 ≠ W3.heap.size := Nat.ne_of_lt Z8_3.lt
            have Z8_4 := Z8_3.next up
            have H1_4 := H1_3.next up
            have H2_4 := H2_3.next up
            have Z7_4 : BoxS (W3.alloc (.cells #[.int .i64 0, .slice none 0 0] 26)) W3.heap.size 0 (.slice none 0 0) := World.alloc_heap_new W3 _
            refine hK.out _ _ hS_4 (fun _ => ?_)
            clear hK K up hS_3 Z8_3 H1_3 H2_3
            generalize W3.alloc (.cells #[.int .i64 0, .slice none 0 0] 26) = W4 at *
            generalize W3.heap.size = b7 at *
            try simp only [Act.put, List.getElem_toArray, List.getElem_cons_succ, List.getElem_cons_zero, List.setIfInBounds_toArray, List.set_cons_zero, List.set_cons_succ]
            refine wpAnyH_ready (rs := [12]) (by kernel_rfl) (by simp) ?_
            refine AllReadyH.cons rfl (fun K hK => ?_) AllReadyH.nil
            simp only [List.getElem_toArray, List.getElem_cons_succ, List.getElem_cons_zero]
            obtain ⟨q0, q1⟩ := Z7_4.cells
            have f0 : W4.frozen? ⟨b7, 0, none⟩ = false := by simp [World.frozen?, show W4.heap[b7]? = _ from Z7_4]
            have f1 : W4.frozen? ⟨b7, 1, none⟩ = false := by simp [World.frozen?, show W4.heap[b7]? = _ from Z7_4]
            go_simp
            obtain ⟨m1, m2⟩ := two_stores (x := .int .i64 (x : Nat)) (y := .slice c1 d1 e1) Z7_4
            have Y7_5 : BoxS _ b7 x (.slice c1 d1 e1) := m1
            have Z8_5 := Z8_4.kept m2 (fun e => NE (Option.some.inj e))
            have H1_5 := H1_4.kept m2 (.inr (fun e => Z7_4.not_row H1_4 e.symm))
            have H2_5 := H2_4.kept m2 (.inr (fun e => Z7_4.not_row H2_4 e.symm))
            have X_5 := hS_4.2.2.2.kept m2 (fun e => Nat.ne_of_lt n7 (Option.some.inj e))
            have hS_5 : Below w.heap.size w _ ∧ World.cell? _ ⟨w.heap.size, 0, none⟩ = some (.int .u16 (x : Nat)) ∧ World.cell? _ ⟨w.heap.size, 1, none⟩ = some (.int .u16 (y : Nat)) ∧ Box16 _ w.heap.size x y := ⟨hS_4.1.grown m2 hS_4.1.size (fun j e => by cases e; exact Nat.le_of_lt n7), X_5.cells.1, X_5.cells.2, X_5⟩
            refine hK.out _ _ hS_5 (fun _ => ?_)
            clear hK K q0 q1 f0 f1 m1 m2 hS_4 X_5 H1_4 H2_4 Z8_4 Z7_4
            generalize (W4.setCell ⟨b7, 0, none⟩ _).setCell ⟨b7, 1, none⟩ _ = W5 at *
            try simp only [Act.put, List.getElem_toArray, List.getElem_cons_succ, List.getElem_cons_zero, List.setIfInBounds_toArray, List.set_cons_zero, List.set_cons_succ]
            refine wpAnyH_ready (rs := [13]) (by kernel_rfl) (by simp) ?_
            refine AllReadyH.cons rfl (fun K hK => ?_) AllReadyH.nil
            simp only [List.getElem_toArray, List.getElem_cons_succ, List.getElem_cons_zero]
            obtain ⟨q0, q1⟩ := Z8_5.cells
            have f0 : W5.frozen? ⟨b8, 0, none⟩ = false := by simp [World.frozen?, show W5.heap[b8]? = _ from Z8_5]
            have f1 : W5.frozen? ⟨b8, 1, none⟩ = false := by simp [World.frozen?, show W5.heap[b8]? = _ from Z8_5]
            go_simp
            obtain ⟨m1, m2⟩ := two_stores (x := .int .i64 (y : Nat)) (y := .slice c2 d2 e2) Z8_5
            have Y8_6 : BoxS _ b8 y (.slice c2 d2 e2) := m1
            have Y7_6 := Y7_5.kept m2 (fun e => NE (Option.some.inj e).symm)
            have H1_6 := H1_5.kept m2 (.inr (fun e => Z8_5.not_row H1_5 e.symm))
            have H2_6 := H2_5.kept m2 (.inr (fun e => Z8_5.not_row H2_5 e.symm))
            have X_6 := hS_5.2.2.2.kept m2 (fun e => Nat.ne_of_lt n8 (Option.some.inj e))
            have hS_6 : Below w.heap.size w _ ∧ World.cell? _ ⟨w.heap.size, 0, none⟩ = some (.int .u16 (x : Nat)) ∧ World.cell? _ ⟨w.heap.size, 1, none⟩ = some (.int .u16 (y : Nat)) ∧ Box16 _ w.heap.size x y := ⟨hS_5.1.grown m2 hS_5.1.size (fun j e => by cases e; exact Nat.le_of_lt n8), X_6.cells.1, X_6.cells.2, X_6⟩
            refine hK.out _ _ hS_6 (fun _ => ?_)
            clear hK K q0 q1 f0 f1 m1 m2 hS_5 X_6 H1_5 H2_5 Z8_5 Y7_5
            generalize (W5.setCell ⟨b8, 0, none⟩ _).setCell ⟨b8, 1, none⟩ _ = W6 at *
            try simp only [Act.put, List.getElem_toArray, List.getElem_cons_succ, List.getElem_cons_zero, List.setIfInBounds_toArray, List.set_cons_zero, List.set_cons_succ]
            refine wpAnyH_done (by kernel_rfl) ?_ _
            exact ⟨b7, b8, c1, d1, e1, c2, d2, e2, L1, L2, rfl, ⟨hS_6.1, hS_6.2.2.2, Y7_6, Y8_6, H1_6, H2_6⟩, M1.out, M2.out⟩
          exact AllReadyH.nil
        exact AllReadyH.nil
      refine AllReadyH.cons rfl (fun K hK => ?_) ?_
      · simp only [List.getElem_toArray, List.getElem_cons_succ, List.getElem_cons_zero]
        go_simp
        have up := (Below.refl W1.heap.size W1).alloc (Nat.le_refl _) (.cells #[.int .i64 0, .slice none 0 0] 26)
        have hS_2 : Below w.heap.size w (W1.alloc (.cells #[.int .i64 0, .slice none 0 0] 26)) ∧ World.cell? (W1.alloc (.cells #[.int .i64 0, .slice none 0 0] 26)) ⟨w.heap.size, 0, none⟩ = some (.int .u16 (x : Nat)) ∧ World.cell? (W1.alloc (.cells #[.int .i64 0, .slice none 0 0] 26)) ⟨w.heap.size, 1, none⟩ = some (.int .u16 (y : Nat)) ∧ Box16 (W1.alloc (.cells #[.int .i64 0, .slice none 0 0] 26)) w.heap.size x y := ⟨hS_1.1.alloc hS_1.1.size _, cell_next hS_1.2.1 up, cell_next hS_1.2.2.1 up, hS_1.2.2.2.next up⟩
        have n7 : w.heap.size < W1.heap.size := Box16.lt hS_1.2.2.2
        have H1_2 := H1_1.next up
        have Z7_2 : BoxS (W1.alloc (.cells #[.int .i64 0, .slice none 0 0] 26)) W1.heap.size 0 (.slice none 0 0) := World.alloc_heap_new W1 _
        refine hK.out _ _ hS_2 (fun _ => ?_)
        clear hK K up hS_1 H1_1
        generalize W1.alloc (.cells #[.int .i64 0, .slice none 0 0] 26) = W2 at *
        generalize W1.heap.size = b7 at *
        try simp only [Act.put, List.getElem_toArray, List.getElem_cons_succ, List.getElem_cons_zero, List.setIfInBounds_toArray, List.set_cons_zero, List.set_cons_succ]
        refine wpAnyH_ready (rs := [9, 11]) (by kernel_rfl) (by simp) ?_
        refine AllReadyH.cons rfl (fun K hK => ?_) ?_
        · simp only [List.getElem_toArray, List.getElem_cons_succ, List.getElem_cons_zero]
          go_simp
          go_at_call 14
          (with_reducible refine (O2.out _ hS_2.1).mono ?_)
          rintro e W3 ⟨v2, L2, rfl, hs2, hm2, up⟩
          obtain ⟨c2, d2, e2, rfl⟩ := hs2.val
          unfold setV
          have hS_3 : Below w.heap.size w W3 ∧ World.cell? W3 ⟨w.heap.size, 0, none⟩ = some (.int .u16 (x : Nat)) ∧ World.cell? W3 ⟨w.heap.size, 1, none⟩ = some (.int .u16 (y : Nat)) ∧ Box16 W3 w.heap.size x y := ⟨hS_2.1.trans (up.mono hS_2.1.size), cell_next hS_2.2.1 up, cell_next hS_2.2.2.1 up, hS_2.2.2.2.next up⟩
          have H2_3 := hs2.base hS_2.1.size
          have M2 := Lib.hid hm2
          have Z7_3 := Z7_2.next up
          have H1_3 := H1_2.next up
          refine hK.out _ _ hS_3 (fun _ => ?_)
          clear hK K up hs2 hm2 hS_2 Z7_2 H1_2
          try simp only [Act.put, List.getElem_toArray, List.getElem_cons_succ, List.getElem_cons_zero, List.setIfInBounds_toArray, List.set_cons_zero, List.set_cons_succ]
          refine wpAnyH_ready (rs := [11]) (by kernel_rfl) (by simp) ?_
          refine AllReadyH.cons rfl (fun K hK => ?_) ?_
          · simp only [List.getElem_toArray, List.getElem_cons_succ, List.getElem_cons_zero]
            go_simp
            have up := (Below.refl W3.heap.size W3).alloc (Nat.le_refl _) (.cells #[.int .i64 0, .slice none 0 0] 26)
            have hS_4 : Below w.heap.size w (W3.alloc (.cells #[.int .i64 0, .slice none 0 0] 26)) ∧ World.cell? (W3.alloc (.cells #[.int .i64 0, .slice none 0 0] 26)) ⟨w.heap.size, 0, none⟩ = some (.int .u16 (x : Nat)) ∧ World.cell? (W3.alloc (.cells #[.int .i64 0, .slice none 0 0] 26)) ⟨w.heap.size, 1, none⟩ = some (.int .u16 (y : Nat)) ∧ Box16 (W3.alloc (.cells #[.int .i64 0, .slice none 0 0] 26)) w.heap.size x y := ⟨hS_3.1.alloc hS_3.1.size _, cell_next hS_3.2.1 up, cell_next hS_3.2.2.1 up, hS_3.2.2.2.next up⟩
            have n8 : w.heap.size < W3.heap.size := Box16.lt hS_3.2.2.2
            have NE : W3.heap.size ≠ b7 := (Nat.ne_of_lt Z7_3.lt).symm
            have Z7_4 := Z7_3.next up
            have H1_4 := H1_3.next up
            have H2_4 := H2_3.next up
            have Z8_4 : BoxS (W3.alloc (.cells #[.int .i64 0, .slice none 0 0] 26)) W3.heap.size 0 (.slice none 0 0) := World.alloc_heap_new W3 _
            refine hK.out _ _ hS_4 (fun _ => ?_)
            clear hK K up hS_3 Z7_3 H1_3 H2_3
            generalize W3.alloc (.cells #[.int .i64 0, .slice none 0 0] 26) = W4 at *
            generalize W3.heap.size = b8 at *
            try simp only [Act.put, List.getElem_toArray, List.getElem_cons_succ, List.getElem_cons_zero, List.setIfInBounds_toArray, List.set_cons_zero, List.set_cons_succ]
            refine wpAnyH_ready (rs := [12]) (by kernel_rfl) (by simp) ?_
            refine AllReadyH.cons rfl (fun K hK => ?_) AllReadyH.nil
            simp only [List.getElem_toArray, List.getElem_cons_succ, List.getElem_cons_zero]
            obtain ⟨q0, q1⟩ := Z7_4.cells
            have f0 : W4.frozen? ⟨b7, 0, none⟩ = false := by simp [World.frozen?, show W4.heap[b7]? = _ from Z7_4]
            have f1 : W4.frozen? ⟨b7, 1, none⟩ = false := by simp [World.frozen?, show W4.heap[b7]? = _ from Z7_4]
            go_simp
            obtain ⟨m1, m2⟩ := two_stores (x := .int .i64 (x : Nat)) (y := .slice c1 d1 e1) Z7_4
            have Y7_5 : BoxS _ b7 x (.slice c1 d1 e1) := m1
            have Z8_5 := Z8_4.kept m2 (fun e => NE (Option.some.inj e))
            have H1_5 := H1_4.kept m2 (.inr (fun e => Z7_4.not_row H1_4 e.symm))
            have H2_5 := H2_4.kept m2 (.inr (fun e => Z7_4.not_row H2_4 e.symm))
            have X_5 := hS_4.2.2.2.kept m2 (fun e => Nat.ne_of_lt n7 (Option.some.inj e))
            have hS_5 : Below w.heap.size w _ ∧ World.cell? _ ⟨w.heap.size, 0, none⟩ = some (.int .u16 (x : Nat)) ∧ World.cell? _ ⟨w.heap.size, 1, none⟩ = some (.int .u16 (y : Nat)) ∧ Box16 _ w.heap.size x y := ⟨hS_4.1.grown m2 hS_4.1.size (fun j e => by cases e; exact Nat.le_of_lt n7), X_5.cells.1, X_5.cells.2, X_5⟩
            refine hK.out _ _ hS_5 (fun _ => ?_)
            clear hK K q0 q1 f0 f1 m1 m2 hS_4 X_5 H1_4 H2_4 Z8_4 Z7_4
            generalize (W4.setCell ⟨b7, 0, none⟩ _).setCell ⟨b7, 1, none⟩ _ = W5 at *
            try simp only [Act.put, List.getElem_toArray, List.getElem_cons_succ, List.getElem_cons_zero, List.setIfInBounds_toArray, List.set_cons_zero, List.set_cons_succ]
            refine wpAnyH_ready (rs := [13]) (by kernel_rfl) (by simp) ?_
            refine AllReadyH.cons rfl (fun K hK => ?_) AllReadyH.nil
            simp only [List.getElem_toArray, List.getElem_cons_succ, List.getElem_cons_zero]
            obtain ⟨q0, q1⟩ := Z8_5.cells
            have f0 : W5.frozen? ⟨b8, 0, none⟩ = false := by simp [World.frozen?, show W5.heap[b8]? = _ from Z8_5]
            have f1 : W5.frozen? ⟨b8, 1, none⟩ = false := by simp [World.frozen?, show W5.heap[b8]? = _ from Z8_5]
            go_simp
            obtain ⟨m1, m2⟩ := two_stores (x := .int .i64 (y : Nat)) (y := .slice c2 d2 e2) Z8_5
            have Y8_6 : BoxS _ b8 y (.slice c2 d2 e2) := m1
            have Y7_6 := Y7_5.kept m2 (fun e => NE (Option.some.inj e).symm)
            have H1_6 := H1_5.kept m2 (.inr (fun e => Z8_5.not_row H1_5 e.symm))
            have H2_6 := H2_5.kept m2 (.inr (fun e => Z8_5.not_row H2_5 e.symm))
            have X_6 := hS_5.2.2.2.kept m2 (fun e => Nat.ne_of_lt n8 (Option.some.inj e))
            have hS_6 : Below w.heap.size w _ ∧ World.cell? _ ⟨w.heap.size, 0, none⟩ = some (.int .u16 (x : Nat)) ∧ World.cell? _ ⟨w.heap.size, 1, none⟩ = some (.int .u16 (y : Nat)) ∧ Box16 _ w.heap.size x y := ⟨hS_5.1.grown m2 hS_5.1.size (fun j e => by cases e; exact Nat.le_of_lt n8), X_6.cells.1, X_6.cells.2, X_6⟩
            refine hK.out _ _ hS_6 (fun _ => ?_)
            clear hK K q0 q1 f0 f1 m1 m2 hS_5 X_6 H1_5 H2_5 Z8_5 Y7_5
            generalize (W5.setCell ⟨b8, 0, none⟩ _).setCell ⟨b8, 1, none⟩ _ = W6 at *
            try simp only [Act.put, List.getElem_toArray, List.getElem_cons_succ, List.getElem_cons_zero, List.setIfInBounds_toArray, List.set_cons_zero, List.set_cons_succ]
            refine wpAnyH_done (by kernel_rfl) ?_ _
            exact ⟨b7, b8, c1, d1, e1, c2, d2, e2, L1, L2, rfl, ⟨hS_6.1, hS_6.2.2.2, Y7_6, Y8_6, H1_6, H2_6⟩, M1.out, M2.out⟩
          exact AllReadyH.nil
        refine AllReadyH.cons rfl (fun K hK => ?_) ?_
        · simp only [List.getElem_toArray, List.getElem_cons_succ, List.getElem_cons_zero]
          go_simp
          have up := (Below.refl W2.heap.size W2).alloc (Nat.le_refl _) (.cells #[.int .i64 0, .slice none 0 0] 26)
          have hS_3 : Below w.heap.size w (W2.alloc (.cells #[.int .i64 0, .slice none 0 0] 26)) ∧ World.cell? (W2.alloc (.cells #[.int .i64 0, .slice none 0 0] 26)) ⟨w.heap.size, 0, none⟩ = some (.int .u16 (x : Nat)) ∧ World.cell? (W2.alloc (.cells #[.int .i64 0, .slice none 0 0] 26)) ⟨w.heap.size, 1, none⟩ = some (.int .u16 (y : Nat)) ∧ Box16 (W2.alloc (.cells #[.int .i64 0, .slice none 0 0] 26)) w.heap.size x y := ⟨hS_2.1.alloc hS_2.1.size _, cell_next hS_2.2.1 up, cell_next hS_2.2.2.1 up, hS_2.2.2.2.next up⟩
          have n8 : w.heap.size < W2.heap.size := Box16.lt hS_2.2.2.2
          have NE : W2.heap.size ≠ b7 := (Nat.ne_of_lt Z7_2.lt).symm
          have Z7_3 := Z7_2.next up
          have H1_3 := H1_2.next up
          have Z8_3 : BoxS (W2.alloc (.cells #[.int .i64 0, .slice none 0 0] 26)) W2.heap.size 0 (.slice none 0 0) := World.alloc_heap_new W2 _
          refine hK.out _ _ hS_3 (fun _ => ?_)
          clear hK K up hS_2 Z7_2 H1_2
          generalize W2.alloc (.cells #[.int .i64 0, .slice none 0 0] 26) = W3 at *
          generalize W2.heap.size = b8 at *
          try simp only [Act.put, List.getElem_toArray, List.getElem_cons_succ, List.getElem_cons_zero, List.setIfInBounds_toArray, List.set_cons_zero, List.set_cons_succ]
          refine wpAnyH_ready (rs := [9]) (by kernel_rfl) (by simp) ?_
          refine AllReadyH.cons rfl (fun K hK => ?_) ?_
          · simp only [List.getElem_toArray, List.getElem_cons_succ, List.getElem_cons_zero]
            go_simp
            go_at_call 14
            (with_reducible refine (O2.out _ hS_3.1).mono ?_)
            rintro e W4 ⟨v2, L2, rfl, hs2, hm2, up⟩
            obtain ⟨c2, d2, e2, rfl⟩ := hs2.val
            unfold setV
            have hS_4 : Below w.heap.size w W4 ∧ World.cell? W4 ⟨w.heap.size, 0, none⟩ = some (.int .u16 (x : Nat)) ∧ World.cell? W4 ⟨w.heap.size, 1, none⟩ = some (.int .u16 (y : Nat)) ∧ Box16 W4 w.heap.size x y := ⟨hS_3.1.trans (up.mono hS_3.1.size), cell_next hS_3.2.1 up, cell_next hS_3.2.2.1 up, hS_3.2.2.2.next up⟩
            have H2_4 := hs2.base hS_3.1.size
            have M2 := Lib.hid hm2
            have Z7_4 := Z7_3.next up
            have Z8_4 := Z8_3.next up
            have H1_4 := H1_3.next up
            refine hK.out _ _ hS_4 (fun _ => ?_)
            clear hK K up hs2 hm2 hS_3 Z7_3 Z8_3 H1_3
            try simp only [Act.put, List.getElem_toArray, List.getElem_cons_succ, List.getElem_cons_zero, List.setIfInBounds_toArray, List.set_cons_zero, List.set_cons_succ]
            refine wpAnyH_ready (rs := [12]) (by kernel_rfl) (by simp) ?_
            refine AllReadyH.cons rfl (fun K hK => ?_) AllReadyH.nil
            simp only [List.getElem_toArray, List.getElem_cons_succ, List.getElem_cons_zero]
            obtain ⟨q0, q1⟩ := Z7_4.cells
            have f0 : W4.frozen? ⟨b7, 0, none⟩ = false := by simp [World.frozen?, show W4.heap[b7]? = _ from Z7_4]
            have f1 : W4.frozen? ⟨b7, 1, none⟩ = false := by simp [World.frozen?, show W4.heap[b7]? = _ from Z7_4]
            go_simp
            obtain ⟨m1, m2⟩ := two_stores (x := .int .i64 (x : Nat)) (y := .slice c1 d1 e1) Z7_4
            have Y7_5 : BoxS _ b7 x (.slice c1 d1 e1) := m1
            have Z8_5 := Z8_4.kept m2 (fun e => NE (Option.some.inj e))
            have H1_5 := H1_4.kept m2 (.inr (fun e => Z7_4.not_row H1_4 e.symm))
            have H2_5 := H2_4.kept m2 (.inr (fun e => Z7_4.not_row H2_4 e.symm))
            have X_5 := hS_4.2.2.2.kept m2 (fun e => Nat.ne_of_lt n7 (Option.some.inj e))
            have hS_5 : Below w.heap.size w _ ∧ World.cell? _ ⟨w.heap.size, 0, none⟩ = some (.int .u16 (x : Nat)) ∧ World.cell? _ ⟨w.heap.size, 1, none⟩ = some (.int .u16 (y : Nat)) ∧ Box16 _ w.heap.size x y := ⟨hS_4.1.grown m2 hS_4.1.size (fun j e => by cases e; exact Nat.le_of_lt n7), X_5.cells.1, X_5.cells.2, X_5⟩
            refine hK.out _ _ hS_5 (fun _ => ?_)
            clear hK K q0 q1 f0 f1 m1 m2 hS_4 X_5 H1_4 H2_4 Z8_4 Z7_4
            generalize (W4.setCell ⟨b7, 0, none⟩ _).setCell ⟨b7, 1, none⟩ _ = W5 at *
            try simp only [Act.put, List.getElem_toArray, List.getElem_cons_succ, List.getElem_cons_zero, List.setIfInBounds_toArray, List.set_cons_zero, List.set_cons_succ]
            refine wpAnyH_ready (rs := [13]) (by kernel_rfl) (by simp) ?_
            refine AllReadyH.cons rfl (fun K hK => ?_) AllReadyH.nil
            simp only [List.getElem_toArray, List.getElem_cons_succ, List.getElem_cons_zero]
            obtain ⟨q0, q1⟩ := Z8_5.cells
            have f0 : W5.frozen? ⟨b8, 0, none⟩ = false := by simp [World.frozen?, show W5.heap[b8]? = _ from Z8_5]
            have f1 : W5.frozen? ⟨b8, 1, none⟩ = false := by simp [World.frozen?, show W5.heap[b8]? = _ from Z8_5]
            go_simp
            obtain ⟨m1, m2⟩ := two_stores (x := .int .i64 (y : Nat)) (y := .slice c2 d2 e2) Z8_5
            have Y8_6 : BoxS _ b8 y (.slice c2 d2 e2) := m1
            have Y7_6 := Y7_5.kept m2 (fun e => NE (Option.some.inj e).symm)
            have H1_6 := H1_5.kept m2 (.inr (fun e => Z8_5.not_row H1_5 e.symm))
            have H2_6 := H2_5.kept m2 (.inr (fun e => Z8_5.not_row H2_5 e.symm))
            have X_6 := hS_5.2.2.2.kept m2 (fun e => Nat.ne_of_lt n8 (Option.some.inj e))
            have hS_6 : Below w.heap.size w _ ∧ World.cell? _ ⟨w.heap.size, 0, none⟩ = some (.int .u16 (x : Nat)) ∧ World.cell? _ ⟨w.heap.size, 1, none⟩ = some (.int .u16 (y : Nat)) ∧ Box16 _ w.heap.size x y := ⟨hS_5.1.grown m2 hS_5.1.size (fun j e => by cases e; exact Nat.le_of_lt n8), X_6.cells.1, X_6.cells.2, X_6⟩
            refine hK.out _ _ hS_6 (fun _ => ?_)
            clear hK K q0 q1 f0 f1 m1 m2 hS_5 X_6 H1_5 H2_5 Z8_5 Y7_5
            generalize (W5.setCell ⟨b8, 0, none⟩ _).setCell ⟨b8, 1, none⟩ _ = W6 at *
            try simp only [Act.put, List.getElem_toArray, List.getElem_cons_succ, List.getElem_cons_zero, List.setIfInBounds_toArray, List.set_cons_zero, List.set_cons_succ]
            refine wpAnyH_done (by kernel_rfl) ?_ _
            exact ⟨b7, b8, c1, d1, e1, c2, d2, e2, L1, L2, rfl, ⟨hS_6.1, hS_6.2.2.2, Y7_6, Y8_6, H1_6, H2_6⟩, M1.out, M2.out⟩
          exact AllReadyH.nil
        exact AllReadyH.nil
      refine AllReadyH.cons rfl (fun K hK => ?_) ?_
      · simp only [List.getElem_toArray, List.getElem_cons_succ, List.getElem_cons_zero]
        go_simp
        have up := (Below.refl W1.heap.size W1).alloc (Nat.le_refl _) (.cells #[.int .i64 0, .slice none 0 0] 26)
        have hS_2 : Below w.heap.size w (W1.alloc (.cells #[.int .i64 0, .slice none 0 0] 26)) ∧ World.cell? (W1.alloc (.cells #[.int .i64 0, .slice none 0 0] 26)) ⟨w.heap.size, 0, none⟩ = some (.int .u16 (x : Nat)) ∧ World.cell? (W1.alloc (.cells #[.int .i64 0, .slice none 0 0] 26)) ⟨w.heap.size, 1, none⟩ = some (.int .u16 (y : Nat)) ∧ Box16 (W1.alloc (.cells #[.int .i64 0, .slice none 0 0] 26)) w.heap.size x y := ⟨hS_1.1.alloc hS_1.1.size _, cell_next hS_1.2.1 up, cell_next hS_1.2.2.1 up, hS_1.2.2.2.next up⟩
        have n8 : w.heap.size < W1.heap.size := Box16.lt hS_1.2.2.2
        have H1_2 := H1_1.next up
        have Z8_2 : BoxS (W1.alloc (.cells #[.int .i64 0, .slice none 0 0] 26)) W1.heap.size 0 (.slice none 0 0) := World.alloc_heap_new W1 _
        refine hK.out _ _ hS_2 (fun _ => ?_)
        clear hK K up hS_1 H1_1
        generalize W1.alloc (.cells #[.int .i64 0, .slice none 0 0] 26) = W2 at *
        generalize W1.heap.size = b8 at *
        try simp only [Act.put, List.getElem_toArray, List.getElem_cons_succ, List.getElem_cons_zero, List.setIfInBounds_toArray, List.set_cons_zero, List.set_cons_succ]
        refine wpAnyH_ready (rs := [9, 10]) (by kernel_rfl) (by simp) ?_
        refine AllReadyH.cons rfl (fun K hK => ?_) ?_
        · simp only [List.getElem_toArray, List.getElem_cons_succ, List.getElem_cons_zero]
          go_simp
          go_at_call 14
          (with_reducible refine (O2.out _ hS_2.1).mono ?_)
          rintro e W3 ⟨v2, L2, rfl, hs2, hm2, up⟩
          obtain ⟨c2, d2, e2, rfl⟩ := hs2.val
          unfold setV
          have hS_3 : Below w.heap.size w W3 ∧ World.cell? W3 ⟨w.heap.size, 0, none⟩ = some (.int .u16 (x : Nat)) ∧ World.cell? W3 ⟨w.heap.size, 1, none⟩ = some (.int .u16 (y : Nat)) ∧ Box16 W3 w.heap.size x y := ⟨hS_2.1.trans (up.mono hS_2.1.size), cell_next hS_2.2.1 up, cell_next hS_2.2.2.1 up, hS_2.2.2.2.next up⟩
          have H2_3 := hs2.base hS_2.1.size
          have M2 := Lib.hid hm2
          have Z8_3 := Z8_2.next up
          have H1_3 := H1_2.next up
          refine hK.out _ _ hS_3 (fun _ => ?_)
          clear hK K up hs2 hm2 hS_2 Z8_2 H1_2
          try simp only [Act.put, List.getElem_toArray, List.getElem_cons_succ, List.getElem_cons_zero, List.setIfInBounds_toArray, List.set_cons_zero, List.set_cons_succ]
          refine wpAnyH_ready (rs := [10]) (by kernel_rfl) (by simp) ?_
          refine AllReadyH.cons rfl (fun K hK => ?_) ?_
          · simp only [List.getElem_toArray, List.getElem_cons_succ, List.getElem_cons_zero]
            go_simp
            have up := (Below.refl W3.heap.size W3).alloc (Nat.le_refl _) (.cells #[.int .i64 0, .slice none 0 0] 26)
            have hS_4 : Below w.heap.size w (W3.alloc (.cells #[.int .i64 0, .slice none 0 0] 26)) ∧ World.cell? (W3.alloc (.cells #[.int .i64 0, .slice none 0 0] 26)) ⟨w.heap.size, 0, none⟩ = some (.int .u16 (x : Nat)) ∧ World.cell? (W3.alloc (.cells #[.int .i64 0, .slice none 0 0] 26)) ⟨w.heap.size, 1, none⟩ = some (.int .u16 (y : Nat)) ∧ Box16 (W3.alloc (.cells #[.int .i64 0, .slice none 0 0] 26)) w.heap.size x y := ⟨hS_3.1.alloc hS_3.1.size _, cell_next hS_3.2.1 up, cell_next hS_3.2.2.1 up, hS_3.2.2.2.next up⟩
            have n7 : w.heap.size < W3.heap.size := Box16.lt hS_3.2.2.2
            have NE : b8 ≠ W3.heap.size := Nat.ne_of_lt Z8_3.lt
            have Z8_4 := Z8_3.next up
            have H1_4 := H1_3.next up
            have H2_4 := H2_3.next up
            have Z7_4 : BoxS (W3.alloc (.cells #[.int .i64 0, .slice none 0 0] 26)) W3.heap.size 0 (.slice none 0 0) := World.alloc_heap_new W3 _
            refine hK.out _ _ hS_4 (fun _ => ?_)
            clear hK K up hS_3 Z8_3 H1_3 H2_3
            generalize W3.alloc (.cells #[.int .i64 0, .slice none 0 0] 26) = W4 at *
            generalize W3.heap.size = b7 at *
            try simp only [Act.put, List.getElem_toArray, List.getElem_cons_succ, List.getElem_cons_zero, List.setIfInBounds_toArray, List.set_cons_zero, List.set_cons_succ]
            refine wpAnyH_ready (rs := [12]) (by kernel_rfl) (by simp) ?_
            refine AllReadyH.cons rfl (fun K hK => ?_) AllReadyH.nil
            simp only [List.getElem_toArray, List.getElem_cons_succ, List.getElem_cons_zero]
            obtain ⟨q0, q1⟩ := Z7_4.cells
            have f0 : W4.frozen? ⟨b7, 0, none⟩ = false := by simp [World.frozen?, show W4.heap[b7]? = _ from Z7_4]
            have f1 : W4.frozen? ⟨b7, 1, none⟩ = false := by simp [World.frozen?, show W4.heap[b7]? = _ from Z7_4]
            go_simp
            obtain ⟨m1, m2⟩ := two_stores (x := .int .i64 (x : Nat)) (y := .slice c1 d1 e1) Z7_4
            have Y7_5 : BoxS _ b7 x (.slice c1 d1 e1) := m1
            have Z8_5 := Z8_4.kept m2 (fun e => NE (Option.some.inj e))
            have H1_5 := H1_4.kept m2 (.inr (fun e => Z7_4.not_row H1_4 e.symm))
            have H2_5 := H2_4.kept m2 (.inr (fun e => Z7_4.not_row H2_4 e.symm))
            have X_5 := hS_4.2.2.2.kept m2 (fun e => Nat.ne_of_lt n7 (Option.some.inj e))
            have hS_5 : Below w.heap.size w _ ∧ World.cell? _ ⟨w.heap.size, 0, none⟩ = some (.int .u16 (x : Nat)) ∧ World.cell? _ ⟨w.heap.size, 1, none⟩ = some (.int .u16 (y : Nat)) ∧ Box16 _ w.heap.size x y := ⟨hS_4.1.grown m2 hS_4.1.size (fun j e => by cases e; exact Nat.le_of_lt n7), X_5.cells.1, X_5.cells.2, X_5⟩
            refine hK.out _ _ hS_5 (fun _ => ?_)
            clear hK K q0 q1 f0 f1 m1 m2 hS_4 X_5 H1_4 H2_4 Z8_4 Z7_4
            generalize (W4.setCell ⟨b7, 0, none⟩ _).setCell ⟨b7, 1, none⟩ _ = W5 at *
            try simp only [Act.put, List.getElem_toArray, List.getElem_cons_succ, List.getElem_cons_zero, List.setIfInBounds_toArray, List.set_cons_zero, List.set_cons_succ]
            refine wpAnyH_ready (rs := [13]) (by kernel_rfl) (by simp) ?_
            refine AllReadyH.cons rfl (fun K hK => ?_) AllReadyH.nil
            simp only [List.getElem_toArray, List.getElem_cons_succ, List.getElem_cons_zero]
            obtain ⟨q0, q1⟩ := Z8_5.cells
            have f0 : W5.frozen? ⟨b8, 0, none⟩ = false := by simp [World.frozen?, show W5.heap[b8]? = _ from Z8_5]
            have f1 : W5.frozen? ⟨b8, 1, none⟩ = false := by simp [World.frozen?, show W5.heap[b8]? = _ from Z8_5]
            go_simp
            obtain ⟨m1, m2⟩ := two_stores (x := .int .i64 (y : Nat)) (y := .slice c2 d2 e2) Z8_5
            have Y8_6 : BoxS _ b8 y (.slice c2 d2 e2) := m1
            have Y7_6 := Y7_5.kept m2 (fun e => NE (Option.some.inj e).symm)
            have H1_6 := H1_5.kept m2 (.inr (fun e => Z8_5.not_row H1_5 e.symm))
            have H2_6 := H2_5.kept m2 (.inr (fun e => Z8_5.not_row H2_5 e.symm))
            have X_6 := hS_5.2.2.2.kept m2 (fun e => Nat.ne_of_lt n8 (Option.some.inj e))
            have hS_6 : Below w.heap.size w _ ∧ World.cell? _ ⟨w.heap.size, 0, none⟩ = some (.int .u16 (x : Nat)) ∧ World.cell? _ ⟨w.heap.size, 1, none⟩ = some (.int .u16 (y : Nat)) ∧ Box16 _ w.heap.size x y := ⟨hS_5.1.grown m2 hS_5.1.size (fun j e => by cases e; exact Nat.le_of_lt n8), X_6.cells.1, X_6.cells.2, X_6⟩
            refine hK.out _ _ hS_6 (fun _ => ?_)
            clear hK K q0 q1 f0 f1 m1 m2 hS_5 X_6 H1_5 H2_5 Z8_5 Y7_5
            generalize (W5.setCell ⟨b8, 0, none⟩ _).setCell ⟨b8, 1, none⟩ _ = W6 at *
            try simp only [Act.put, List.getElem_toArray, List.getElem_cons_succ, List.getElem_cons_zero, List.setIfInBounds_toArray, List.set_cons_zero, List.set_cons_succ]
            refine wpAnyH_done (by kernel_rfl) ?_ _
            exact ⟨b7, b8, c1, d1, e1, c2, d2, e2, L1, L2, rfl, ⟨hS_6.1, hS_6.2.2.2, Y7_6, Y8_6, H1_6, H2_6⟩, M1.out, M2.out⟩
          exact AllReadyH.nil
        refine AllReadyH.cons rfl (fun K hK => ?_) ?_
        · simp only [List.getElem_toArray, List.getElem_cons_succ, List.getElem_cons_zero]
          go_simp
          have up := (Below.refl W2.heap.size W2).alloc (Nat.le_refl _) (.cells #[.int .i64 0, .slice none 0 0] 26)
          have hS_3 : Below w.heap.size w (W2.alloc (.cells #[.int .i64 0, .slice none 0 0] 26)) ∧ World.cell? (W2.alloc (.cells #[.int .i64 0, .slice none 0 0] 26)) ⟨w.heap.size, 0, none⟩ = some (.int .u16 (x : Nat)) ∧ World.cell? (W2.alloc (.cells #[.int .i64 0, .slice none 0 0] 26)) ⟨w.heap.size, 1, none⟩ = some (.int .u16 (y : Nat)) ∧ Box16 (W2.alloc (.cells #[.int .i64 0, .slice none 0 0] 26)) w.heap.size x y := ⟨hS_2.1.alloc hS_2.1.size _, cell_next hS_2.2.1 up, cell_next hS_2.2.2.1 up, hS_2.2.2.2.next up⟩
          have n7 : w.heap.size < W2.heap.size := Box16.lt hS_2.2.2.2
          have NE : b8 ≠ W2.heap.size := Nat.ne_of_lt Z8_2.lt
          have Z8_3 := Z8_2.next up
          have H1_3 := H1_2.next up
          have Z7_3 : BoxS (W2.alloc (.cells #[.int .i64 0, .slice none 0 0] 26)) W2.heap.size 0 (.slice none 0 0) := World.alloc_heap_new W2 _
          refine hK.out _ _ hS_3 (fun _ => ?_)
          clear hK K up hS_2 Z8_2 H1_2
          generalize W2.alloc (.cells #[.int .i64 0, .slice none 0 0] 26) = W3 at *
          generalize W2.heap.size = b7 at *
          try simp only [Act.put, List.getElem_toArray, List.getElem_cons_succ, List.getElem_cons_zero, List.setIfInBounds_toArray, List.set_cons_zero, List.set_cons_succ]
          refine wpAnyH_ready (rs := [9]) (by kernel_rfl) (by simp) ?_
          refine AllReadyH.cons rfl (fun K hK => ?_) ?_
          · simp only [List.getElem_toArray, List.getElem_cons_succ, List.getElem_cons_zero]
            go_simp
            go_at_call 14
            (with_reducible refine (O2.out _ hS_3.1).mono ?_)
            rintro e W4 ⟨v2, L2, rfl, hs2, hm2, up⟩
            obtain ⟨c2, d2, e2, rfl⟩ := hs2.val
            unfold setV
            have hS_4 : Below w.heap.size w W4 ∧ World.cell? W4 ⟨w.heap.size, 0, none⟩ = some (.int .u16 (x : Nat)) ∧ World.cell? W4 ⟨w.heap.size, 1, none⟩ = some (.int .u16 (y : Nat)) ∧ Box16 W4 w.heap.size x y := ⟨hS_3.1.trans (up.mono hS_3.1.size), cell_next hS_3.2.1 up, cell_next hS_3.2.2.1 up, hS_3.2.2.2.next up⟩
            have H2_4 := hs2.base hS_3.1.size
            have M2 := Lib.hid hm2
            have Z7_4 := Z7_3.next up
            have Z8_4 := Z8_3.next up
            have H1_4 := H1_3.next up
            refine hK.out _ _ hS_4 (fun _ => ?_)
            clear hK K up hs2 hm2 hS_3 Z7_3 Z8_3 H1_3
            try simp only [Act.put, List.getElem_toArray, List.getElem_cons_succ, List.getElem_cons_zero, List.setIfInBounds_toArray, List.set_cons_zero, List.set_cons_succ]
            refine wpAnyH_ready (rs := [12]) (by kernel_rfl) (by simp) ?_
            refine AllReadyH.cons rfl (fun K hK => ?_) AllReadyH.nil
            simp only [List.getElem_toArray, List.getElem_cons_succ, List.getElem_cons_zero]
            obtain ⟨q0, q1⟩ := Z7_4.cells
            have f0 : W4.frozen? ⟨b7, 0, none⟩ = false := by simp [World.frozen?, show W4.heap[b7]? = _ from Z7_4]
            have f1 : W4.frozen? ⟨b7, 1, none⟩ = false := by simp [World.frozen?, show W4.heap[b7]? = _ from Z7_4]
            go_simp
            obtain ⟨m1, m2⟩ := two_stores (x := .int .i64 (x : Nat)) (y := .slice c1 d1 e1) Z7_4
            have Y7_5 : BoxS _ b7 x (.slice c1 d1 e1) := m1
            have Z8_5 := Z8_4.kept m2 (fun e => NE (Option.some.inj e))
            have H1_5 := H1_4.kept m2 (.inr (fun e => Z7_4.not_row H1_4 e.symm))
            have H2_5 := H2_4.kept m2 (.inr (fun e => Z7_4.not_row H2_4 e.symm))
            have X_5 := hS_4.2.2.2.kept m2 (fun e => Nat.ne_of_lt n7 (Option.some.inj e))
            have hS_5 : Below w.heap.size w _ ∧ World.cell? _ ⟨w.heap.size, 0, none⟩ = some (.int .u16 (x : Nat)) ∧ World.cell? _ ⟨w.heap.size, 1, none⟩ = some (.int .u16 (y : Nat)) ∧ Box16 _ w.heap.size x y := ⟨hS_4.1.grown m2 hS_4.1.size (fun j e => by cases e; exact Nat.le_of_lt n7), X_5.cells.1, X_5.cells.2, X_5⟩
            refine hK.out _ _ hS_5 (fun _ => ?_)
            clear hK K q0 q1 f0 f1 m1 m2 hS_4 X_5 H1_4 H2_4 Z8_4 Z7_4
            generalize (W4.setCell ⟨b7, 0, none⟩ _).setCell ⟨b7, 1, none⟩ _ = W5 at *
            try simp only [Act.put, List.getElem_toArray, List.getElem_cons_succ, List.getElem_cons_zero, List.setIfInBounds_toArray, List.set_cons_zero, List.set_cons_succ]
            refine wpAnyH_ready (rs := [13]) (by kernel_rfl) (by simp) ?_
            refine AllReadyH.cons rfl (fun K hK => ?_) AllReadyH.nil
            simp only [List.getElem_toArray, List.getElem_cons_succ, List.getElem_cons_zero]
            obtain ⟨q0, q1⟩ := Z8_5.cells
            have f0 : W5.frozen? ⟨b8, 0, none⟩ = false := by simp [World.frozen?, show W5.heap[b8]? = _ from Z8_5]
            have f1 : W5.frozen? ⟨b8, 1, none⟩ = false := by simp [World.frozen?, show W5.heap[b8]? = _ from Z8_5]
            go_simp
            obtain ⟨m1, m2⟩ := two_stores (x := .int .i64 (y : Nat)) (y := .slice c2 d2 e2) Z8_5
            have Y8_6 : BoxS _ b8 y (.slice c2 d2 e2) := m1
            have Y7_6 := Y7_5.kept m2 (fun e => NE (Option.some.inj e).symm)
            have H1_6 := H1_5.kept m2 (.inr (fun e => Z8_5.not_row H1_5 e.symm))
            have H2_6 := H2_5.kept m2 (.inr (fun e => Z8_5.not_row H2_5 e.symm))
            have X_6 := hS_5.2.2.2.kept m2 (fun e => Nat.ne_of_lt n8 (Option.some.inj e))
            have hS_6 : Below w.heap.size w _ ∧ World.cell? _ ⟨w.heap.size, 0, none⟩ = some (.int .u16 (x : Nat)) ∧ World.cell? _ ⟨w.heap.size, 1, none⟩ = some (.int .u16 (y : Nat)) ∧ Box16 _ w.heap.size x y := ⟨hS_5.1.grown m2 hS_5.1.size (fun j e => by cases e; exact Nat.le_of_lt n8), X_6.cells.1, X_6.cells.2, X_6⟩
            refine hK.out _ _ hS_6 (fun _ => ?_)
            clear hK K q0 q1 f0 f1 m1 m2 hS_5 X_6 H1_5 H2_5 Z8_5 Y7_5
            generalize (W5.setCell ⟨b8, 0, none⟩ _).setCell ⟨b8, 1, none⟩ _ = W6 at *
            try simp only [Act.put, List.getElem_toArray, List.getElem_cons_succ, List.getElem_cons_zero, List.setIfInBounds_toArray, List.set_cons_zero, List.set_cons_succ]
            refine wpAnyH_done (by kernel_rfl) ?_ _
            exact ⟨b7, b8, c1, d1, e1, c2, d2, e2, L1, L2, rfl, ⟨hS_6.1, hS_6.2.2.2, Y7_6, Y8_6, H1_6, H2_6⟩, M1.out, M2.out⟩
          exact AllReadyH.nil
        exact AllReadyH.nil
      exact AllReadyH.nil
    refine AllReadyH.cons rfl (fun K hK => ?_) ?_
    · simp only [List.getElem_toArray, List.getElem_cons_succ, List.getElem_cons_zero]
      go_simp
      have up := (Below.refl W0.heap.size W0).alloc (Nat.le_refl _) (.cells #[.int .i64 0, .slice none 0 0] 26)
      have hS_1 : Below w.heap.size w (W0.alloc (.cells #[.int .i64 0, .slice none 0 0] 26)) ∧ World.cell? (W0.alloc (.cells #[.int .i64 0, .slice none 0 0] 26)) ⟨w.heap.size, 0, none⟩ = some (.int .u16 (x : Nat)) ∧ World.cell? (W0.alloc (.cells #[.int .i64 0, .slice none 0 0] 26)) ⟨w.heap.size, 1, none⟩ = some (.int .u16 (y : Nat)) ∧ Box16 (W0.alloc (.cells #[.int .i64 0, .slice none 0 0] 26)) w.heap.size x y := ⟨hS_0.1.alloc hS_0.1.size _, cell_next hS_0.2.1 up, cell_next hS_0.2.2.1 up, hS_0.2.2.2.next up⟩
      have n7 : w.heap.size < W0.heap.size := Box16.lt hS_0.2.2.2
      have Z7_1 : BoxS (W0.alloc (.cells #[.int .i64 0, .slice none 0 0] 26)) W0.heap.size 0 (.slice none 0 0) := World.alloc_heap_new W0 _
      refine hK.out _ _ hS_1 (fun _ => ?_)
      clear hK K up hS_0 
      generalize W0.alloc (.cells #[.int .i64 0, .slice none 0 0] 26) = W1 at *
      generalize W0.heap.size = b7 at *
      try simp only [Act.put, List.getElem_toArray, List.getElem_cons_succ, List.getElem_cons_zero, List.setIfInBounds_toArray, List.set_cons_zero, List.set_cons_succ]
      refine wpAnyH_ready (rs := [4, 11]) (by kernel_rfl) (by simp) ?_
      refine AllReadyH.cons rfl (fun K hK => ?_) ?_
      · simp only [List.getElem_toArray, List.getElem_cons_succ, List.getElem_cons_zero]
        go_simp
        go_at_call 14
        (with_reducible refine (O1.out _ hS_1.1).mono ?_)
        rintro e W2 ⟨v1, L1, rfl, hs1, hm1, up⟩
        obtain ⟨c1, d1, e1, rfl⟩ := hs1.val
        unfold setV
        have hS_2 : Below w.heap.size w W2 ∧ World.cell? W2 ⟨w.heap.size, 0, none⟩ = some (.int .u16 (x : Nat)) ∧ World.cell? W2 ⟨w.heap.size, 1, none⟩ = some (.int .u16 (y : Nat)) ∧ Box16 W2 w.heap.size x y := ⟨hS_1.1.trans (up.mono hS_1.1.size), cell_next hS_1.2.1 up, cell_next hS_1.2.2.1 up, hS_1.2.2.2.next up⟩
        have H1_2 := hs1.base hS_1.1.size
        have M1 := Lib.hid hm1
        have Z7_2 := Z7_1.next up
        refine hK.out _ _ hS_2 (fun _ => ?_)
        clear hK K up hs1 hm1 hS_1 Z7_1
        try simp only [Act.put, List.getElem_toArray, List.getElem_cons_succ, List.getElem_cons_zero, List.setIfInBounds_toArray, List.set_cons_zero, List.set_cons_succ]
        refine wpAnyH_ready (rs := [9, 11]) (by kernel_rfl) (by simp) ?_
        refine AllReadyH.cons rfl (fun K hK => ?_) ?_
        · simp only [List.getElem_toArray, List.getElem_cons_succ, List.getElem_cons_zero]
          go_simp
          go_at_call 14
          (with_reducible refine (O2.out _ hS_2.1).mono ?_)
          rintro e W3 ⟨v2, L2, rfl, hs2, hm2, up⟩
          obtain ⟨c2, d2, e2, rfl⟩ := hs2.val
          unfold setV
          have hS_3 : Below w.heap.size w W3 ∧ World.cell? W3 ⟨w.heap.size, 0, none⟩ = some (.int .u16 (x : Nat)) ∧ World.cell? W3 ⟨w.heap.size, 1, none⟩ = some (.int .u16 (y : Nat)) ∧ Box16 W3 w.heap.size x y := ⟨hS_2.1.trans (up.mono hS_2.1.size), cell_next hS_2.2.1 up, cell_next hS_2.2.2.1 up, hS_2.2.2.2.next up⟩
          have H2_3 := hs2.base hS_2.1.size
          have M2 := Lib.hid hm2
          have Z7_3 := Z7_2.next up
          have H1_3 := H1_2.next up
          refine hK.out _ _ hS_3 (fun _ => ?_)
          clear hK K up hs2 hm2 hS_2 Z7_2 H1_2
          try simp only [Act.put, List.getElem_toArray, List.getElem_cons_succ, List.getElem_cons_zero, List.setIfInBounds_toArray, List.set_cons_zero, List.set_cons_succ]
          refine wpAnyH_ready (rs := [11]) (by kernel_rfl) (by simp) ?_
          refine AllReadyH.cons rfl (fun K hK => ?_) ?_
          · simp only [List.getElem_toArray, List.getElem_cons_succ, List.getElem_cons_zero]
            go_simp
            have up := (Below.refl W3.heap.size W3).alloc (Nat.le_refl _) (.cells #[.int .i64 0, .slice none 0 0] 26)
            have hS_4 : Below w.heap.size w (W3.alloc (.cells #[.int .i64 0, .slice none 0 0] 26)) ∧ World.cell? (W3.alloc (.cells #[.int .i64 0, .slice none 0 0] 26)) ⟨w.heap.size, 0, none⟩ = some (.int .u16 (x : Nat)) ∧ World.cell? (W3.alloc (.cells #[.int .i64 0, .slice none 0 0] 26)) ⟨w.heap.size, 1, none⟩ = some (.int .u16 (y : Nat)) ∧ Box16 (W3.alloc (.cells #[.int .i64 0, .slice none 0 0] 26)) w.heap.size x y := ⟨hS_3.1.alloc hS_3.1.size _, cell_next hS_3.2.1 up, cell_next hS_3.2.2.1 up, hS_3.2.2.2.next up⟩
            have n8 : w.heap.size < W3.heap.size := Box16.lt hS_3.2.2.2
            have NE : W3.heap.size ≠ b7 := (Nat.ne_of_lt Z7_3.lt).symm
            have Z7_4 := Z7_3.next up
            have H1_4 := H1_3.next up
            have H2_4 := H2_3.next up
            have Z8_4 : BoxS (W3.alloc (.cells #[.int .i64 0, .slice none 0 0] 26)) W3.heap.size 0 (.slice none 0 0) := World.alloc_heap_new W3 _
            refine hK.out _ _ hS_4 (fun _ => ?_)
            clear hK K up hS_3 Z7_3 H1_3 H2_3
            generalize W3.alloc (.cells #[.int .i64 0, .slice none 0 0] 26) = W4 at *
            generalize W3.heap.size = b8 at *
            try simp only [Act.put, List.getElem_toArray, List.getElem_cons_succ, List.getElem_cons_zero, List.setIfInBounds_toArray, List.set_cons_zero, List.set_cons_succ]
            refine wpAnyH_ready (rs := [12]) (by kernel_rfl) (by simp) ?_
            refine AllReadyH.cons rfl (fun K hK => ?_) AllReadyH.nil
            simp only [List.getElem_toArray, List.getElem_cons_succ, List.getElem_cons_zero]
            obtain ⟨q0, q1⟩ := Z7_4.cells
            have f0 : W4.frozen? ⟨b7, 0, none⟩ = false := by simp [World.frozen?, show W4.heap[b7]? = _ from Z7_4]
            have f1 : W4.frozen? ⟨b7, 1, none⟩ = false := by simp [World.frozen?, show W4.heap[b7]? = _ from Z7_4]
            go_simp
            obtain ⟨m1, m2⟩ := two_stores (x := .int .i64 (x : Nat)) (y := .slice c1 d1 e1) Z7_4
            have Y7_5 : BoxS _ b7 x (.slice c1 d1 e1) := m1
            have Z8_5 := Z8_4.kept m2 (fun e => NE (Option.some.inj e))
            have H1_5 := H1_4.kept m2 (.inr (fun e => Z7_4.not_row H1_4 e.symm))
            have H2_5 := H2_4.kept m2 (.inr (fun e => Z7_4.not_row H2_4 e.symm))
            have X_5 := hS_4.2.2.2.kept m2 (fun e => Nat.ne_of_lt n7 (Option.some.inj e))
            have hS_5 : Below w.heap.size w _ ∧ World.cell? _ ⟨w.heap.size, 0, none⟩ = some (.int .u16 (x : Nat)) ∧ World.cell? _ ⟨w.heap.size, 1, none⟩ = some (.int .u16 (y : Nat)) ∧ Box16 _ w.heap.size x y := ⟨hS_4.1.grown m2 hS_4.1.size (fun j e => by cases e; exact Nat.le_of_lt n7), X_5.cells.1, X_5.cells.2, X_5⟩
            refine hK.out _ _ hS_5 (fun _ => ?_)
            clear hK K q0 q1 f0 f1 m1 m2 hS_4 X_5 H1_4 H2_4 Z8_4 Z7_4
            generalize (W4.setCell ⟨b7, 0, none⟩ _).setCell ⟨b7, 1, none⟩ _ = W5 at *
            try simp only [Act.put, List.getElem_toArray, List.getElem_cons_succ, List.getElem_cons_zero, List.setIfInBounds_toArray, List.set_cons_zero, List.set_cons_succ]
            refine wpAnyH_ready (rs := [13]) (by kernel_rfl) (by simp) ?_
            refine AllReadyH.cons rfl (fun K hK => ?_) AllReadyH.nil
            simp only [List.getElem_toArray, List.getElem_cons_succ, List.getElem_cons_zero]
            obtain ⟨q0, q1⟩ := Z8_5.cells
            have f0 : W5.frozen? ⟨b8, 0, none⟩ = false := by simp [World.frozen?, show W5.heap[b8]? = _ from Z8_5]
            have f1 : W5.frozen? ⟨b8, 1, none⟩ = false := by simp [World.frozen?, show W5.heap[b8]? = _ from Z8_5]
            go_simp
            obtain ⟨m1, m2⟩ := two_stores (x := .int .i64 (y : Nat)) (y := .slice c2 d2 e2) Z8_5
            have Y8_6 : BoxS _ b8 y (.slice c2 d2 e2) := m1
            have Y7_6 := Y7_5.kept m2 (fun e => NE (Option.some.inj e).symm)
            have H1_6 := H1_5.kept m2 (.inr (fun e => Z8_5.not_row H1_5 e.symm))
            have H2_6 := H2_5.kept m2 (.inr (fun e => Z8_5.not_row H2_5 e.symm))
            have X_6 := hS_5.2.2.2.kept m2 (fun e => Nat.ne_of_lt n8 (Option.some.inj e))
            have hS_6 : Below w.heap.size w _ ∧ World.cell? _ ⟨w.heap.size, 0, none⟩ = some (.int .u16 (x : Nat)) ∧ World.cell? _ ⟨w.heap.size, 1, none⟩ = some (.int .u16 (y : Nat)) ∧ Box16 _ w.heap.size x y := ⟨hS_5.1.grown m2 hS_5.1.size (fun j e => by cases e; exact Nat.le_of_lt n8), X_6.cells.1, X_6.cells.2, X_6⟩
            refine hK.out _ _ hS_6 (fun _ => ?_)
            clear hK K q0 q1 f0 f1 m1 m2 hS_5 X_6 H1_5 H2_5 Z8_5 Y7_5
            generalize (W5.setCell ⟨b8, 0, none⟩ _).setCell ⟨b8, 1, none⟩ _ = W6 at *
            try simp only [Act.put, List.getElem_toArray, List.getElem_cons_succ, List.getElem_cons_zero, List.setIfInBounds_toArray, List.set_cons_zero, List.set_cons_succ]
            refine wpAnyH_done (by kernel_rfl) ?_ _
            exact ⟨b7, b8, c1, d1, e1, c2, d2, e2, L1, L2, rfl, ⟨hS_6.1, hS_6.2.2.2, Y7_6, Y8_6, H1_6, H2_6⟩, M1.out, M2.out⟩
          exact AllReadyH.nil
        refine AllReadyH.cons rfl (fun K hK => ?_) ?_
        · simp only [List.getElem_toArray, List.getElem_cons_succ, List.getElem_cons_zero]
          go_simp
          have up := (Below.refl W2.heap.size W2).alloc (Nat.le_refl _) (.cells #[.int .i64 0, .slice none 0 0] 26)
          have hS_3 : Below w.heap.size w (W2.alloc (.cells #[.int .i64 0, .slice none 0 0] 26)) ∧ World.cell? (W2.alloc (.cells #[.int .i64 0, .slice none 0 0] 26)) ⟨w.heap.size, 0, none⟩ = some (.int .u16 (x : Nat)) ∧ World.cell? (W2.alloc (.cells #[.int .i64 0, .slice none 0 0] 26)) ⟨w.heap.size, 1, none⟩ = some (.int .u16 (y : Nat)) ∧ Box16 (W2.alloc (.cells #[.int .i64 0, .slice none 0 0] 26)) w.heap.size x y := ⟨hS_2.1.alloc hS_2.1.size _, cell_next hS_2.2.1 up, cell_next hS_2.2.2.1 up, hS_2.2.2.2.next up⟩
          have n8 : w.heap.size < W2.heap.size := Box16.lt hS_2.2.2.2
          have NE : W2.heap.size ≠ b7 := (Nat.ne_of_lt Z7_2.lt).symm
          have Z7_3 := Z7_2.next up
          have H1_3 := H1_2.next up
          have Z8_3 : BoxS (W2.alloc (.cells #[.int .i64 0, .slice none 0 0] 26)) W2.heap.size 0 (.slice none 0 0) := World.alloc_heap_new W2 _
          refine hK.out _ _ hS_3 (fun _ => ?_)
          clear hK K up hS_2 Z7_2 H1_2
          generalize W2.alloc (.cells #[.int .i64 0, .slice none 0 0] 26) = W3 at *
          generalize W2.heap.size = b8 at *
          try simp only [Act.put, List.getElem_toArray, List.getElem_cons_succ, List.getElem_cons_zero, List.setIfInBounds_toArray, List.set_cons_zero, List.set_cons_succ]
          refine wpAnyH_ready (rs := [9]) (by kernel_rfl) (by simp) ?_
          refine AllReadyH.cons rfl (fun K hK => ?_) ?_
          · simp only [List.getElem_toArray, List.getElem_cons_succ, List.getElem_cons_zero]
            go_simp
            go_at_call 14
            (with_reducible refine (O2.out _ hS_3.1).mono ?_)
            rintro e W4 ⟨v2, L2, rfl, hs2, hm2, up⟩
            obtain ⟨c2, d2, e2, rfl⟩ := hs2.val
            unfold setV
            have hS_4 : Below w.heap.size w W4 ∧ World.cell? W4 ⟨w.heap.size, 0, none⟩ = some (.int .u16 (x : Nat)) ∧ World.cell? W4 ⟨w.heap.size, 1, none⟩ = some (.int .u16 (y : Nat)) ∧ Box16 W4 w.heap.size x y := ⟨hS_3.1.trans (up.mono hS_3.1.size), cell_next hS_3.2.1 up, cell_next hS_3.2.2.1 up, hS_3.2.2.2.next up⟩
            have H2_4 := hs2.base hS_3.1.size
            have M2 := Lib.hid hm2
            have Z7_4 := Z7_3.next up
            have Z8_4 := Z8_3.next up
            have H1_4 := H1_3.next up
            refine hK.out _ _ hS_4 (fun _ => ?_)
            clear hK K up hs2 hm2 hS_3 Z7_3 Z8_3 H1_3
            try simp only [Act.put, List.getElem_toArray, List.getElem_cons_succ, List.getElem_cons_zero, List.setIfInBounds_toArray, List.set_cons_zero, List.set_cons_succ]
            refine wpAnyH_ready (rs := [12]) (by kernel_rfl) (by simp) ?_
            refine AllReadyH.cons rfl (fun K hK => ?_) AllReadyH.nil
            simp only [List.getElem_toArray, List.getElem_cons_succ, List.getElem_cons_zero]
            obtain ⟨q0, q1⟩ := Z7_4.cells
            have f0 : W4.frozen? ⟨b7, 0, none⟩ = false := by simp [World.frozen?, show W4.heap[b7]? = _ from Z7_4]
            have f1 : W4.frozen? ⟨b7, 1, none⟩ = false := by simp [World.frozen?, show W4.heap[b7]? = _ from Z7_4]
            go_simp
            obtain ⟨m1, m2⟩ := two_stores (x := .int .i64 (x : Nat)) (y := .slice c1 d1 e1) Z7_4
            have Y7_5 : BoxS _ b7 x (.slice c1 d1 e1) := m1
            have Z8_5 := Z8_4.kept m2 (fun e => NE (Option.some.inj e))
            have H1_5 := H1_4.kept m2 (.inr (fun e => Z7_4.not_row H1_4 e.symm))
            have H2_5 := H2_4.kept m2 (.inr (fun e => Z7_4.not_row H2_4 e.symm))
            have X_5 := hS_4.2.2.2.kept m2 (fun e => Nat.ne_of_lt n7 (Option.some.inj e))
            have hS_5 : Below w.heap.size w _ ∧ World.cell? _ ⟨w.heap.size, 0, none⟩ = some (.int .u16 (x : Nat)) ∧ World.cell? _ ⟨w.heap.size, 1, none⟩ = some (.int .u16 (y : Nat)) ∧ Box16 _ w.heap.size x y := ⟨hS_4.1.grown m2 hS_4.1.size (fun j e => by cases e; exact Nat.le_of_lt n7), X_5.cells.1, X_5.cells.2, X_5⟩
            refine hK.out _ _ hS_5 (fun _ => ?_)
            clear hK K q0 q1 f0 f1 m1 m2 hS_4 X_5 H1_4 H2_4 Z8_4 Z7_4
            generalize (W4.setCell ⟨b7, 0, none⟩ _).setCell ⟨b7, 1, none⟩ _ = W5 at *
            try simp only [Act.put, List.getElem_toArray, List.getElem_cons_succ, List.getElem_cons_zero, List.setIfInBounds_toArray, List.set_cons_zero, List.set_cons_succ]
            refine wpAnyH_ready (rs := [13]) (by kernel_rfl) (by simp) ?_
            refine AllReadyH.cons rfl (fun K hK => ?_) AllReadyH.nil
            simp only [List.getElem_toArray, List.getElem_cons_succ, List.getElem_cons_zero]
            obtain ⟨q0, q1⟩ := Z8_5.cells
            have f0 : W5.frozen? ⟨b8, 0, none⟩ = false := by simp [World.frozen?, show W5.heap[b8]? = _ from Z8_5]
            have f1 : W5.frozen? ⟨b8, 1, none⟩ = false := by simp [World.frozen?, show W5.heap[b8]? = _ from Z8_5]
            go_simp
            obtain ⟨m1, m2⟩ := two_stores (x := .int .i64 (y : Nat)) (y := .slice c2 d2 e2) Z8_5
            have Y8_6 : BoxS _ b8 y (.slice c2 d2 e2) := m1
            have Y7_6 := Y7_5.kept m2 (fun e => NE (Option.some.inj e).symm)
            have H1_6 := H1_5.kept m2 (.inr (fun e => Z8_5.not_row H1_5 e.symm))
            have H2_6 := H2_5.kept m2 (.inr (fun e => Z8_5.not_row H2_5 e.symm))
            have X_6 := hS_5.2.2.2.kept m2 (fun e => Nat.ne_of_lt n8 (Option.some.inj e))
            have hS_6 : Below w.heap.size w _ ∧ World.cell? _ ⟨w.heap.size, 0, none⟩ = some (.int .u16 (x : Nat)) ∧ World.cell? _ ⟨w.heap.size, 1, none⟩ = some (.int .u16 (y : Nat)) ∧ Box16 _ w.heap.size x y := ⟨hS_5.1.grown m2 hS_5.1.size (fun j e => by cases e; exact Nat.le_of_lt n8), X_6.cells.1, X_6.cells.2, X_6⟩
            refine hK.out _ _ hS_6 (fun _ => ?_)
            clear hK K q0 q1 f0 f1 m1 m2 hS_5 X_6 H1_5 H2_5 Z8_5 Y7_5
            generalize (W5.setCell ⟨b8, 0, none⟩ _).setCell ⟨b8, 1, none⟩ _ = W6 at *
            try simp only [Act.put, List.getElem_toArray, List.getElem_cons_succ, List.getElem_cons_zero, List.setIfInBounds_toArray, List.set_cons_zero, List.set_cons_succ]
            refine wpAnyH_done (by kernel_rfl) ?_ _
            exact ⟨b7, b8, c1, d1, e1, c2, d2, e2, L1, L2, rfl, ⟨hS_6.1, hS_6.2.2.2, Y7_6, Y8_6, H1_6, H2_6⟩, M1.out, M2.out⟩
          exact AllReadyH.nil
        exact AllReadyH.nil
      refine AllReadyH.cons rfl (fun K hK => ?_) ?_
      · simp only [List.getElem_toArray, List.getElem_cons_succ, List.getElem_cons_zero]
        go_simp
        have up := (Below.refl W1.heap.size W1).alloc (Nat.le_refl _) (.cells #[.int .i64 0, .slice none 0 0] 26)
        have hS_2 : Below w.heap.size w (W1.alloc (.cells #[.int .i64 0, .slice none 0 0] 26)) ∧ World.cell? (W1.alloc (.cells #[.int .i64 0, .slice none 0 0] 26)) ⟨w.heap.size, 0, none⟩ = some (.int .u16 (x : Nat)) ∧ World.cell? (W1.alloc (.cells #[.int .i64 0, .slice none 0 0] 26)) ⟨w.heap.size, 1, none⟩ = some (.int .u16 (y : Nat)) ∧ Box16 (W1.alloc (.cells #[.int .i64 0, .slice none 0 0] 26)) w.heap.size x y := ⟨hS_1.1.alloc hS_1.1.size _, cell_next hS_1.2.1 up, cell_next hS_1.2.2.1 up, hS_1.2.2.2.next up⟩
        have n8 : w.heap.size < W1.heap.size := Box16.lt hS_1.2.2.2
        have NE : W1.heap.size ≠ b7 := (Nat.ne_of_lt Z7_1.lt).symm
        have Z7_2 := Z7_1.next up
        have Z8_2 : BoxS (W1.alloc (.cells #[.int .i64 0, .slice none 0 0] 26)) W1.heap.size 0 (.slice none 0 0) := World.alloc_heap_new W1 _
        refine hK.out _ _ hS_2 (fun _ => ?_)
        clear hK K up hS_1 Z7_1
        generalize W1.alloc (.cells #[.int .i64 0, .slice none 0 0] 26) = W2 at *
        generalize W1.heap.size = b8 at *
        try simp only [Act.put, List.getElem_toArray, List.getElem_cons_succ, List.getElem_cons_zero, List.setIfInBounds_toArray, List.set_cons_zero, List.set_cons_succ]
        refine wpAnyH_ready (rs := [4]) (by kernel_rfl) (by simp) ?_
        refine AllReadyH.cons rfl (fun K hK => ?_) ?_
        · simp only [List.getElem_toArray, List.getElem_cons_succ, List.getElem_cons_zero]
          go_simp
          go_at_call 14
          (with_reducible refine (O1.out _ hS_2.1).mono ?_)
          rintro e W3 ⟨v1, L1, rfl, hs1, hm1, up⟩
          obtain ⟨c1, d1, e1, rfl⟩ := hs1.val
          unfold setV
          have hS_3 : Below w.heap.size w W3 ∧ World.cell? W3 ⟨w.heap.size, 0, none⟩ = some (.int .u16 (x : Nat)) ∧ World.cell? W3 ⟨w.heap.size, 1, none⟩ = some (.int .u16 (y : Nat)) ∧ Box16 W3 w.heap.size x y := ⟨hS_2.1.trans (up.mono hS_2.1.size), cell_next hS_2.2.1 up, cell_next hS_2.2.2.1 up, hS_2.2.2.2.next up⟩
          have H1_3 := hs1.base hS_2.1.size
          have M1 := Lib.hid hm1
          have Z7_3 := Z7_2.next up
          have Z8_3 := Z8_2.next up
          refine hK.out _ _ hS_3 (fun _ => ?_)
          clear hK K up hs1 hm1 hS_2 Z7_2 Z8_2
          try simp only [Act.put, List.getElem_toArray, List.getElem_cons_succ, List.getElem_cons_zero, List.setIfInBounds_toArray, List.set_cons_zero, List.set_cons_succ]
          refine wpAnyH_ready (rs := [9]) (by kernel_rfl) (by simp) ?_
          refine AllReadyH.cons rfl (fun K hK => ?_) ?_
          · simp only [List.getElem_toArray, List.getElem_cons_succ, List.getElem_cons_zero]
            go_simp
            go_at_call 14
            (with_reducible refine (O2.out _ hS_3.1).mono ?_)
            rintro e W4 ⟨v2, L2, rfl, hs2, hm2, up⟩
            obtain ⟨c2, d2, e2, rfl⟩ := hs2.val
            unfold setV
            have hS_4 : Below w.heap.size w W4 ∧ World.cell? W4 ⟨w.heap.size, 0, none⟩ = some (.int .u16 (x : Nat)) ∧ World.cell? W4 ⟨w.heap.size, 1, none⟩ = some (.int .u16 (y : Nat)) ∧ Box16 W4 w.heap.size x y := ⟨hS_3.1.trans (up.mono hS_3.1.size), cell_next hS_3.2.1 up, cell_next hS_3.2.2.1 up, hS_3.2.2.2.next up⟩
            have H2_4 := hs2.base hS_3.1.size
            have M2 := Lib.hid hm2
            have Z7_4 := Z7_3.next up
            have Z8_4 := Z8_3.next up
            have H1_4 := H1_3.next up
            refine hK.out _ _ hS_4 (fun _ => ?_)
            clear hK K up hs2 hm2 hS_3 Z7_3 Z8_3 H1_3
            try simp only [Act.put, List.getElem_toArray, List.getElem_cons_succ, List.getElem_cons_zero, List.setIfInBounds_toArray, List.set_cons_zero, List.set_cons_succ]
            refine wpAnyH_ready (rs := [12]) (by kernel_rfl) (by simp) ?_
            refine AllReadyH.cons rfl (fun K hK => ?_) AllReadyH.nil
            simp only [List.getElem_toArray, List.getElem_cons_succ, List.getElem_cons_zero]
            obtain ⟨q0, q1⟩ := Z7_4.cells
            have f0 : W4.frozen? ⟨b7, 0, none⟩ = false := by simp [World.frozen?, show W4.heap[b7]? = _ from Z7_4]
            have f1 : W4.frozen? ⟨b7, 1, none⟩ = false := by simp [World.frozen?, show W4.heap[b7]? = _ from Z7_4]
            go_simp
            obtain ⟨m1, m2⟩ := two_stores (x := .int .i64 (x : Nat)) (y := .slice c1 d1 e1) Z7_4
            have Y7_5 : BoxS _ b7 x (.slice c1 d1 e1) := m1
            have Z8_5 := Z8_4.kept m2 (fun e => NE (Option.some.inj e))
            have H1_5 := H1_4.kept m2 (.inr (fun e => Z7_4.not_row H1_4 e.symm))
            have H2_5 := H2_4.kept m2 (.inr (fun e => Z7_4.not_row H2_4 e.symm))
            have X_5 := hS_4.2.2.2.kept m2 (fun e => Nat.ne_of_lt n7 (Option.some.inj e))
            have hS_5 : Below w.heap.size w _ ∧ World.cell? _ ⟨w.heap.size, 0, none⟩ = some (.int .u16 (x : Nat)) ∧ World.cell? _ ⟨w.heap.size, 1, none⟩ = some (.int .u16 (y : Nat)) ∧ Box16 _ w.heap.size x y := ⟨hS_4.1.grown m2 hS_4.1.size (fun j e => by cases e; exact Nat.le_of_lt n7), X_5.cells.1, X_5.cells.2, X_5⟩
            refine hK.out _ _ hS_5 (fun _ => ?_)
            clear hK K q0 q1 f0 f1 m1 m2 hS_4 X_5 H1_4 H2_4 Z8_4 Z7_4
            generalize (W4.setCell ⟨b7, 0, none⟩ _).setCell ⟨b7, 1, none⟩ _ = W5 at *
            try simp only [Act.put, List.getElem_toArray, List.getElem_cons_succ, List.getElem_cons_zero, List.setIfInBounds_toArray, List.set_cons_zero, List.set_cons_succ]
            refine wpAnyH_ready (rs := [13]) (by kernel_rfl) (by simp) ?_
            refine AllReadyH.cons rfl (fun K hK => ?_) AllReadyH.nil
            simp only [List.getElem_toArray, List.getElem_cons_succ, List.getElem_cons_zero]
            obtain ⟨q0, q1⟩ := Z8_5.cells
            have f0 : W5.frozen? ⟨b8, 0, none⟩ = false := by simp [World.frozen?, show W5.heap[b8]? = _ from Z8_5]
            have f1 : W5.frozen? ⟨b8, 1, none⟩ = false := by simp [World.frozen?, show W5.heap[b8]? = _ from Z8_5]
            go_simp
            obtain ⟨m1, m2⟩ := two_stores (x := .int .i64 (y : Nat)) (y := .slice c2 d2 e2) Z8_5
            have Y8_6 : BoxS _ b8 y (.slice c2 d2 e2) := m1
            have Y7_6 := Y7_5.kept m2 (fun e => NE (Option.some.inj e).symm)
            have H1_6 := H1_5.kept m2 (.inr (fun e => Z8_5.not_row H1_5 e.symm))
            have H2_6 := H2_5.kept m2 (.inr (fun e => Z8_5.not_row H2_5 e.symm))
            have X_6 := hS_5.2.2.2.kept m2 (fun e => Nat.ne_of_lt n8 (Option.some.inj e))
            have hS_6 : Below w.heap.size w _ ∧ World.cell? _ ⟨w.heap.size, 0, none⟩ = some (.int .u16 (x : Nat)) ∧ World.cell? _ ⟨w.heap.size, 1, none⟩ = some (.int .u16 (y : Nat)) ∧ Box16 _ w.heap.size x y := ⟨hS_5.1.grown m2 hS_5.1.size (fun j e => by cases e; exact Nat.le_of_lt n8), X_6.cells.1, X_6.cells.2, X_6⟩
            refine hK.out _ _ hS_6 (fun _ => ?_)
            clear hK K q0 q1 f0 f1 m1 m2 hS_5 X_6 H1_5 H2_5 Z8_5 Y7_5
            generalize (W5.setCell ⟨b8, 0, none⟩ _).setCell ⟨b8, 1, none⟩ _ = W6 at *
            try simp only [Act.put, List.getElem_toArray, List.getElem_cons_succ, List.getElem_cons_zero, List.setIfInBounds_toArray, List.set_cons_zero, List.set_cons_succ]
            refine wpAnyH_done (by kernel_rfl) ?_ _
            exact ⟨b7, b8, c1, d1, e1, c2, d2, e2, L1, L2, rfl, ⟨hS_6.1, hS_6.2.2.2, Y7_6, Y8_6, H1_6, H2_6⟩, M1.out, M2.out⟩
          exact AllReadyH.nil
        exact AllReadyH.nil
      exact AllReadyH.nil
    refine AllReadyH.cons rfl (fun K hK => ?_) ?_
    · simp only [List.getElem_toArray, List.getElem_cons_succ, List.getElem_cons_zero]
      go_simp
      have up := (Below.refl W0.heap.size W0).alloc (Nat.le_refl _) (.cells #[.int .i64 0, .slice none 0 0] 26)
      have hS_1 : Below w.heap.size w (W0.alloc (.cells #[.int .i64 0, .slice none 0 0] 26)) ∧ World.cell? (W0.alloc (.cells #[.int .i64 0, .slice none 0 0] 26)) ⟨w.heap.size, 0, none⟩ = some (.int .u16 (x : Nat)) ∧ World.cell? (W0.alloc (.cells #[.int .i64 0, .slice none 0 0] 26)) ⟨w.heap.size, 1, none⟩ = some (.int .u16 (y : Nat)) ∧ Box16 (W0.alloc (.cells #[.int .i64 0, .slice none 0 0] 26)) w.heap.size x y := ⟨hS_0.1.alloc hS_0.1.size _, cell_next hS_0.2.1 up, cell_next hS_0.2.2.1 up, hS_0.2.2.2.next up⟩
      have n8 : w.heap.size < W0.heap.size := Box16.lt hS_0.2.2.2
      have Z8_1 : BoxS (W0.alloc (.cells #[.int .i64 0, .slice none 0 0] 26)) W0.heap.size 0 (.slice none 0 0) := World.alloc_heap_new W0 _
      refine hK.out _ _ hS_1 (fun _ => ?_)
      clear hK K up hS_0 
      generalize W0.alloc (.cells #[.int .i64 0, .slice none 0 0] 26) = W1 at *
      generalize W0.heap.size = b8 at *
      try simp only [Act.put, List.getElem_toArray, List.getElem_cons_succ, List.getElem_cons_zero, List.setIfInBounds_toArray, List.set_cons_zero, List.set_cons_succ]
      refine wpAnyH_ready (rs := [4, 10]) (by kernel_rfl) (by simp) ?_
      refine AllReadyH.cons rfl (fun K hK => ?_) ?_
      · simp only [List.getElem_toArray, List.getElem_cons_succ, List.getElem_cons_zero]
        go_simp
        go_at_call 14
        (with_reducible refine (O1.out _ hS_1.1).mono ?_)
        rintro e W2 ⟨v1, L1, rfl, hs1, hm1, up⟩
        obtain ⟨c1, d1, e1, rfl⟩ := hs1.val
        unfold setV
        have hS_2 : Below w.heap.size w W2 ∧ World.cell? W2 ⟨w.heap.size, 0, none⟩ = some (.int .u16 (x : Nat)) ∧ World.cell? W2 ⟨w.heap.size, 1, none⟩ = some (.int .u16 (y : Nat)) ∧ Box16 W2 w.heap.size x y := ⟨hS_1.1.trans (up.mono hS_1.1.size), cell_next hS_1.2.1 up, cell_next hS_1.2.2.1 up, hS_1.2.2.2.next up⟩
        have H1_2 := hs1.base hS_1.1.size
        have M1 := Lib.hid hm1
        have Z8_2 := Z8_1.next up
        refine hK.out _ _ hS_2 (fun _ => ?_)
        clear hK K up hs1 hm1 hS_1 Z8_1
        try simp only [Act.put, List.getElem_toArray, List.getElem_cons_succ, List.getElem_cons_zero, List.setIfInBounds_toArray, List.set_cons_zero, List.set_cons_succ]
        refine wpAnyH_ready (rs := [9, 10]) (by kernel_rfl) (by simp) ?_
        refine AllReadyH.cons rfl (fun K hK => ?_) ?_
        · simp only [List.getElem_toArray, List.getElem_cons_succ, List.getElem_cons_zero]
          go_simp
          go_at_call 14
          (with_reducible refine (O2.out _ hS_2.1).mono ?_)
          rintro e W3 ⟨v2, L2, rfl, hs2, hm2, up⟩
          obtain ⟨c2, d2, e2, rfl⟩ := hs2.val
          unfold setV
          have hS_3 : Below w.heap.size w W3 ∧ World.cell? W3 ⟨w.heap.size, 0, none⟩ = some (.int .u16 (x : Nat)) ∧ World.cell? W3 ⟨w.heap.size, 1, none⟩ = some (.int .u16 (y : Nat)) ∧ Box16 W3 w.heap.size x y := ⟨hS_2.1.trans (up.mono hS_2.1.size), cell_next hS_2.2.1 up, cell_next hS_2.2.2.1 up, hS_2.2.2.2.next up⟩
          have H2_3 := hs2.base hS_2.1.size
          have M2 := Lib.hid hm2
          have Z8_3 := Z8_2.next up
          have H1_3 := H1_2.next up
          refine hK.out _ _ hS_3 (fun _ => ?_)
          clear hK K up hs2 hm2 hS_2 Z8_2 H1_2
          try simp only [Act.put, List.getElem_toArray, List.getElem_cons_succ, List.getElem_cons_zero, List.setIfInBounds_toArray, List.set_cons_zero, List.set_cons_succ]
          refine wpAnyH_ready (rs := [10]) (by kernel_rfl) (by simp) ?_
          refine AllReadyH.cons rfl (fun K hK => ?_) ?_
          · simp only [List.getElem_toArray, List.getElem_cons_succ, List.getElem_cons_zero]
            go_simp
            have up := (Below.refl W3.heap.size W3).alloc (Nat.le_refl _) (.cells #[.int .i64 0, .slice none 0 0] 26)
            have hS_4 : Below w.heap.size w (W3.alloc (.cells #[.int .i64 0, .slice none 0 0] 26)) ∧ World.cell? (W3.alloc (.cells #[.int .i64 0, .slice none 0 0] 26)) ⟨w.heap.size, 0, none⟩ = some (.int .u16 (x : Nat)) ∧ World.cell? (W3.alloc (.cells #[.int .i64 0, .slice none 0 0] 26)) ⟨w.heap.size, 1, none⟩ = some (.int .u16 (y : Nat)) ∧ Box16 (W3.alloc (.cells #[.int .i64 0, .slice none 0 0] 26)) w.heap.size x y := ⟨hS_3.1.alloc hS_3.1.size _, cell_next hS_3.2.1 up, cell_next hS_3.2.2.1 up, hS_3.2.2.2.next up⟩
            have n7 : w.heap.size < W3.heap.size := Box16.lt hS_3.2.2.2
            have NE : b8 ≠ W3.heap.size := Nat.ne_of_lt Z8_3.lt
            have Z8_4 := Z8_3.next up
            have H1_4 := H1_3.next up
            have H2_4 := H2_3.next up
            have Z7_4 : BoxS (W3.alloc (.cells #[.int .i64 0, .slice none 0 0] 26)) W3.heap.size 0 (.slice none 0 0) := World.alloc_heap_new W3 _
            refine hK.out _ _ hS_4 (fun _ => ?_)
            clear hK K up hS_3 Z8_3 H1_3 H2_3
            generalize W3.alloc (.cells #[.int .i64 0, .slice none 0 0] 26) = W4 at *
            generalize W3.heap.size = b7 at *
            try simp only [Act.put, List.getElem_toArray, List.getElem_cons_succ, List.getElem_cons_zero, List.setIfInBounds_toArray, List.set_cons_zero, List.set_cons_succ]
            refine wpAnyH_ready (rs := [12]) (by kernel_rfl) (by simp) ?_
            refine AllReadyH.cons rfl (fun K hK => ?_) AllReadyH.nil
            simp only [List.getElem_toArray, List.getElem_cons_succ, List.getElem_cons_zero]
            obtain ⟨q0, q1⟩ := Z7_4.cells
            have f0 : W4.frozen? ⟨b7, 0, none⟩ = false := by simp [World.frozen?, show W4.heap[b7]? = _ from Z7_4]
            have f1 : W4.frozen? ⟨b7, 1, none⟩ = false := by simp [World.frozen?, show W4.heap[b7]? = _ from Z7_4]
            go_simp
            obtain ⟨m1, m2⟩ := two_stores (x := .int .i64 (x : Nat)) (y := .slice c1 d1 e1) Z7_4
            have Y7_5 : BoxS _ b7 x (.slice c1 d1 e1) := m1
            have Z8_5 := Z8_4.kept m2 (fun e => NE (Option.some.inj e))
            have H1_5 := H1_4.kept m2 (.inr (fun e => Z7_4.not_row H1_4 e.symm))
            have H2_5 := H2_4.kept m2 (.inr (fun e => Z7_4.not_row H2_4 e.symm))
            have X_5 := hS_4.2.2.2.kept m2 (fun e => Nat.ne_of_lt n7 (Option.some.inj e))
            have hS_5 : Below w.heap.size w _ ∧ World.cell? _ ⟨w.heap.size, 0, none⟩ = some (.int .u16 (x : Nat)) ∧ World.cell? _ ⟨w.heap.size, 1, none⟩ = some (.int .u16 (y : Nat)) ∧ Box16 _ w.heap.size x y := ⟨hS_4.1.grown m2 hS_4.1.size (fun j e => by cases e; exact Nat.le_of_lt n7), X_5.cells.1, X_5.cells.2, X_5⟩
            refine hK.out _ _ hS_5 (fun _ => ?_)
            clear hK K q0 q1 f0 f1 m1 m2 hS_4 X_5 H1_4 H2_4 Z8_4 Z7_4
            generalize (W4.setCell ⟨b7, 0, none⟩ _).setCell ⟨b7, 1, none⟩ _ = W5 at *
            try simp only [Act.put, List.getElem_toArray, List.getElem_cons_succ, List.getElem_cons_zero, List.setIfInBounds_toArray, List.set_cons_zero, List.set_cons_succ]
            refine wpAnyH_ready (rs := [13]) (by kernel_rfl) (by simp) ?_
            refine AllReadyH.cons rfl (fun K hK => ?_) AllReadyH.nil
            simp only [List.getElem_toArray, List.getElem_cons_succ, List.getElem_cons_zero]
            obtain ⟨q0, q1⟩ := Z8_5.cells
            have f0 : W5.frozen? ⟨b8, 0, none⟩ = false := by simp [World.frozen?, show W5.heap[b8]? = _ from Z8_5]
            have f1 : W5.frozen? ⟨b8, 1, none⟩ = false := by simp [World.frozen?, show W5.heap[b8]? = _ from Z8_5]
            go_simp
            obtain ⟨m1, m2⟩ := two_stores (x := .int .i64 (y : Nat)) (y := .slice c2 d2 e2) Z8_5
            have Y8_6 : BoxS _ b8 y (.slice c2 d2 e2) := m1
            have Y7_6 := Y7_5.kept m2 (fun e => NE (Option.some.inj e).symm)
            have H1_6 := H1_5.kept m2 (.inr (fun e => Z8_5.not_row H1_5 e.symm))
            have H2_6 := H2_5.kept m2 (.inr (fun e => Z8_5.not_row H2_5 e.symm))
            have X_6 := hS_5.2.2.2.kept m2 (fun e => Nat.ne_of_lt n8 (Option.some.inj e))
            have hS_6 : Below w.heap.size w _ ∧ World.cell? _ ⟨w.heap.size, 0, none⟩ = some (.int .u16 (x : Nat)) ∧ World.cell? _ ⟨w.heap.size, 1, none⟩ = some (.int .u16 (y : Nat)) ∧ Box16 _ w.heap.size x y := ⟨hS_5.1.grown m2 hS_5.1.size (fun j e => by cases e; exact Nat.le_of_lt n8), X_6.cells.1, X_6.cells.2, X_6⟩
            refine hK.out _ _ hS_6 (fun _ => ?_)
            clear hK K q0 q1 f0 f1 m1 m2 hS_5 X_6 H1_5 H2_5 Z8_5 Y7_5
            generalize (W5.setCell ⟨b8, 0, none⟩ _).setCell ⟨b8, 1, none⟩ _ = W6 at *
            try simp only [Act.put, List.getElem_toArray, List.getElem_cons_succ, List.getElem_cons_zero, List.setIfInBounds_toArray, List.set_cons_zero, List.set_cons_succ]
            refine wpAnyH_done (by kernel_rfl) ?_ _
            exact ⟨b7, b8, c1, d1, e1, c2, d2, e2, L1, L2, rfl, ⟨hS_6.1, hS_6.2.2.2, Y7_6, Y8_6, H1_6, H2_6⟩, M1.out, M2.out⟩
          exact AllReadyH.nil
        refine AllReadyH.cons rfl (fun K hK => ?_) ?_
        · simp only [List.getElem_toArray, List.getElem_cons_succ, List.getElem_cons_zero]
          go_simp
          have up := (Below.refl W2.heap.size W2).alloc (Nat.le_refl _) (.cells #[.int .i64 0, .slice none 0 0] 26)
          have hS_3 : Below w.heap.size w (W2.alloc (.cells #[.int .i64 0, .slice none 0 0] 26)) ∧ World.cell? (W2.alloc (.cells #[.int .i64 0, .slice none 0 0] 26)) ⟨w.heap.size, 0, none⟩ = some (.int .u16 (x : Nat)) ∧ World.cell? (W2.alloc (.cells #[.int .i64 0, .slice none 0 0] 26)) ⟨w.heap.size, 1, none⟩ = some (.int .u16 (y : Nat)) ∧ Box16 (W2.alloc (.cells #[.int .i64 0, .slice none 0 0] 26)) w.heap.size x y := ⟨hS_2.1.alloc hS_2.1.size _, cell_next hS_2.2.1 up, cell_next hS_2.2.2.1 up, hS_2.2.2.2.next up⟩
          have n7 : w.heap.size < W2.heap.size := Box16.lt hS_2.2.2.2
          have NE : b8 ≠ W2.heap.size := Nat.ne_of_lt Z8_2.lt
          have Z8_3 := Z8_2.next up
          have H1_3 := H1_2.next up
          have Z7_3 : BoxS (W2.alloc (.cells #[.int .i64 0, .slice none 0 0] 26)) W2.heap.size 0 (.slice none 0 0) := World.alloc_heap_new W2 _
          refine hK.out _ _ hS_3 (fun _ => ?_)
          clear hK K up hS_2 Z8_2 H1_2
          generalize W2.alloc (.cells #[.int .i64 0, .slice none 0 0] 26) = W3 at *
          generalize W2.heap.size = b7 at *
          try simp only [Act.put, List.getElem_toArray, List.getElem_cons_succ, List.getElem_cons_zero, List.setIfInBounds_toArray, List.set_cons_zero, List.set_cons_succ]
          refine wpAnyH_ready (rs := [9]) (by kernel_rfl) (by simp) ?_
          refine AllReadyH.cons rfl (fun K hK => ?_) ?_
          · simp only [List.getElem_toArray, List.getElem_cons_succ, List.getElem_cons_zero]
            go_simp
            go_at_call 14
            (with_reducible refine (O2.out _ hS_3.1).mono ?_)
            rintro e W4 ⟨v2, L2, rfl, hs2, hm2, up⟩
            obtain ⟨c2, d2, e2, rfl⟩ := hs2.val
            unfold setV
            have hS_4 : Below w.heap.size w W4 ∧ World.cell? W4 ⟨w.heap.size, 0, none⟩ = some (.int .u16 (x : Nat)) ∧ World.cell? W4 ⟨w.heap.size, 1, none⟩ = some (.int .u16 (y : Nat)) ∧ Box16 W4 w.heap.size x y := ⟨hS_3.1.trans (up.mono hS_3.1.size), cell_next hS_3.2.1 up, cell_next hS_3.2.2.1 up, hS_3.2.2.2.next up⟩
            have H2_4 := hs2.base hS_3.1.size
            have M2 := Lib.hid hm2
            have Z7_4 := Z7_3.next up
            have Z8_4 := Z8_3.next up
            have H1_4 := H1_3.next up
            refine hK.out _ _ hS_4 (fun _ => ?_)
            clear hK K up hs2 hm2 hS_3 Z7_3 Z8_3 H1_3
            try simp only [Act.put, List.getElem_toArray, List.getElem_cons_succ, List.getElem_cons_zero, List.setIfInBounds_toArray, List.set_cons_zero, List.set_cons_succ]
            refine wpAnyH_ready (rs := [12]) (by kernel_rfl) (by simp) ?_
            refine AllReadyH.cons rfl (fun K hK => ?_) AllReadyH.nil
            simp only [List.getElem_toArray, List.getElem_cons_succ, List.getElem_cons_zero]
            obtain ⟨q0, q1⟩ := Z7_4.cells
            have f0 : W4.frozen? ⟨b7, 0, none⟩ = false := by simp [World.frozen?, show W4.heap[b7]? = _ from Z7_4]
            have f1 : W4.frozen? ⟨b7, 1, none⟩ = false := by simp [World.frozen?, show W4.heap[b7]? = _ from Z7_4]
            go_simp
            obtain ⟨m1, m2⟩ := two_stores (x := .int .i64 (x : Nat)) (y := .slice c1 d1 e1) Z7_4
            have Y7_5 : BoxS _ b7 x (.slice c1 d1 e1) := m1
            have Z8_5 := Z8_4.kept m2 (fun e => NE (Option.some.inj e))
            have H1_5 := H1_4.kept m2 (.inr (fun e => Z7_4.not_row H1_4 e.symm))
            have H2_5 := H2_4.kept m2 (.inr (fun e => Z7_4.not_row H2_4 e.symm))
            have X_5 := hS_4.2.2.2.kept m2 (fun e => Nat.ne_of_lt n7 (Option.some.inj e))
            have hS_5 : Below w.heap.size w _ ∧ World.cell? _ ⟨w.heap.size, 0, none⟩ = some (.int .u16 (x : Nat)) ∧ World.cell? _ ⟨w.heap.size, 1, none⟩ = some (.int .u16 (y : Nat)) ∧ Box16 _ w.heap.size x y := ⟨hS_4.1.grown m2 hS_4.1.size (fun j e => by cases e; exact Nat.le_of_lt n7), X_5.cells.1, X_5.cells.2, X_5⟩
            refine hK.out _ _ hS_5 (fun _ => ?_)
            clear hK K q0 q1 f0 f1 m1 m2 hS_4 X_5 H1_4 H2_4 Z8_4 Z7_4
            generalize (W4.setCell ⟨b7, 0, none⟩ _).setCell ⟨b7, 1, none⟩ _ = W5 at *
            try simp only [Act.put, List.getElem_toArray, List.getElem_cons_succ, List.getElem_cons_zero, List.setIfInBounds_toArray, List.set_cons_zero, List.set_cons_succ]
            refine wpAnyH_ready (rs := [13]) (by kernel_rfl) (by simp) ?_
            refine AllReadyH.cons rfl (fun K hK => ?_) AllReadyH.nil
            simp only [List.getElem_toArray, List.getElem_cons_succ, List.getElem_cons_zero]
            obtain ⟨q0, q1⟩ := Z8_5.cells
            have f0 : W5.frozen? ⟨b8, 0, none⟩ = false := by simp [World.frozen?, show W5.heap[b8]? = _ from Z8_5]
            have f1 : W5.frozen? ⟨b8, 1, none⟩ = false := by simp [World.frozen?, show W5.heap[b8]? = _ from Z8_5]
            go_simp
            obtain ⟨m1, m2⟩ := two_stores (x := .int .i64 (y : Nat)) (y := .slice c2 d2 e2) Z8_5
            have Y8_6 : BoxS _ b8 y (.slice c2 d2 e2) := m1
            have Y7_6 := Y7_5.kept m2 (fun e => NE (Option.some.inj e).symm)
            have H1_6 := H1_5.kept m2 (.inr (fun e => Z8_5.not_row H1_5 e.symm))
            have H2_6 := H2_5.kept m2 (.inr (fun e => Z8_5.not_row H2_5 e.symm))
            have X_6 := hS_5.2.2.2.kept m2 (fun e => Nat.ne_of_lt n8 (Option.some.inj e))
            have hS_6 : Below w.heap.size w _ ∧ World.cell? _ ⟨w.heap.size, 0, none⟩ = some (.int .u16 (x : Nat)) ∧ World.cell? _ ⟨w.heap.size, 1, none⟩ = some (.int .u16 (y : Nat)) ∧ Box16 _ w.heap.size x y := ⟨hS_5.1.grown m2 hS_5.1.size (fun j e => by cases e; exact Nat.le_of_lt n8), X_6.cells.1, X_6.cells.2, X_6⟩
            refine hK.out _ _ hS_6 (fun _ => ?_)
            clear hK K q0 q1 f0 f1 m1 m2 hS_5 X_6 H1_5 H2_5 Z8_5 Y7_5
            generalize (W5.setCell ⟨b8, 0, none⟩ _).setCell ⟨b8, 1, none⟩ _ = W6 at *
            try simp only [Act.put, List.getElem_toArray, List.getElem_cons_succ, List.getElem_cons_zero, List.setIfInBounds_toArray, List.set_cons_zero, List.set_cons_succ]
            refine wpAnyH_done (by kernel_rfl) ?_ _
            exact ⟨b7, b8, c1, d1, e1, c2, d2, e2, L1, L2, rfl, ⟨hS_6.1, hS_6.2.2.2, Y7_6, Y8_6, H1_6, H2_6⟩, M1.out, M2.out⟩
          exact AllReadyH.nil
        exact AllReadyH.nil
      refine AllReadyH.cons rfl (fun K hK => ?_) ?_
      · simp only [List.getElem_toArray, List.getElem_cons_succ, List.getElem_cons_zero]
        go_simp
        have up := (Below.refl W1.heap.size W1).alloc (Nat.le_refl _) (.cells #[.int .i64 0, .slice none 0 0] 26)
        have hS_2 : Below w.heap.size w (W1.alloc (.cells #[.int .i64 0, .slice none 0 0] 26)) ∧ World.cell? (W1.alloc (.cells #[.int .i64 0, .slice none 0 0] 26)) ⟨w.heap.size, 0, none⟩ = some (.int .u16 (x : Nat)) ∧ World.cell? (W1.alloc (.cells #[.int .i64 0, .slice none 0 0] 26)) ⟨w.heap.size, 1, none⟩ = some (.int .u16 (y : Nat)) ∧ Box16 (W1.alloc (.cells #[.int .i64 0, .slice none 0 0] 26)) w.heap.size x y := ⟨hS_1.1.alloc hS_1.1.size _, cell_next hS_1.2.1 up, cell_next hS_1.2.2.1 up, hS_1.2.2.2.next up⟩
        have n7 : w.heap.size < W1.heap.size := Box16.lt hS_1.2.2.2
        have NE : b8 ≠ W1.heap.size := Nat.ne_of_lt Z8_1.lt
        have Z8_2 := Z8_1.next up
        have Z7_2 : BoxS (W1.alloc (.cells #[.int .i64 0, .slice none 0 0] 26)) W1.heap.size 0 (.slice none 0 0) := World.alloc_heap_new W1 _
        refine hK.out _ _ hS_2 (fun _ => ?_)
        clear hK K up hS_1 Z8_1
        generalize W1.alloc (.cells #[.int .i64 0, .slice none 0 0] 26) = W2 at *
        generalize W1.heap.size = b7 at *
        try simp only [Act.put, List.getElem_toArray, List.getElem_cons_succ, List.getElem_cons_zero, List.setIfInBounds_toArray, List.set_cons_zero, List.set_cons_succ]
        refine wpAnyH_ready (rs := [4]) (by kernel_rfl) (by simp) ?_
        refine AllReadyH.cons rfl (fun K hK => ?_) ?_
        · simp only [List.getElem_toArray, List.getElem_cons_succ, List.getElem_cons_zero]
          go_simp
          go_at_call 14
          (with_reducible refine (O1.out _ hS_2.1).mono ?_)
          rintro e W3 ⟨v1, L1, rfl, hs1, hm1, up⟩
          obtain ⟨c1, d1, e1, rfl⟩ := hs1.val
          unfold setV
          have hS_3 : Below w.heap.size w W3 ∧ World.cell? W3 ⟨w.heap.size, 0, none⟩ = some (.int .u16 (x : Nat)) ∧ World.cell? W3 ⟨w.heap.size, 1, none⟩ = some (.int .u16 (y : Nat)) ∧ Box16 W3 w.heap.size x y := ⟨hS_2.1.trans (up.mono hS_2.1.size), cell_next hS_2.2.1 up, cell_next hS_2.2.2.1 up, hS_2.2.2.2.next up⟩
          have H1_3 := hs1.base hS_2.1.size
          have M1 := Lib.hid hm1
          have Z7_3 := Z7_2.next up
          have Z8_3 := Z8_2.next up
          refine hK.out _ _ hS_3 (fun _ => ?_)
          clear hK K up hs1 hm1 hS_2 Z7_2 Z8_2
          try simp only [Act.put, List.getElem_toArray, List.getElem_cons_succ, List.getElem_cons_zero, List.setIfInBounds_toArray, List.set_cons_zero, List.set_cons_succ]
          refine wpAnyH_ready (rs := [9]) (by kernel_rfl) (by simp) ?_
          refine AllReadyH.cons rfl (fun K hK => ?_) ?_
          · simp only [List.getElem_toArray, List.getElem_cons_succ, List.getElem_cons_zero]
            go_simp
            go_at_call 14
            (with_reducible refine (O2.out _ hS_3.1).mono ?_)
            rintro e W4 ⟨v2, L2, rfl, hs2, hm2, up⟩
            obtain ⟨c2, d2, e2, rfl⟩ := hs2.val
            unfold setV
            have hS_4 : Below w.heap.size w W4 ∧ World.cell? W4 ⟨w.heap.size, 0, none⟩ = some (.int .u16 (x : Nat)) ∧ World.cell? W4 ⟨w.heap.size, 1, none⟩ = some (.int .u16 (y : Nat)) ∧ Box16 W4 w.heap.size x y := ⟨hS_3.1.trans (up.mono hS_3.1.size), cell_next hS_3.2.1 up, cell_next hS_3.2.2.1 up, hS_3.2.2.2.next up⟩
            have H2_4 := hs2.base hS_3.1.size
            have M2 := Lib.hid hm2
            have Z7_4 := Z7_3.next up
            have Z8_4 := Z8_3.next up
            have H1_4 := H1_3.next up
            refine hK.out _ _ hS_4 (fun _ => ?_)
            clear hK K up hs2 hm2 hS_3 Z7_3 Z8_3 H1_3
            try simp only [Act.put, List.getElem_toArray, List.getElem_cons_succ, List.getElem_cons_zero, List.setIfInBounds_toArray, List.set_cons_zero, List.set_cons_succ]
            refine wpAnyH_ready (rs := [12]) (by kernel_rfl) (by simp) ?_
            refine AllReadyH.cons rfl (fun K hK => ?_) AllReadyH.nil
            simp only [List.getElem_toArray, List.getElem_cons_succ, List.getElem_cons_zero]
            obtain ⟨q0, q1⟩ := Z7_4.cells
            have f0 : W4.frozen? ⟨b7, 0, none⟩ = false := by simp [World.frozen?, show W4.heap[b7]? = _ from Z7_4]
            have f1 : W4.frozen? ⟨b7, 1, none⟩ = false := by simp [World.frozen?, show W4.heap[b7]? = _ from Z7_4]
            go_simp
            obtain ⟨m1, m2⟩ := two_stores (x := .int .i64 (x : Nat)) (y := .slice c1 d1 e1) Z7_4
            have Y7_5 : BoxS _ b7 x (.slice c1 d1 e1) := m1
            have Z8_5 := Z8_4.kept m2 (fun e => NE (Option.some.inj e))
            have H1_5 := H1_4.kept m2 (.inr (fun e => Z7_4.not_row H1_4 e.symm))
            have H2_5 := H2_4.kept m2 (.inr (fun e => Z7_4.not_row H2_4 e.symm))
            have X_5 := hS_4.2.2.2.kept m2 (fun e => Nat.ne_of_lt n7 (Option.some.inj e))
            have hS_5 : Below w.heap.size w _ ∧ World.cell? _ ⟨w.heap.size, 0, none⟩ = some (.int .u16 (x : Nat)) ∧ World.cell? _ ⟨w.heap.size, 1, none⟩ = some (.int .u16 (y : Nat)) ∧ Box16 _ w.heap.size x y := ⟨hS_4.1.grown m2 hS_4.1.size (fun j e => by cases e; exact Nat.le_of_lt n7), X_5.cells.1, X_5.cells.2, X_5⟩
            refine hK.out _ _ hS_5 (fun _ => ?_)
            clear hK K q0 q1 f0 f1 m1 m2 hS_4 X_5 H1_4 H2_4 Z8_4 Z7_4
            generalize (W4.setCell ⟨b7, 0, none⟩ _).setCell ⟨b7, 1, none⟩ _ = W5 at *
            try simp only [Act.put, List.getElem_toArray, List.getElem_cons_succ, List.getElem_cons_zero, List.setIfInBounds_toArray, List.set_cons_zero, List.set_cons_succ]
            refine wpAnyH_ready (rs := [13]) (by kernel_rfl) (by simp) ?_
            refine AllReadyH.cons rfl (fun K hK => ?_) AllReadyH.nil
            simp only [List.getElem_toArray, List.getElem_cons_succ, List.getElem_cons_zero]
            obtain ⟨q0, q1⟩ := Z8_5.cells
            have f0 : W5.frozen? ⟨b8, 0, none⟩ = false := by simp [World.frozen?, show W5.heap[b8]? = _ from Z8_5]
            have f1 : W5.frozen? ⟨b8, 1, none⟩ = false := by simp [World.frozen?, show W5.heap[b8]? = _ from Z8_5]
            go_simp
            obtain ⟨m1, m2⟩ := two_stores (x := .int .i64 (y : Nat)) (y := .slice c2 d2 e2) Z8_5
            have Y8_6 : BoxS _ b8 y (.slice c2 d2 e2) := m1
            have Y7_6 := Y7_5.kept m2 (fun e => NE (Option.some.inj e).symm)
            have H1_6 := H1_5.kept m2 (.inr (fun e => Z8_5.not_row H1_5 e.symm))
            have H2_6 := H2_5.kept m2 (.inr (fun e => Z8_5.not_row H2_5 e.symm))
            have X_6 := hS_5.2.2.2.kept m2 (fun e => Nat.ne_of_lt n8 (Option.some.inj e))
            have hS_6 : Below w.heap.size w _ ∧ World.cell? _ ⟨w.heap.size, 0, none⟩ = some (.int .u16 (x : Nat)) ∧ World.cell? _ ⟨w.heap.size, 1, none⟩ = some (.int .u16 (y : Nat)) ∧ Box16 _ w.heap.size x y := ⟨hS_5.1.grown m2 hS_5.1.size (fun j e => by cases e; exact Nat.le_of_lt n8), X_6.cells.1, X_6.cells.2, X_6⟩
            refine hK.out _ _ hS_6 (fun _ => ?_)
            clear hK K q0 q1 f0 f1 m1 m2 hS_5 X_6 H1_5 H2_5 Z8_5 Y7_5
            generalize (W5.setCell ⟨b8, 0, none⟩ _).setCell ⟨b8, 1, none⟩ _ = W6 at *
            try simp only [Act.put, List.getElem_toArray, List.getElem_cons_succ, List.getElem_cons_zero, List.setIfInBounds_toArray, List.set_cons_zero, List.set_cons_succ]
            refine wpAnyH_done (by kernel_rfl) ?_ _
            exact ⟨b7, b8, c1, d1, e1, c2, d2, e2, L1, L2, rfl, ⟨hS_6.1, hS_6.2.2.2, Y7_6, Y8_6, H1_6, H2_6⟩, M1.out, M2.out⟩
          exact AllReadyH.nil
        exact AllReadyH.nil
      exact AllReadyH.nil
    exact AllReadyH.nil
  case rest =>
    rintro a' W ⟨b7, b8, c1, d1, e1, c2, d2, e2, L1, L2, rfl, two, M1, M2⟩
    have TW := Lib.hid two
    have HM1 := Lib.hid M1
    have HM2 := Lib.hid M2
    clear b0 hB1 O1 O2 two M1 M2
    simp only [Act.put, List.setIfInBounds_toArray, List.set_cons_zero, List.set_cons_succ]
    go_wp2
    go_loopw [9, 38] (fun v i wr => ∃ k : Nat, k ≤ la.length ∧ i = .int .i64 k ∧ Two w x y b7 b8 (.slice c1 d1 e1) (.slice c2 d2 e2) L1 L2 wr ∧ wr.ownsRow w.heap.size 3 1 v (ofF (la.take k) (x : Int)).length (iV (ofF (la.take k) (x : Int)))) (fun _ i _ => la.length - (intOf i).toNat)
    case atStart => exact ⟨0, by omega, rfl, TW.out, World.ownsRow_nil _ _ _ _⟩
    case round =>
      clear TW
      obtain ⟨k, hk, rfl, ht, hg⟩ := hrel
      have hGl := ofF_len la (x : Int) k hk
      by_cases hlt : k < la.length
      · obtain ⟨g, rfl, y0⟩ := HCA.out k hlt
        have y1 := cell_next y0 ht.below
        have hs := ofF_snoc la k (x : Int) hlt
        obtain ⟨r0, r1⟩ := ht.b16.cells
        clear y0
        have HS := Lib.hid hs
        clear hs
        generalize ofF (la.take k) (x : Int) = G at *
        generalize la.getD k 0 = c at *
        obtain ⟨a2, c3, rfl⟩ := own_slice hg
        have RA := Lib.hid (radd_any _ G c (x : Int) w.heap.size wr ht.below.size (by omega) hg)
        have HT2 := Lib.hid ht
        clear hg ht
        generalize hgl : G.length = gl at *
        have HGL := Lib.hid hgl
        clear hgl
        go_wp2_with (go_at_call 9; (with_reducible refine RA.out.mono ?_); rintro e w2 ⟨v', rfl, ho, hb⟩; obtain ⟨a3, c4, rfl⟩ := own_slice ho)
        go_roundw
        case rel => exact ⟨k + 1, by omega, by go_num, HT2.out.next hb, by rw [HS.out]; exact ho⟩
        case measure => simp [intOf]; omega
      · obtain rfl : k = la.length := by omega
        have hP : ofF la (x : Int) = nums L1 := nums_of HM1.out
        rw [List.take_length, hP] at hg
        clear hGl hP
        obtain ⟨a2, c3, rfl⟩ := own_slice hg
        have T2 := Lib.hid (PQ.mk ht hg)
        obtain ⟨l1, hl1⟩ : ∃ l1, l1 = (nums L1).length := ⟨_, rfl⟩
        rw [← hl1] at T2 ⊢
        have HL1 := Lib.hid hl1
        clear ht hg hl1
        go_wp2
        go_loopw [10, 51] (fun v i wr => ∃ k : Nat, k ≤ lb.length ∧ i = .int .i64 k ∧ PQ w x y b7 b8 (.slice c1 d1 e1) (.slice c2 d2 e2) L1 L2 (.slice a2 l1 c3) wr ∧ wr.ownsRow w.heap.size 3 1 v (ofF (lb.take k) (y : Int)).length (iV (ofF (lb.take k) (y : Int)))) (fun _ i _ => lb.length - (intOf i).toNat)
        case atStart => exact ⟨0, by omega, rfl, T2.out, World.ownsRow_nil _ _ _ _⟩
        case round =>
          clear T2
          obtain ⟨k, hk, rfl, ht, hg⟩ := hrel
          have hGl := ofF_len lb (y : Int) k hk
          by_cases hlt : k < lb.length
          · obtain ⟨g, rfl, y0⟩ := HCB.out k hlt
            have y1 := cell_next y0 ht.two.below
            have hs := ofF_snoc lb k (y : Int) hlt
            obtain ⟨r0, r1⟩ := ht.two.b16.cells
            clear y0
            have HS := Lib.hid hs
            clear hs
            generalize ofF (lb.take k) (y : Int) = G at *
            generalize lb.getD k 0 = c at *
            obtain ⟨a4, c4, rfl⟩ := own_slice hg
            have RA := Lib.hid (radd_any _ G c (y : Int) w.heap.size wr ht.two.below.size (by omega) hg)
            have HT2 := Lib.hid ht
            clear hg ht
            generalize hgl : G.length = gl at *
            have HGL := Lib.hid hgl
            clear hgl
            go_wp2_with (go_at_call 9; (with_reducible refine RA.out.mono ?_); rintro e w2 ⟨v', rfl, ho, hb⟩; obtain ⟨a3, c5, rfl⟩ := own_slice ho)
            go_roundw
            case rel => exact ⟨k + 1, by omega, by go_num, HT2.out.next hb, by rw [HS.out]; exact ho⟩
            case measure => simp [intOf]; omega
          · obtain rfl : k = lb.length := by omega
            have hP : ofF lb (y : Int) = nums L2 := nums_of HM2.out
            rw [List.take_length, hP] at hg
            clear hGl hP
            obtain ⟨a4, c4, rfl⟩ := own_slice hg
            have hl1 := HL1.out
            have hrow := ht.row
            rw [← hl1] at hrow
            obtain ⟨sm, hsm⟩ : ∃ sm, sm = decide (nums L1 = nums L2) := ⟨_, rfl⟩
            have hSA := same_any _ _ (nums L1) (nums L2) wr (ints_of_row (by rw [← hl1]; exact hrow)) (ints_of_row hg)
            rw [← hsm] at hSA
            have SA := Lib.hid hSA
            have T3 := Lib.hid ht
            have HSM := Lib.hid hsm
            clear hrow hSA ht hg hsm hl1
            generalize (nums L2).length = l2 at *
            go_wp2_with (go_at_call 15; (with_reducible refine SA.out.mono ?_); rintro e w2 ⟨rfl, hb⟩)
            have T4 := Lib.hid (T3.out.next hb)
            clear T3 hb SA
            obtain ⟨hh, hhh⟩ : ∃ hh, hh = hashX (fromL 0 L1) := ⟨_, rfl⟩
            have HHH := Lib.hid hhh
            clear hhh
            have SC := Lib.hid (fun (W : World) (h : PQ w x y b7 b8 (.slice c1 d1 e1) (.slice c2 d2 e2) L1 L2 (.slice a2 l1 c3) W) => show Calls Tryd.prog 21 #[.agg #[.int .i64 (x : Nat), .slice c1 d1 e1], .agg #[.int .i64 (y : Nat), .slice c2 d2 e2]] W (fun e W' => e = .returned (.bool sm) ∧ PQ w x y b7 b8 (.slice c1 d1 e1) (.slice c2 d2 e2) L1 L2 (.slice a2 l1 c3) W') from by
              have base := same_sets _ x _ y _ _ L1 L2 W h.two.set1 h.two.set2
              rw [same_nums L1 L2 h.two.set1.word h.two.set2.word, ← HSM.out] at base
              exact base.mono (by rintro e W' ⟨rfl, hb⟩; exact ⟨rfl, h.next hb⟩))
            have HC1 := Lib.hid (fun (W : World) (h : PQ w x y b7 b8 (.slice c1 d1 e1) (.slice c2 d2 e2) L1 L2 (.slice a2 l1 c3) W) => show Calls Tryd.prog 22 #[.agg #[.int .i64 (x : Nat), .slice c1 d1 e1]] W (fun e W' => e = .returned (.int .u64 (hh : Nat)) ∧ PQ w x y b7 b8 (.slice c1 d1 e1) (.slice c2 d2 e2) L1 L2 (.slice a2 l1 c3) W') from by
              have base := hash_any _ x _ L1 W h.two.set1
              rw [← HHH.out] at base
              exact base.mono (by rintro e W' ⟨rfl, hb⟩; exact ⟨rfl, h.next hb⟩))
            have HC2 := Lib.hid (fun (W : World) (hsm : sm = true) (hxy : x = y) (h : PQ w x y b7 b8 (.slice c1 d1 e1) (.slice c2 d2 e2) L1 L2 (.slice a2 l1 c3) W) => show Calls Tryd.prog 22 #[.agg #[.int .i64 (y : Nat), .slice c2 d2 e2]] W (fun e W' => e = .returned (.int .u64 (hh : Nat)) ∧ PQ w x y b7 b8 (.slice c1 d1 e1) (.slice c2 d2 e2) L1 L2 (.slice a2 l1 c3) W') from by
              have base := hash_any _ y _ L2 W h.two.set2
              have hn : nums L1 = nums L2 := of_decide_eq_true (by rw [← HSM.out, hsm])
              have hl : L1.length = L2.length := by rw [h.two.set1.len, h.two.set2.len, hxy]
              rw [← words_eq hl h.two.set1.word h.two.set2.word hn, ← HHH.out] at base
              exact base.mono (by rintro e W' ⟨rfl, hb⟩; exact ⟨rfl, h.next hb⟩))
            have PC := Lib.hid (fun (W : World) (h : PQ w x y b7 b8 (.slice c1 d1 e1) (.slice c2 d2 e2) L1 L2 (.slice a2 l1 c3) W) => h.cells)
            have T5 := Lib.hid (T4.out.next ((Below.refl _ _).drew))
            refine wp_monoR (R := fun a a' W => ∃ (u65 u66 u67 u68 u69 u70 u71 u72 u73 u74 u75 u76 u77 u78 u79 u80 u81 u82 u83 u84 u85 : Value), a' = (Act.put (Act.put (Act.put (Act.put (Act.put (Act.put (Act.put (Act.put (Act.put (Act.put (Act.put (Act.put (Act.put (Act.put (Act.put (Act.put (Act.put (Act.put (Act.put (Act.put (Act.put (Act.put a (some 65) u65) (some 66) u66) (some 67) u67) (some 68) u68) (some 69) u69) (some 70) u70) (some 71) u71) (some 72) u72) (some 73) u73) (some 74) u74) (some 75) u75) (some 76) u76) (some 77) u77) (some 78) u78) (some 79) u79) (some 80) u80) (some 81) u81) (some 82) u82) (some 83) u83) (some 84) u84) (some 85) u85) (some 86) (.bool false)) ∧ PQ w x y b7 b8 (.slice c1 d1 e1) (.slice c2 d2 e2) L1 L2 (.slice a2 l1 c3) W) ?reg2 ?rest2
            case reg2 =>
              cases sm with
              | false =>
                refine wp_region_held_drew (S := (fun W => PQ w x y b7 b8 (.slice c1 d1 e1) (.slice c2 d2 e2) L1 L2 (.slice a2 l1 c3) W ∧ W.cell? ⟨w.heap.size, 0, none⟩ = some (.int .u16 (x : Nat)) ∧ W.cell? ⟨w.heap.size, 1, none⟩ = some (.int .u16 (y : Nat)) ∧ W.cell? ⟨b7, 0, none⟩ = some (.int .i64 (x : Nat)) ∧ W.cell? ⟨b7, 1, none⟩ = some (.slice c1 d1 e1) ∧ W.cell? ⟨b8, 0, none⟩ = some (.int .i64 (y : Nat)) ∧ W.cell? ⟨b8, 1, none⟩ = some (.slice c2 d2 e2))) (by kernel_rfl) ⟨T5.out, PC.out _ T5.out⟩ (fun hS => ?_)
                clear T4 T5
                refine wpAnyH_take (i := 0) (v := ?_) rfl (by kernel_rfl) (by kernel_rfl) (by kernel_rfl) (fun _ _ _ h => h) (Or.inl ⟨by rfl, ?_⟩) hS ?_
                rotate_left
                · (intro W hSw; (try dsimp only at hSw); go_simp <;> with_reducible rfl)
                simp only [Act.put, List.getElem_toArray, List.getElem_cons_succ, List.getElem_cons_zero, List.setIfInBounds_toArray, List.set_cons_zero, List.set_cons_succ]
                refine wpAnyH_take (i := 1) (v := ?_) rfl (by kernel_rfl) (by kernel_rfl) (by kernel_rfl) (fun _ _ _ h => h) (Or.inl ⟨by rfl, ?_⟩) hS ?_
                rotate_left
                · (intro W hSw; (try dsimp only at hSw); go_simp <;> with_reducible rfl)
                simp only [Act.put, List.getElem_toArray, List.getElem_cons_succ, List.getElem_cons_zero, List.setIfInBounds_toArray, List.set_cons_zero, List.set_cons_succ]
                refine wpAnyH_take (i := 3) (v := ?_) rfl (by kernel_rfl) (by kernel_rfl) (by kernel_rfl) (fun _ _ _ h => h) (Or.inl ⟨by rfl, ?_⟩) hS ?_
                rotate_left
                · (intro W hSw; (try dsimp only at hSw); go_simp <;> with_reducible rfl)
                simp only [Act.put, List.getElem_toArray, List.getElem_cons_succ, List.getElem_cons_zero, List.setIfInBounds_toArray, List.set_cons_zero, List.set_cons_succ]
                refine wpAnyH_ready (rs := [2]) (by kernel_rfl) (by simp) ?_
                refine AllReadyH.cons rfl (fun K hK => ?_) AllReadyH.nil
                simp only [List.getElem_toArray, List.getElem_cons_succ, List.getElem_cons_zero]
                go_simp
                go_at_call 21
                (with_reducible refine (SC.out _ hS.1).mono ?_)
                rintro e w11 ⟨rfl, hp11⟩
                refine hK.out _ _ ⟨hp11, PC.out _ hp11⟩ (fun hS => ?_)
                clear hK K
                try simp only [Act.put, List.getElem_toArray, List.getElem_cons_succ, List.getElem_cons_zero, List.setIfInBounds_toArray, List.set_cons_zero, List.set_cons_succ]
                refine wpAnyH_take (i := 4) (v := ?_) rfl (by kernel_rfl) (by kernel_rfl) (by kernel_rfl) (fun _ _ _ h => h) (Or.inl ⟨by rfl, ?_⟩) hS ?_
                rotate_left
                · (intro W hSw; (try dsimp only at hSw); go_simp <;> with_reducible rfl)
                simp only [Act.put, List.getElem_toArray, List.getElem_cons_succ, List.getElem_cons_zero, List.setIfInBounds_toArray, List.set_cons_zero, List.set_cons_succ]
                refine wpAnyH_take (i := 5) (v := ?_) rfl (by kernel_rfl) (by kernel_rfl) (by kernel_rfl) (fun _ _ _ h => h) (Or.inl ⟨by rfl, ?_⟩) hS ?_
                rotate_left
                · (intro W hSw; (try dsimp only at hSw); go_simp <;> with_reducible rfl)
                simp only [Act.put, List.getElem_toArray, List.getElem_cons_succ, List.getElem_cons_zero, List.setIfInBounds_toArray, List.set_cons_zero, List.set_cons_succ]
                refine wpAnyH_take (i := 6) (v := ?_) rfl (by kernel_rfl) (by kernel_rfl) (by kernel_rfl) (fun _ _ _ h => h) (Or.inl ⟨by rfl, ?_⟩) hS ?_
                rotate_left
                · (intro W hSw; (try dsimp only at hSw); go_simp <;> with_reducible rfl)
                simp only [Act.put, List.getElem_toArray, List.getElem_cons_succ, List.getElem_cons_zero, List.setIfInBounds_toArray, List.set_cons_zero, List.set_cons_succ]
                refine wpAnyH_take (i := 7) (v := ?_) rfl (by kernel_rfl) (by kernel_rfl) (by kernel_rfl) (fun _ _ _ h => h) (Or.inl ⟨by rfl, ?_⟩) hS ?_
                rotate_left
                · (intro W hSw; (try dsimp only at hSw); go_simp <;> with_reducible rfl)
                simp only [Act.put, List.getElem_toArray, List.getElem_cons_succ, List.getElem_cons_zero, List.setIfInBounds_toArray, List.set_cons_zero, List.set_cons_succ]
                refine wpAnyH_take (i := 8) (v := undef) rfl (by kernel_rfl) (by kernel_rfl) (by kernel_rfl) (fun _ _ _ h => h) (Or.inr ⟨by rfl, rfl⟩) hS ?_
                simp only [Act.put, List.getElem_toArray, List.getElem_cons_succ, List.getElem_cons_zero, List.setIfInBounds_toArray, List.set_cons_zero, List.set_cons_succ]
                refine wpAnyH_take (i := 9) (v := undef) rfl (by kernel_rfl) (by kernel_rfl) (by kernel_rfl) (fun _ _ _ h => h) (Or.inr ⟨by rfl, rfl⟩) hS ?_
                simp only [Act.put, List.getElem_toArray, List.getElem_cons_succ, List.getElem_cons_zero, List.setIfInBounds_toArray, List.set_cons_zero, List.set_cons_succ]
                refine wpAnyH_take (i := 10) (v := undef) rfl (by kernel_rfl) (by kernel_rfl) (by kernel_rfl) (fun _ _ _ h => h) (Or.inr ⟨by rfl, rfl⟩) hS ?_
                simp only [Act.put, List.getElem_toArray, List.getElem_cons_succ, List.getElem_cons_zero, List.setIfInBounds_toArray, List.set_cons_zero, List.set_cons_succ]
                refine wpAnyH_take (i := 11) (v := undef) rfl (by kernel_rfl) (by kernel_rfl) (by kernel_rfl) (fun _ _ _ h => h) (Or.inr ⟨by rfl, rfl⟩) hS ?_
                simp only [Act.put, List.getElem_toArray, List.getElem_cons_succ, List.getElem_cons_zero, List.setIfInBounds_toArray, List.set_cons_zero, List.set_cons_succ]
                refine wpAnyH_take (i := 12) (v := undef) rfl (by kernel_rfl) (by kernel_rfl) (by kernel_rfl) (fun _ _ _ h => h) (Or.inr ⟨by rfl, rfl⟩) hS ?_
                simp only [Act.put, List.getElem_toArray, List.getElem_cons_succ, List.getElem_cons_zero, List.setIfInBounds_toArray, List.set_cons_zero, List.set_cons_succ]
                refine wpAnyH_take (i := 13) (v := ?_) rfl (by kernel_rfl) (by kernel_rfl) (by kernel_rfl) (fun _ _ _ h => h) (Or.inl ⟨by rfl, ?_⟩) hS ?_
                rotate_left
                · (intro W hSw; (try dsimp only at hSw); go_simp <;> with_reducible rfl)
                simp only [Act.put, List.getElem_toArray, List.getElem_cons_succ, List.getElem_cons_zero, List.setIfInBounds_toArray, List.set_cons_zero, List.set_cons_succ]
                refine wpAnyH_take (i := 14) (v := ?_) rfl (by kernel_rfl) (by kernel_rfl) (by kernel_rfl) (fun _ _ _ h => h) (Or.inl ⟨by rfl, ?_⟩) hS ?_
                rotate_left
                · (intro W hSw; (try dsimp only at hSw); go_simp <;> with_reducible rfl)
                simp only [Act.put, List.getElem_toArray, List.getElem_cons_succ, List.getElem_cons_zero, List.setIfInBounds_toArray, List.set_cons_zero, List.set_cons_succ]
                refine wpAnyH_take (i := 15) (v := undef) rfl (by kernel_rfl) (by kernel_rfl) (by kernel_rfl) (fun _ _ _ h => h) (Or.inr ⟨by rfl, rfl⟩) hS ?_
                simp only [Act.put, List.getElem_toArray, List.getElem_cons_succ, List.getElem_cons_zero, List.setIfInBounds_toArray, List.set_cons_zero, List.set_cons_succ]
                refine wpAnyH_take (i := 16) (v := undef) rfl (by kernel_rfl) (by kernel_rfl) (by kernel_rfl) (fun _ _ _ h => h) (Or.inr ⟨by rfl, rfl⟩) hS ?_
                simp only [Act.put, List.getElem_toArray, List.getElem_cons_succ, List.getElem_cons_zero, List.setIfInBounds_toArray, List.set_cons_zero, List.set_cons_succ]
                refine wpAnyH_take (i := 17) (v := undef) rfl (by kernel_rfl) (by kernel_rfl) (by kernel_rfl) (fun _ _ _ h => h) (Or.inr ⟨by rfl, rfl⟩) hS ?_
                simp only [Act.put, List.getElem_toArray, List.getElem_cons_succ, List.getElem_cons_zero, List.setIfInBounds_toArray, List.set_cons_zero, List.set_cons_succ]
                refine wpAnyH_take (i := 18) (v := undef) rfl (by kernel_rfl) (by kernel_rfl) (by kernel_rfl) (fun _ _ _ h => h) (Or.inr ⟨by rfl, rfl⟩) hS ?_
                simp only [Act.put, List.getElem_toArray, List.getElem_cons_succ, List.getElem_cons_zero, List.setIfInBounds_toArray, List.set_cons_zero, List.set_cons_succ]
                refine wpAnyH_take (i := 19) (v := undef) rfl (by kernel_rfl) (by kernel_rfl) (by kernel_rfl) (fun _ _ _ h => h) (Or.inr ⟨by rfl, rfl⟩) hS ?_
                simp only [Act.put, List.getElem_toArray, List.getElem_cons_succ, List.getElem_cons_zero, List.setIfInBounds_toArray, List.set_cons_zero, List.set_cons_succ]
                refine wpAnyH_take (i := 20) (v := ?_) rfl (by kernel_rfl) (by kernel_rfl) (by kernel_rfl) (fun _ _ _ h => h) (Or.inl ⟨by rfl, ?_⟩) hS ?_
                rotate_left
                · (intro W hSw; (try dsimp only at hSw); go_simp <;> with_reducible rfl)
                simp only [Act.put, List.getElem_toArray, List.getElem_cons_succ, List.getElem_cons_zero, List.setIfInBounds_toArray, List.set_cons_zero, List.set_cons_succ]
                refine wpAnyH_take (i := 21) (v := ?_) rfl (by kernel_rfl) (by kernel_rfl) (by kernel_rfl) (fun _ _ _ h => h) (Or.inl ⟨by rfl, ?_⟩) hS ?_
                rotate_left
                · (intro W hSw; (try dsimp only at hSw); go_simp <;> with_reducible rfl)
                simp only [Act.put, List.getElem_toArray, List.getElem_cons_succ, List.getElem_cons_zero, List.setIfInBounds_toArray, List.set_cons_zero, List.set_cons_succ]
                refine wpAnyH_done (by kernel_rfl) ?_ _
                exact ⟨.agg #[.int .i64 (x : Nat), .slice c1 d1 e1], .agg #[.int .i64 (y : Nat), .slice c2 d2 e2], .bool false, .bool false, .bool false, .bool false, .bool false, .bool false, undef, undef, undef, undef, undef, .bool false, .bool false, undef, undef, undef, undef, undef, .bool false, rfl, hS.1⟩
              | true =>
                by_cases hxy : x = y
                · have exy : ((x : Int) == (y : Int)) = true := by simp; omega
                  have HXY := Lib.hid hxy
                  clear hxy
                  refine wp_region_held_drew (S := (fun W => PQ w x y b7 b8 (.slice c1 d1 e1) (.slice c2 d2 e2) L1 L2 (.slice a2 l1 c3) W ∧ W.cell? ⟨w.heap.size, 0, none⟩ = some (.int .u16 (x : Nat)) ∧ W.cell? ⟨w.heap.size, 1, none⟩ = some (.int .u16 (y : Nat)) ∧ W.cell? ⟨b7, 0, none⟩ = some (.int .i64 (x : Nat)) ∧ W.cell? ⟨b7, 1, none⟩ = some (.slice c1 d1 e1) ∧ W.cell? ⟨b8, 0, none⟩ = some (.int .i64 (y : Nat)) ∧ W.cell? ⟨b8, 1, none⟩ = some (.slice c2 d2 e2))) (by kernel_rfl) ⟨T5.out, PC.out _ T5.out⟩ (fun hS => ?_)
                  clear T4 T5
                  refine wpAnyH_take (i := 0) (v := ?_) rfl (by kernel_rfl) (by kernel_rfl) (by kernel_rfl) (fun _ _ _ h => h) (Or.inl ⟨by rfl, ?_⟩) hS ?_
                  rotate_left
                  · (intro W hSw; (try dsimp only at hSw); go_simp <;> with_reducible rfl)
                  simp only [Act.put, List.getElem_toArray, List.getElem_cons_succ, List.getElem_cons_zero, List.setIfInBounds_toArray, List.set_cons_zero, List.set_cons_succ]
                  refine wpAnyH_take (i := 1) (v := ?_) rfl (by kernel_rfl) (by kernel_rfl) (by kernel_rfl) (fun _ _ _ h => h) (Or.inl ⟨by rfl, ?_⟩) hS ?_
                  rotate_left
                  · (intro W hSw; (try dsimp only at hSw); go_simp <;> with_reducible rfl)
                  simp only [Act.put, List.getElem_toArray, List.getElem_cons_succ, List.getElem_cons_zero, List.setIfInBounds_toArray, List.set_cons_zero, List.set_cons_succ]
                  refine wpAnyH_take (i := 3) (v := ?_) rfl (by kernel_rfl) (by kernel_rfl) (by kernel_rfl) (fun _ _ _ h => h) (Or.inl ⟨by rfl, ?_⟩) hS ?_
                  rotate_left
                  · (intro W hSw; (try dsimp only at hSw); go_simp <;> with_reducible rfl)
                  simp only [Act.put, List.getElem_toArray, List.getElem_cons_succ, List.getElem_cons_zero, List.setIfInBounds_toArray, List.set_cons_zero, List.set_cons_succ]
                  refine wpAnyH_ready (rs := [2]) (by kernel_rfl) (by simp) ?_
                  refine AllReadyH.cons rfl (fun K hK => ?_) AllReadyH.nil
                  simp only [List.getElem_toArray, List.getElem_cons_succ, List.getElem_cons_zero]
                  go_simp
                  go_at_call 21
                  (with_reducible refine (SC.out _ hS.1).mono ?_)
                  rintro e w11 ⟨rfl, hp11⟩
                  refine hK.out _ _ ⟨hp11, PC.out _ hp11⟩ (fun hS => ?_)
                  clear hK K
                  try simp only [Act.put, List.getElem_toArray, List.getElem_cons_succ, List.getElem_cons_zero, List.setIfInBounds_toArray, List.set_cons_zero, List.set_cons_succ]
                  refine wpAnyH_take (i := 4) (v := ?_) rfl (by kernel_rfl) (by kernel_rfl) (by kernel_rfl) (fun _ _ _ h => h) (Or.inl ⟨by rfl, ?_⟩) hS ?_
                  rotate_left
                  · (intro W hSw; (try dsimp only at hSw); go_simp <;> with_reducible rfl)
                  simp only [Act.put, List.getElem_toArray, List.getElem_cons_succ, List.getElem_cons_zero, List.setIfInBounds_toArray, List.set_cons_zero, List.set_cons_succ]
                  refine wpAnyH_take (i := 5) (v := ?_) rfl (by kernel_rfl) (by kernel_rfl) (by kernel_rfl) (fun _ _ _ h => h) (Or.inl ⟨by rfl, ?_⟩) hS ?_
                  rotate_left
                  · (intro W hSw; (try dsimp only at hSw); go_simp <;> with_reducible rfl)
                  simp only [Act.put, List.getElem_toArray, List.getElem_cons_succ, List.getElem_cons_zero, List.setIfInBounds_toArray, List.set_cons_zero, List.set_cons_succ]
                  refine wpAnyH_take (i := 6) (v := ?_) rfl (by kernel_rfl) (by kernel_rfl) (by kernel_rfl) (fun _ _ _ h => h) (Or.inl ⟨by rfl, ?_⟩) hS ?_
                  rotate_left
                  · (intro W hSw; (try dsimp only at hSw); go_simp <;> with_reducible rfl)
                  simp only [Act.put, List.getElem_toArray, List.getElem_cons_succ, List.getElem_cons_zero, List.setIfInBounds_toArray, List.set_cons_zero, List.set_cons_succ]
                  refine wpAnyH_take (i := 7) (v := ?_) rfl (by kernel_rfl) (by kernel_rfl) (by kernel_rfl) (fun _ _ _ h => h) (Or.inl ⟨by rfl, ?_⟩) hS ?_
                  rotate_left
                  · (intro W hSw; (try dsimp only at hSw); go_simp <;> with_reducible rfl)
                  simp only [Act.put, List.getElem_toArray, List.getElem_cons_succ, List.getElem_cons_zero, List.setIfInBounds_toArray, List.set_cons_zero, List.set_cons_succ]
                  refine wpAnyH_take (i := 8) (v := ?_) rfl (by kernel_rfl) (by kernel_rfl) (by kernel_rfl) (fun _ _ _ h => h) (Or.inl ⟨by rfl, ?_⟩) hS ?_
                  rotate_left
                  · (intro W hSw; (try dsimp only at hSw); go_simp <;> with_reducible rfl)
                  simp only [Act.put, List.getElem_toArray, List.getElem_cons_succ, List.getElem_cons_zero, List.setIfInBounds_toArray, List.set_cons_zero, List.set_cons_succ]
                  refine wpAnyH_take (i := 9) (v := ?_) rfl (by kernel_rfl) (by kernel_rfl) (by kernel_rfl) (fun _ _ _ h => h) (Or.inl ⟨by rfl, ?_⟩) hS ?_
                  rotate_left
                  · (intro W hSw; (try dsimp only at hSw); go_simp <;> with_reducible rfl)
                  simp only [Act.put, List.getElem_toArray, List.getElem_cons_succ, List.getElem_cons_zero, List.setIfInBounds_toArray, List.set_cons_zero, List.set_cons_succ]
                  refine wpAnyH_take (i := 10) (v := ?_) rfl (by kernel_rfl) (by kernel_rfl) (by kernel_rfl) (fun _ _ _ h => h) (Or.inl ⟨by rfl, ?_⟩) hS ?_
                  rotate_left
                  · (intro W hSw; (try dsimp only at hSw); go_simp <;> with_reducible rfl)
                  simp only [Act.put, List.getElem_toArray, List.getElem_cons_succ, List.getElem_cons_zero, List.setIfInBounds_toArray, List.set_cons_zero, List.set_cons_succ]
                  refine wpAnyH_take (i := 11) (v := ?_) rfl (by kernel_rfl) (by kernel_rfl) (by kernel_rfl) (fun _ _ _ h => h) (Or.inl ⟨by rfl, ?_⟩) hS ?_
                  rotate_left
                  · (intro W hSw; (try dsimp only at hSw); go_simp <;> with_reducible rfl)
                  simp only [Act.put, List.getElem_toArray, List.getElem_cons_succ, List.getElem_cons_zero, List.setIfInBounds_toArray, List.set_cons_zero, List.set_cons_succ]
                  refine wpAnyH_take (i := 12) (v := ?_) rfl (by kernel_rfl) (by kernel_rfl) (by kernel_rfl) (fun _ _ _ h => h) (Or.inl ⟨by rfl, ?_⟩) hS ?_
                  rotate_left
                  · (intro W hSw; (try dsimp only at hSw); go_simp <;> with_reducible rfl)
                  simp only [Act.put, List.getElem_toArray, List.getElem_cons_succ, List.getElem_cons_zero, List.setIfInBounds_toArray, List.set_cons_zero, List.set_cons_succ]
                  refine wpAnyH_take (i := 13) (v := ?_) rfl (by kernel_rfl) (by kernel_rfl) (by kernel_rfl) (fun _ _ _ h => h) (Or.inl ⟨by rfl, ?_⟩) hS ?_
                  rotate_left
                  · (intro W hSw; (try dsimp only at hSw); go_simp <;> with_reducible rfl)
                  simp only [Act.put, List.getElem_toArray, List.getElem_cons_succ, List.getElem_cons_zero, List.setIfInBounds_toArray, List.set_cons_zero, List.set_cons_succ]
                  refine wpAnyH_take (i := 14) (v := ?_) rfl (by kernel_rfl) (by kernel_rfl) (by kernel_rfl) (fun _ _ _ h => h) (Or.inl ⟨by rfl, ?_⟩) hS ?_
                  rotate_left
                  · (intro W hSw; (try dsimp only at hSw); go_simp <;> with_reducible rfl)
                  simp only [Act.put, List.getElem_toArray, List.getElem_cons_succ, List.getElem_cons_zero, List.setIfInBounds_toArray, List.set_cons_zero, List.set_cons_succ]
                  refine wpAnyH_take (i := 15) (v := ?_) rfl (by kernel_rfl) (by kernel_rfl) (by kernel_rfl) (fun _ _ _ h => h) (Or.inl ⟨by rfl, ?_⟩) hS ?_
                  rotate_left
                  · (intro W hSw; (try dsimp only at hSw); go_simp <;> with_reducible rfl)
                  simp only [Act.put, List.getElem_toArray, List.getElem_cons_succ, List.getElem_cons_zero, List.setIfInBounds_toArray, List.set_cons_zero, List.set_cons_succ]
                  refine wpAnyH_take (i := 17) (v := ?_) rfl (by kernel_rfl) (by kernel_rfl) (by kernel_rfl) (fun _ _ _ h => h) (Or.inl ⟨by rfl, ?_⟩) hS ?_
                  rotate_left
                  · (intro W hSw; (try dsimp only at hSw); go_simp <;> with_reducible rfl)
                  simp only [Act.put, List.getElem_toArray, List.getElem_cons_succ, List.getElem_cons_zero, List.setIfInBounds_toArray, List.set_cons_zero, List.set_cons_succ]
                  refine wpAnyH_ready (rs := [16]) (by kernel_rfl) (by simp) ?_
                  refine AllReadyH.cons rfl (fun K hK => ?_) AllReadyH.nil
                  simp only [List.getElem_toArray, List.getElem_cons_succ, List.getElem_cons_zero]
                  go_simp
                  go_at_call 22
                  (with_reducible refine (HC1.out _ hS.1).mono ?_)
                  rintro e w12 ⟨rfl, hp12⟩
                  refine hK.out _ _ ⟨hp12, PC.out _ hp12⟩ (fun hS => ?_)
                  clear hK K
                  try simp only [Act.put, List.getElem_toArray, List.getElem_cons_succ, List.getElem_cons_zero, List.setIfInBounds_toArray, List.set_cons_zero, List.set_cons_succ]
                  refine wpAnyH_ready (rs := [18]) (by kernel_rfl) (by simp) ?_
                  refine AllReadyH.cons rfl (fun K hK => ?_) AllReadyH.nil
                  simp only [List.getElem_toArray, List.getElem_cons_succ, List.getElem_cons_zero]
                  go_simp
                  go_at_call 22
                  (with_reducible refine (HC2.out _ rfl HXY.out hS.1).mono ?_)
                  rintro e w13 ⟨rfl, hp13⟩
                  refine hK.out _ _ ⟨hp13, PC.out _ hp13⟩ (fun hS => ?_)
                  clear hK K
                  try simp only [Act.put, List.getElem_toArray, List.getElem_cons_succ, List.getElem_cons_zero, List.setIfInBounds_toArray, List.set_cons_zero, List.set_cons_succ]
                  refine wpAnyH_take (i := 19) (v := ?_) rfl (by kernel_rfl) (by kernel_rfl) (by kernel_rfl) (fun _ _ _ h => h) (Or.inl ⟨by rfl, ?_⟩) hS ?_
                  rotate_left
                  · (intro W hSw; (try dsimp only at hSw); go_simp <;> with_reducible rfl)
                  simp only [Act.put, List.getElem_toArray, List.getElem_cons_succ, List.getElem_cons_zero, List.setIfInBounds_toArray, List.set_cons_zero, List.set_cons_succ]
                  refine wpAnyH_take (i := 20) (v := ?_) rfl (by kernel_rfl) (by kernel_rfl) (by kernel_rfl) (fun _ _ _ h => h) (Or.inl ⟨by rfl, ?_⟩) hS ?_
                  rotate_left
                  · (intro W hSw; (try dsimp only at hSw); go_simp <;> with_reducible rfl)
                  simp only [Act.put, List.getElem_toArray, List.getElem_cons_succ, List.getElem_cons_zero, List.setIfInBounds_toArray, List.set_cons_zero, List.set_cons_succ]
                  refine wpAnyH_take (i := 21) (v := ?_) rfl (by kernel_rfl) (by kernel_rfl) (by kernel_rfl) (fun _ _ _ h => h) (Or.inl ⟨by rfl, ?_⟩) hS ?_
                  rotate_left
                  · (intro W hSw; (try dsimp only at hSw); go_simp <;> with_reducible rfl)
                  simp only [Act.put, List.getElem_toArray, List.getElem_cons_succ, List.getElem_cons_zero, List.setIfInBounds_toArray, List.set_cons_zero, List.set_cons_succ]
                  refine wpAnyH_done (by kernel_rfl) ?_ _
                  exact ⟨.agg #[.int .i64 (x : Nat), .slice c1 d1 e1], .agg #[.int .i64 (y : Nat), .slice c2 d2 e2], .bool true, .bool true, .bool false, .bool false, .bool true, .bool true, .pointer (some ⟨w.heap.size, 0, none⟩), .int .u16 (x : Nat), .pointer (some ⟨w.heap.size, 1, none⟩), .int .u16 (y : Nat), .bool true, .bool true, .bool true, .agg #[.int .i64 (x : Nat), .slice c1 d1 e1], .int .u64 (hh : Nat), .agg #[.int .i64 (y : Nat), .slice c2 d2 e2], .int .u64 (hh : Nat), .bool false, .bool false, rfl, hS.1⟩
                · have exy : ((x : Int) == (y : Int)) = false := by simp; omega
                  refine wp_region_held_drew (S := (fun W => PQ w x y b7 b8 (.slice c1 d1 e1) (.slice c2 d2 e2) L1 L2 (.slice a2 l1 c3) W ∧ W.cell? ⟨w.heap.size, 0, none⟩ = some (.int .u16 (x : Nat)) ∧ W.cell? ⟨w.heap.size, 1, none⟩ = some (.int .u16 (y : Nat)) ∧ W.cell? ⟨b7, 0, none⟩ = some (.int .i64 (x : Nat)) ∧ W.cell? ⟨b7, 1, none⟩ = some (.slice c1 d1 e1) ∧ W.cell? ⟨b8, 0, none⟩ = some (.int .i64 (y : Nat)) ∧ W.cell? ⟨b8, 1, none⟩ = some (.slice c2 d2 e2))) (by kernel_rfl) ⟨T5.out, PC.out _ T5.out⟩ (fun hS => ?_)
                  clear T4 T5
                  refine wpAnyH_take (i := 0) (v := ?_) rfl (by kernel_rfl) (by kernel_rfl) (by kernel_rfl) (fun _ _ _ h => h) (Or.inl ⟨by rfl, ?_⟩) hS ?_
                  rotate_left
                  · (intro W hSw; (try dsimp only at hSw); go_simp <;> with_reducible rfl)
                  simp only [Act.put, List.getElem_toArray, List.getElem_cons_succ, List.getElem_cons_zero, List.setIfInBounds_toArray, List.set_cons_zero, List.set_cons_succ]
                  refine wpAnyH_take (i := 1) (v := ?_) rfl (by kernel_rfl) (by kernel_rfl) (by kernel_rfl) (fun _ _ _ h => h) (Or.inl ⟨by rfl, ?_⟩) hS ?_
                  rotate_left
                  · (intro W hSw; (try dsimp only at hSw); go_simp <;> with_reducible rfl)
                  simp only [Act.put, List.getElem_toArray, List.getElem_cons_succ, List.getElem_cons_zero, List.setIfInBounds_toArray, List.set_cons_zero, List.set_cons_succ]
                  refine wpAnyH_take (i := 3) (v := ?_) rfl (by kernel_rfl) (by kernel_rfl) (by kernel_rfl) (fun _ _ _ h => h) (Or.inl ⟨by rfl, ?_⟩) hS ?_
                  rotate_left
                  · (intro W hSw; (try dsimp only at hSw); go_simp <;> with_reducible rfl)
                  simp only [Act.put, List.getElem_toArray, List.getElem_cons_succ, List.getElem_cons_zero, List.setIfInBounds_toArray, List.set_cons_zero, List.set_cons_succ]
                  refine wpAnyH_ready (rs := [2]) (by kernel_rfl) (by simp) ?_
                  refine AllReadyH.cons rfl (fun K hK => ?_) AllReadyH.nil
                  simp only [List.getElem_toArray, List.getElem_cons_succ, List.getElem_cons_zero]
                  go_simp
                  go_at_call 21
                  (with_reducible refine (SC.out _ hS.1).mono ?_)
                  rintro e w11 ⟨rfl, hp11⟩
                  refine hK.out _ _ ⟨hp11, PC.out _ hp11⟩ (fun hS => ?_)
                  clear hK K
                  try simp only [Act.put, List.getElem_toArray, List.getElem_cons_succ, List.getElem_cons_zero, List.setIfInBounds_toArray, List.set_cons_zero, List.set_cons_succ]
                  refine wpAnyH_take (i := 4) (v := ?_) rfl (by kernel_rfl) (by kernel_rfl) (by kernel_rfl) (fun _ _ _ h => h) (Or.inl ⟨by rfl, ?_⟩) hS ?_
                  rotate_left
                  · (intro W hSw; (try dsimp only at hSw); go_simp <;> with_reducible rfl)
                  simp only [Act.put, List.getElem_toArray, List.getElem_cons_succ, List.getElem_cons_zero, List.setIfInBounds_toArray, List.set_cons_zero, List.set_cons_succ]
                  refine wpAnyH_take (i := 5) (v := ?_) rfl (by kernel_rfl) (by kernel_rfl) (by kernel_rfl) (fun _ _ _ h => h) (Or.inl ⟨by rfl, ?_⟩) hS ?_
                  rotate_left
                  · (intro W hSw; (try dsimp only at hSw); go_simp <;> with_reducible rfl)
                  simp only [Act.put, List.getElem_toArray, List.getElem_cons_succ, List.getElem_cons_zero, List.setIfInBounds_toArray, List.set_cons_zero, List.set_cons_succ]
                  refine wpAnyH_take (i := 6) (v := ?_) rfl (by kernel_rfl) (by kernel_rfl) (by kernel_rfl) (fun _ _ _ h => h) (Or.inl ⟨by rfl, ?_⟩) hS ?_
                  rotate_left
                  · (intro W hSw; (try dsimp only at hSw); go_simp <;> with_reducible rfl)
                  simp only [Act.put, List.getElem_toArray, List.getElem_cons_succ, List.getElem_cons_zero, List.setIfInBounds_toArray, List.set_cons_zero, List.set_cons_succ]
                  refine wpAnyH_take (i := 7) (v := ?_) rfl (by kernel_rfl) (by kernel_rfl) (by kernel_rfl) (fun _ _ _ h => h) (Or.inl ⟨by rfl, ?_⟩) hS ?_
                  rotate_left
                  · (intro W hSw; (try dsimp only at hSw); go_simp <;> with_reducible rfl)
                  simp only [Act.put, List.getElem_toArray, List.getElem_cons_succ, List.getElem_cons_zero, List.setIfInBounds_toArray, List.set_cons_zero, List.set_cons_succ]
                  refine wpAnyH_take (i := 8) (v := ?_) rfl (by kernel_rfl) (by kernel_rfl) (by kernel_rfl) (fun _ _ _ h => h) (Or.inl ⟨by rfl, ?_⟩) hS ?_
                  rotate_left
                  · (intro W hSw; (try dsimp only at hSw); go_simp <;> with_reducible rfl)
                  simp only [Act.put, List.getElem_toArray, List.getElem_cons_succ, List.getElem_cons_zero, List.setIfInBounds_toArray, List.set_cons_zero, List.set_cons_succ]
                  refine wpAnyH_take (i := 9) (v := ?_) rfl (by kernel_rfl) (by kernel_rfl) (by kernel_rfl) (fun _ _ _ h => h) (Or.inl ⟨by rfl, ?_⟩) hS ?_
                  rotate_left
                  · (intro W hSw; (try dsimp only at hSw); go_simp <;> with_reducible rfl)
                  simp only [Act.put, List.getElem_toArray, List.getElem_cons_succ, List.getElem_cons_zero, List.setIfInBounds_toArray, List.set_cons_zero, List.set_cons_succ]
                  refine wpAnyH_take (i := 10) (v := ?_) rfl (by kernel_rfl) (by kernel_rfl) (by kernel_rfl) (fun _ _ _ h => h) (Or.inl ⟨by rfl, ?_⟩) hS ?_
                  rotate_left
                  · (intro W hSw; (try dsimp only at hSw); go_simp <;> with_reducible rfl)
                  simp only [Act.put, List.getElem_toArray, List.getElem_cons_succ, List.getElem_cons_zero, List.setIfInBounds_toArray, List.set_cons_zero, List.set_cons_succ]
                  refine wpAnyH_take (i := 11) (v := ?_) rfl (by kernel_rfl) (by kernel_rfl) (by kernel_rfl) (fun _ _ _ h => h) (Or.inl ⟨by rfl, ?_⟩) hS ?_
                  rotate_left
                  · (intro W hSw; (try dsimp only at hSw); go_simp <;> with_reducible rfl)
                  simp only [Act.put, List.getElem_toArray, List.getElem_cons_succ, List.getElem_cons_zero, List.setIfInBounds_toArray, List.set_cons_zero, List.set_cons_succ]
                  refine wpAnyH_take (i := 12) (v := ?_) rfl (by kernel_rfl) (by kernel_rfl) (by kernel_rfl) (fun _ _ _ h => h) (Or.inl ⟨by rfl, ?_⟩) hS ?_
                  rotate_left
                  · (intro W hSw; (try dsimp only at hSw); go_simp <;> with_reducible rfl)
                  simp only [Act.put, List.getElem_toArray, List.getElem_cons_succ, List.getElem_cons_zero, List.setIfInBounds_toArray, List.set_cons_zero, List.set_cons_succ]
                  refine wpAnyH_take (i := 13) (v := ?_) rfl (by kernel_rfl) (by kernel_rfl) (by kernel_rfl) (fun _ _ _ h => h) (Or.inl ⟨by rfl, ?_⟩) hS ?_
                  rotate_left
                  · (intro W hSw; (try dsimp only at hSw); go_simp <;> with_reducible rfl)
                  simp only [Act.put, List.getElem_toArray, List.getElem_cons_succ, List.getElem_cons_zero, List.setIfInBounds_toArray, List.set_cons_zero, List.set_cons_succ]
                  refine wpAnyH_take (i := 14) (v := ?_) rfl (by kernel_rfl) (by kernel_rfl) (by kernel_rfl) (fun _ _ _ h => h) (Or.inl ⟨by rfl, ?_⟩) hS ?_
                  rotate_left
                  · (intro W hSw; (try dsimp only at hSw); go_simp <;> with_reducible rfl)
                  simp only [Act.put, List.getElem_toArray, List.getElem_cons_succ, List.getElem_cons_zero, List.setIfInBounds_toArray, List.set_cons_zero, List.set_cons_succ]
                  refine wpAnyH_take (i := 15) (v := undef) rfl (by kernel_rfl) (by kernel_rfl) (by kernel_rfl) (fun _ _ _ h => h) (Or.inr ⟨by rfl, rfl⟩) hS ?_
                  simp only [Act.put, List.getElem_toArray, List.getElem_cons_succ, List.getElem_cons_zero, List.setIfInBounds_toArray, List.set_cons_zero, List.set_cons_succ]
                  refine wpAnyH_take (i := 16) (v := undef) rfl (by kernel_rfl) (by kernel_rfl) (by kernel_rfl) (fun _ _ _ h => h) (Or.inr ⟨by rfl, rfl⟩) hS ?_
                  simp only [Act.put, List.getElem_toArray, List.getElem_cons_succ, List.getElem_cons_zero, List.setIfInBounds_toArray, List.set_cons_zero, List.set_cons_succ]
                  refine wpAnyH_take (i := 17) (v := undef) rfl (by kernel_rfl) (by kernel_rfl) (by kernel_rfl) (fun _ _ _ h => h) (Or.inr ⟨by rfl, rfl⟩) hS ?_
                  simp only [Act.put, List.getElem_toArray, List.getElem_cons_succ, List.getElem_cons_zero, List.setIfInBounds_toArray, List.set_cons_zero, List.set_cons_succ]
                  refine wpAnyH_take (i := 18) (v := undef) rfl (by kernel_rfl) (by kernel_rfl) (by kernel_rfl) (fun _ _ _ h => h) (Or.inr ⟨by rfl, rfl⟩) hS ?_
                  simp only [Act.put, List.getElem_toArray, List.getElem_cons_succ, List.getElem_cons_zero, List.setIfInBounds_toArray, List.set_cons_zero, List.set_cons_succ]
                  refine wpAnyH_take (i := 19) (v := undef) rfl (by kernel_rfl) (by kernel_rfl) (by kernel_rfl) (fun _ _ _ h => h) (Or.inr ⟨by rfl, rfl⟩) hS ?_
                  simp only [Act.put, List.getElem_toArray, List.getElem_cons_succ, List.getElem_cons_zero, List.setIfInBounds_toArray, List.set_cons_zero, List.set_cons_succ]
                  refine wpAnyH_take (i := 20) (v := ?_) rfl (by kernel_rfl) (by kernel_rfl) (by kernel_rfl) (fun _ _ _ h => h) (Or.inl ⟨by rfl, ?_⟩) hS ?_
                  rotate_left
                  · (intro W hSw; (try dsimp only at hSw); go_simp <;> with_reducible rfl)
                  simp only [Act.put, List.getElem_toArray, List.getElem_cons_succ, List.getElem_cons_zero, List.setIfInBounds_toArray, List.set_cons_zero, List.set_cons_succ]
                  refine wpAnyH_take (i := 21) (v := ?_) rfl (by kernel_rfl) (by kernel_rfl) (by kernel_rfl) (fun _ _ _ h => h) (Or.inl ⟨by rfl, ?_⟩) hS ?_
                  rotate_left
                  · (intro W hSw; (try dsimp only at hSw); go_simp <;> with_reducible rfl)
                  simp only [Act.put, List.getElem_toArray, List.getElem_cons_succ, List.getElem_cons_zero, List.setIfInBounds_toArray, List.set_cons_zero, List.set_cons_succ]
                  refine wpAnyH_done (by kernel_rfl) ?_ _
                  exact ⟨.agg #[.int .i64 (x : Nat), .slice c1 d1 e1], .agg #[.int .i64 (y : Nat), .slice c2 d2 e2], .bool true, .bool true, .bool false, .bool false, .bool true, .bool true, .pointer (some ⟨w.heap.size, 0, none⟩), .int .u16 (x : Nat), .pointer (some ⟨w.heap.size, 1, none⟩), .int .u16 (y : Nat), .bool false, .bool false, .bool false, undef, undef, undef, undef, undef, .bool false, rfl, hS.1⟩
            case rest2 =>
              rintro a' W ⟨u65, u66, u67, u68, u69, u70, u71, u72, u73, u74, u75, u76, u77, u78, u79, u80, u81, u82, u83, u84, u85, rfl, hp⟩
              simp only [Act.put, List.setIfInBounds_toArray, List.set_cons_zero, List.set_cons_succ, Exit.then]
              obtain ⟨q0, q1, q2, q3, q4, q5⟩ := hp.cells
              have CP := Lib.hid (show Calls Tryd.prog 23 #[.agg #[.int .i64 (x : Nat), .slice c1 d1 e1]] W (fun e W' => ∃ zo zn zc, e = .returned (.agg #[.int .i64 (x : Nat), .slice zo zn zc]) ∧ SetAt W' W.heap.size x (.slice zo zn zc) L1 ∧ Below W.heap.size W W') from by
                refine (copy_any _ x _ L1 W hp.two.set1).mono ?_
                rintro e W' ⟨v, rfl, hs, hb⟩
                obtain ⟨zo, zn, zc, rfl⟩ := hs.val
                exact ⟨zo, zn, zc, rfl, hs, hb⟩)
              have HPP := Lib.hid hp
              clear hp SC HC1 HC2 PC T4 T5 HM1 HM2
              go_wp2_with (go_at_call 23; (with_reducible refine CP.out.mono ?_); rintro e w3 ⟨zo, zn, zc, rfl, hz, hb3⟩)
              have hp := HPP.out
              have hp3 := hp.next hb3
              have hal := (Below.refl w3.heap.size w3).alloc (Nat.le_refl _) (.cells #[.int .i64 (x : Nat), .slice zo zn zc] 26)
              have hap : (Value.slice c1 d1 e1).ownBlock = none ∨ (Value.slice c1 d1 e1).ownBlock ≠ (Value.slice zo zn zc).ownBlock := by
                by_cases h0 : (Value.slice c1 d1 e1).ownBlock = none
                · exact .inl h0
                · refine .inr fun e => ?_
                  obtain ⟨q, hq⟩ := Option.ne_none_iff_exists'.1 h0
                  have h3 := (hp.two.set1.row.lt q hq).2
                  rw [hq] at e
                  have h4 := (hz.row.lt q e.symm).1
                  omega
              have Z0 : PZ w x b7 w3.heap.size (.slice c1 d1 e1) (.slice zo zn zc) L1 (.slice a2 l1 c3) L1 (w3.alloc (.cells #[.int .i64 (x : Nat), .slice zo zn zc] 26)) := by
                have bz := World.alloc_heap_new w3 (.cells #[.int .i64 (x : Nat), .slice zo zn zc] 26)
                exact ⟨hp3.two.below.alloc hp3.two.below.size _, hp3.two.s7.next hal, bz, hp3.two.set1.next hal, (hz.base hp.two.below.size).next hal, row_next hp3.row hal, hap⟩
              clear hp hp3 hal hap hz hb3 HPP CP q0 q1 q2 q3 q4 q5
              generalize w3.alloc (.cells #[.int .i64 (x : Nat), .slice zo zn zc] 26) = wz at *
              generalize w3.heap.size = bz at *
              have ZC := Lib.hid (fun (W : World) (h : PZ w x b7 bz (.slice c1 d1 e1) (.slice zo zn zc) L1 (.slice a2 l1 c3) L1 W) => show Calls Tryd.prog 21 #[.agg #[.int .i64 (x : Nat), .slice zo zn zc], .agg #[.int .i64 (x : Nat), .slice c1 d1 e1]] W (fun e W' => e = .returned (.bool true) ∧ PZ w x b7 bz (.slice c1 d1 e1) (.slice zo zn zc) L1 (.slice a2 l1 c3) L1 W') from by
                have base := same_sets _ x _ x _ _ L1 L1 W h.setz h.set1
                rw [same_nums L1 L1 h.set1.word h.set1.word, show decide (nums L1 = nums L1) = true by simp] at base
                exact base.mono (by rintro e W' ⟨rfl, hb⟩; exact ⟨rfl, h.next hb⟩))
              have ZH := Lib.hid (fun (W : World) (h : PZ w x b7 bz (.slice c1 d1 e1) (.slice zo zn zc) L1 (.slice a2 l1 c3) L1 W) => show Calls Tryd.prog 22 #[.agg #[.int .i64 (x : Nat), .slice zo zn zc]] W (fun e W' => e = .returned (.int .u64 (hh : Nat)) ∧ PZ w x b7 bz (.slice c1 d1 e1) (.slice zo zn zc) L1 (.slice a2 l1 c3) L1 W') from by
                have base := hash_any _ x _ L1 W h.setz
                rw [← HHH.out] at base
                exact base.mono (by rintro e W' ⟨rfl, hb⟩; exact ⟨rfl, h.next hb⟩))
              have XH := Lib.hid (fun (W : World) (h : PZ w x b7 bz (.slice c1 d1 e1) (.slice zo zn zc) L1 (.slice a2 l1 c3) L1 W) => show Calls Tryd.prog 22 #[.agg #[.int .i64 (x : Nat), .slice c1 d1 e1]] W (fun e W' => e = .returned (.int .u64 (hh : Nat)) ∧ PZ w x b7 bz (.slice c1 d1 e1) (.slice zo zn zc) L1 (.slice a2 l1 c3) L1 W') from by
                have base := hash_any _ x _ L1 W h.set1
                rw [← HHH.out] at base
                exact base.mono (by rintro e W' ⟨rfl, hb⟩; exact ⟨rfl, h.next hb⟩))
              have ZD := Lib.hid (fun (W : World) (h : PZ w x b7 bz (.slice c1 d1 e1) (.slice zo zn zc) L1 (.slice a2 l1 c3) L1 W) => h.cells)
              have ZA := Lib.hid (fun (W : World) (h : PZ w x b7 bz (.slice c1 d1 e1) (.slice zo zn zc) L1 (.slice a2 l1 c3) L1 W) => show Calls Tryd.prog 10 #[.agg #[.int .i64 (x : Nat), .slice zo zn zc], .int .i64 7] W (fun e W' => ∃ Lz ob, e = .returned (.bool ob) ∧ PZ w x b7 bz (.slice c1 d1 e1) (.slice zo zn zc) L1 (.slice a2 l1 c3) Lz W') from by
                refine (add_any _ x _ L1 7 W h.setz).mono ?_
                rintro e W' ⟨L', rfl, k1, k2, k3⟩
                exact ⟨L', _, rfl, h.turn k1 k3⟩)
              have ZR := Lib.hid (fun (W : World) (Lz : List Nat) (h : PZ w x b7 bz (.slice c1 d1 e1) (.slice zo zn zc) L1 (.slice a2 l1 c3) Lz W) => show Calls Tryd.prog 12 #[.agg #[.int .i64 (x : Nat), .slice zo zn zc], .int .i64 0] W (fun e W' => ∃ Lz ob, e = .returned (.bool ob) ∧ PZ w x b7 bz (.slice c1 d1 e1) (.slice zo zn zc) L1 (.slice a2 l1 c3) Lz W') from by
                refine (drop_any _ x _ Lz 0 W h.setz).mono ?_
                rintro e W' ⟨L', rfl, k1, k2, k3⟩
                exact ⟨L', _, rfl, h.turn k1 k3⟩)
              have XA := Lib.hid (fun (W : World) (Lz : List Nat) (h : PZ w x b7 bz (.slice c1 d1 e1) (.slice zo zn zc) L1 (.slice a2 l1 c3) Lz W) => show Calls Tryd.prog 16 #[.agg #[.int .i64 (x : Nat), .slice c1 d1 e1]] W (fun e W' => ∃ a5 c5, e = .returned (.slice a5 l1 c5) ∧ IntsAt W' (.slice a5 l1 c5) (nums L1) ∧ PZ w x b7 bz (.slice c1 d1 e1) (.slice zo zn zc) L1 (.slice a2 l1 c3) Lz W') from by
                refine (all_any _ x _ L1 W (HT.out.next h.below) h.set1).mono ?_
                rintro e W' ⟨v', rfl, ho, hb⟩
                have hi := ints_of_row ho
                obtain ⟨a5, c5, rfl⟩ := own_slice ho
                have e : (allX (fromL 0 L1)).length = l1 := HL1.out.symm
                rw [e] at hi ⊢
                exact ⟨a5, c5, rfl, hi, h.next hb⟩)
              have XS := Lib.hid (fun (W : World) (Lz : List Nat) (a5 : Option Addr) (c5 : Nat) (hi : IntsAt W (.slice a5 l1 c5) (nums L1)) (h : PZ w x b7 bz (.slice c1 d1 e1) (.slice zo zn zc) L1 (.slice a2 l1 c3) Lz W) => show Calls Tryd.prog 15 #[.slice a5 l1 c5, .slice a2 l1 c3] W (fun e W' => e = .returned (.bool true) ∧ Below w.heap.size w W') from by
                have hrow := h.row
                rw [← HL1.out] at hrow
                have base := same_any _ _ (nums L1) (nums L1) W hi (ints_of_row (by rw [← HL1.out]; exact hrow))
                rw [show decide (nums L1 = nums L1) = true by simp] at base
                exact base.mono (by rintro e W' ⟨rfl, hb⟩; exact ⟨rfl, h.below.trans (hb.mono h.below.size)⟩))
              have AL := Lib.hid (fun W (hW : Below w.heap.size w W) => alive_any W (HT.out.next hW))
              have Z1 := Lib.hid (Z0.next ((Below.refl _ _).drew))
              clear Z0
              go_wp2
              refine wp_region_held_drew (S := (fun W => PZ w x b7 bz (.slice c1 d1 e1) (.slice zo zn zc) L1 (.slice a2 l1 c3) L1 W ∧ W.cell? ⟨b7, 0, none⟩ = some (.int .i64 (x : Nat)) ∧ W.cell? ⟨b7, 1, none⟩ = some (.slice c1 d1 e1) ∧ W.cell? ⟨bz, 0, none⟩ = some (.int .i64 (x : Nat)) ∧ W.cell? ⟨bz, 1, none⟩ = some (.slice zo zn zc))) (by kernel_rfl) ⟨Z1.out, ZD.out _ Z1.out⟩ (fun hS => ?_)
              refine wpAnyH_take (i := 0) (v := ?_) rfl (by kernel_rfl) (by kernel_rfl) (by kernel_rfl) (fun _ _ _ h => h) (Or.inl ⟨by rfl, ?_⟩) hS ?_
              rotate_left
              · (intro W hSw; (try dsimp only at hSw); go_simp <;> with_reducible rfl)
              simp only [Act.put, List.getElem_toArray, List.getElem_cons_succ, List.getElem_cons_zero, List.setIfInBounds_toArray, List.set_cons_zero, List.set_cons_succ]
              refine wpAnyH_take (i := 1) (v := ?_) rfl (by kernel_rfl) (by kernel_rfl) (by kernel_rfl) (fun _ _ _ h => h) (Or.inl ⟨by rfl, ?_⟩) hS ?_
              rotate_left
              · (intro W hSw; (try dsimp only at hSw); go_simp <;> with_reducible rfl)
              simp only [Act.put, List.getElem_toArray, List.getElem_cons_succ, List.getElem_cons_zero, List.setIfInBounds_toArray, List.set_cons_zero, List.set_cons_succ]
              refine wpAnyH_ready (rs := [2]) (by kernel_rfl) (by simp) ?_
              refine AllReadyH.cons rfl (fun K hK => ?_) AllReadyH.nil
              simp only [List.getElem_toArray, List.getElem_cons_succ, List.getElem_cons_zero]
              go_simp
              go_at_call 21
              (with_reducible refine (ZC.out _ hS.1).mono ?_)
              rintro e w21 ⟨rfl, hp21⟩
              refine hK.out _ _ ⟨hp21, ZD.out _ hp21⟩ (fun hS => ?_)
              clear hK K
              try simp only [Act.put, List.getElem_toArray, List.getElem_cons_succ, List.getElem_cons_zero, List.setIfInBounds_toArray, List.set_cons_zero, List.set_cons_succ]
              refine wpAnyH_take (i := 3) (v := ?_) rfl (by kernel_rfl) (by kernel_rfl) (by kernel_rfl) (fun _ _ _ h => h) (Or.inl ⟨by rfl, ?_⟩) hS ?_
              rotate_left
              · (intro W hSw; (try dsimp only at hSw); go_simp <;> with_reducible rfl)
              simp only [Act.put, List.getElem_toArray, List.getElem_cons_succ, List.getElem_cons_zero, List.setIfInBounds_toArray, List.set_cons_zero, List.set_cons_succ]
              refine wpAnyH_take (i := 4) (v := ?_) rfl (by kernel_rfl) (by kernel_rfl) (by kernel_rfl) (fun _ _ _ h => h) (Or.inl ⟨by rfl, ?_⟩) hS ?_
              rotate_left
              · (intro W hSw; (try dsimp only at hSw); go_simp <;> with_reducible rfl)
              simp only [Act.put, List.getElem_toArray, List.getElem_cons_succ, List.getElem_cons_zero, List.setIfInBounds_toArray, List.set_cons_zero, List.set_cons_succ]
              refine wpAnyH_take (i := 5) (v := ?_) rfl (by kernel_rfl) (by kernel_rfl) (by kernel_rfl) (fun _ _ _ h => h) (Or.inl ⟨by rfl, ?_⟩) hS ?_
              rotate_left
              · (intro W hSw; (try dsimp only at hSw); go_simp <;> with_reducible rfl)
              simp only [Act.put, List.getElem_toArray, List.getElem_cons_succ, List.getElem_cons_zero, List.setIfInBounds_toArray, List.set_cons_zero, List.set_cons_succ]
              refine wpAnyH_take (i := 7) (v := ?_) rfl (by kernel_rfl) (by kernel_rfl) (by kernel_rfl) (fun _ _ _ h => h) (Or.inl ⟨by rfl, ?_⟩) hS ?_
              rotate_left
              · (intro W hSw; (try dsimp only at hSw); go_simp <;> with_reducible rfl)
              simp only [Act.put, List.getElem_toArray, List.getElem_cons_succ, List.getElem_cons_zero, List.setIfInBounds_toArray, List.set_cons_zero, List.set_cons_succ]
              refine wpAnyH_ready (rs := [6]) (by kernel_rfl) (by simp) ?_
              refine AllReadyH.cons rfl (fun K hK => ?_) AllReadyH.nil
              simp only [List.getElem_toArray, List.getElem_cons_succ, List.getElem_cons_zero]
              go_simp
              go_at_call 22
              (with_reducible refine (ZH.out _ hS.1).mono ?_)
              rintro e w22 ⟨rfl, hp22⟩
              refine hK.out _ _ ⟨hp22, ZD.out _ hp22⟩ (fun hS => ?_)
              clear hK K
              try simp only [Act.put, List.getElem_toArray, List.getElem_cons_succ, List.getElem_cons_zero, List.setIfInBounds_toArray, List.set_cons_zero, List.set_cons_succ]
              refine wpAnyH_ready (rs := [8]) (by kernel_rfl) (by simp) ?_
              refine AllReadyH.cons rfl (fun K hK => ?_) AllReadyH.nil
              simp only [List.getElem_toArray, List.getElem_cons_succ, List.getElem_cons_zero]
              go_simp
              go_at_call 22
              (with_reducible refine (XH.out _ hS.1).mono ?_)
              rintro e w23 ⟨rfl, hp23⟩
              refine hK.out _ _ ⟨hp23, ZD.out _ hp23⟩ (fun hS => ?_)
              clear hK K
              try simp only [Act.put, List.getElem_toArray, List.getElem_cons_succ, List.getElem_cons_zero, List.setIfInBounds_toArray, List.set_cons_zero, List.set_cons_succ]
              refine wpAnyH_take (i := 9) (v := ?_) rfl (by kernel_rfl) (by kernel_rfl) (by kernel_rfl) (fun _ _ _ h => h) (Or.inl ⟨by rfl, ?_⟩) hS ?_
              rotate_left
              · (intro W hSw; (try dsimp only at hSw); go_simp <;> with_reducible rfl)
              simp only [Act.put, List.getElem_toArray, List.getElem_cons_succ, List.getElem_cons_zero, List.setIfInBounds_toArray, List.set_cons_zero, List.set_cons_succ]
              refine wpAnyH_take (i := 10) (v := ?_) rfl (by kernel_rfl) (by kernel_rfl) (by kernel_rfl) (fun _ _ _ h => h) (Or.inl ⟨by rfl, ?_⟩) hS ?_
              rotate_left
              · (intro W hSw; (try dsimp only at hSw); go_simp <;> with_reducible rfl)
              simp only [Act.put, List.getElem_toArray, List.getElem_cons_succ, List.getElem_cons_zero, List.setIfInBounds_toArray, List.set_cons_zero, List.set_cons_succ]
              refine wpAnyH_done (by kernel_rfl) ?_ _
              obtain ⟨Z2, z0, z1, z2, z3⟩ := hS
              have P2 := Lib.hid Z2
              clear Z2 Z1 ZC ZH XH
              simp only [Exit.then]
              go_wp2_with (first
                | (go_at_call 10; (with_reducible refine (ZA.out _ P2.out).mono ?_); rintro e w31 ⟨Lz1, ob1, rfl, hp31⟩; have P3 := Lib.hid hp31; obtain ⟨x0, x1, x2, x3⟩ := P3.out.cells; clear hp31)
                | (go_at_call 12; (with_reducible refine (ZR.out _ _ P3.out).mono ?_); rintro e w32 ⟨Lz2, ob2, rfl, hp32⟩; have P4 := Lib.hid hp32; obtain ⟨y0, y1, y2, y3⟩ := P4.out.cells; clear hp32)
                | (go_at_call 16; (with_reducible refine (XA.out _ _ P4.out).mono ?_); rintro e w33 ⟨a5, c5, rfl, hi5, hp33⟩; have P5 := Lib.hid hp33; have I5 := Lib.hid hi5; clear hp33 hi5)
                | (go_at_call 15; (with_reducible refine (XS.out _ _ _ _ I5.out P5.out).mono ?_); rintro e w34 ⟨rfl, hb34⟩; have B34 := Lib.hid hb34; clear hb34)
                | (go_at_call 6; (with_reducible refine (AL.out _ B34.out).mono ?_); rintro e w35 ⟨rfl, hb35⟩))
              go_ret
              exact ⟨rfl, B34.out.trans (hb35.mono B34.out.size)⟩

end Go.Proofs.YtcjpelmcofeknaaDoor.Bt

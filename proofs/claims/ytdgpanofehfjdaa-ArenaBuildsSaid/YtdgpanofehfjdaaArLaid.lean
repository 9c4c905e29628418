/- Trees, and calls, among a row's arguments: what they give to a walk. -/
import Derived.Test.YtdgpanofehfjdaaArLaws
import Derived.Test.YtdgpanofehfjdaaRgApp
import Derived.Deep.SlicePairs
import Derived.ChangeSlices
import Derived.Carry
import Derived.OpenShut
import Derived.ChangeArms
import Derived.Deep.Slices
import Derived.DataReads
import Derived.WideShapes
namespace Go.Proofs.Ytdgpanofehfjdaa.Ar
open Go Go.RowKit Go.Shelf
open Go.Proofs.Ytdgpanofehfjdaa.Rg (R RngsAt RowsAt nthL add_zero own_next)

/-- a call, as the law has it -/
structure Actn where
  kind : Int
  x : Int
  y : Int
  z : Int
  l : List R
  t : Tr
/-- .. as a value -/
structure ActAt (w : World) (v : Value) (a : Actn) : Prop where
  mk' : ∃ vl vn vs, v = .agg #[.int .i64 a.kind, .int .i64 a.x, .int .i64 a.y, .int .i64 a.z, vl, vn, vs, .int .i64 a.t.root] ∧ RngsAt w vl a.l ∧ NodesAt w vn a.t.ns ∧ RowsAt w vs a.t.sets
theorem ActAt.shape {w : World} {v : Value} {a : Actn} (h : ActAt w v a) : ∃ (lo : Option Addr) (lcap : Nat) (no : Option Addr) (ncap : Nat) (so : Option Addr) (scap : Nat), v = .agg #[.int .i64 a.kind, .int .i64 a.x, .int .i64 a.y, .int .i64 a.z, .slice lo a.l.length lcap, .slice no a.t.ns.length ncap, .slice so a.t.sets.length scap, .int .i64 a.t.root] ∧ a.l.length ≤ 9223372036854775807 ∧ RngsAt w (.slice lo a.l.length lcap) a.l ∧ TreeAt w (.agg #[.slice no a.t.ns.length ncap, .slice so a.t.sets.length scap, .int .i64 a.t.root]) a.t := by
  obtain ⟨vl, vn, vs, rfl, h1, h2, h3⟩ := h
  obtain ⟨lo, lcap, rfl, hm, _⟩ := h1.shape
  obtain ⟨no, ncap, rfl, _, _⟩ := h2.shape
  obtain ⟨so, scap, rfl, _, _⟩ := h3.shape
  exact ⟨lo, lcap, no, ncap, so, scap, rfl, hm, h1, _, _, rfl, h2, h3⟩
/-- the box of a call -/
structure ABox (W : World) (b : Nat) (c0 c1 c2 c3 c4 c5 c6 c7 : Value) : Prop where
  e0 : W.cell? ⟨b, 0, none⟩ = some c0
  e1 : W.cell? ⟨b, 1, none⟩ = some c1
  e2 : W.cell? ⟨b, 2, none⟩ = some c2
  e3 : W.cell? ⟨b, 3, none⟩ = some c3
  e4 : W.cell? ⟨b, 4, none⟩ = some c4
  e5 : W.cell? ⟨b, 5, none⟩ = some c5
  e6 : W.cell? ⟨b, 6, none⟩ = some c6
  e7 : W.cell? ⟨b, 7, none⟩ = some c7
theorem ABox.new (w : World) (c0 c1 c2 c3 c4 c5 c6 c7 : Value) : ABox (w.alloc (.cells #[c0, c1, c2, c3, c4, c5, c6, c7] 39)) w.heap.size c0 c1 c2 c3 c4 c5 c6 c7 := by
  constructor <;> (rw [World.cell?_alloc_new]; rfl)
theorem ABox.next {W W' : World} {b : Nat} {c0 c1 c2 c3 c4 c5 c6 c7 : Value} (h : ABox W b c0 c1 c2 c3 c4 c5 c6 c7) (hb : Below W.heap.size W W') : ABox W' b c0 c1 c2 c3 c4 c5 c6 c7 :=
  ⟨cell_next h.e0 hb, cell_next h.e1 hb, cell_next h.e2 hb, cell_next h.e3 hb, cell_next h.e4 hb, cell_next h.e5 hb, cell_next h.e6 hb, cell_next h.e7 hb⟩

set_option maxRecDepth 100000 in
set_option maxHeartbeats 16000000 in
theorem walk_nobody (a : Actn) (v : Value) (w : World) (h : ActAt w v a) : Calls Try.prog 5 #[v] w fun e w' => e = .returned (.bool true) ∧ Below w.heap.size w w' := by
  obtain ⟨lo, lcap, no, ncap, so, scap, rfl, hlm, hl, ht⟩ := h.shape
  have HL := Lib.hid hl
  have HT := Lib.hid ht
  have BW := Lib.hid (fun o => (Below.refl w.heap.size w).alloc (Nat.le_refl _) o)
  have CA := Lib.hid (fun W (_ : Below w.heap.size w W) => alive_any W)
  have CF := Lib.hid (fun W (hb : Below w.heap.size w W) => far_b a.t _ W (HT.out.next hb))
  have A0 := Lib.hid (ABox.new w (.int .i64 a.kind) (.int .i64 a.x) (.int .i64 a.y) (.int .i64 a.z) (.slice lo a.l.length lcap) (.slice no a.t.ns.length ncap) (.slice so a.t.sets.length scap) (.int .i64 a.t.root))
  clear h hl ht
  by_cases h20 : 20 < a.l.length
  · have h20' : (20 : Int) < (a.l.length : Int) := by omega
    go_enter Try.func5, Try.ntmps5
    go_wp2_with (go_at_call 7; (with_reducible refine (CA.out _ (BW.out _)).mono ?_); rintro e w3 ⟨rfl, hb3⟩; go_must (have B3 := Lib.hid ((BW.out (.cells #[.int .i64 a.kind, .int .i64 a.x, .int .i64 a.y, .int .i64 a.z, .slice lo a.l.length lcap, .slice no a.t.ns.length ncap, .slice so a.t.sets.length scap, .int .i64 a.t.root] 39)).trans (hb3.mono (by simp))); clear hb3))
    go_ret
    exact ⟨rfl, B3.out⟩
  · have h20' : ¬ (20 : Int) < (a.l.length : Int) := by omega
    by_cases hn : Near a.t
    · rw [farB_no hn] at CF
      have KT := Lib.hid (fun W => tree_nil a.x W)
      have KE := Lib.hid (fun W => empty_nil W)
      have KS := Lib.hid (fun W (hb : Below w.heap.size w W) => setm_nil _ W a.l (HL.out.next hb))
      have KC := Lib.hid (fun W => cat_nil a.x a.y W)
      have KA := Lib.hid (fun W => alt_nil a.x a.y W)
      have KR := Lib.hid (fun W => rep_nil a.x a.y a.z W)
      have KG := Lib.hid (fun W (hb : Below w.heap.size w W) => graftm_nil a.t _ W (HT.out.next hb))
      have KL := Lib.hid (fun W => len_nil W)
      unfold NoTree at KT
      clear hn
      go_enter Try.func5, Try.ntmps5
      go_wp2_with (first
        | (go_at_call 6; (with_reducible refine (CF.out _ (BW.out _)).mono ?_); rintro e w1 ⟨rfl, hb1⟩; go_must (have a1 := A0.out.next hb1; obtain ⟨d0, d1, d2, d3, d4, d5, d6, d7⟩ := a1; have B1 := Lib.hid ((BW.out (.cells #[.int .i64 a.kind, .int .i64 a.x, .int .i64 a.y, .int .i64 a.z, .slice lo a.l.length lcap, .slice no a.t.ns.length ncap, .slice so a.t.sets.length scap, .int .i64 a.t.root] 39)).trans (hb1.mono (by simp))); clear hb1))
        | (go_at_call 25; (with_reducible refine (KT.out _).mono ?_); rintro e w2 ⟨rfl, hb2⟩; go_must (have hb2' := hb2.alloc hb2.size (.cells #[.slice none 0 0, .slice none 0 0, .int .i64 0] 25); obtain ⟨f0, f1, f2, f3, f4, f5, f6, f7⟩ := ABox.next ⟨d0, d1, d2, d3, d4, d5, d6, d7⟩ hb2'; clear d0 d1 d2 d3 d4 d5 d6 d7; have B2 := Lib.hid (B1.out.trans (hb2'.mono B1.out.size)); clear hb2 hb2'))
        | (go_at_call 17; (with_reducible refine (KE.out _).mono ?_); rintro e w3 ⟨rfl, hb3⟩; go_must (obtain ⟨g0, g1, g2, g3, g4, g5, g6, g7⟩ := ABox.next ⟨f0, f1, f2, f3, f4, f5, f6, f7⟩ hb3; clear f0 f1 f2 f3 f4 f5 f6 f7; have B3 := Lib.hid (B2.out.trans (hb3.mono B2.out.size)); clear hb3))
        | (go_at_call 18; (with_reducible refine (KS.out _ B3.out).mono ?_); rintro e w4 ⟨rfl, hw⟩; subst w4)
        | (go_at_call 20; (with_reducible refine (KC.out _).mono ?_); rintro e w5 ⟨rfl, hb5⟩; go_must (obtain ⟨j0, j1, j2, j3, j4, j5, j6, j7⟩ := ABox.next ⟨g0, g1, g2, g3, g4, g5, g6, g7⟩ hb5; clear g0 g1 g2 g3 g4 g5 g6 g7; have B5 := Lib.hid (B3.out.trans (hb5.mono B3.out.size)); clear hb5))
        | (go_at_call 21; (with_reducible refine (KA.out _).mono ?_); rintro e w6 ⟨rfl, hb6⟩; go_must (obtain ⟨k0, k1, k2, k3, k4, k5, k6, k7⟩ := ABox.next ⟨j0, j1, j2, j3, j4, j5, j6, j7⟩ hb6; clear j0 j1 j2 j3 j4 j5 j6 j7; have B6 := Lib.hid (B5.out.trans (hb6.mono B5.out.size)); clear hb6))
        | (go_at_call 22; (with_reducible refine (KR.out _).mono ?_); rintro e w7 ⟨rfl, hb7⟩; go_must (obtain ⟨m0, m1, m2, m3, m4, m5, m6, m7⟩ := ABox.next ⟨k0, k1, k2, k3, k4, k5, k6, k7⟩ hb7; clear k0 k1 k2 k3 k4 k5 k6 k7; have B7 := Lib.hid (B6.out.trans (hb7.mono B6.out.size)); clear hb7))
        | (go_at_call 24; (with_reducible refine (KG.out _ B7.out).mono ?_); rintro e w8 ⟨rfl, hb8⟩; go_must (have B8 := Lib.hid (B7.out.trans (hb8.mono B7.out.size)); clear hb8))
        | (go_at_call 26; (with_reducible refine (KL.out _).mono ?_); rintro e w9 ⟨rfl, hw⟩; subst w9)
        | (go_at_call 7; (with_reducible refine (CA.out _ B8.out).mono ?_); rintro e w9 ⟨rfl, hb9⟩; go_must (have B9 := Lib.hid (B8.out.trans (hb9.mono B8.out.size)); clear hb9))
        | fail)
      go_ret
      exact ⟨rfl, B9.out⟩
    · rw [farB_yes hn] at CF
      clear hn
      go_enter Try.func5, Try.ntmps5
      go_wp2_with (first
        | (go_at_call 6; (with_reducible refine (CF.out _ (BW.out _)).mono ?_); rintro e w1 ⟨rfl, hb1⟩; go_must (have B1 := Lib.hid ((BW.out (.cells #[.int .i64 a.kind, .int .i64 a.x, .int .i64 a.y, .int .i64 a.z, .slice lo a.l.length lcap, .slice no a.t.ns.length ncap, .slice so a.t.sets.length scap, .int .i64 a.t.root] 39)).trans (hb1.mono (by simp))); clear hb1))
        | (go_at_call 7; (with_reducible refine (CA.out _ B1.out).mono ?_); rintro e w3 ⟨rfl, hb3⟩; go_must (have B3 := Lib.hid (B1.out.trans (hb3.mono B1.out.size)); clear hb3))
        | fail)
      go_ret
      exact ⟨rfl, B3.out⟩

end Go.Proofs.Ytdgpanofehfjdaa.Ar

namespace Go.Proofs.Ytdgpanofehfjdaa.Ar
open Go Go.RowKit Go.Shelf Go.ChangeShapes Go.WideShapes Go.Deep
open Go.Proofs.Ytdgpanofehfjdaa.Rg (R RngsAt RowsAt nthL nth add_zero own_next add_pair)

set_option maxRecDepth 4000
theorem add_nxt (a : Addr) (m o : Nat) : a.add (m + (o + 1)) = ⟨(a.add m).block, (a.add m).off + (o + 1), none⟩ := add_next a m o
section
variable {H : Type} {enc : TypeId × Value → H} {W : World} {base : Nat} {sp : Nat → Bool} {held : Bool} {fuel : Nat} {cs : List Value} {x : DataW H × List MemPlace}
theorem int_cell {t : TypeId} (ht : Try.prog.underlying t = some (.int .i64)) {u : Value} {y : Option (DataW H × List MemPlace)} (h : DataW.trod enc Try.prog W base sp held fuel t [u] = y) (hy : y ≠ none) : ∃ n : Int, u = .int .i64 n := by
  obtain ⟨z, rfl⟩ := Option.ne_none_iff_exists'.1 hy
  obtain ⟨n, hn, _, _⟩ := DataW.trod_int ht h
  exact ⟨n, by simpa using hn⟩
/-- a slice of ranges, by its cell -/
theorem rngs_cell (h : DataW.trod enc Try.prog W base sp held fuel 37 cs = some x) : ∃ v l, cs = [v] ∧ RngsAt W v l := by
  rcases open_slice_pairs Try.underlying37 Try.underlying55 (by kernel_rfl) rfl rfl (by kernel_rfl) (by kernel_rfl) h with ⟨hcs, _⟩ | ⟨a, len', cap', m, n, V0, V1, D0, D1, P0, P1, hcs, _, hl, hm, hmm, _, hi⟩
  · exact ⟨_, [], hcs, .inl ⟨rfl, rfl⟩⟩
  · have hlm : len' ≤ m := by rw [hmm]; split <;> omega
    refine ⟨_, (List.range len').map fun i => (intOf (V0 i), intOf (V1 i)), hcs, .inr ⟨a, cap', by simp, by simp; omega, fun i hil => ?_⟩⟩
    have hil' : i < len' := by simpa using hil
    obtain ⟨h1, h2, h3, h4⟩ := hi i (by omega)
    obtain ⟨p, hp, _, _⟩ := DataW.trod_int Try.underlying3 h3
    obtain ⟨q, hq, _, _⟩ := DataW.trod_int Try.underlying3 h4
    have ex : V0 i = .int .i64 p := by simpa using hp
    have ey : V1 i = .int .i64 q := by simpa using hq
    have hn : nth ((List.range len').map fun i => (intOf (V0 i), intOf (V1 i))) i = (p, q) := by
      simp [nth, List.getD, hil', ex, ey, intOf]
    rw [hn]
    refine ⟨by rw [h1, ex], ?_⟩
    rw [add_pair] at h2
    rw [h2, ey]
/-- a slice of slices of ranges -/
theorem rows_cell (h : DataW.trod enc Try.prog W base sp held fuel 23 cs = some x) : ∃ v L, cs = [v] ∧ RowsAt W v L := by
  rcases open_slice1 Try.underlying23 (by kernel_rfl) h with ⟨hcs, _⟩ | ⟨a, len, cap, m, n, V, D, Pl, hcs, _, hl, hm, hmm, _, hi⟩
  · exact ⟨_, [], hcs, .inl ⟨rfl, rfl⟩⟩
  · have hlm : len ≤ m := by rw [hmm]; split <;> omega
    have hex : ∀ i, ∃ l : List R, i < len → RngsAt W (V i) l := fun i => by
      by_cases hil : i < len
      · obtain ⟨_, h2⟩ := hi i (by omega)
        obtain ⟨v, l, hv, hr⟩ := rngs_cell h2
        simp only [List.cons.injEq, and_true] at hv
        subst hv
        exact ⟨l, fun _ => hr⟩
      · exact ⟨[], fun h => absurd h hil⟩
    obtain ⟨f, hf⟩ := Classical.skolem.1 hex
    refine ⟨_, (List.range len).map f, hcs, .inr ⟨a, cap, by simp, by simp; omega, fun i hil => ?_⟩⟩
    have hil' : i < len := by simpa using hil
    refine ⟨V i, (hi i (by omega)).1, ?_⟩
    have : nthL ((List.range len).map f) i = f i := by simp [nthL, List.getD, hil']
    rw [this]
    exact hf i hil'
/-- six numbers -/
theorem node_cells (h : DataW.trod enc Try.prog W base sp held fuel 41 cs = some x) : ∃ n : Nd, cs = cellsN n := by
  obtain ⟨xs, k, _, _, hl, hxl, hf⟩ := DataW.trod_struct Try.underlying41 h
  rw [show Try.prog.cellsOf 41 = 6 by kernel_rfl] at hl
  have hci : Try.prog.cellsOf 3 = 1 := by kernel_rfl
  match cs, hl, xs, hxl with
  | [c0, c1, c2, c3, c4, c5], _, [y0, y1, y2, y3, y4, y5], _ =>
    have g0 : DataW.trod enc Try.prog W base sp held k 3 ((([c0, c1, c2, c3, c4, c5] : List Value).drop 0).take (Try.prog.cellsOf 3)) = some y0 := hf 0 _ rfl
    have g1 : DataW.trod enc Try.prog W base sp held k 3 ((([c0, c1, c2, c3, c4, c5] : List Value).drop 1).take (Try.prog.cellsOf 3)) = some y1 := hf 1 _ rfl
    have g2 : DataW.trod enc Try.prog W base sp held k 3 ((([c0, c1, c2, c3, c4, c5] : List Value).drop 2).take (Try.prog.cellsOf 3)) = some y2 := hf 2 _ rfl
    have g3 : DataW.trod enc Try.prog W base sp held k 3 ((([c0, c1, c2, c3, c4, c5] : List Value).drop 3).take (Try.prog.cellsOf 3)) = some y3 := hf 3 _ rfl
    have g4 : DataW.trod enc Try.prog W base sp held k 3 ((([c0, c1, c2, c3, c4, c5] : List Value).drop 4).take (Try.prog.cellsOf 3)) = some y4 := hf 4 _ rfl
    have g5 : DataW.trod enc Try.prog W base sp held k 3 ((([c0, c1, c2, c3, c4, c5] : List Value).drop 5).take (Try.prog.cellsOf 3)) = some y5 := hf 5 _ rfl
    rw [hci] at g0 g1 g2 g3 g4 g5
    obtain ⟨n0, rfl⟩ := int_cell Try.underlying3 g0 (by simp)
    obtain ⟨n1, rfl⟩ := int_cell Try.underlying3 g1 (by simp)
    obtain ⟨n2, rfl⟩ := int_cell Try.underlying3 g2 (by simp)
    obtain ⟨n3, rfl⟩ := int_cell Try.underlying3 g3 (by simp)
    obtain ⟨n4, rfl⟩ := int_cell Try.underlying3 g4 (by simp)
    obtain ⟨n5, rfl⟩ := int_cell Try.underlying3 g5 (by simp)
    exact ⟨⟨n0, n1, n2, n3, n4, n5⟩, rfl⟩
/-- a slice of nodes -/
theorem nodes_cell (h : DataW.trod enc Try.prog W base sp held fuel 22 cs = some x) : ∃ v l, cs = [v] ∧ NodesAt W v l := by
  rcases open_slice Try.underlying22 h with ⟨hcs, _⟩ | ⟨a, len, cap, m, n, D, Pl, hcs, _, hl, hm, hmm, _, hi⟩
  · exact ⟨_, [], hcs, .inl ⟨rfl, rfl⟩⟩
  · have hlm : len ≤ m := by rw [hmm]; split <;> omega
    have hex : ∀ i, ∃ n : Nd, i < len → NodeAt W (a.add (i * 6)) n := fun i => by
      by_cases hil : i < len
      · obtain ⟨cs', h1, h2⟩ := hi i (by omega)
        obtain ⟨nn, rfl⟩ := node_cells h2
        rw [show Try.prog.cellsOf 41 = 6 by kernel_rfl] at h1
        obtain ⟨_, _, hc⟩ := World.cells?_some h1
        have k0 := hc 0 (by omega)
        have k1 := hc 1 (by omega)
        have k2 := hc 2 (by omega)
        have k3 := hc 3 (by omega)
        have k4 := hc 4 (by omega)
        have k5 := hc 5 (by omega)
        rw [add_add] at k0 k1 k2 k3 k4 k5
        rw [Nat.add_zero] at k0
        rw [add_nxt] at k1 k2 k3 k4 k5
        exact ⟨nn, fun _ => ⟨k0, k1, k2, k3, k4, k5⟩⟩
      · exact ⟨default, fun h => absurd h hil⟩
    obtain ⟨f, hf⟩ := Classical.skolem.1 hex
    refine ⟨_, (List.range len).map f, hcs, .inr ⟨a, cap, by simp, by simp; omega, fun i hil => ?_⟩⟩
    have hil' : i < len := by simpa using hil
    have : nd ((List.range len).map f) i = f i := by simp [nd, List.getD, hil']
    rw [this]
    exact hf i hil'
/-- a tree's three cells -/
theorem tree_cells (h : DataW.trod enc Try.prog W base sp held fuel 25 cs = some x) : ∃ vn vs, ∃ t : Tr, cs = [vn, vs, .int .i64 t.root] ∧ NodesAt W vn t.ns ∧ RowsAt W vs t.sets := by
  obtain ⟨xs, k, _, _, hl, hxl, hf⟩ := DataW.trod_struct Try.underlying25 h
  rw [show Try.prog.cellsOf 25 = 3 by kernel_rfl] at hl
  match cs, hl, xs, hxl with
  | [c0, c1, c2], _, [y0, y1, y2], _ =>
    have g0 : DataW.trod enc Try.prog W base sp held k 22 ((([c0, c1, c2] : List Value).drop 0).take (Try.prog.cellsOf 22)) = some y0 := hf 0 _ rfl
    have g1 : DataW.trod enc Try.prog W base sp held k 23 ((([c0, c1, c2] : List Value).drop 1).take (Try.prog.cellsOf 23)) = some y1 := hf 1 _ rfl
    have g2 : DataW.trod enc Try.prog W base sp held k 3 ((([c0, c1, c2] : List Value).drop 2).take (Try.prog.cellsOf 3)) = some y2 := hf 2 _ rfl
    rw [show Try.prog.cellsOf 22 = 1 by kernel_rfl] at g0
    rw [show Try.prog.cellsOf 23 = 1 by kernel_rfl] at g1
    rw [show Try.prog.cellsOf 3 = 1 by kernel_rfl] at g2
    obtain ⟨vn, l, e0, hn⟩ := nodes_cell (x := y0) g0
    obtain ⟨vs, L, e1, hs⟩ := rows_cell (x := y1) g1
    obtain ⟨r, rfl⟩ := int_cell Try.underlying3 g2 (by simp)
    have e0' : c0 = vn := by simpa using e0
    have e1' : c1 = vs := by simpa using e1
    subst e0' e1'
    exact ⟨c0, c1, ⟨l, L, r⟩, rfl, hn, hs⟩
/-- a call's eight cells -/
theorem act_cells (h : DataW.trod enc Try.prog W base sp held fuel 39 cs = some x) : ∃ vl vn vs, ∃ a : Actn, cs = [.int .i64 a.kind, .int .i64 a.x, .int .i64 a.y, .int .i64 a.z, vl, vn, vs, .int .i64 a.t.root] ∧ RngsAt W vl a.l ∧ NodesAt W vn a.t.ns ∧ RowsAt W vs a.t.sets := by
  obtain ⟨xs, k, _, _, hl, hxl, hf⟩ := DataW.trod_struct Try.underlying39 h
  rw [show Try.prog.cellsOf 39 = 8 by kernel_rfl] at hl
  have hci : Try.prog.cellsOf 3 = 1 := by kernel_rfl
  match cs, hl, xs, hxl with
  | [c0, c1, c2, c3, c4, c5, c6, c7], _, [y0, y1, y2, y3, y4, y5], _ =>
    have g0 : DataW.trod enc Try.prog W base sp held k 3 ((([c0, c1, c2, c3, c4, c5, c6, c7] : List Value).drop 0).take (Try.prog.cellsOf 3)) = some y0 := hf 0 _ rfl
    have g1 : DataW.trod enc Try.prog W base sp held k 3 ((([c0, c1, c2, c3, c4, c5, c6, c7] : List Value).drop 1).take (Try.prog.cellsOf 3)) = some y1 := hf 1 _ rfl
    have g2 : DataW.trod enc Try.prog W base sp held k 3 ((([c0, c1, c2, c3, c4, c5, c6, c7] : List Value).drop 2).take (Try.prog.cellsOf 3)) = some y2 := hf 2 _ rfl
    have g3 : DataW.trod enc Try.prog W base sp held k 3 ((([c0, c1, c2, c3, c4, c5, c6, c7] : List Value).drop 3).take (Try.prog.cellsOf 3)) = some y3 := hf 3 _ rfl
    have g4 : DataW.trod enc Try.prog W base sp held k 37 ((([c0, c1, c2, c3, c4, c5, c6, c7] : List Value).drop 4).take (Try.prog.cellsOf 37)) = some y4 := hf 4 _ rfl
    have g5 : DataW.trod enc Try.prog W base sp held k 25 ((([c0, c1, c2, c3, c4, c5, c6, c7] : List Value).drop 5).take (Try.prog.cellsOf 25)) = some y5 := hf 5 _ rfl
    rw [hci] at g0 g1 g2 g3
    rw [show Try.prog.cellsOf 37 = 1 by kernel_rfl] at g4
    rw [show Try.prog.cellsOf 25 = 3 by kernel_rfl] at g5
    obtain ⟨n0, rfl⟩ := int_cell Try.underlying3 g0 (by simp)
    obtain ⟨n1, rfl⟩ := int_cell Try.underlying3 g1 (by simp)
    obtain ⟨n2, rfl⟩ := int_cell Try.underlying3 g2 (by simp)
    obtain ⟨n3, rfl⟩ := int_cell Try.underlying3 g3 (by simp)
    obtain ⟨vl, l, e4, hr⟩ := rngs_cell (x := y4) g4
    obtain ⟨vn, vs, t, e5, hn, hs⟩ := tree_cells (x := y5) g5
    have e4' : c4 = vl := by simpa using e4
    have e5' : c5 = vn ∧ c6 = vs ∧ c7 = .int .i64 t.root := by simpa using e5
    obtain ⟨rfl, rfl, rfl⟩ := e5'
    subst e4'
    exact ⟨c4, c5, c6, ⟨n0, n1, n2, n3, l, t⟩, rfl, hr, hn, hs⟩
end

section
variable {H : Type} {enc : TypeId × Value → H} {W : World} {v : Value} {d : DataW H} {ps : List MemPlace} {base b2 : Nat} {sp : Nat → Bool} {held : Bool}
theorem tree_of_trod (ho : Value.okWide Try.prog W .any b2 25 v) (h : DataW.Trod enc Try.prog W base sp held 25 v d ps) : ∃ t, TreeAt W v t := by
  obtain ⟨⟨cs⟩, rfl, _⟩ := okWide_struct Try.underlying25 ho
  obtain ⟨fuel, hf⟩ := h
  obtain ⟨vn, vs, t, e, hn, hs⟩ := tree_cells hf
  have e' : cs = [vn, vs, .int .i64 t.root] := by simpa [Value.cells] using e
  subst e'
  exact ⟨t, vn, vs, rfl, hn, hs⟩
theorem act_of_trod (ho : Value.okWide Try.prog W .any b2 39 v) (h : DataW.Trod enc Try.prog W base sp held 39 v d ps) : ∃ a, ActAt W v a := by
  obtain ⟨⟨cs⟩, rfl, _⟩ := okWide_struct Try.underlying39 ho
  obtain ⟨fuel, hf⟩ := h
  obtain ⟨vl, vn, vs, a, e, hr, hn, hs⟩ := act_cells hf
  have e' : cs = [.int .i64 a.kind, .int .i64 a.x, .int .i64 a.y, .int .i64 a.z, vl, vn, vs, .int .i64 a.t.root] := by simpa [Value.cells] using e
  subst e'
  exact ⟨a, vl, vn, vs, rfl, hr, hn, hs⟩
end

theorem walkChecks (t : Tr) (v1 : Value) (u : Tr) (v2 : Value) (w : World) (hv : TreeAt w v1 t) (hu : TreeAt w v2 u) :
    Calls Try.prog 3 #[v1, v2] w fun e w' => e = .returned (.bool true) ∧ Below w.heap.size w w' := walk_checks t u v1 v2 w hv hu
theorem walkNobody (a : Actn) (v : Value) (w : World) (h : ActAt w v a) : Calls Try.prog 5 #[v] w fun e w' => e = .returned (.bool true) ∧ Below w.heap.size w w' := walk_nobody a v w h

end Go.Proofs.Ytdgpanofehfjdaa.Ar

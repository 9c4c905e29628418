/- The parting function, which calls itself. -/
import Derived.Test.YtoknfelheebidaaDoorBqMem
import Derived.Test.YtoknfelheebidaaDoorBqRowOf
import Derived.Deep.RegionLaw
namespace Go.Proofs.YtoknfelheebidaaDoor.Bq
open Go Go.RowKit Go.Shelf Go.Proofs.YtoknfelheebidaaDoor.Ut Go.Proofs.YtoknfelheebidaaDoor.Rg

/-- a row appended, and the box written -/
theorem st_app {w W W2 w3 : World} {C : List R} {p : R} {v v' x : Value} {xs : List Value} (hst : St w C W) (hv : Boxed W w.heap.size 24 v) (hr : RowsOwn (w.heap.size + 2) W v (rowsL C) xs) (hb : Below W.heap.size W W2)
    (hx : W2.ownsRow (w.heap.size + 2) 35 2 x (rowL p).length (flatR (rowL p))) (hown : w3.ownsRow (w.heap.size + 2) 22 1 v' ((rowsL C).length + 1) (xs ++ [x])) (hg : W2.grownBy w3 v.ownBlock) :
    Boxed w3 w.heap.size 24 v ∧ St w (C ++ [p]) (w3.setCell ⟨w.heap.size, 0, none⟩ v') ∧ Kp w.heap.size W (w3.setCell ⟨w.heap.size, 0, none⟩ v') := by
  have hv2 := box_next hv hb
  have hr2 := hr.next hb
  have hp2 := box_next hst.part hb
  have hv3 := hv2.kept hg (hv2.not_row (by decide) hr2.own)
  have hp3 := hp2.kept hg (hp2.not_row (by decide) hr2.own)
  have hr3 := hr2.app hx hown hg
  rw [← rowsL_snoc] at hr3
  have hB : Below w.heap.size w w3 := ((hst.below.trans (hb.mono hst.below.size))).grown hg (by have := hst.below.size; have := hb.size; omega) (fun k hk => by have := (hr2.own.lt k hk).1; omega)
  refine ⟨hv3, ⟨⟨v', xs ++ [x], hv3.set v', hr3.set (by omega)⟩, hp3.kept (grownBy_setCell' w3 _ v') (by simp), hB.setCell (Nat.le_refl _) v'⟩, ((Kp.below hb).trans (Kp.grown hg hr2.own)).trans (Kp.set _ _ _)⟩

/-- what parting tells -/
def PartOut (w : World) (lo hi : Int) (C : List R) (W : World) (e : Ending) (W' : World) : Prop :=
  e = .returned (.tuple #[]) ∧ ∃ D, Part lo hi D ∧ St w (C ++ D) W' ∧ Kp w.heap.size W W'

set_option maxRecDepth 100000 in
set_option maxHeartbeats 8000000 in
theorem part_any (w : World) : ∀ (n : Nat) (lo hi : Int) (C : List R) (W : World), (hi - lo).toNat < n → Span lo hi → lo ≤ hi → (C.length : Int) + (hi - lo + 1) ≤ 1000000000000 → St w C W →
    Calls Tryd.prog 15 #[.agg #[.int .i64 lo, .int .i64 hi], .pointer (some ⟨w.heap.size, 0, none⟩), .pointer (some ⟨w.heap.size + 1, 0, none⟩)] W fun e W' => PartOut w lo hi C W e W' := by
  obtain ⟨i0, hi0, hz0, hz1, hz2⟩ := info_parts infoS
  intro n
  induction n with
  | zero => intro lo hi C W h; omega
  | succ n ih =>
    intro lo hi C W hn hs hl hC hst
    have c1 := Lib.hid (fun w => cut_any lo hi w hs hl)
    have c2 := Lib.hid (fun w => rowOf_any lo hi w hs hl)
    have IH := Lib.hid ih
    have HS := Lib.hid hs
    have HST := Lib.hid hst
    obtain ⟨v, xs, hv, hrows⟩ := hst.rows
    have hpart := hst.part
    have hsz := hst.size
    clear ih hs hst
    cases hc : cutF lo hi with
    | none =>
      rw [hc] at c1
      have HC := Lib.hid hc
      have HR := Lib.hid hrows
      clear hrows
      have hgood := (Cell.good (p := (lo, hi)) ⟨HS.out, hl, cut_none HS.out hl hc⟩).1.len.1
      have HG := Lib.hid hgood
      have b1 := hv.cell
      have HV := Lib.hid hv
      clear hv hpart
      clear hc hgood
      unfold ovC at c1
      go_enter Tryd.func15, Tryd.ntmps15
      go_wp2_with (first
        | (go_at_call 16; (with_reducible refine (c1.out _).mono ?_); rintro e w1 ⟨rfl, h1⟩; go_must (have hA := (Below.refl W.heap.size W).alloc (Nat.le_refl _) (.cells #[.int .i64 lo, .int .i64 hi] 35) |>.trans (h1.mono (by simp)); have q0 := cell_next b1 hA; have q1 := cell_next (a := ⟨W.heap.size, 0, none⟩) (v := .int .i64 lo) (by simp) h1; have q2 := cell_next (a := ⟨W.heap.size, 1, none⟩) (v := .int .i64 hi) (by simp) h1; have B1 := Lib.hid hA; clear h1 hA))
        | fail)
      go_region_law (first
        | (refine step_append_lies _ rfl (.tmp 13) (.tmp 16) 24 rfl (w.heap.size + 2) 22 i0 (.slice none 0 0) 1 24 Tryd.underlying24 hi0 hz0 hz1 hz2 rfl (by decide) v (rowsL C).length xs (by rfl) (own_next HR.out.own (B2.out.trans (((Below.refl w2.heap.size w2).alloc (Nat.le_refl _) _).mono B2.out.size))) ⟨w2.heap.size, 0, none⟩ 1 1 [.slice (some ⟨g, 0, none⟩) (rowL (lo, hi)).length cap] (by rfl) rfl (World.news_of_block (World.alloc_heap_new w2 _)) (by simp [Value.oneCell']) (by decide) (by rw [rowsL_len]; unfold maxLen; omega) (by rw [rowsL_len]; omega) (by have := B2.out.size; simp; omega) _ rfl ?_; intro g2 cap2 w3 hown hg hat hlt; go_must (obtain ⟨y1, y2, y3⟩ := st_app (p := (lo, hi)) HST.out HV.out HR.out (B2.out.trans (((Below.refl w2.heap.size w2).alloc (Nat.le_refl _) _).mono B2.out.size)) ((row_base HX.out (show w.heap.size + 2 ≤ w1.heap.size by have := B1.out.size; have := HST.out.size; omega)).alloc _) hown hg; have q4 := y1.cell; have q5 := y1.frozen; have Y2 := Lib.hid y2; have Y3 := Lib.hid y3; clear y1 y2 y3 hown hg hat))
        | ((have hg := c2); clear hg; go_simp; go_wp2_with (go_at_call 17; (with_reducible refine (c2.out _).mono ?_); rintro e w2 ⟨x, rfl, hx, h3⟩; go_must (obtain ⟨g, cap, rfl, hg0, hg1⟩ := hx.form HG.out; have HX := Lib.hid hx; clear hx hg0 hg1; have h2 := (bdN w1 1).trans h3; have q3 := cell_next q0 h2; have q6 : ∀ (cs : Array Value) (t : TypeId), (w2.alloc (.cells cs t)).cell? ⟨w.heap.size, 0, none⟩ = some v := (fun cs t => cell_next q3 ((Below.refl _ _).alloc (Nat.le_refl _) _)); have B2 := Lib.hid (B1.out.trans (h2.mono B1.out.size)); clear h2 h3 c2)))
        | fail)
      all_goals (
        go_wp2
        go_end0
        exact ⟨rfl, [(lo, hi)], .one HC.out, Y2.out, Y3.out⟩)
    | some at' =>
      rw [hc] at c1
      have HC := Lib.hid hc
      obtain ⟨a1, a2⟩ := (cut_some HS.out hl hc).choose_spec.between hl
      have b1 := hpart.cell
      have s1 := Lib.hid (HS.out.sub (Int.le_refl lo) (show at' - 1 ≤ hi by omega))
      have s2 := Lib.hid (HS.out.sub (show lo ≤ at' by omega) (Int.le_refl hi))
      have z1 : IntKind.i64.wrap (at' - 1) = at' - 1 := by rw [IntKind.wrap_i64]; have := HS.out; unfold Span at this; omega
      clear hc hv hrows hpart
      unfold ovC at c1
      unfold fv at b1
      go_enter Tryd.func15, Tryd.ntmps15
      go_wp2_with (first
        | (go_at_call 16; (with_reducible refine (c1.out _).mono ?_); rintro e w1 ⟨rfl, h1⟩; go_must (have hA := (Below.refl W.heap.size W).alloc (Nat.le_refl _) (.cells #[.int .i64 lo, .int .i64 hi] 35) |>.trans (h1.mono (by simp)); have q0 := cell_next b1 hA; have q1 := cell_next (a := ⟨W.heap.size, 0, none⟩) (v := .int .i64 lo) (by simp) h1; have q2 := cell_next (a := ⟨W.heap.size, 1, none⟩) (v := .int .i64 hi) (by simp) h1; have B1 := Lib.hid hA; have QB := Lib.hid ((h1.block W.heap.size (by simp)).trans (World.alloc_heap_new W _)); clear h1 hA))
        | (go_at_call 15; ((with_reducible refine (IH.out lo (at' - 1) C w1 (by omega) s1.out (by omega) (by omega) (HST.out.next B1.out)).mono ?_); rintro e w2 ⟨rfl, D1, hD1, hS1, hK1⟩; go_must (have Q2 := Lib.hid (hK1.cells QB.out (by omega) (by decide)); have q4 : w2.cell? ⟨W.heap.size, 1, none⟩ = some (.int .i64 hi) := cell_of_row w2 W.heap.size 1 _ _ _ Q2.out; have q5 := hS1.part.cell; unfold fv at q5; have S1 := Lib.hid hS1; have K1 := Lib.hid hK1; have D1' := Lib.hid hD1; have w1' := hD1.width s1.out (by omega); clear hS1 hK1 hD1)))
        | (go_at_call 15; ((with_reducible refine (IH.out at' hi (C ++ D1) w2 (by omega) s2.out (by omega) (by rw [List.length_append]; omega) S1.out).mono ?_); rintro e w3 ⟨rfl, D2, hD2, hS2, hK2⟩; go_must (have S2 := Lib.hid hS2; have K2 := Lib.hid hK2; have D2' := Lib.hid hD2; clear hS2 hK2 hD2)))
        | fail)
      go_end0
      exact ⟨rfl, D1 ++ D2, .two HC.out D1'.out D2'.out, by rw [← List.append_assoc]; exact S2.out, ((Kp.below B1.out).trans K1.out).trans K2.out⟩

end Go.Proofs.YtoknfelheebidaaDoor.Bq

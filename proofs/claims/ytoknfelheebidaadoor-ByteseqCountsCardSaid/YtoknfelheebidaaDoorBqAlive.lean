/- The document's example. -/
import Derived.Test.YtoknfelheebidaaDoorBqOf
import Derived.Test.YtoknfelheebidaaDoorBqAny
import Derived.Test.YtoknfelheebidaaDoorBqCnt
namespace Go.Proofs.YtoknfelheebidaaDoor.Bq
open Go Go.RowKit Go.Shelf Go.Proofs.YtoknfelheebidaaDoor.Ut Go.Proofs.YtoknfelheebidaaDoor.Rg

theorem rise_same : ∀ {C : List R} {m M : Int} {q : R}, Rise m C M → (∀ p ∈ C, p = q) → C = [] ∨ C = [q]
  | [], _, _, _, _, _ => .inl rfl
  | [p], _, _, _, _, h => .inr (by rw [h p List.mem_cons_self])
  | p :: r :: t, _, _, _, ⟨_, h1, h2, _⟩, h => by
    have e1 := h p List.mem_cons_self
    have e2 := h r (List.mem_cons_of_mem _ List.mem_cons_self)
    subst e1
    rw [e2] at h2
    omega
theorem ex_parts {C : List R} (h : Parts [(128, 2047)] C) : C = [(128, 2047)] := by
  have key : ∀ p ∈ C, p = ((128 : Int), (2047 : Int)) := by
    intro p hp
    obtain ⟨i, L, r, D, hi, h0, hh, hr, hD, hpD⟩ := h.run p hp
    obtain ⟨s1, s2, s3⟩ := in_span h0 hh hr
    obtain ⟨m1, m2⟩ := hasB_mem h0 hr
    rw [hh] at m1 m2
    simp [inB, hasB] at m1 m2
    have hi1 : i = 1 := by
      rcases (show i = 0 ∨ i = 1 ∨ i = 2 ∨ i = 3 ∨ i = 4 by omega) with rfl | rfl | rfl | rfl | rfl <;> simp [spanLo, spanHi] at s1 s3 <;> omega
    subst hi1
    have hL : L = [((128 : Int), (2047 : Int))] := uniq h0 (show setFrom 0 [((128 : Int), (2047 : Int))] from ⟨by decide, by decide, by decide, trivial⟩) fun c => by
      rw [hh, Bool.eq_iff_iff]; simp [inB, hasB, spanLo, spanHi]; omega
    subst hL
    obtain rfl := List.mem_singleton.1 hr
    cases hD with
    | one _ => exact List.mem_singleton.1 hpD
    | two hc _ _ => rw [show cutF (128 : Int) 2047 = none by decide] at hc; cases hc
  rcases rise_same h.rise key with rfl | rfl
  · have := h.has 128
    simp [inB, hasB, scalar] at this
  · rfl
theorem ex_rows : rowsL [((128 : Int), (2047 : Int))] = [[((194 : Int), (223 : Int)), (128, 191)]] := by
  unfold rowsL
  rw [List.map_cons, row2 (by decide) (by decide) (by decide)]
  rfl
theorem ex_many : decide (0 < manyL [[((194 : Int), (223 : Int)), (128, 191)]] [195, 169]) = true := by decide
theorem ex_sum : sumL [[((194 : Int), (223 : Int)), (128, 191)]] = 1920 := by decide
theorem ex_good : ∀ r ∈ [[((194 : Int), (223 : Int)), (128, 191)]], Good r := by
  intro r hr
  obtain rfl := List.mem_singleton.1 hr
  refine ⟨by decide, fun q hq => ?_⟩
  simp at hq
  rcases hq with rfl | rfl <;> decide

theorem own_cell {w : World} {B g n cap : Nat} {xs : List Value} {v : Value} {e : TypeId} {sz : Nat} (h : w.ownsRow B e sz (.slice (some ⟨g, 0, none⟩) n cap) n xs) {j : Nat} (hj : xs[j]? = some v) : w.cell? ⟨g, j, none⟩ = some v := by
  rcases h.2 with ⟨h0, _⟩ | ⟨g', cap', cur, he, _, hg, _, _, _, ht⟩
  · cases h0
  · simp only [Value.slice.injEq, Option.some.injEq, Addr.mk.injEq] at he
    obtain ⟨⟨rfl, _⟩, _⟩ := he
    rw [← ht, List.getElem?_take] at hj
    split at hj
    · simp [World.cell?, hg]; simpa using hj
    · cases hj
theorem ex_shape {B : Nat} {w : World} {v : Value} {xs : List Value} (h : RowsOwn B w v [[((194 : Int), (223 : Int)), (128, 191)]] xs) : ∃ g cap g2 xc, v = .slice (some ⟨g, 0, none⟩) 1 cap ∧ w.cell? ⟨g, 0, none⟩ = some (.slice (some ⟨g2, 0, none⟩) 2 xc) ∧
    w.cell? ⟨g2, 0, none⟩ = some (.int .i64 194) ∧ w.cell? ⟨g2, 1, none⟩ = some (.int .i64 223) ∧ w.cell? ⟨g2, 2, none⟩ = some (.int .i64 128) ∧ w.cell? ⟨g2, 3, none⟩ = some (.int .i64 191) := by
  obtain ⟨g, cap, rfl, _, _⟩ := h.own.form (by decide)
  obtain ⟨x, hx, hr⟩ := h.row 0 (by decide)
  obtain ⟨g2, xc, rfl, _, _⟩ := hr.form (by decide)
  exact ⟨g, cap, g2, xc, rfl, own_cell h.own hx, own_cell hr rfl, own_cell hr rfl, own_cell hr rfl, own_cell hr rfl⟩

set_option maxRecDepth 100000 in
set_option maxHeartbeats 4000000 in
theorem alive_any (w : World) (hT : Tab w) : Calls Tryd.prog 5 #[] w fun e w' => e = .returned (.bool true) ∧ Below w.heap.size w w' := by
  have h1 := (Below.refl w.heap.size w).alloc (Nat.le_refl _) (.cells #[.int .i64 128, .int .i64 2047] 35)
  have c1 := Lib.hid (of_all [(128, 2047)] _ _ (one_at w w.heap.size rfl 128 2047 35) (hT.next h1) (by decide))
  have c2 := Lib.hid (fun W v (h : RowsAt W v [[((194 : Int), (223 : Int)), (128, 191)]]) => any_any _ ⟨#[195, 169]⟩ v W h (by decide))
  have c3 := Lib.hid (fun W v (h : RowsAt W v [[((194 : Int), (223 : Int)), (128, 191)]]) => count_rows _ v W h ex_good (by decide))
  have hm : decide (0 < manyL [[((194 : Int), (223 : Int)), (128, 191)]] (⟨#[195, 169]⟩ : ByteArray).data.toList) = true := ex_many
  rw [hm] at c2
  rw [ex_sum] at c3
  have H1 := Lib.hid h1
  clear h1 hT hm
  go_enter Tryd.func5, Tryd.ntmps5
  go_wp2_with (first
    | (go_at_call 6; (with_reducible refine c1.out.mono ?_); rintro e w1 ⟨v1, C, xs, rfl, hp, hr, hb⟩; go_must (obtain rfl := ex_parts hp; rw [ex_rows] at hr; have HRA := Lib.hid hr.at'; obtain ⟨g, cap, g2, xc, rfl, d1, e1, e2, e3, e4⟩ := ex_shape hr; have B1 := Lib.hid (H1.out.trans (hb.mono H1.out.size)); clear hp hr hb))
    | (go_at_call 10; (with_reducible refine (c2.out _ _ HRA.out).mono ?_); rintro e w2 ⟨rfl, h2⟩; go_must (have B2 := Lib.hid (B1.out.trans (h2.mono B1.out.size)); have R2 := Lib.hid (HRA.out.next h2); clear h2))
    | (go_at_call 14; (with_reducible refine (c3.out _ _ R2.out).mono ?_); rintro e w3 ⟨rfl, h3⟩; go_must (have B3 := Lib.hid (B2.out.trans (h3.mono B2.out.size)); clear h3))
    | fail)
  go_ret
  exact ⟨rfl, B3.out⟩

end Go.Proofs.YtoknfelheebidaaDoor.Bq

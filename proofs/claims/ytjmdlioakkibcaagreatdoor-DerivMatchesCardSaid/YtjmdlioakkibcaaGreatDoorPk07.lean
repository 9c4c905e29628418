/- What a book is asked: Empty, Cat, Alt, Rep, fewer. -/
import Derived.Test.YtjmdlioakkibcaaGreatDoorPk06

namespace Go.Proofs.YtjmdlioakkibcaaGreatDoor.Dv
open Go Go.RowKit Go.Shelf Go.Maps
open Go.Proofs.YtjmdlioakkibcaaGreatDoor.Ar (Nd nd nodeB NRow cellsN aggN flatN Book WfN Wf)
open Go.Proofs.YtjmdlioakkibcaaGreatDoor.Rg (R RngsAt RowsAt nthL add_zero own_next)

theorem number_any {w0 w : World} {bb M : Nat} {B : Bk} (n : Nd) (e : Bool) (h : BookAt w0 bb M B w) (g : Good B) (hn : WfN n) :
    Calls Tryz.prog 46 #[.pointer (some ⟨bb, 0, none⟩), aggN n, .bool e] w (OpAt w0 bb M w (number B n e)) := by
  unfold number
  split
  · exact number_old n e h hn (by assumption)
  · split
    · exact number_full n e h hn (by assumption) (by assumption)
    · exact number_new n e h hn (by have := g.small; omega) g.len (by assumption)
theorem wf_i {x : Int} (h : -1000000 ≤ x ∧ x ≤ 1000000) : Wf x := WalkArith.wf_i64 (by omega)
theorem wfN_of {n : Nd} (h : ∀ x, x ∈ [n.op, n.a, n.b, n.lo, n.hi, n.set] → -1000000 ≤ x ∧ x ≤ 1000000) : WfN n :=
  ⟨wf_i (h _ (by simp)), wf_i (h _ (by simp)), wf_i (h _ (by simp)), wf_i (h _ (by simp)), wf_i (h _ (by simp)), wf_i (h _ (by simp))⟩

set_option maxHeartbeats 800000 in
theorem empty_any (bb : Nat) (w : World) : Calls Tryz.prog 122 #[.pointer (some ⟨bb, 0, none⟩)] w fun e w' => e = .returned (.int .i64 1) ∧ w' = w := by
  go_enter Tryz.func122, Tryz.ntmps122
  go_wp2
  go_ret
  exact ⟨rfl, rfl⟩

/-- a part's mark, in memory -/
theorem BkAt.bareAt {w0 w : World} {bb M : Nat} {B : Bk} {pv sv bv : Value} {xs : List Value} (h : BkAt w0 bb M B pv sv bv xs w) (g : Good B) {x : Nat} (hx : x < B.parts.length) :
    ∃ gb cap, bv = .slice (some ⟨gb, 0, none⟩) B.parts.length cap ∧ B.parts.length ≤ 9223372036854775807 ∧ w.cell? ⟨gb, x, none⟩ = some (.bool (bareAt B x)) := by
  have hl : x < B.bare.length := by rw [g.len]; exact hx
  obtain ⟨gb, cap, rfl, _, _⟩ := h.bare.form (by omega)
  refine ⟨gb, cap, by rw [g.len], by have := g.small; omega, ?_⟩
  rw [h.bare.cellAt x (by simpa using hl)]
  simp [Dv.bareAt, hl, List.getD]

theorem nz {x : Nat} (h : x ≠ 0) : ((x : Int) == 0) = false := by simp; omega
theorem n1 {x : Nat} (h : x ≠ 1) : ((x : Int) == 1) = false := by simp; omega
set_option maxRecDepth 100000 in
set_option maxHeartbeats 4000000 in
theorem cat_any {w0 w : World} {bb M : Nat} {B : Bk} (h : BookAt w0 bb M B w) (g : Good B) {x y : Nat} (hx : x < B.parts.length) (hy : y < B.parts.length) :
    Calls Tryz.prog 80 #[.pointer (some ⟨bb, 0, none⟩), .int .i64 (x : Nat), .int .i64 (y : Nat)] w (OpAt w0 bb M w (catF B x y)) := by
  have HB := Lib.hid h
  unfold catF
  by_cases x0 : x = 0
  · subst x0
    rw [if_pos (.inl rfl)]
    clear h g
    go_enter Tryz.func80, Tryz.ntmps80
    go_wp2
    go_ret
    exact .same HB.out (Below.refl _ _)
  · by_cases y0 : y = 0
    · subst y0
      rw [if_pos (.inr rfl)]
      have fx := nz x0
      clear h g
      go_enter Tryz.func80, Tryz.ntmps80
      go_wp2
      go_ret
      exact .same HB.out (Below.refl _ _)
    · rw [if_neg (by omega)]
      have fx := nz x0
      have fy := nz y0
      by_cases x1 : x = 1
      · subst x1
        rw [if_pos rfl]
        clear h g
        go_enter Tryz.func80, Tryz.ntmps80
        go_wp2
        go_ret
        exact .same HB.out (Below.refl _ _)
      · rw [if_neg x1]
        have fx1 := n1 x1
        by_cases y1 : y = 1
        · subst y1
          rw [if_pos rfl]
          clear h g
          go_enter Tryz.func80, Tryz.ntmps80
          go_wp2
          go_ret
          exact .same HB.out (Below.refl _ _)
        · rw [if_neg y1]
          have fy1 := n1 y1
          have hs := g.small
          have cn := fun e => number_any (nCat x y) e h g (wfN_of (by simp [nCat]; omega))
          obtain ⟨pv, sv, bv, xs, h⟩ := h
          have c2 := h.cell2
          obtain ⟨gb, cap, rfl, hl, hcx⟩ := h.bareAt g hx
          obtain ⟨gb', cap', he, _, hcy⟩ := h.bareAt g hy
          simp only [Value.slice.injEq, Option.some.injEq, Addr.mk.injEq] at he
          obtain ⟨⟨rfl, _⟩, _, rfl⟩ := he
          have hlt := h.lt
          have hn : nCat x y = ⟨3, x, y, 0, 0, 0⟩ := rfl
          generalize nCat x y = nn at *
          generalize hBx : bareAt B x = bx at *
          generalize hBy : bareAt B y = by' at *
          clear h g hBx hBy
          cases bx
          · have CN := Lib.hid (cn false)
            rw [hn] at CN
            unfold aggN at CN
            rw [Bool.false_and, hn]
            clear cn hn
            go_enter Tryz.func80, Tryz.ntmps80
            go_wp2_with (go_at_call 46; (with_reducible refine CN.out.mono ?_); rintro e w1 ⟨rfl, h1⟩; go_must (have H1 := Lib.hid h1; clear h1))
            go_ret
            exact ⟨rfl, H1.out⟩
          · have CN := Lib.hid (cn by')
            rw [hn] at CN
            unfold aggN at CN
            rw [Bool.true_and, hn]
            clear cn hn
            go_enter Tryz.func80, Tryz.ntmps80
            go_wp2_with (go_at_call 46; (with_reducible refine CN.out.mono ?_); rintro e w1 ⟨rfl, h1⟩; go_must (have H1 := Lib.hid h1; clear h1))
            go_ret
            exact ⟨rfl, H1.out⟩

theorem pne {x y : Nat} (h : x ≠ y) : ((x : Int) == (y : Int)) = false := by simp; omega
set_option maxRecDepth 100000 in
set_option maxHeartbeats 4000000 in
theorem alt_up {w0 w : World} {bb M : Nat} {B : Bk} (h : BookAt w0 bb M B w) (g : Good B) {p q : Nat} (hp : p < B.parts.length) (hlt0 : q < p) :
    Calls Tryz.prog 59 #[.pointer (some ⟨bb, 0, none⟩), .int .i64 (q : Nat), .int .i64 (p : Nat)] w (OpAt w0 bb M w (altG B p q)) := by
  have HB := Lib.hid h
  have hq : q < B.parts.length := by omega
  have hpq : p ≠ q := by omega
  have d1 : (q : Int) < p := by omega
  have d2 : ¬ (p : Int) < q := by omega
  have f1 := pne hpq
  unfold altG
  clear hlt0
  by_cases q0 : q = 0
  · subst q0
    rw [if_pos (.inr (.inl rfl))]
    have f0 := nz hpq
    clear h g hpq
    go_enter Tryz.func59, Tryz.ntmps59
    go_wp2
    go_ret
    exact .same HB.out (Below.refl _ _)
  · have f2 := nz q0
    have hs := g.small
    have cn := fun e => number_any (nAlt p q) e h g (wfN_of (by simp [nAlt]; omega))
    obtain ⟨pv, sv, bv, xs, h⟩ := h
    have c2 := h.cell2
    obtain ⟨gb, cap, rfl, hl, hcx⟩ := h.bareAt g hp
    obtain ⟨gb', cap', he, _, hcy⟩ := h.bareAt g hq
    simp only [Value.slice.injEq, Option.some.injEq, Addr.mk.injEq] at he
    obtain ⟨⟨rfl, _⟩, _, rfl⟩ := he
    have hlt := h.lt
    have hn : nAlt p q = ⟨4, p, q, 0, 0, 0⟩ := rfl
    generalize nAlt p q = nn at *
    generalize hBx : bareAt B p = bx at *
    generalize hBy : bareAt B q = by' at *
    by_cases q1 : q = 1
    · subst q1
      cases bx
      · rw [if_neg (by simp [hpq, q0])]
        have CN := Lib.hid (cn by')
        have f3 := n1 hpq
        rw [show (((1 : Nat)) : Int) = 1 from rfl] at hn
        rw [hn] at CN
        unfold aggN at CN
        rw [Bool.false_or, hn]
        clear cn hn h g hBx hBy hpq
        go_enter Tryz.func59, Tryz.ntmps59
        go_wp2_with (go_at_call 46; (with_reducible refine CN.out.mono ?_); rintro e w1 ⟨rfl, h1⟩; go_must (have H1 := Lib.hid h1; clear h1))
        go_ret
        exact ⟨rfl, H1.out⟩
      · rw [if_pos (.inr (.inr ⟨rfl, rfl⟩))]
        have f3 := n1 hpq
        clear cn hn h g hBx hBy hpq
        go_enter Tryz.func59, Tryz.ntmps59
        go_wp2
        go_ret
        exact .same HB.out (Below.refl _ _)
    · rw [if_neg (by omega)]
      have f3 := n1 q1
      cases bx
      · have CN := Lib.hid (cn by')
        rw [hn] at CN
        unfold aggN at CN
        rw [Bool.false_or, hn]
        clear cn hn h g hBx hBy hpq
        go_enter Tryz.func59, Tryz.ntmps59
        go_wp2_with (go_at_call 46; (with_reducible refine CN.out.mono ?_); rintro e w1 ⟨rfl, h1⟩; go_must (have H1 := Lib.hid h1; clear h1))
        go_ret
        exact ⟨rfl, H1.out⟩
      · have CN := Lib.hid (cn true)
        rw [hn] at CN
        unfold aggN at CN
        rw [Bool.true_or, hn]
        clear cn hn h g hBx hBy hpq
        go_enter Tryz.func59, Tryz.ntmps59
        go_wp2_with (go_at_call 46; (with_reducible refine CN.out.mono ?_); rintro e w1 ⟨rfl, h1⟩; go_must (have H1 := Lib.hid h1; clear h1))
        go_ret
        exact ⟨rfl, H1.out⟩
set_option maxRecDepth 100000 in
set_option maxHeartbeats 4000000 in
theorem alt_dn {w0 w : World} {bb M : Nat} {B : Bk} (h : BookAt w0 bb M B w) (g : Good B) {p q : Nat} (hp : p < B.parts.length) (hlt0 : q < p) :
    Calls Tryz.prog 59 #[.pointer (some ⟨bb, 0, none⟩), .int .i64 (p : Nat), .int .i64 (q : Nat)] w (OpAt w0 bb M w (altG B p q)) := by
  have HB := Lib.hid h
  have hq : q < B.parts.length := by omega
  have hpq : p ≠ q := by omega
  have d1 : (q : Int) < p := by omega
  have d2 : ¬ (p : Int) < q := by omega
  have f1 := pne hpq
  unfold altG
  clear hlt0
  by_cases q0 : q = 0
  · subst q0
    rw [if_pos (.inr (.inl rfl))]
    have f0 := nz hpq
    clear h g hpq
    go_enter Tryz.func59, Tryz.ntmps59
    go_wp2
    go_ret
    exact .same HB.out (Below.refl _ _)
  · have f2 := nz q0
    have hs := g.small
    have cn := fun e => number_any (nAlt p q) e h g (wfN_of (by simp [nAlt]; omega))
    obtain ⟨pv, sv, bv, xs, h⟩ := h
    have c2 := h.cell2
    obtain ⟨gb, cap, rfl, hl, hcx⟩ := h.bareAt g hp
    obtain ⟨gb', cap', he, _, hcy⟩ := h.bareAt g hq
    simp only [Value.slice.injEq, Option.some.injEq, Addr.mk.injEq] at he
    obtain ⟨⟨rfl, _⟩, _, rfl⟩ := he
    have hlt := h.lt
    have hn : nAlt p q = ⟨4, p, q, 0, 0, 0⟩ := rfl
    generalize nAlt p q = nn at *
    generalize hBx : bareAt B p = bx at *
    generalize hBy : bareAt B q = by' at *
    by_cases q1 : q = 1
    · subst q1
      cases bx
      · rw [if_neg (by simp [hpq, q0])]
        have CN := Lib.hid (cn by')
        have f3 := n1 hpq
        rw [show (((1 : Nat)) : Int) = 1 from rfl] at hn
        rw [hn] at CN
        unfold aggN at CN
        rw [Bool.false_or, hn]
        clear cn hn h g hBx hBy hpq
        go_enter Tryz.func59, Tryz.ntmps59
        go_wp2_with (go_at_call 46; (with_reducible refine CN.out.mono ?_); rintro e w1 ⟨rfl, h1⟩; go_must (have H1 := Lib.hid h1; clear h1))
        go_ret
        exact ⟨rfl, H1.out⟩
      · rw [if_pos (.inr (.inr ⟨rfl, rfl⟩))]
        have f3 := n1 hpq
        clear cn hn h g hBx hBy hpq
        go_enter Tryz.func59, Tryz.ntmps59
        go_wp2
        go_ret
        exact .same HB.out (Below.refl _ _)
    · rw [if_neg (by omega)]
      have f3 := n1 q1
      cases bx
      · have CN := Lib.hid (cn by')
        rw [hn] at CN
        unfold aggN at CN
        rw [Bool.false_or, hn]
        clear cn hn h g hBx hBy hpq
        go_enter Tryz.func59, Tryz.ntmps59
        go_wp2_with (go_at_call 46; (with_reducible refine CN.out.mono ?_); rintro e w1 ⟨rfl, h1⟩; go_must (have H1 := Lib.hid h1; clear h1))
        go_ret
        exact ⟨rfl, H1.out⟩
      · have CN := Lib.hid (cn true)
        rw [hn] at CN
        unfold aggN at CN
        rw [Bool.true_or, hn]
        clear cn hn h g hBx hBy hpq
        go_enter Tryz.func59, Tryz.ntmps59
        go_wp2_with (go_at_call 46; (with_reducible refine CN.out.mono ?_); rintro e w1 ⟨rfl, h1⟩; go_must (have H1 := Lib.hid h1; clear h1))
        go_ret
        exact ⟨rfl, H1.out⟩

set_option maxRecDepth 100000 in
set_option maxHeartbeats 4000000 in
theorem alt_any {w0 w : World} {bb M : Nat} {B : Bk} (h : BookAt w0 bb M B w) (g : Good B) {x y : Nat} (hx : x < B.parts.length) (hy : y < B.parts.length) :
    Calls Tryz.prog 59 #[.pointer (some ⟨bb, 0, none⟩), .int .i64 (x : Nat), .int .i64 (y : Nat)] w (OpAt w0 bb M w (altF B x y)) := by
  unfold altF
  rcases Nat.lt_trichotomy x y with hl | rfl | hl
  · rw [Nat.max_eq_right (Nat.le_of_lt hl), Nat.min_eq_left (Nat.le_of_lt hl)]
    exact alt_up h g hy hl
  · rw [Nat.max_self, Nat.min_self]
    unfold altG
    rw [if_pos (.inl rfl)]
    have HB := Lib.hid h
    have d2 : ¬ (x : Int) < x := by omega
    clear h g hx hy
    go_enter Tryz.func59, Tryz.ntmps59
    go_wp2
    go_ret
    exact .same HB.out (Below.refl _ _)
  · rw [Nat.max_eq_left (Nat.le_of_lt hl), Nat.min_eq_right (Nat.le_of_lt hl)]
    exact alt_dn h g hx hl

end Go.Proofs.YtjmdlioakkibcaaGreatDoor.Dv

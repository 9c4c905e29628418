/- Which of two sets stands first. -/
import Derived.Test.YtdgpanofehfjdaaArKx
import Derived.Test.YtdgpanofehfjdaaShelf
import Derived.Test.YtdgpanofehfjdaaRgRight
import Derived.Deep.RegionHeld3
import Derived.Sort.Grow
import Derived.Deep.QuietTactic
import Derived.BigQuiet
import Derived.Deep.RegionLaw
namespace Go.Proofs.Ytdgpanofehfjdaa.Ar
open Go Go.RowKit Go.Shelf
open Go.Proofs.Ytdgpanofehfjdaa.Rg (R RngsAt RowsAt nthL nth nth_eq add_zero own_next)
open Go.Sort (grow grow_grow alloc_eq_grow grow_empty)

/-- a world that has drawn, and has more blocks -/
def Gw (w w' : World) : Prop := ∃ q os, w' = grow (w.drewN q) os
theorem Gw.refl (w : World) : Gw w w := ⟨0, #[], by rw [grow_empty]; rfl⟩
theorem Gw.trans {a b c : World} (h : Gw a b) (k : Gw b c) : Gw a c := by
  obtain ⟨q, os, rfl⟩ := h
  obtain ⟨q', os', rfl⟩ := k
  refine ⟨q + q', os ++ os', ?_⟩
  rw [← grow_grow]
  simp [grow, World.drewN, Nat.add_assoc]
theorem Gw.alloc {w W : World} (h : Gw w W) (o : Obj) : Gw w (W.alloc o) := h.trans ⟨0, #[o], by rw [alloc_eq_grow]; rfl⟩
theorem Gw.drew {w W : World} (h : Gw w W) : Gw w W.drew := h.trans ⟨1, #[], by rw [grow_empty]; rfl⟩
theorem Gw.drewN {w W : World} (h : Gw w W) (q : Nat) : Gw w (W.drewN q) := h.trans ⟨q, #[], by rw [grow_empty]⟩
theorem Gw.below {w w' : World} (h : Gw w w') : Below w.heap.size w w' := by
  obtain ⟨q, os, rfl⟩ := h
  refine ⟨rfl, rfl, rfl, by simp [World.drewN], fun k hk => ?_⟩
  rw [Go.Sort.heap_grow_old _ _ (by simpa [World.drewN] using hk)]; rfl

theorem slice_twoD (W : World) (N : Nat) (hN : W.heap.size = N) (a b : Int) : IntsAt (W.alloc (.cells #[.int .i64 a, .int .i64 b] 3)).drew (.slice (some ⟨N, 0, none⟩) 2 2) [a, b] := by
  subst hN
  exact (slice_two W a b).next ⟨rfl, rfl, rfl, Nat.le_refl _, fun _ _ => rfl⟩
/-- the first number that is not 0 -/
def orL : List Int → Int
  | [] => 0
  | x :: r => if x = 0 then orL r else x
theorem orL_at {l : List Int} {k : Nat} (h : k < l.length) : orL (l.drop k) = if l.getD k 0 = 0 then orL (l.drop (k + 1)) else l.getD k 0 := by
  rw [List.drop_eq_getElem_cons h]
  simp [orL, List.getD, h]
/-- how two ranges stand to one another, and two sets -/
def cmpR (a b : R) : Int := orL [Lib.compareInt a.1 b.1, Lib.compareInt a.2 b.2]
def cmpL : List R → List R → Int
  | [], [] => 0
  | [], _ :: _ => -1
  | _ :: _, [] => 1
  | a :: x, b :: y => if cmpR a b = 0 then cmpL x y else cmpR a b
theorem ci_eq {x y : Int} : Lib.compareInt x y = 0 ↔ x = y := by unfold Lib.compareInt; split <;> (try split) <;> constructor <;> intro h <;> first | omega | (exfalso; omega)
theorem ci_lt {x y : Int} : Lib.compareInt x y < 0 ↔ x < y := by unfold Lib.compareInt; split <;> (try split) <;> constructor <;> intro h <;> first | omega | (exfalso; omega)
theorem cmpR_cases (a b : R) : (cmpR a b < 0 ↔ a.1 < b.1 ∨ (a.1 = b.1 ∧ a.2 < b.2)) ∧ (cmpR a b = 0 ↔ a = b) := by
  obtain ⟨a1, a2⟩ := a
  obtain ⟨b1, b2⟩ := b
  have e1 := @ci_eq a1 b1
  have e2 := @ci_eq a2 b2
  have l1 := @ci_lt a1 b1
  have l2 := @ci_lt a2 b2
  unfold cmpR orL orL orL
  simp only [Prod.mk.injEq]
  generalize Lib.compareInt a1 b1 = x at *
  generalize Lib.compareInt a2 b2 = y at *
  split
  · split <;> omega
  · omega
theorem cmpL_eq : ∀ {a b : List R}, cmpL a b = 0 ↔ a = b
  | [], [] => by simp [cmpL]
  | [], _ :: _ => by simp [cmpL]
  | _ :: _, [] => by simp [cmpL]
  | a :: x, b :: y => by
    have h := (cmpR_cases a b).2
    have ih := @cmpL_eq x y
    unfold cmpL
    split
    · rename_i h0; rw [ih, List.cons.injEq, ← h]; simp [h0]
    · rename_i h0; rw [List.cons.injEq, ← h]; simp [h0]
theorem cmpL_lt : ∀ (a b : List R), cmpL a b < 0 ↔ cmpL a b ≠ 0 ∧ ¬ cmpL b a < 0
  | [], [] => by simp [cmpL]
  | [], _ :: _ => by simp [cmpL]
  | _ :: _, [] => by simp [cmpL]
  | a :: x, b :: y => by
    have h := cmpR_cases a b
    have k := cmpR_cases b a
    have ih := cmpL_lt x y
    unfold cmpL
    by_cases hab : a = b
    · subst hab
      rw [if_pos (h.2.2 rfl), if_pos (h.2.2 rfl)]; exact ih
    · have h1 : ¬ cmpR a b = 0 := fun e => hab (h.2.1 e)
      have h2 : ¬ cmpR b a = 0 := fun e => hab (k.2.1 e).symm
      rw [if_neg h1, if_neg h2]
      have : ¬ (a.1 = b.1 ∧ a.2 = b.2) := fun e => hab (Prod.ext e.1 e.2)
      omega
theorem cmpL_trans : ∀ {a b c : List R}, cmpL a b < 0 → cmpL b c < 0 → cmpL a c < 0
  | [], [], _ => by simp [cmpL]
  | [], _ :: _, [] => by simp [cmpL]
  | [], _ :: _, _ :: _ => by simp [cmpL]
  | _ :: _, [], _ => by simp [cmpL]
  | _ :: _, _ :: _, [] => by simp [cmpL]
  | a :: x, b :: y, c :: z => by
    have h1 := cmpR_cases a b
    have h2 := cmpR_cases b c
    have h3 := cmpR_cases a c
    have ih := @cmpL_trans x y z
    unfold cmpL
    by_cases e1 : cmpR a b = 0
    · have := h1.2.1 e1
      subst this
      rw [if_pos e1]
      by_cases e2 : cmpR a c = 0
      · rw [if_pos e2, if_pos e2]; exact ih
      · rw [if_neg e2, if_neg e2]; exact fun _ h => h
    · rw [if_neg e1]
      by_cases e2 : cmpR b c = 0
      · have := h2.2.1 e2
        subst this
        rw [if_pos e2, if_neg e1]; exact fun h _ => h
      · rw [if_neg e2]
        intro h h'
        have h4 : cmpR a c < 0 := by rw [h3.1]; rw [h1.1] at h; rw [h2.1] at h'; omega
        rw [if_neg (by omega)]; exact h4
theorem swo_cmp {α : Type} (f : α → List R) : Go.Sort.SWO (Go.Proofs.ltOf fun i j : α => cmpL (f i) (f j)) where
  irrefl x := by unfold ltOf; rw [decide_eq_false_iff_not]; dsimp only; rw [cmpL_eq.2 rfl]; omega
  trans x y z h1 h2 := by
    unfold ltOf at *
    rw [decide_eq_true_eq] at *
    dsimp only at *
    exact cmpL_trans h1 h2
  ntrans x y z h1 h2 := by
    unfold ltOf at *
    rw [decide_eq_false_iff_not] at *
    dsimp only at *
    intro h
    have k1 := cmpL_lt (f y) (f x)
    have k2 := cmpL_lt (f z) (f y)
    by_cases e1 : cmpL (f y) (f x) = 0
    · have := cmpL_eq.1 e1
      rw [this] at h2; exact h2 h
    · by_cases e2 : cmpL (f z) (f y) = 0
      · have := cmpL_eq.1 e2
        rw [← this] at h1; exact h1 h
      · have h3 := cmpL_trans (k2.2 ⟨e2, h2⟩) (k1.2 ⟨e1, h1⟩)
        have k3 := (cmpL_lt (f x) (f z)).1 h
        exact k3.2 h3

set_option maxRecDepth 100000 in
set_option maxHeartbeats 1000000 in
theorem or_any (l : List Int) (v : Value) (w : World) (h : IntsAt w v l) :
    Calls Try.prog 64 #[v] w fun e w' => e = .returned (.int .i64 (orL l)) ∧ w' = w := by
  obtain ⟨ao, cap, rfl, hm, hc⟩ := h.shape
  have HC := Lib.hid hc
  clear hc h
  obtain ⟨b, hb⟩ : ∃ b, orL l = b := ⟨_, rfl⟩
  have HB := Lib.hid hb
  rw [hb]
  clear hb
  go_enter Try.func64, Try.ntmps64
  go_wp2
  go_loop [8] (fun i => ∃ k : Nat, k ≤ l.length ∧ i = .int .i64 k ∧ b = orL (l.drop k)) (fun i => l.length - (intOf i).toNat)
  case atStart => exact ⟨0, Nat.zero_le _, rfl, by rw [← HB.out]; rfl⟩
  case round =>
    obtain ⟨k, hk, rfl, he⟩ := hrel
    by_cases hlt : k < l.length
    · obtain ⟨ad, rfl, hcell⟩ := HC.out k hlt
      rw [orL_at hlt] at he
      have HE := Lib.hid he
      clear he
      generalize l.getD k 0 = x at *
      by_cases hx : x = 0
      · subst hx
        go_wp2
        go_round
        case rel => exact ⟨k + 1, by omega, by go_num, by rw [HE.out]; rfl⟩
        case measure => simp [intOf]; omega
      · have hx' : (x == 0) = false := by simpa using hx
        have he2 : b = x := by rw [HE.out, if_neg hx]
        subst he2
        go_wp2
        go_ret
        exact ⟨rfl, rfl⟩
    · obtain rfl : k = l.length := by omega
      rw [List.drop_length] at he
      have HE := Lib.hid he
      clear he
      go_wp2
      go_ret
      exact ⟨by rw [HE.out]; rfl, rfl⟩

set_option maxRecDepth 100000 in
set_option maxHeartbeats 4000000 in
theorem cmpr_any (a1 a2 b1 b2 : Int) (w : World) :
    Calls Try.prog 63 #[.agg #[.int .i64 a1, .int .i64 a2], .agg #[.int .i64 b1, .int .i64 b2]] w fun e w' => e = .returned (.int .i64 (cmpR (a1, a2) (b1, b2))) ∧ Gw w w' := by
  have C := Lib.hid (fun x y W => Try.cmp_Compare_int x y W)
  have CO := Lib.hid (fun x y v W (h : IntsAt W v [x, y]) => or_any [x, y] v W h)
  have G := Lib.hid (fun o u => ((Gw.refl w).alloc o).alloc u)
  unfold cmpR
  generalize Lib.compareInt = ci at *
  go_enter Try.func63, Try.ntmps63
  go_wp2
  go_region_held3 (fun W => W.cell? ⟨w.heap.size, 0, none⟩ = some (.int .i64 a1) ∧ W.cell? ⟨w.heap.size, 1, none⟩ = some (.int .i64 a2) ∧ W.cell? ⟨w.heap.size + 1, 0, none⟩ = some (.int .i64 b1) ∧ W.cell? ⟨w.heap.size + 1, 1, none⟩ = some (.int .i64 b2) ∧ Gw w W) (first | exact ⟨by assumption, by assumption, by assumption, by assumption, by assumption⟩ | (refine ⟨by go_keep, by go_keep, by go_keep, by go_keep, ?_⟩; first | exact (G.out _ _).drew | exact (G.out _ _).drew.alloc _) | go_keep)
    (first
      | (go_at_call 65; ((with_reducible refine (C.out _ _ _).mono ?_); rintro e w1 ⟨rfl, hw⟩; subst w1))
      | (go_at_call 64; ((with_reducible refine (CO.out _ _ _ _ (slice_twoD _ _ (by simp) _ _)).mono ?_); rintro e w1 ⟨rfl, hw⟩; subst w1))
      | fail)
  all_goals (
    go_wp2
    go_ret
    exact ⟨rfl, by first | exact ((G.out _ _).alloc _).drew | exact (G.out _ _).drew.alloc _⟩)

theorem cmpL_cons (a b : List R) (k : Nat) (ha : k < a.length) (hb : k < b.length) : cmpL (a.drop k) (b.drop k) = if cmpR (nth a k) (nth b k) = 0 then cmpL (a.drop (k + 1)) (b.drop (k + 1)) else cmpR (nth a k) (nth b k) := by
  rw [List.drop_eq_getElem_cons ha, List.drop_eq_getElem_cons hb, ← nth_eq ha, ← nth_eq hb]; rfl
theorem cmpL_end1 (a b : List R) (k : Nat) (ha : k < a.length) (hb : ¬ k < b.length) : cmpL (a.drop k) (b.drop k) = 1 := by
  rw [List.drop_eq_getElem_cons ha, show b.drop k = [] from List.drop_eq_nil_of_le (by omega)]; rfl
theorem cmpL_end2 (a b : List R) (k : Nat) (ha : ¬ k < a.length) (hb : k < b.length) : cmpL (a.drop k) (b.drop k) = -1 := by
  rw [List.drop_eq_getElem_cons hb, show a.drop k = [] from List.drop_eq_nil_of_le (by omega)]; rfl
theorem cmpL_end3 (a b : List R) (k : Nat) (ha : ¬ k < a.length) (hb : ¬ k < b.length) : cmpL (a.drop k) (b.drop k) = 0 := by
  rw [show a.drop k = [] from List.drop_eq_nil_of_le (by omega), show b.drop k = [] from List.drop_eq_nil_of_le (by omega)]; rfl
theorem ret_i {a b : Int} (h : a = b) : Ending.returned (.int .i64 a) = .returned (.int .i64 b) := by rw [h]

set_option maxRecDepth 100000 in
set_option maxHeartbeats 4000000 in
theorem cmpf_any (a b : List R) (va vb : Value) (w : World) (ha : RngsAt w va a) (hb : RngsAt w vb b) :
    Calls Try.prog 62 #[va, vb, .func (.func 63) #[] #[]] w fun e w' => e = .returned (.int .i64 (cmpL a b)) ∧ Gw w w' := by
  obtain ⟨ao, cap, rfl, hm, hc⟩ := ha.shape
  obtain ⟨bo, bcap, rfl, hm2, hc2⟩ := hb.shape
  have HA := Lib.hid hc
  have HB := Lib.hid hc2
  have CR := Lib.hid (fun (x y : R) W => cmpr_any x.1 x.2 y.1 y.2 W)
  clear ha hb hc hc2
  obtain ⟨r, hr⟩ : ∃ r, cmpL a b = r := ⟨_, rfl⟩
  have HR := Lib.hid hr
  rw [hr]
  clear hr
  go_enter Try.func62, Try.ntmps62
  go_wp2
  go_loopw [13] (fun i wr => ∃ k : Nat, i = .int .i64 k ∧ k ≤ a.length ∧ k ≤ b.length ∧ r = cmpL (a.drop k) (b.drop k) ∧ Gw w wr) (fun i _ => a.length - (intOf i).toNat)
  case atStart => exact ⟨0, rfl, Nat.zero_le _, Nat.zero_le _, HR.out.symm, Gw.refl w⟩
  case round =>
    obtain ⟨k, rfl, hk, hkb, he, hg⟩ := hrel
    obtain ⟨wo, rfl⟩ : ∃ x, x = wr := ⟨_, rfl⟩
    have HG := Lib.hid hg
    have hsz := hg.below.size
    by_cases hlt : k < a.length
    · obtain ⟨g, rfl, c1, c2⟩ := HA.out k hlt
      replace c1 := cell_next c1 hg.below
      replace c2 := cell_next c2 hg.below
      have hl0 := cell_lt c1
      by_cases hlb : k < b.length
      · obtain ⟨g2, rfl, d1, d2⟩ := HB.out k hlb
        replace d1 := cell_next d1 hg.below
        replace d2 := cell_next d2 hg.below
        have hl2 := cell_lt d1
        have d1' := cell_next d1 ((Below.refl _ _).alloc (Nat.le_refl _) (.cells #[.int .i64 (nth a k).1, .int .i64 (nth a k).2] 55))
        rw [cmpL_cons a b k hlt hlb] at he
        have HE := Lib.hid he
        have C := Lib.hid (fun W => CR.out (nth a k) (nth b k) W)
        have GO := Lib.hid (fun o u => (hg.alloc o).alloc u)
        generalize nth a k = x at *
        generalize nth b k = y at *
        obtain ⟨x1, x2⟩ := x
        obtain ⟨y1, y2⟩ := y
        dsimp only at *
        have hkb' : (k : Int) < (b.length : Int) := by omega
        clear he hg
        by_cases hz : cmpR (x1, x2) (y1, y2) = 0
        · rw [hz] at C
          have HZ := Lib.hid hz
          clear hz
          go_wp2_with (go_at_call 63; (with_reducible refine (C.out _).mono ?_); rintro e w5 ⟨rfl, hg5⟩; go_must (have G5 := Lib.hid ((GO.out _ _).trans hg5); clear hg5))
          go_roundw
          case rel => exact ⟨k + 1, by go_num, by omega, by omega, by rw [HE.out, if_pos HZ.out], G5.out⟩
          case measure => simp [intOf]; omega
        · have hz' : (cmpR (x1, x2) (y1, y2) == 0) = false := by simpa using hz
          have he2 : r = cmpR (x1, x2) (y1, y2) := by rw [HE.out, if_neg hz]
          have HE2 := Lib.hid he2
          generalize cmpR (x1, x2) (y1, y2) = z at *
          clear he2
          go_wp2_with (go_at_call 63; (with_reducible refine (C.out _).mono ?_); rintro e w5 ⟨rfl, hg5⟩; go_must (have G5 := Lib.hid ((GO.out _ _).trans hg5); clear hg5))
          go_ret
          exact ⟨ret_i HE2.out.symm, G5.out⟩
      · rw [cmpL_end1 a b k hlt hlb] at he
        have HE := Lib.hid he
        have GO := Lib.hid (fun o => hg.alloc o)
        obtain rfl : k = b.length := by omega
        clear he hg
        go_wp2
        go_ret
        exact ⟨ret_i HE.out.symm, GO.out _⟩
    · obtain rfl : k = a.length := by omega
      by_cases hlb : a.length < b.length
      · rw [cmpL_end2 a b _ hlt hlb] at he
        have HE := Lib.hid he
        have hlb' : (a.length : Int) < (b.length : Int) := by omega
        clear he hg
        go_wp2
        go_ret
        exact ⟨ret_i HE.out.symm, HG.out⟩
      · rw [cmpL_end3 a b _ hlt hlb] at he
        have HE := Lib.hid he
        have hlb' : ¬ (a.length : Int) < (b.length : Int) := by omega
        clear he hg
        go_wp2
        go_ret
        exact ⟨ret_i HE.out.symm, HG.out⟩

set_option maxRecDepth 100000 in
set_option maxHeartbeats 4000000 in
theorem compare_any (a b : List R) (va vb : Value) (w : World) (ha : RngsAt w va a) (hb : RngsAt w vb b) :
    Calls Try.prog 54 #[va, vb] w fun e w' => e = .returned (.int .i64 (cmpL a b)) ∧ Gw w w' := by
  have C := Lib.hid (cmpf_any a b va vb w ha hb)
  obtain ⟨ao, cap, rfl, hm, hc⟩ := ha.shape
  obtain ⟨bo, bcap, rfl, hm2, hc2⟩ := hb.shape
  generalize cmpL a b = r at *
  clear ha hb hc hc2
  go_enter Try.func54, Try.ntmps54
  go_wp2_with (go_at_call 62; (with_reducible refine C.out.mono ?_); rintro e w1 ⟨rfl, hg⟩)
  go_ret
  exact ⟨rfl, hg⟩

end Go.Proofs.Ytdgpanofehfjdaa.Ar

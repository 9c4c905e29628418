/- What becomes of some ranges in one half of a row: turned. -/
import Derived.Test.YtdkiahelnomjpaaDoorFdRow
namespace Go.Proofs.YtdkiahelnomjpaaDoor.Fd
open Go.RowKit Go.Shelf Go.Proofs.YtdkiahelnomjpaaDoor.Rg

theorem turnL_snoc {l : List R} {k : Nat} (hk : k < l.length) (h : R) (d : Int) : turnL (l.take (k + 1)) h d = turnL (l.take k) h d ++ turn1 h d (nth l k) := by
  unfold turnL
  rw [List.take_add_one, List.flatMap_append, List.getElem?_eq_getElem hk]
  simp [nth_eq hk]
theorem turn1_no {h r : R} {d lo hi : Int} (e1 : max r.1 h.1 = lo) (e2 : min r.2 h.2 = hi) (hn : ¬ lo ≤ hi) : turn1 h d r = [] := by
  unfold turn1; rw [e1, e2, if_neg hn]
theorem turn1_yes {h r : R} {d lo hi : Int} (e1 : max r.1 h.1 = lo) (e2 : min r.2 h.2 = hi) (hn : lo ≤ hi) : turn1 h d r = [(lo + d, hi + d)] := by
  unfold turn1; rw [e1, e2, if_pos hn]

theorem cell_alloc_old (w : World) (o : Obj) {b : Nat} (h : b < w.heap.size) (i : Nat) : (w.alloc o).cell? ⟨b, i, none⟩ = w.cell? ⟨b, i, none⟩ := World.cell?_alloc_lt _ _ _ h
theorem below_ad (w : World) (o : Obj) (n : Nat) : Below w.heap.size w ((w.alloc o).drewN n) :=
  have h := (Below.refl w.heap.size w).alloc (Nat.le_refl _) o
  h.trans ((below_drewN _ _).mono h.size)
def TurnRel (l : List R) (h : R) (d : Int) (w1 : World) (s i : Value) (wr : World) : Prop :=
  ∃ k : Nat, i = .int .i64 k ∧ k ≤ l.length ∧ wr.ownsRow w1.heap.size 33 2 s (turnL (l.take k) h d).length (flatR (turnL (l.take k) h d)) ∧ Below w1.heap.size w1 wr
theorem turnRel_no {l : List R} {h r : R} {d lo hi : Int} {w1 wr W : World} {s : Value} {k : Nat} (hk : k < l.length) (hr : nth l k = r) (hrow : wr.ownsRow w1.heap.size 33 2 s (turnL (l.take k) h d).length (flatR (turnL (l.take k) h d))) (hb : Below w1.heap.size w1 wr)
    (e1 : max r.1 h.1 = lo) (e2 : min r.2 h.2 = hi) (hn : ¬ lo ≤ hi) (hW : Below wr.heap.size wr W) : TurnRel l h d w1 s (.int .i64 ((k : Int) + 1)) W := by
  have e : turnL (l.take (k + 1)) h d = turnL (l.take k) h d := by rw [turnL_snoc hk, hr, turn1_no e1 e2 hn, List.append_nil]
  exact ⟨k + 1, by go_num, hk, by rw [e]; exact rowR_next hrow hW, hb.trans (hW.mono hb.size)⟩
theorem turnRel_yes {l : List R} {h r : R} {d lo hi : Int} {w1 wr W w3 : World} {s v' : Value} {k : Nat} (hk : k < l.length) (hr : nth l k = r) (hrow : wr.ownsRow w1.heap.size 33 2 s (turnL (l.take k) h d).length (flatR (turnL (l.take k) h d))) (hb : Below w1.heap.size w1 wr)
    (e1 : max r.1 h.1 = lo) (e2 : min r.2 h.2 = hi) (hn : lo ≤ hi) (hW : Below wr.heap.size wr W)
    (hown : w3.ownsRow w1.heap.size 33 2 v' ((turnL (l.take k) h d).length + 1) (flatR (turnL (l.take k) h d) ++ [.int .i64 (lo + d), .int .i64 (hi + d)])) (hg : W.grownBy w3 s.ownBlock) : TurnRel l h d w1 v' (.int .i64 ((k : Int) + 1)) w3 := by
  have e : turnL (l.take (k + 1)) h d = turnL (l.take k) h d ++ [(lo + d, hi + d)] := by rw [turnL_snoc hk, hr, turn1_yes e1 e2 hn]
  obtain ⟨z1, z2⟩ := app_row (r := (lo + d, hi + d)) hown hg (rowR_next hrow hW) (hb.trans (hW.mono hb.size)) (by have := hb.size; have := hW.size; omega)
  exact ⟨k + 1, by go_num, hk, by rw [e]; exact z1, z2⟩

set_option maxRecDepth 100000 in
set_option maxHeartbeats 8000000 in
theorem turned_any (K : FuncId) (rv : Value) (d : Int) (h1 h2 : Int) (l : List R) (v : Value) (w : World) (hv : RngsAt w v l) (hE : Enters Tryd.prog K)
    (hK : ∀ (c : Int) (W : World), h1 ≤ c → c ≤ h2 → Calls Tryd.prog K #[rv, .int .i64 c] W fun e W' => e = .returned (.int .i64 (c + d)) ∧ Below W.heap.size W W') (hM : l.length ≤ 100000) :
    Calls Tryd.prog 24 #[v, .agg #[.int .i64 h1, .int .i64 h2], .func (.func K) #[rv] #[]] w fun e w' => ∃ v', e = .returned v' ∧ w'.ownsRow w.heap.size 33 2 v' (turnL l (h1, h2) d).length (flatR (turnL l (h1, h2) d)) ∧ Below w.heap.size w w' := by
  obtain ⟨i0, hi, hz0, hz1, hz2⟩ := info_parts infoR
  obtain ⟨ao, cap, rfl, hm, hcs⟩ := hv.shape
  have HC := Lib.hid hcs
  have HK := Lib.hid hK
  have hE' : ∀ (args : Array Value) (w : World), (callFunc K args).run Tryd.prog w = .ok (.enter K args) w := hE
  clear hcs hv hK hE
  go_enter Tryd.func24, Tryd.ntmps24
  go_wp2
  go_loopw [7, 14] (fun s i wr => TurnRel l (h1, h2) d (w.alloc (.cells #[.int .i64 h1, .int .i64 h2] 33)) s i wr) (fun _ i _ => l.length - (intOf i).toNat)
  case atStart => exact ⟨0, rfl, Nat.zero_le _, World.ownsRow_nil _ _ _ _, Below.refl _ _⟩
  case round =>
    obtain ⟨k, rfl, hk, hrow, hbw⟩ := hrel
    have hsz := hbw.size
    simp only [World.size_alloc] at hsz
    by_cases hlt : k < l.length
    · obtain ⟨g, rfl, c1, c2⟩ := HC.out k hlt
      have hal : Below w.heap.size w (w.alloc (.cells #[.int .i64 h1, .int .i64 h2] 33)) := (Below.refl _ _).alloc (Nat.le_refl _) _
      have hne : ¬ wr.heap.size = w.heap.size := by omega
      replace c1 := cell_next c1 (hal.trans (hbw.mono hal.size))
      replace c2 := cell_next c2 (hal.trans (hbw.mono hal.size))
      have b1 : ∀ o, (wr.alloc o).cell? ⟨w.heap.size, 0, none⟩ = some (.int .i64 h1) := fun o => (cell_alloc_old wr o (by omega) _).trans ((hbw.cell (p := ⟨w.heap.size, 0, none⟩) (by simp)).trans (by simp))
      have b2 : ∀ o, (wr.alloc o).cell? ⟨w.heap.size, 1, none⟩ = some (.int .i64 h2) := fun o => (cell_alloc_old wr o (by omega) _).trans ((hbw.cell (p := ⟨w.heap.size, 1, none⟩) (by simp)).trans (by simp))
      have n1 : (k : Int) < l.length := by omega
      have hlen : (turnL (l.take k) (h1, h2) d).length ≤ k := Nat.le_trans (turnL_len _ _ _) (by rw [List.length_take]; omega)
      have HROW := Lib.hid hrow
      have HBW := Lib.hid hbw
      have HLEN := Lib.hid hlen
      obtain ⟨⟨r1, r2⟩, hr⟩ : ∃ r, nth l k = r := ⟨_, rfl⟩
      rw [hr] at c1 c2
      simp only at c1 c2
      have HR := Lib.hid hr
      clear hrow hbw hlen hal hr
      rcases Int.lt_or_le r1 h1 with g1 | g1 <;> rcases Int.lt_trichotomy r2 h2 with g2 | g2 | g2
      · have E1 := Lib.hid (show max (r1, r2).1 (h1, h2).1 = h1 from Int.max_eq_right (by simp only; omega))
        have E2 := Lib.hid (show min (r1, r2).2 (h1, h2).2 = r2 from Int.min_eq_left (by simp only; omega))
        by_cases hle : h1 ≤ r2
        · have k1 := Lib.hid (fun W => HK.out h1 W (by omega) (by omega))
          have k2 := Lib.hid (fun W => HK.out r2 W (by omega) (by omega))
          go_wp2
          go_quiet (fail)
          go_wp2_with (first
            | (go_at_fn K; (with_reducible refine (k1.out _).mono ?_); rintro e w2 ⟨rfl, hb2⟩; go_must (have B2 := Lib.hid ((below_ad _ _ _).trans (hb2.mono (below_ad _ _ _).size)); clear hb2))
            | (go_at_fn K; (with_reducible refine (k2.out _).mono ?_); rintro e w3 ⟨rfl, hb3⟩; go_must (have B3 := Lib.hid (B2.out.trans (hb3.mono B2.out.size)); clear hb3))
            | (at_builtin; go_must (refine wpList_append_own _ rfl _ _ 27 rfl (w.alloc (.cells #[.int .i64 h1, .int .i64 h2] 33)).heap.size 33 i0 (.agg #[.int .i64 0, .int .i64 0]) 2 16 Tryd.underlying27 hi hz0 hz1 hz2 rfl (by decide) _ (turnL (l.take k) (h1, h2) d).length (flatR (turnL (l.take k) (h1, h2) d)) rfl (rowR_next HROW.out (B3.out.alloc B3.out.size _)) ⟨w3.heap.size, 0, none⟩ 1 1 [.int .i64 (h1 + d), .int .i64 (r2 + d)] rfl rfl (two_new _ _ _ _ _ (by simp)) (by simp [Value.oneCell']) (by have := HLEN.out; unfold maxLen; omega) (by have := HLEN.out; omega) (by have := B3.out.size; simp; omega) ?_); intro v' w4 hown hgrow _; go_must (have Z := Lib.hid (turnRel_yes hlt HR.out HROW.out HBW.out E1.out E2.out hle (B3.out.alloc B3.out.size _) hown hgrow); clear hown hgrow)))
          go_roundw
          case rel => exact Z.out
          case measure => simp [intOf]; omega
        · go_wp2
          go_quiet (fail)
          go_wp2
          go_roundw
          case rel => exact turnRel_no hlt HR.out HROW.out HBW.out E1.out E2.out (by omega) (below_ad _ _ _)
          case measure => simp [intOf]; omega
      · have E1 := Lib.hid (show max (r1, r2).1 (h1, h2).1 = h1 from Int.max_eq_right (by simp only; omega))
        have E2 := Lib.hid (show min (r1, r2).2 (h1, h2).2 = h2 from Int.min_eq_right (by simp only; omega))
        subst g2
        by_cases hle : h1 ≤ r2
        · have k1 := Lib.hid (fun W => HK.out h1 W (by omega) (by omega))
          have k2 := Lib.hid (fun W => HK.out r2 W (by omega) (by omega))
          go_wp2
          go_quiet (fail)
          go_wp2_with (first
            | (go_at_fn K; (with_reducible refine (k1.out _).mono ?_); rintro e w2 ⟨rfl, hb2⟩; go_must (have B2 := Lib.hid ((below_ad _ _ _).trans (hb2.mono (below_ad _ _ _).size)); clear hb2))
            | (go_at_fn K; (with_reducible refine (k2.out _).mono ?_); rintro e w3 ⟨rfl, hb3⟩; go_must (have B3 := Lib.hid (B2.out.trans (hb3.mono B2.out.size)); clear hb3))
            | (at_builtin; go_must (refine wpList_append_own _ rfl _ _ 27 rfl (w.alloc (.cells #[.int .i64 h1, .int .i64 r2] 33)).heap.size 33 i0 (.agg #[.int .i64 0, .int .i64 0]) 2 16 Tryd.underlying27 hi hz0 hz1 hz2 rfl (by decide) _ (turnL (l.take k) (h1, r2) d).length (flatR (turnL (l.take k) (h1, r2) d)) rfl (rowR_next HROW.out (B3.out.alloc B3.out.size _)) ⟨w3.heap.size, 0, none⟩ 1 1 [.int .i64 (h1 + d), .int .i64 (r2 + d)] rfl rfl (two_new _ _ _ _ _ (by simp)) (by simp [Value.oneCell']) (by have := HLEN.out; unfold maxLen; omega) (by have := HLEN.out; omega) (by have := B3.out.size; simp; omega) ?_); intro v' w4 hown hgrow _; go_must (have Z := Lib.hid (turnRel_yes hlt HR.out HROW.out HBW.out E1.out E2.out hle (B3.out.alloc B3.out.size _) hown hgrow); clear hown hgrow)))
          go_roundw
          case rel => exact Z.out
          case measure => simp [intOf]; omega
        · go_wp2
          go_quiet (fail)
          go_wp2
          go_roundw
          case rel => exact turnRel_no hlt HR.out HROW.out HBW.out E1.out E2.out (by omega) (below_ad _ _ _)
          case measure => simp [intOf]; omega
      · have E1 := Lib.hid (show max (r1, r2).1 (h1, h2).1 = h1 from Int.max_eq_right (by simp only; omega))
        have E2 := Lib.hid (show min (r1, r2).2 (h1, h2).2 = h2 from Int.min_eq_right (by simp only; omega))
        by_cases hle : h1 ≤ h2
        · have k1 := Lib.hid (fun W => HK.out h1 W (by omega) (by omega))
          have k2 := Lib.hid (fun W => HK.out h2 W (by omega) (by omega))
          go_wp2
          go_quiet (fail)
          go_wp2_with (first
            | (go_at_fn K; (with_reducible refine (k1.out _).mono ?_); rintro e w2 ⟨rfl, hb2⟩; go_must (have B2 := Lib.hid ((below_ad _ _ _).trans (hb2.mono (below_ad _ _ _).size)); clear hb2))
            | (go_at_fn K; (with_reducible refine (k2.out _).mono ?_); rintro e w3 ⟨rfl, hb3⟩; go_must (have B3 := Lib.hid (B2.out.trans (hb3.mono B2.out.size)); clear hb3))
            | (at_builtin; go_must (refine wpList_append_own _ rfl _ _ 27 rfl (w.alloc (.cells #[.int .i64 h1, .int .i64 h2] 33)).heap.size 33 i0 (.agg #[.int .i64 0, .int .i64 0]) 2 16 Tryd.underlying27 hi hz0 hz1 hz2 rfl (by decide) _ (turnL (l.take k) (h1, h2) d).length (flatR (turnL (l.take k) (h1, h2) d)) rfl (rowR_next HROW.out (B3.out.alloc B3.out.size _)) ⟨w3.heap.size, 0, none⟩ 1 1 [.int .i64 (h1 + d), .int .i64 (h2 + d)] rfl rfl (two_new _ _ _ _ _ (by simp)) (by simp [Value.oneCell']) (by have := HLEN.out; unfold maxLen; omega) (by have := HLEN.out; omega) (by have := B3.out.size; simp; omega) ?_); intro v' w4 hown hgrow _; go_must (have Z := Lib.hid (turnRel_yes hlt HR.out HROW.out HBW.out E1.out E2.out hle (B3.out.alloc B3.out.size _) hown hgrow); clear hown hgrow)))
          go_roundw
          case rel => exact Z.out
          case measure => simp [intOf]; omega
        · go_wp2
          go_quiet (fail)
          go_wp2
          go_roundw
          case rel => exact turnRel_no hlt HR.out HROW.out HBW.out E1.out E2.out (by omega) (below_ad _ _ _)
          case measure => simp [intOf]; omega
      · have E1 := Lib.hid (show max (r1, r2).1 (h1, h2).1 = r1 from Int.max_eq_left (by simp only; omega))
        have E2 := Lib.hid (show min (r1, r2).2 (h1, h2).2 = r2 from Int.min_eq_left (by simp only; omega))
        by_cases hle : r1 ≤ r2
        · have k1 := Lib.hid (fun W => HK.out r1 W (by omega) (by omega))
          have k2 := Lib.hid (fun W => HK.out r2 W (by omega) (by omega))
          go_wp2
          go_quiet (fail)
          go_wp2_with (first
            | (go_at_fn K; (with_reducible refine (k1.out _).mono ?_); rintro e w2 ⟨rfl, hb2⟩; go_must (have B2 := Lib.hid ((below_ad _ _ _).trans (hb2.mono (below_ad _ _ _).size)); clear hb2))
            | (go_at_fn K; (with_reducible refine (k2.out _).mono ?_); rintro e w3 ⟨rfl, hb3⟩; go_must (have B3 := Lib.hid (B2.out.trans (hb3.mono B2.out.size)); clear hb3))
            | (at_builtin; go_must (refine wpList_append_own _ rfl _ _ 27 rfl (w.alloc (.cells #[.int .i64 h1, .int .i64 h2] 33)).heap.size 33 i0 (.agg #[.int .i64 0, .int .i64 0]) 2 16 Tryd.underlying27 hi hz0 hz1 hz2 rfl (by decide) _ (turnL (l.take k) (h1, h2) d).length (flatR (turnL (l.take k) (h1, h2) d)) rfl (rowR_next HROW.out (B3.out.alloc B3.out.size _)) ⟨w3.heap.size, 0, none⟩ 1 1 [.int .i64 (r1 + d), .int .i64 (r2 + d)] rfl rfl (two_new _ _ _ _ _ (by simp)) (by simp [Value.oneCell']) (by have := HLEN.out; unfold maxLen; omega) (by have := HLEN.out; omega) (by have := B3.out.size; simp; omega) ?_); intro v' w4 hown hgrow _; go_must (have Z := Lib.hid (turnRel_yes hlt HR.out HROW.out HBW.out E1.out E2.out hle (B3.out.alloc B3.out.size _) hown hgrow); clear hown hgrow)))
          go_roundw
          case rel => exact Z.out
          case measure => simp [intOf]; omega
        · go_wp2
          go_quiet (fail)
          go_wp2
          go_roundw
          case rel => exact turnRel_no hlt HR.out HROW.out HBW.out E1.out E2.out (by omega) (below_ad _ _ _)
          case measure => simp [intOf]; omega
      · have E1 := Lib.hid (show max (r1, r2).1 (h1, h2).1 = r1 from Int.max_eq_left (by simp only; omega))
        have E2 := Lib.hid (show min (r1, r2).2 (h1, h2).2 = h2 from Int.min_eq_right (by simp only; omega))
        subst g2
        by_cases hle : r1 ≤ r2
        · have k1 := Lib.hid (fun W => HK.out r1 W (by omega) (by omega))
          have k2 := Lib.hid (fun W => HK.out r2 W (by omega) (by omega))
          go_wp2
          go_quiet (fail)
          go_wp2_with (first
            | (go_at_fn K; (with_reducible refine (k1.out _).mono ?_); rintro e w2 ⟨rfl, hb2⟩; go_must (have B2 := Lib.hid ((below_ad _ _ _).trans (hb2.mono (below_ad _ _ _).size)); clear hb2))
            | (go_at_fn K; (with_reducible refine (k2.out _).mono ?_); rintro e w3 ⟨rfl, hb3⟩; go_must (have B3 := Lib.hid (B2.out.trans (hb3.mono B2.out.size)); clear hb3))
            | (at_builtin; go_must (refine wpList_append_own _ rfl _ _ 27 rfl (w.alloc (.cells #[.int .i64 h1, .int .i64 r2] 33)).heap.size 33 i0 (.agg #[.int .i64 0, .int .i64 0]) 2 16 Tryd.underlying27 hi hz0 hz1 hz2 rfl (by decide) _ (turnL (l.take k) (h1, r2) d).length (flatR (turnL (l.take k) (h1, r2) d)) rfl (rowR_next HROW.out (B3.out.alloc B3.out.size _)) ⟨w3.heap.size, 0, none⟩ 1 1 [.int .i64 (r1 + d), .int .i64 (r2 + d)] rfl rfl (two_new _ _ _ _ _ (by simp)) (by simp [Value.oneCell']) (by have := HLEN.out; unfold maxLen; omega) (by have := HLEN.out; omega) (by have := B3.out.size; simp; omega) ?_); intro v' w4 hown hgrow _; go_must (have Z := Lib.hid (turnRel_yes hlt HR.out HROW.out HBW.out E1.out E2.out hle (B3.out.alloc B3.out.size _) hown hgrow); clear hown hgrow)))
          go_roundw
          case rel => exact Z.out
          case measure => simp [intOf]; omega
        · go_wp2
          go_quiet (fail)
          go_wp2
          go_roundw
          case rel => exact turnRel_no hlt HR.out HROW.out HBW.out E1.out E2.out (by omega) (below_ad _ _ _)
          case measure => simp [intOf]; omega
      · have E1 := Lib.hid (show max (r1, r2).1 (h1, h2).1 = r1 from Int.max_eq_left (by simp only; omega))
        have E2 := Lib.hid (show min (r1, r2).2 (h1, h2).2 = h2 from Int.min_eq_right (by simp only; omega))
        by_cases hle : r1 ≤ h2
        · have k1 := Lib.hid (fun W => HK.out r1 W (by omega) (by omega))
          have k2 := Lib.hid (fun W => HK.out h2 W (by omega) (by omega))
          go_wp2
          go_quiet (fail)
          go_wp2_with (first
            | (go_at_fn K; (with_reducible refine (k1.out _).mono ?_); rintro e w2 ⟨rfl, hb2⟩; go_must (have B2 := Lib.hid ((below_ad _ _ _).trans (hb2.mono (below_ad _ _ _).size)); clear hb2))
            | (go_at_fn K; (with_reducible refine (k2.out _).mono ?_); rintro e w3 ⟨rfl, hb3⟩; go_must (have B3 := Lib.hid (B2.out.trans (hb3.mono B2.out.size)); clear hb3))
            | (at_builtin; go_must (refine wpList_append_own _ rfl _ _ 27 rfl (w.alloc (.cells #[.int .i64 h1, .int .i64 h2] 33)).heap.size 33 i0 (.agg #[.int .i64 0, .int .i64 0]) 2 16 Tryd.underlying27 hi hz0 hz1 hz2 rfl (by decide) _ (turnL (l.take k) (h1, h2) d).length (flatR (turnL (l.take k) (h1, h2) d)) rfl (rowR_next HROW.out (B3.out.alloc B3.out.size _)) ⟨w3.heap.size, 0, none⟩ 1 1 [.int .i64 (r1 + d), .int .i64 (h2 + d)] rfl rfl (two_new _ _ _ _ _ (by simp)) (by simp [Value.oneCell']) (by have := HLEN.out; unfold maxLen; omega) (by have := HLEN.out; omega) (by have := B3.out.size; simp; omega) ?_); intro v' w4 hown hgrow _; go_must (have Z := Lib.hid (turnRel_yes hlt HR.out HROW.out HBW.out E1.out E2.out hle (B3.out.alloc B3.out.size _) hown hgrow); clear hown hgrow)))
          go_roundw
          case rel => exact Z.out
          case measure => simp [intOf]; omega
        · go_wp2
          go_quiet (fail)
          go_wp2
          go_roundw
          case rel => exact turnRel_no hlt HR.out HROW.out HBW.out E1.out E2.out (by omega) (below_ad _ _ _)
          case measure => simp [intOf]; omega
    · obtain rfl : k = l.length := by omega
      rw [List.take_length] at hrow
      have HROW := Lib.hid hrow
      have HBW := Lib.hid hbw
      clear hrow hbw
      go_wp2
      go_ret
      exact ⟨_, rfl, row_base HROW.out (by simp), ((Below.refl _ _).alloc (Nat.le_refl _) _).trans (HBW.out.mono (by simp))⟩

end Go.Proofs.YtdkiahelnomjpaaDoor.Fd

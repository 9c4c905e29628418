/- The program's Same, of two trees that may be. -/
import Derived.Test.YtdgpanofehfjdaaArAlike
import Derived.Test.YtdgpanofehfjdaaArConcat
import Derived.Test.YtdgpanofehfjdaaArThrB
import Derived.Test.YtdgpanofehfjdaaArChk
import Derived.Test.YtdgpanofehfjdaaArRSame
namespace Go.Proofs.Ytdgpanofehfjdaa.Ar
open Go Go.RowKit Go.Shelf Go.Maps
open Go.Proofs.Ytdgpanofehfjdaa.Rg (R RngsAt RowsAt nthL add_zero own_next)

theorem getD_take {A : List Int} {k i : Nat} (h : i < k) : (A.take k).getD i 0 = A.getD i 0 := by
  simp only [List.getD_eq_getElem?_getD, List.getElem?_take, if_pos h]
theorem getD_drop (A : List Int) (k i : Nat) : (A.drop k).getD i 0 = A.getD (k + i) 0 := by
  simp only [List.getD_eq_getElem?_getD, List.getElem?_drop]
theorem bnd_take {A : List Int} {k : Nat} {n : Int} (h : ∀ i, 0 ≤ A.getD i 0 ∧ A.getD i 0 ≤ n) (hn : 0 ≤ n) : ∀ i, 0 ≤ (A.take k).getD i 0 ∧ (A.take k).getD i 0 ≤ n := fun i => by
  rcases Nat.lt_or_ge i k with hi | hi
  · rw [getD_take hi]; exact h i
  · have : (A.take k).getD i 0 = 0 := by simp only [List.getD_eq_getElem?_getD, List.getElem?_take, if_neg (Nat.not_lt.2 hi)]; rfl
    rw [this]; exact ⟨Int.le_refl _, hn⟩
/-- what the two books tell is what the document says -/
theorem same_books {p q : Tr} (hp : Ok p) (hq : Ok q) {A la lb : List Int} {K F : List Nd} (hA : ∀ i j, i < (p.sets ++ q.sets).length → j < (p.sets ++ q.sets).length → (A.getD i 0 = A.getD j 0 ↔ nthL (p.sets ++ q.sets) i = nthL (p.sets ++ q.sets) j))
    (hF : (K ++ F).Nodup) (h1 : ∀ i, i < p.ns.length → ∃ x : Nat, la.getD i 0 = (x : Int) ∧ K[x]? = some (mapN (A.take p.sets.length) la (nd p.ns i)))
    (h2 : ∀ i, i < q.ns.length → ∃ x : Nat, lb.getD i 0 = (x : Int) ∧ (K ++ F)[x]? = some (mapN (A.drop p.sets.length) lb (nd q.ns i))) (x y : Nat) (hx : x < p.ns.length) (hy : y < q.ns.length) :
    la.getD x 0 = lb.getD y 0 ↔ sameT p q x y = true := by
  refine same_by hp hq (sp := A.take p.sets.length) (sq := A.drop p.sets.length) (fun i j hi hj => ?_) (fun i j hi hj => ?_) x y hx hy
  · rw [getD_take hi, getD_drop, hA i (p.sets.length + j) (by rw [List.length_append]; omega) (by rw [List.length_append]; omega)]
    have e1 : nthL (p.sets ++ q.sets) i = p.sets.getD i [] := by simp [nthL, List.getD, List.getElem?_append_left hi]
    have e2 : nthL (p.sets ++ q.sets) (p.sets.length + j) = q.sets.getD j [] := by simp [nthL, List.getD, List.getElem?_append_right]
    rw [e1, e2]
  · obtain ⟨x, e1, e2⟩ := h1 i hi
    obtain ⟨y, f1, f2⟩ := h2 j hj
    have hxl : x < K.length := by
      rcases Nat.lt_or_ge x K.length with h' | h'
      · exact h'
      · rw [List.getElem?_eq_none h'] at e2; cases e2
    have hyl : y < (K ++ F).length := by
      rcases Nat.lt_or_ge y (K ++ F).length with h' | h'
      · exact h'
      · rw [List.getElem?_eq_none h'] at f2; cases f2
    have e3 : (K ++ F)[x]? = some (mapN (A.take p.sets.length) la (nd p.ns i)) := by rw [List.getElem?_append_left hxl]; exact e2
    rw [e1, f1]
    constructor
    · intro h
      have hxy : x = y := by omega
      subst hxy
      rw [e3] at f2
      simpa using f2
    · intro h
      rw [h] at e3
      have hx2 : x < (K ++ F).length := by rw [List.length_append]; omega
      rw [List.getElem?_eq_getElem hx2] at e3
      rw [List.getElem?_eq_getElem hyl] at f2
      have hE : (K ++ F)[x] = (K ++ F)[y] := by
        simp only [Option.some.injEq] at e3 f2
        rw [e3, f2]
      have hpw := List.pairwise_iff_getElem.1 hF
      rcases Nat.lt_trichotomy x y with h' | h' | h'
      · exact absurd hE (hpw x y hx2 hyl h')
      · rw [h']
      · exact absurd hE.symm (hpw y x hyl hx2 h')

set_option maxRecDepth 100000 in
set_option maxHeartbeats 4000000 in
theorem same_no1 (p q : Tr) (v u : Value) (w : World) (hv : TreeAt w v p) (hu : TreeAt w u q) (hc : checkE p ≠ 0) :
    Calls Try.prog 12 #[v, u] w fun e w' => e = .returned (.bool false) ∧ Below w.heap.size w w' := by
  have HV := Lib.hid hv
  obtain ⟨ao, cap, so, scap, rfl, _, _, _, _⟩ := hv.shape
  obtain ⟨bo, bcap, to, tcap, rfl, _, _, _, _⟩ := hu.shape
  have BW := Lib.hid (fun o o' => ((Below.refl w.heap.size w).alloc (Nat.le_refl _) o).alloc (by simp) o')
  have CC := Lib.hid (fun W (hb : Below w.heap.size w W) => check_any p _ W (HV.out.next hb))
  have hne : checkE p = 6 ∨ checkE p = 3 := by
    unfold checkE at hc ⊢
    split at hc
    · exact .inl (by rw [if_pos (by assumption)])
    · split at hc
      · exact absurd rfl hc
      · exact .inr (by rw [if_neg (by assumption), if_neg (by assumption)])
  generalize checkE p = E at *
  clear hv hu hc
  rcases hne with rfl | rfl
  all_goals (
    go_enter Try.func12, Try.ntmps12
    go_wp2_with (go_at_call 9; (with_reducible refine (CC.out _ (BW.out _ _)).mono ?_); rintro e w1 ⟨rfl, hb1⟩; go_must (have B1 := Lib.hid ((BW.out _ _).trans (hb1.mono (by simp; omega))); clear hb1))
    go_ret
    exact ⟨rfl, B1.out⟩)
set_option maxRecDepth 100000 in
set_option maxHeartbeats 4000000 in
theorem same_no2 (p q : Tr) (v u : Value) (w : World) (hv : TreeAt w v p) (hu : TreeAt w u q) (hp : checkE p = 0) (hc : checkE q ≠ 0) :
    Calls Try.prog 12 #[v, u] w fun e w' => e = .returned (.bool false) ∧ Below w.heap.size w w' := by
  have HV := Lib.hid hv
  have HU := Lib.hid hu
  obtain ⟨ao, cap, so, scap, rfl, _, _, _, _⟩ := hv.shape
  obtain ⟨bo, bcap, to, tcap, rfl, _, _, _, _⟩ := hu.shape
  have BW := Lib.hid (fun o o' => ((Below.refl w.heap.size w).alloc (Nat.le_refl _) o).alloc (by simp) o')
  have CP := Lib.hid (fun W (hb : Below w.heap.size w W) => (show Calls Try.prog 9 #[.agg #[.slice ao p.ns.length cap, .slice so p.sets.length scap, .int .i64 p.root]] W (fun e w' => e = .returned (.int .i64 0) ∧ Below W.heap.size W w') by
    have := check_any p _ W (HV.out.next hb)
    rw [hp] at this; exact this))
  have CC := Lib.hid (fun W (hb : Below w.heap.size w W) => check_any q _ W (HU.out.next hb))
  have hne : checkE q = 6 ∨ checkE q = 3 := by
    unfold checkE at hc ⊢
    split at hc
    · exact .inl (by rw [if_pos (by assumption)])
    · split at hc
      · exact absurd rfl hc
      · exact .inr (by rw [if_neg (by assumption), if_neg (by assumption)])
  have T1 := Lib.hid (TBox.new (w.alloc (.cells #[.slice ao p.ns.length cap, .slice so p.sets.length scap, .int .i64 p.root] 25)) (.slice bo q.ns.length bcap) (.slice to q.sets.length tcap) q.root)
  generalize checkE q = E at *
  clear hv hu hc hp
  rcases hne with rfl | rfl
  all_goals (
    go_enter Try.func12, Try.ntmps12
    go_wp2_with (first
      | (go_at_call 9; (with_reducible refine (CP.out _ (BW.out _ _)).mono ?_); rintro e w1 ⟨rfl, hb1⟩; go_must (have t1 := T1.out.next hb1; obtain ⟨r0, r1, r2⟩ := t1; simp only [World.size_alloc] at r0 r1 r2; have B1 := Lib.hid ((BW.out (.cells #[.slice ao p.ns.length cap, .slice so p.sets.length scap, .int .i64 p.root] 25) (.cells #[.slice bo q.ns.length bcap, .slice to q.sets.length tcap, .int .i64 q.root] 25)).trans (hb1.mono (by simp; omega))); clear hb1))
      | (go_at_call 9; (with_reducible refine (CC.out _ B1.out).mono ?_); rintro e w2 ⟨rfl, hb2⟩; go_must (have B2 := Lib.hid (B1.out.trans (hb2.mono B1.out.size)); clear hb2))
      | fail)
    go_ret
    exact ⟨rfl, B2.out⟩)

end Go.Proofs.Ytdgpanofehfjdaa.Ar

namespace Go.Proofs.Ytdgpanofehfjdaa.Ar
open Go Go.RowKit Go.Shelf Go.Maps
open Go.Proofs.Ytdgpanofehfjdaa.Rg (R RngsAt RowsAt nthL add_zero own_next)

theorem kdrew {U : Nat → Prop} (w : World) : Kx U w w.drew := ⟨rfl, rfl, rfl, Nat.le_refl _, fun _ _ _ => rfl⟩
theorem two_at {w : World} {A B : List (List R)} {va vb : Value} (N : Nat) (hN : w.heap.size = N) (ha : RowsAt w va A) (hb : RowsAt w vb B) : TwoAt (w.alloc (.cells #[va, vb] 23)) ⟨N, 0, none⟩ A B va vb := by
  subst hN
  have b := (Below.refl w.heap.size w).alloc (Nat.le_refl _) (.cells #[va, vb] 23)
  refine ⟨?_, ?_, ha.next b, hb.next b⟩
  · rw [show (⟨w.heap.size, 0, none⟩ : Addr).add 0 = ⟨w.heap.size, 0, none⟩ from rfl, World.cell?_alloc_new]; rfl
  · rw [show (⟨w.heap.size, 0, none⟩ : Addr).add 1 = ⟨w.heap.size, 1, none⟩ from rfl, World.cell?_alloc_new]; rfl

theorem ret_eq {x y : Int} {b : Bool} (h : x = y ↔ b = true) : Ending.returned (.bool (x == y)) = .returned (.bool b) := by
  have : (x == y) = b := by rw [Bool.eq_iff_iff, beq_iff_eq]; exact h
  rw [this]
set_option maxRecDepth 100000 in
set_option maxHeartbeats 16000000 in
theorem same_yes (p q : Tr) (v u : Value) (w : World) (hv : TreeAt w v p) (hu : TreeAt w u q) (hp : checkE p = 0) (hq : checkE q = 0) :
    Calls Try.prog 12 #[v, u] w fun e w' => e = .returned (.bool (sameT p q p.root.toNat q.root.toNat)) ∧ Below w.heap.size w w' := by
  have HV := Lib.hid hv
  have HU := Lib.hid hu
  obtain ⟨ok1, np1, np2⟩ := check_ok hp
  obtain ⟨ok2, nq1, nq2⟩ := check_ok hq
  obtain ⟨vn, vs, rfl, hvn, hvs⟩ := hv
  obtain ⟨un, us, rfl, hun, hus⟩ := hu
  obtain ⟨ao, cap, rfl, _, _⟩ := hvn.shape
  obtain ⟨so, scap, rfl, _, _⟩ := hvs.shape
  obtain ⟨bo, bcap, rfl, _, _⟩ := hun.shape
  obtain ⟨to, tcap, rfl, _, _⟩ := hus.shape
  have HS1 := Lib.hid hvs
  have HS2 := Lib.hid hus
  have BW := Lib.hid (fun o o' => ((Below.refl w.heap.size w).alloc (Nat.le_refl _) o).alloc (by simp) o')
  have CP := Lib.hid (fun W (hb : Below w.heap.size w W) => (show Calls Try.prog 9 #[.agg #[.slice ao p.ns.length cap, .slice so p.sets.length scap, .int .i64 p.root]] W (fun e w' => e = .returned (.int .i64 0) ∧ Below W.heap.size W w') by
    have := check_any p _ W (HV.out.next hb)
    rw [hp] at this; exact this))
  have CQ := Lib.hid (fun W (hb : Below w.heap.size w W) => (show Calls Try.prog 9 #[.agg #[.slice bo q.ns.length bcap, .slice to q.sets.length tcap, .int .i64 q.root]] W (fun e w' => e = .returned (.int .i64 0) ∧ Below W.heap.size W w') by
    have := check_any q _ W (HU.out.next hb)
    rw [hq] at this; exact this))
  have CC := Lib.hid (fun W g (h : TwoAt W g p.sets q.sets (.slice so p.sets.length scap) (.slice to q.sets.length tcap)) => concat_any p.sets q.sets (.slice so p.sets.length scap) (.slice to q.sets.length tcap) g W h (by omega))
  have CA := Lib.hid (fun W v (h : RowsAt W v (p.sets ++ q.sets)) => alike_any (p.sets ++ q.sets) v W h (by rw [List.length_append]; omega))
  have T1 := Lib.hid (TBox.new (w.alloc (.cells #[.slice ao p.ns.length cap, .slice so p.sets.length scap, .int .i64 p.root] 25)) (.slice bo q.ns.length bcap) (.slice to q.sets.length tcap) q.root)
  have T0 := Lib.hid ((TBox.new w (.slice ao p.ns.length cap) (.slice so p.sets.length scap) p.root).next ((Below.refl _ _).alloc (Nat.le_refl _) (.cells #[.slice bo q.ns.length bcap, .slice to q.sets.length tcap, .int .i64 q.root] 25)))
  have OK1 := Lib.hid ok1
  have OK2 := Lib.hid ok2
  clear hp hq ok1 ok2 hvn hvs hun hus
  have hmm := @run_makeMap Try.prog
  go_enter Try.func12, Try.ntmps12
  go_wp2_with (first
    | (go_at_call 9; (with_reducible refine (CP.out _ (BW.out _ _)).mono ?_); rintro e w1 ⟨rfl, hb1⟩; go_must (obtain ⟨r0, r1, r2⟩ := T1.out.next hb1; obtain ⟨s0, s1, s2⟩ := T0.out.next hb1; simp only [World.size_alloc] at r0 r1 r2; have B1 := Lib.hid ((BW.out (.cells #[.slice ao p.ns.length cap, .slice so p.sets.length scap, .int .i64 p.root] 25) (.cells #[.slice bo q.ns.length bcap, .slice to q.sets.length tcap, .int .i64 q.root] 25)).trans (hb1.mono (by simp; omega))); clear hb1))
    | (go_at_call 9; (with_reducible refine (CQ.out _ B1.out).mono ?_); rintro e w2 ⟨rfl, hb2⟩; go_must (have r0' := cell_next r0 hb2; have r1' := cell_next r1 hb2; have r2' := cell_next r2 hb2; have s0' := cell_next s0 hb2; have s1' := cell_next s1 hb2; have s2' := cell_next s2 hb2; clear r0 r1 r2 s0 s1 s2; have B2 := Lib.hid (B1.out.trans (hb2.mono B1.out.size)); clear hb2))
    | (go_at_call 37; (with_reducible refine (CC.out _ _ (two_at _ rfl (HS1.out.next B2.out) (HS2.out.next B2.out))).mono ?_); rintro e w3 ⟨vc, rfl, hvc, hb3⟩; go_must (have hb := ((Below.refl w2.heap.size w2).alloc (Nat.le_refl _) (.cells #[.slice so p.sets.length scap, .slice to q.sets.length tcap] 23)).trans (hb3.mono (by simp)); have q0 := cell_next r0' hb; have q1 := cell_next r1' hb; have q2 := cell_next r2' hb; have z0 := cell_next s0' hb; have z1 := cell_next s1' hb; have z2 := cell_next s2' hb; clear r0' r1' r2' s0' s1' s2'; have B3 := Lib.hid (B2.out.trans (hb.mono B2.out.size)); have HVC := Lib.hid hvc; clear hb hb3 hvc))
    | (go_at_call 36; (with_reducible refine (CA.out _ _ HVC.out).mono ?_); rintro e w4 ⟨G, A, rfl, hA1, hA2, hA3, hA4, hA5, hb4⟩; go_must (have p0 := cell_next q0 hb4; have p1 := cell_next q1 hb4; have p2 := cell_next q2 hb4; have y0 := cell_next z0 hb4; have y1 := cell_next z1 hb4; have y2 := cell_next z2 hb4; clear q0 q1 q2 z0 z1 z2; have B4 := Lib.hid (B3.out.trans (hb4.mono B3.out.size)); have HA1 := Lib.hid hA1; have HA2 := Lib.hid hA2; have HA4 := Lib.hid hA4; have HA5 := Lib.hid hA5; have hG : w.heap.size ≤ G := (by have := B3.out.size; omega); clear hA1 hA2 hA3 hA4 hA5 hb4))
    | fail)
  clear hmm
  obtain ⟨M, hM⟩ : ∃ M, M = w4.heap.size := ⟨_, rfl⟩
  have hBk := book_new w4
  have hb5 := (Below.refl w4.heap.size w4).alloc (Nat.le_refl _) (.map #[] 0)
  have x0 := cell_next p0 hb5
  have x1 := cell_next p1 hb5
  have x2 := cell_next p2 hb5
  have x3 := cell_next y0 hb5
  have x4 := cell_next y1 hb5
  have x5 := cell_next y2 hb5
  have B5 := Lib.hid (B4.out.trans (hb5.mono B4.out.size))
  have HGC := Lib.hid (fun i (hi : i < (p.sets ++ q.sets).length) => cell_next (HA2.out i hi) hb5)
  have hM0 : w.heap.size + 2 ≤ M := by have : w.heap.size + 1 < w4.heap.size := cell_lt p0; omega
  have hGM : (p.sets ++ q.sets).length ≠ 0 → G < M := fun h => by rw [hM]; exact cell_lt (HA2.out 0 (by omega))
  rw [← hM] at hBk ⊢
  have HBK := Lib.hid hBk
  have HGM := Lib.hid hGM
  generalize w4.alloc (.map #[] 0) = W5 at *
  clear p0 p1 p2 y0 y1 y2 hb5 hBk hGM hM
  have hkd : Kx (fun b => b = M) W5 W5.drew := kdrew _
  have HKD := Lib.hid hkd
  have HBD := Lib.hid (show Book M [] W5.drew from HBK.out.kx (kdrew (U := fun _ => False) _) id)
  have hGG : ∀ W, Kx (fun b => b = M) W5 W → ∀ i, i < p.sets.length + q.sets.length → W.cell? ⟨G, i, none⟩ = some (.int .i64 (A.getD i 0)) := fun W hk i hi =>
    hk.cell (HGC.out i (by rw [List.length_append]; exact hi)) (by show ¬ G = M; have := HGM.out (by rw [List.length_append]; omega); omega)
  have hW5 : w.heap.size ≤ W5.heap.size := B5.out.size
  have hbel : ∀ W, Kx (fun b => b = M) W5 W → Below w.heap.size w W := fun W hk => B5.out.trans (hk.below hW5 (fun b hb h => by omega))
  have hbA : ∀ k, 0 ≤ A.getD k 0 ∧ A.getD k 0 ≤ 100000 := fun k => by have := HA4.out k; rw [List.length_append] at this; omega
  have hal : A.length = p.sets.length + q.sets.length := by rw [HA1.out, List.length_append]
  have C1 := Lib.hid (thr_book p OK1.out (.agg #[.slice ao p.ns.length cap, .slice so p.sets.length scap, .int .i64 p.root]) (.slice (some ⟨G, 0, none⟩) p.sets.length (p.sets.length + q.sets.length)) (A.take p.sets.length) W5.drew M [] HBD.out np1 (by simp) (by rw [List.length_take]; omega) (bnd_take hbA (by omega))
    (fun W hk => HV.out.next (hbel W (hkd.trans hk)))
    (fun W hk => .inr ⟨⟨G, 0, none⟩, p.sets.length + q.sets.length, by rw [List.length_take, Nat.min_eq_left (by omega)], by rw [List.length_take]; unfold maxLen; omega, fun i hi => by
      rw [List.length_take] at hi
      rw [add_zero, getD_take (by omega)]; exact hGG W (hkd.trans hk) i (by omega)⟩))
  have C2 := Lib.hid (fun (W : World) (K : List Nd) (hk : Kx (fun b => b = M) W5 W) (hB : Book M K W) (hK : K.length ≤ 4096) (ad : Addr) (had : ad = ⟨G, p.sets.length, none⟩ ∨ q.sets.length = 0) => thr_book q OK2.out (.agg #[.slice bo q.ns.length bcap, .slice to q.sets.length tcap, .int .i64 q.root]) (.slice (some ad) q.sets.length q.sets.length) (A.drop p.sets.length) W M K hB nq1 hK (by rw [List.length_drop]; omega) (fun k => by rw [getD_drop]; exact hbA _)
    (fun W' hk' => HU.out.next (hbel W' (hk.trans hk')))
    (fun W' hk' => .inr ⟨ad, q.sets.length, by rw [List.length_drop, hal, Nat.add_sub_cancel_left], by rw [List.length_drop]; unfold maxLen; omega, fun i hi => by
      rw [List.length_drop] at hi
      rw [getD_drop]
      obtain rfl : ad = ⟨G, p.sets.length, none⟩ := had.resolve_right (by omega)
      have e : (⟨G, p.sets.length, none⟩ : Addr).add i = ⟨G, p.sets.length + i, none⟩ := by
        unfold Addr.add
        by_cases h0 : i = 0
        · simp [h0]
        · simp [h0]
      rw [e]; exact hGG W' (hk.trans hk') _ (by omega)⟩))
  clear hGG hbel hbA hal
  have l1 : (p.sets.length : Int) ≤ (p.sets.length : Int) + (q.sets.length : Int) := by omega
  generalize hnq : q.sets.length = nqs at *
  clear hnq
  rcases Nat.eq_zero_or_pos nqs with rfl | hpos
  · simp only [Nat.add_zero] at C1 ⊢
    go_region_held3 (fun W => W.cell? ⟨w.heap.size, 0, none⟩ = some (.slice ao p.ns.length cap) ∧ W.cell? ⟨w.heap.size, 1, none⟩ = some (.slice so p.sets.length scap) ∧ W.cell? ⟨w.heap.size, 2, none⟩ = some (.int .i64 p.root) ∧ W.cell? ⟨w.heap.size + 1, 0, none⟩ = some (.slice bo q.ns.length bcap) ∧ W.cell? ⟨w.heap.size + 1, 1, none⟩ = some (.slice to 0 tcap) ∧ W.cell? ⟨w.heap.size + 1, 2, none⟩ = some (.int .i64 q.root) ∧ Kx (fun b => b = M) W5 W) (first | exact ⟨by assumption, by assumption, by assumption, by assumption, by assumption, by assumption, by assumption⟩ | (refine ⟨by go_keep, by go_keep, by go_keep, by go_keep, by go_keep, by go_keep, ?_⟩; exact kdrew _) | go_keep)
      (first
        | (go_at_call 38; ((with_reducible refine C1.out.mono ?_); rintro e w6 ⟨la, K, he, hla, hK1, hK2, hK3, hk6⟩; generalize hxa : la.getD p.root.toNat 0 = xa at he; subst he); go_must (have HXA := Lib.hid hxa; clear hxa; have k1 : Kx (fun b => b = M) W5 w6 := HKD.out.trans hk6; have e0 := k1.cell x3 (by show ¬ w.heap.size = M; omega); have e1 := k1.cell x4 (by show ¬ w.heap.size = M; omega); have e2 := k1.cell x5 (by show ¬ w.heap.size = M; omega); have e3 := k1.cell x0 (by show ¬ w.heap.size + 1 = M; omega); have e4 := k1.cell x1 (by show ¬ w.heap.size + 1 = M; omega); have e5 := k1.cell x2 (by show ¬ w.heap.size + 1 = M; omega); have HLA := Lib.hid hla; have HK1 := Lib.hid hK1; have HK2 := Lib.hid hK2; have HK3 := Lib.hid hK3; clear hla hK1 hK2 hK3 hk6))
        | (go_at_call 38; ((with_reducible refine (C2.out _ _ (by assumption) HK1.out (by have := HK2.out; simp; omega) ⟨G, 0, none⟩ (.inr (by first | trivial | rfl))).mono ?_); rintro e w7 ⟨lb, F, he, hlb, hF1, hF2, hF3, hk7⟩; generalize hxb : lb.getD q.root.toNat 0 = xb at he; subst he); go_must (have HXB := Lib.hid hxb; clear hxb; have k2 := Kx.trans (show Kx (fun b => b = M) W5 w6 by assumption) hk7; have f0 := k2.cell x3 (by show ¬ w.heap.size = M; omega); have f1 := k2.cell x4 (by show ¬ w.heap.size = M; omega); have f2 := k2.cell x5 (by show ¬ w.heap.size = M; omega); have f3 := k2.cell x0 (by show ¬ w.heap.size + 1 = M; omega); have f4 := k2.cell x1 (by show ¬ w.heap.size + 1 = M; omega); have f5 := k2.cell x2 (by show ¬ w.heap.size + 1 = M; omega); have HF1 := Lib.hid hF1; have HF3 := Lib.hid hF3; clear hlb hF1 hF2 hF3 hk7))
        | fail)
    all_goals (
      go_wp2
      go_ret
      refine ⟨?_, B5.out.trans (Kx.below (show Kx (fun b => b = M) W5 w7 by assumption) hW5 (fun b hb h => by omega))⟩
      have key := same_books OK1.out OK2.out HA5.out HF1.out.nodup HK3.out HF3.out p.root.toNat q.root.toNat (by have := OK1.out.root1; have := OK1.out.root0; omega) (by have := OK2.out.root1; have := OK2.out.root0; omega)
      rw [HXA.out, HXB.out] at key
      exact ret_eq key)
  · have hne : ¬ nqs = 0 := by omega
    go_region_held3 (fun W => W.cell? ⟨w.heap.size, 0, none⟩ = some (.slice ao p.ns.length cap) ∧ W.cell? ⟨w.heap.size, 1, none⟩ = some (.slice so p.sets.length scap) ∧ W.cell? ⟨w.heap.size, 2, none⟩ = some (.int .i64 p.root) ∧ W.cell? ⟨w.heap.size + 1, 0, none⟩ = some (.slice bo q.ns.length bcap) ∧ W.cell? ⟨w.heap.size + 1, 1, none⟩ = some (.slice to nqs tcap) ∧ W.cell? ⟨w.heap.size + 1, 2, none⟩ = some (.int .i64 q.root) ∧ Kx (fun b => b = M) W5 W) (first | exact ⟨by assumption, by assumption, by assumption, by assumption, by assumption, by assumption, by assumption⟩ | (refine ⟨by go_keep, by go_keep, by go_keep, by go_keep, by go_keep, by go_keep, ?_⟩; exact kdrew _) | go_keep)
      (first
        | (go_at_call 38; ((with_reducible refine C1.out.mono ?_); rintro e w6 ⟨la, K, he, hla, hK1, hK2, hK3, hk6⟩; generalize hxa : la.getD p.root.toNat 0 = xa at he; subst he); go_must (have HXA := Lib.hid hxa; clear hxa; have k1 : Kx (fun b => b = M) W5 w6 := HKD.out.trans hk6; have e0 := k1.cell x3 (by show ¬ w.heap.size = M; omega); have e1 := k1.cell x4 (by show ¬ w.heap.size = M; omega); have e2 := k1.cell x5 (by show ¬ w.heap.size = M; omega); have e3 := k1.cell x0 (by show ¬ w.heap.size + 1 = M; omega); have e4 := k1.cell x1 (by show ¬ w.heap.size + 1 = M; omega); have e5 := k1.cell x2 (by show ¬ w.heap.size + 1 = M; omega); have HLA := Lib.hid hla; have HK1 := Lib.hid hK1; have HK2 := Lib.hid hK2; have HK3 := Lib.hid hK3; clear hla hK1 hK2 hK3 hk6))
        | (go_at_call 38; ((with_reducible refine (C2.out _ _ (by assumption) HK1.out (by have := HK2.out; simp; omega) ⟨G, p.sets.length, none⟩ (.inl rfl)).mono ?_); rintro e w7 ⟨lb, F, he, hlb, hF1, hF2, hF3, hk7⟩; generalize hxb : lb.getD q.root.toNat 0 = xb at he; subst he); go_must (have HXB := Lib.hid hxb; clear hxb; have k2 := Kx.trans (show Kx (fun b => b = M) W5 w6 by assumption) hk7; have f0 := k2.cell x3 (by show ¬ w.heap.size = M; omega); have f1 := k2.cell x4 (by show ¬ w.heap.size = M; omega); have f2 := k2.cell x5 (by show ¬ w.heap.size = M; omega); have f3 := k2.cell x0 (by show ¬ w.heap.size + 1 = M; omega); have f4 := k2.cell x1 (by show ¬ w.heap.size + 1 = M; omega); have f5 := k2.cell x2 (by show ¬ w.heap.size + 1 = M; omega); have HF1 := Lib.hid hF1; have HF3 := Lib.hid hF3; clear hlb hF1 hF2 hF3 hk7))
        | fail)
    all_goals (
      go_wp2
      go_ret
      refine ⟨?_, B5.out.trans (Kx.below (show Kx (fun b => b = M) W5 w7 by assumption) hW5 (fun b hb h => by omega))⟩
      have key := same_books OK1.out OK2.out HA5.out HF1.out.nodup HK3.out HF3.out p.root.toNat q.root.toNat (by have := OK1.out.root1; have := OK1.out.root0; omega) (by have := OK2.out.root1; have := OK2.out.root0; omega)
      rw [HXA.out, HXB.out] at key
      exact ret_eq key)

end Go.Proofs.Ytdgpanofehfjdaa.Ar

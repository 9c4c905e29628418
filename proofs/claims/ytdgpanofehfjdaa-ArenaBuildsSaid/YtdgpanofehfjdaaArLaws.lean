/- The law ArenaChecks. -/
import Derived.Test.YtdgpanofehfjdaaArAlive
import Derived.Test.YtdgpanofehfjdaaArFar
import Derived.Test.YtdgpanofehfjdaaArRChk
import Derived.Test.YtdgpanofehfjdaaArRSame
import Derived.Test.YtdgpanofehfjdaaArRRec
namespace Go.Proofs.Ytdgpanofehfjdaa.Ar
open Go Go.RowKit Go.Shelf
open Go.Proofs.Ytdgpanofehfjdaa.Rg (R RngsAt RowsAt nthL add_zero own_next)

theorem checkE_ne {t : Tr} (h : checkE t ≠ 0) : checkE t = 6 ∨ checkE t = 3 := by
  unfold checkE at h ⊢
  split at h
  · exact .inl (by rw [if_pos (by assumption)])
  · split at h
    · exact absurd rfl h
    · exact .inr (by rw [if_neg (by assumption), if_neg (by assumption)])

set_option maxRecDepth 100000 in
set_option maxHeartbeats 4000000 in
theorem checks_far (t u : Tr) (v1 v2 : Value) (w : World) (hv : TreeAt w v1 t) (hu : TreeAt w v2 u) (hf : ¬ (Near t ∧ Near u)) :
    Calls Try.prog 3 #[v1, v2] w fun e w' => e = .returned (.bool true) ∧ Below w.heap.size w w' := by
  have HV := Lib.hid hv
  have HU := Lib.hid hu
  obtain ⟨ao, cap, so, scap, rfl, _, _, _, _⟩ := hv.shape
  obtain ⟨bo, bcap, to, tcap, rfl, _, _, _, _⟩ := hu.shape
  have BW := Lib.hid (fun o o' => ((Below.refl w.heap.size w).alloc (Nat.le_refl _) o).alloc (by simp) o')
  have CF := Lib.hid (fun W (hb : Below w.heap.size w W) => far_b t _ W (HV.out.next hb))
  have CG := Lib.hid (fun W (hb : Below w.heap.size w W) => far_b u _ W (HU.out.next hb))
  have CA := Lib.hid alive_any
  have T1 := Lib.hid (TBox.new (w.alloc (.cells #[.slice ao t.ns.length cap, .slice so t.sets.length scap, .int .i64 t.root] 25)) (.slice bo u.ns.length bcap) (.slice to u.sets.length tcap) u.root)
  by_cases h1 : Near t
  · rw [farB_no h1] at CF
    rw [farB_yes (fun h => hf ⟨h1, h⟩)] at CG
    clear hv hu hf h1
    go_enter Try.func3, Try.ntmps3
    go_wp2_with (first
      | (go_at_call 6; (with_reducible refine (CF.out _ (BW.out _ _)).mono ?_); rintro e w1 ⟨rfl, hb1⟩; go_must (obtain ⟨r0, r1, r2⟩ := T1.out.next hb1; simp only [World.size_alloc] at r0 r1 r2; have B1 := Lib.hid ((BW.out (.cells #[.slice ao t.ns.length cap, .slice so t.sets.length scap, .int .i64 t.root] 25) (.cells #[.slice bo u.ns.length bcap, .slice to u.sets.length tcap, .int .i64 u.root] 25)).trans (hb1.mono (by simp; omega))); clear hb1))
      | (go_at_call 6; (with_reducible refine (CG.out _ B1.out).mono ?_); rintro e w2 ⟨rfl, hb2⟩; go_must (have B2 := Lib.hid (B1.out.trans (hb2.mono B1.out.size)); clear hb2))
      | (go_at_call 7; (with_reducible refine (CA.out _).mono ?_); rintro e w3 ⟨rfl, hb3⟩; go_must (have B3 := Lib.hid (B2.out.trans (hb3.mono B2.out.size)); clear hb3))
      | fail)
    go_ret
    exact ⟨rfl, B3.out⟩
  · rw [farB_yes h1] at CF
    clear hv hu hf h1
    go_enter Try.func3, Try.ntmps3
    go_wp2_with (first
      | (go_at_call 6; (with_reducible refine (CF.out _ (BW.out _ _)).mono ?_); rintro e w1 ⟨rfl, hb1⟩; go_must (have B2 := Lib.hid ((BW.out (.cells #[.slice ao t.ns.length cap, .slice so t.sets.length scap, .int .i64 t.root] 25) (.cells #[.slice bo u.ns.length bcap, .slice to u.sets.length tcap, .int .i64 u.root] 25)).trans (hb1.mono (by simp; omega))); clear hb1))
      | (go_at_call 7; (with_reducible refine (CA.out _).mono ?_); rintro e w3 ⟨rfl, hb3⟩; go_must (have B3 := Lib.hid (B2.out.trans (hb3.mono B2.out.size)); clear hb3))
      | fail)
    go_ret
    exact ⟨rfl, B3.out⟩

set_option maxRecDepth 100000 in
set_option maxHeartbeats 8000000 in
theorem checks_bad (t u : Tr) (v1 v2 : Value) (w : World) (hv : TreeAt w v1 t) (hu : TreeAt w v2 u) (hn1 : Near t) (hn2 : Near u) (hc : checkE t ≠ 0) :
    Calls Try.prog 3 #[v1, v2] w fun e w' => e = .returned (.bool true) ∧ Below w.heap.size w w' := by
  have HV := Lib.hid hv
  have HU := Lib.hid hu
  obtain ⟨ao, cap, so, scap, rfl, _, _, _, _⟩ := hv.shape
  obtain ⟨bo, bcap, to, tcap, rfl, _, _, _, _⟩ := hu.shape
  have BW := Lib.hid (fun o o' => ((Below.refl w.heap.size w).alloc (Nat.le_refl _) o).alloc (by simp) o')
  have CF := Lib.hid (fun W (hb : Below w.heap.size w W) => far_b t _ W (HV.out.next hb))
  have CG := Lib.hid (fun W (hb : Below w.heap.size w W) => far_b u _ W (HU.out.next hb))
  rw [farB_no hn1] at CF
  rw [farB_no hn2] at CG
  have CA := Lib.hid alive_any
  have CRT := Lib.hid (fun W (hb : Below w.heap.size w W) => rcheck_any t _ W (HV.out.next hb) (fun k hk => by have := hn1.each k hk; omega))
  have CRU := Lib.hid (fun W (hb : Below w.heap.size w W) => rcheck_any u _ W (HU.out.next hb) (fun k hk => by have := hn2.each k hk; omega))
  have CCT := Lib.hid (fun W (hb : Below w.heap.size w W) => check_any t _ W (HV.out.next hb))
  have T1 := Lib.hid (TBox.new (w.alloc (.cells #[.slice ao t.ns.length cap, .slice so t.sets.length scap, .int .i64 t.root] 25)) (.slice bo u.ns.length bcap) (.slice to u.sets.length tcap) u.root)
  have T0 := Lib.hid ((TBox.new w (.slice ao t.ns.length cap) (.slice so t.sets.length scap) t.root).next ((Below.refl _ _).alloc (Nat.le_refl _) (.cells #[.slice bo u.ns.length bcap, .slice to u.sets.length tcap, .int .i64 u.root] 25)))
  have CD := Lib.hid (fun W (hb : Below w.heap.size w W) => depth_any t _ W (HV.out.next hb))
  have CZ := Lib.hid (fun W (hb : Below w.heap.size w W) => size_any t _ W (HV.out.next hb))
  have CS := Lib.hid (fun W (hb : Below w.heap.size w W) => same_any t u _ _ W (HV.out.next hb) (HU.out.next hb))
  rw [if_neg hc] at CD CZ
  have hsb : SB t u = false := by unfold SB; rw [if_neg (fun h => hc h.1)]
  rw [hsb] at CS
  have hE := checkE_ne hc
  generalize checkE t = E at *
  generalize checkE u = F at *
  clear hv hu hn1 hn2 hc hsb
  rcases hE with rfl | rfl
  all_goals (
  go_enter Try.func3, Try.ntmps3
  go_wp2_with (first
    | (go_at_call 6; (with_reducible refine (CF.out _ (BW.out _ _)).mono ?_); rintro e w1 ⟨rfl, hb1⟩; go_must (obtain ⟨a0, a1, a2⟩ := T0.out.next hb1; obtain ⟨a3, a4, a5⟩ := T1.out.next hb1; simp only [World.size_alloc] at a3 a4 a5; have B1 := Lib.hid ((BW.out (.cells #[.slice ao t.ns.length cap, .slice so t.sets.length scap, .int .i64 t.root] 25) (.cells #[.slice bo u.ns.length bcap, .slice to u.sets.length tcap, .int .i64 u.root] 25)).trans (hb1.mono (by simp; omega))); clear hb1))
    | (go_at_call 6; (with_reducible refine (CG.out _ B1.out).mono ?_); rintro e w2 ⟨rfl, hb2⟩; go_must (have b0 := cell_next a0 hb2; have b1 := cell_next a1 hb2; have b2 := cell_next a2 hb2; have b3 := cell_next a3 hb2; have b4 := cell_next a4 hb2; have b5 := cell_next a5 hb2; clear a0 a1 a2 a3 a4 a5; have B2 := Lib.hid (B1.out.trans (hb2.mono B1.out.size)); clear hb2))
    | (go_at_call 8; (with_reducible refine (CRT.out _ B2.out).mono ?_); rintro e w3 ⟨rfl, hb3⟩; go_must (have c0 := cell_next b0 hb3; have c1 := cell_next b1 hb3; have c2 := cell_next b2 hb3; have c3 := cell_next b3 hb3; have c4 := cell_next b4 hb3; have c5 := cell_next b5 hb3; clear b0 b1 b2 b3 b4 b5; have B3 := Lib.hid (B2.out.trans (hb3.mono B2.out.size)); clear hb3))
    | (go_at_call 8; (with_reducible refine (CRU.out _ B3.out).mono ?_); rintro e w4 ⟨rfl, hb4⟩; go_must (have d0 := cell_next c0 hb4; have d1 := cell_next c1 hb4; have d2 := cell_next c2 hb4; have d3 := cell_next c3 hb4; have d4 := cell_next c4 hb4; have d5 := cell_next c5 hb4; clear c0 c1 c2 c3 c4 c5; have B4 := Lib.hid (B3.out.trans (hb4.mono B3.out.size)); clear hb4))
    | (go_at_call 9; (with_reducible refine (CCT.out _ B4.out).mono ?_); rintro e w5 ⟨rfl, hb5⟩; go_must (have e0 := cell_next d0 hb5; have e1 := cell_next d1 hb5; have e2 := cell_next d2 hb5; have e3 := cell_next d3 hb5; have e4 := cell_next d4 hb5; have e5 := cell_next d5 hb5; clear d0 d1 d2 d3 d4 d5; have B5 := Lib.hid (B4.out.trans (hb5.mono B4.out.size)); clear hb5))
    | (go_at_call 10; (with_reducible refine (CD.out _ B5.out).mono ?_); rintro e w6 ⟨rfl, hb6⟩; go_must (have f0 := cell_next e0 hb6; have f1 := cell_next e1 hb6; have f2 := cell_next e2 hb6; have f3 := cell_next e3 hb6; have f4 := cell_next e4 hb6; have f5 := cell_next e5 hb6; clear e0 e1 e2 e3 e4 e5; have B6 := Lib.hid (B5.out.trans (hb6.mono B5.out.size)); clear hb6))
    | (go_at_call 11; (with_reducible refine (CZ.out _ B6.out).mono ?_); rintro e w7 ⟨rfl, hb7⟩; go_must (have g0 := cell_next f0 hb7; have g1 := cell_next f1 hb7; have g2 := cell_next f2 hb7; have g3 := cell_next f3 hb7; have g4 := cell_next f4 hb7; have g5 := cell_next f5 hb7; clear f0 f1 f2 f3 f4 f5; have B7 := Lib.hid (B6.out.trans (hb7.mono B6.out.size)); clear hb7))
    | (go_at_call 12; (with_reducible refine (CS.out _ B7.out).mono ?_); rintro e w8 ⟨rfl, hb8⟩; go_must (have B8 := Lib.hid (B7.out.trans (hb8.mono B7.out.size)); clear hb8))
    | (go_at_call 7; (with_reducible refine (CA.out _).mono ?_); rintro e w9 ⟨rfl, hb9⟩; go_must (have B9 := Lib.hid (B8.out.trans (hb9.mono B8.out.size)); clear hb9))
    | fail)
  go_ret
  exact ⟨rfl, B9.out⟩)

set_option maxRecDepth 100000 in
set_option maxHeartbeats 16000000 in
theorem checks_yes (t u : Tr) (v1 v2 : Value) (w : World) (hv : TreeAt w v1 t) (hu : TreeAt w v2 u) (hn1 : Near t) (hn2 : Near u) (hc : checkE t = 0) (hc2 : checkE u = 0) :
    Calls Try.prog 3 #[v1, v2] w fun e w' => e = .returned (.bool true) ∧ Below w.heap.size w w' := by
  have HV := Lib.hid hv
  have HU := Lib.hid hu
  obtain ⟨ao, cap, so, scap, rfl, _, _, _, _⟩ := hv.shape
  obtain ⟨bo, bcap, to, tcap, rfl, _, _, _, _⟩ := hu.shape
  have BW := Lib.hid (fun o o' => ((Below.refl w.heap.size w).alloc (Nat.le_refl _) o).alloc (by simp) o')
  have CF := Lib.hid (fun W (hb : Below w.heap.size w W) => far_b t _ W (HV.out.next hb))
  have CG := Lib.hid (fun W (hb : Below w.heap.size w W) => far_b u _ W (HU.out.next hb))
  rw [farB_no hn1] at CF
  rw [farB_no hn2] at CG
  have CA := Lib.hid alive_any
  have CRT := Lib.hid (fun W (hb : Below w.heap.size w W) => rcheck_any t _ W (HV.out.next hb) (fun k hk => by have := hn1.each k hk; omega))
  have CRU := Lib.hid (fun W (hb : Below w.heap.size w W) => rcheck_any u _ W (HU.out.next hb) (fun k hk => by have := hn2.each k hk; omega))
  have CCT := Lib.hid (fun W (hb : Below w.heap.size w W) => check_any t _ W (HV.out.next hb))
  have T1 := Lib.hid (TBox.new (w.alloc (.cells #[.slice ao t.ns.length cap, .slice so t.sets.length scap, .int .i64 t.root] 25)) (.slice bo u.ns.length bcap) (.slice to u.sets.length tcap) u.root)
  have T0 := Lib.hid ((TBox.new w (.slice ao t.ns.length cap) (.slice so t.sets.length scap) t.root).next ((Below.refl _ _).alloc (Nat.le_refl _) (.cells #[.slice bo u.ns.length bcap, .slice to u.sets.length tcap, .int .i64 u.root] 25)))
  have hr0 := (check_ok hc).1.root0
  have hr1 := (check_ok hc).1.root1
  obtain ⟨q, hq⟩ := Int.eq_ofNat_of_zero_le hr0
  have hqn : q < t.ns.length := by omega
  have CD := Lib.hid (fun W (hb : Below w.heap.size w W) => show Calls Try.prog 10 #[.agg #[.slice ao t.ns.length cap, .slice so t.sets.length scap, .int .i64 (q : Int)]] W (fun e w' => e = .returned (.int .i64 (reck gD t.ns q)) ∧ Below W.heap.size W w') by
    have := depth_any t _ W (HV.out.next hb)
    rw [if_pos hc, hq, Int.toNat_natCast] at this; exact this)
  have CZ := Lib.hid (fun W (hb : Below w.heap.size w W) => show Calls Try.prog 11 #[.agg #[.slice ao t.ns.length cap, .slice so t.sets.length scap, .int .i64 (q : Int)]] W (fun e w' => e = .returned (.int .i64 (reck gZ t.ns q)) ∧ Below W.heap.size W w') by
    have := size_any t _ W (HV.out.next hb)
    rw [if_pos hc, hq, Int.toNat_natCast, gS_gZ (check_ok hc).1 hn1 q hqn] at this; exact this)
  have CRD := Lib.hid (fun W (hb : Below w.heap.size w W) => show Calls Try.prog 14 #[.agg #[.slice ao t.ns.length cap, .slice so t.sets.length scap, .int .i64 (q : Int)], .int .i64 (q : Int)] W (fun e w' => e = .returned (.int .i64 (reck gD t.ns q)) ∧ Below W.heap.size W w') by
    have := rdepth_any t (check_ok hc).1 (bnd_gD (check_ok hc).1 (check_ok hc).2.1) q hqn _ W (HV.out.next hb)
    rw [hq] at this; exact this)
  have CRZ := Lib.hid (fun W (hb : Below w.heap.size w W) => show Calls Try.prog 15 #[.agg #[.slice ao t.ns.length cap, .slice so t.sets.length scap, .int .i64 (q : Int)], .int .i64 (q : Int)] W (fun e w' => e = .returned (.int .i64 (reck gZ t.ns q)) ∧ Below W.heap.size W w') by
    have := rsize_any t (check_ok hc).1 (bnd_gZ (check_ok hc).1 hn1) q hqn _ W (HV.out.next hb)
    rw [hq] at this; exact this)
  have CAL := Lib.hid (fun W (_ : Below w.heap.size w W) => alive_any W)
  have hs0 := (check_ok hc2).1.root0
  have hs1 := (check_ok hc2).1.root1
  obtain ⟨z, hz⟩ := Int.eq_ofNat_of_zero_le hs0
  have hzn : z < u.ns.length := by omega
  have CS := Lib.hid (fun W (hb : Below w.heap.size w W) => show Calls Try.prog 12 #[.agg #[.slice ao t.ns.length cap, .slice so t.sets.length scap, .int .i64 (q : Int)], .agg #[.slice bo u.ns.length bcap, .slice to u.sets.length tcap, .int .i64 (z : Int)]] W (fun e w' => e = .returned (.bool (sameT t u q z)) ∧ Below W.heap.size W w') by
    have := same_any t u _ _ W (HV.out.next hb) (HU.out.next hb)
    unfold SB at this
    rw [if_pos ⟨hc, hc2⟩, hq, hz, Int.toNat_natCast, Int.toNat_natCast] at this; exact this)
  have CRS := Lib.hid (fun W (hb : Below w.heap.size w W) => show Calls Try.prog 13 #[.agg #[.slice ao t.ns.length cap, .slice so t.sets.length scap, .int .i64 (q : Int)], .int .i64 (q : Int), .agg #[.slice bo u.ns.length bcap, .slice to u.sets.length tcap, .int .i64 (z : Int)], .int .i64 (z : Int)] W (fun e w' => e = .returned (.bool (sameT t u q z)) ∧ Below W.heap.size W w') by
    have := rsameT_any t u (check_ok hc).1 (check_ok hc2).1 q z hqn hzn _ _ W (HV.out.next hb) (HU.out.next hb)
    rw [hq, hz] at this; exact this)
  rw [hc] at CRT CCT
  rw [hc2] at CRU
  rw [hq] at CF CRT CCT T0
  rw [hz] at CG CRU T1 T0
  rw [hq] at T1 ⊢
  rw [hz] at ⊢
  generalize reck gD t.ns q = D at *
  generalize reck gZ t.ns q = Z at *
  generalize sameT t u q z = b at *
  clear hv hu hn1 hn2 hc hc2 hr0 hr1 hs0 hs1 hq hz HV HU
  go_enter Try.func3, Try.ntmps3
  go_wp2_with (first
    | (go_at_call 6; (with_reducible refine (CF.out _ (BW.out _ _)).mono ?_); rintro e w1 ⟨rfl, hb1⟩; go_must (obtain ⟨a0, a1, a2⟩ := T0.out.next hb1; obtain ⟨a3, a4, a5⟩ := T1.out.next hb1; simp only [World.size_alloc] at a3 a4 a5; have B1 := Lib.hid ((BW.out (.cells #[.slice ao t.ns.length cap, .slice so t.sets.length scap, .int .i64 (q : Int)] 25) (.cells #[.slice bo u.ns.length bcap, .slice to u.sets.length tcap, .int .i64 (z : Int)] 25)).trans (hb1.mono (by simp; omega))); clear hb1))
    | (go_at_call 6; (with_reducible refine (CG.out _ B1.out).mono ?_); rintro e w2 ⟨rfl, hb2⟩; go_must (have b0 := cell_next a0 hb2; have b1 := cell_next a1 hb2; have b2 := cell_next a2 hb2; have b3 := cell_next a3 hb2; have b4 := cell_next a4 hb2; have b5 := cell_next a5 hb2; clear a0 a1 a2 a3 a4 a5; have B2 := Lib.hid (B1.out.trans (hb2.mono B1.out.size)); clear hb2))
    | (go_at_call 8; (with_reducible refine (CRT.out _ B2.out).mono ?_); rintro e w3 ⟨rfl, hb3⟩; go_must (have c0 := cell_next b0 hb3; have c1 := cell_next b1 hb3; have c2 := cell_next b2 hb3; have c3 := cell_next b3 hb3; have c4 := cell_next b4 hb3; have c5 := cell_next b5 hb3; clear b0 b1 b2 b3 b4 b5; have B3 := Lib.hid (B2.out.trans (hb3.mono B2.out.size)); clear hb3))
    | (go_at_call 8; (with_reducible refine (CRU.out _ B3.out).mono ?_); rintro e w4 ⟨rfl, hb4⟩; go_must (have d0 := cell_next c0 hb4; have d1 := cell_next c1 hb4; have d2 := cell_next c2 hb4; have d3 := cell_next c3 hb4; have d4 := cell_next c4 hb4; have d5 := cell_next c5 hb4; clear c0 c1 c2 c3 c4 c5; have B4 := Lib.hid (B3.out.trans (hb4.mono B3.out.size)); clear hb4))
    | (go_at_call 9; (with_reducible refine (CCT.out _ B4.out).mono ?_); rintro e w5 ⟨rfl, hb5⟩; go_must (have e0 := cell_next d0 hb5; have e1 := cell_next d1 hb5; have e2 := cell_next d2 hb5; have e3 := cell_next d3 hb5; have e4 := cell_next d4 hb5; have e5 := cell_next d5 hb5; clear d0 d1 d2 d3 d4 d5; have B5 := Lib.hid (B4.out.trans (hb5.mono B4.out.size)); clear hb5))
    | (go_at_call 13; (with_reducible refine (CRS.out _ B5.out).mono ?_); rintro e w6 ⟨rfl, hb6⟩; go_must (have f0 := cell_next e0 hb6; have f1 := cell_next e1 hb6; have f2 := cell_next e2 hb6; have f3 := cell_next e3 hb6; have f4 := cell_next e4 hb6; have f5 := cell_next e5 hb6; have B6 := Lib.hid (B5.out.trans (hb6.mono B5.out.size)); clear hb6 e0 e1 e2 e3 e4 e5))
    | fail)
  have HD := Lib.hid (show Below w.heap.size w w6.drew from B6.out.trans (below_drew _))
  go_region_held3 (fun W => W.cell? ⟨w.heap.size, 0, none⟩ = some (.slice ao t.ns.length cap) ∧ W.cell? ⟨w.heap.size, 1, none⟩ = some (.slice so t.sets.length scap) ∧ W.cell? ⟨w.heap.size, 2, none⟩ = some (.int .i64 (q : Int)) ∧ W.cell? ⟨w.heap.size + 1, 0, none⟩ = some (.slice bo u.ns.length bcap) ∧ W.cell? ⟨w.heap.size + 1, 1, none⟩ = some (.slice to u.sets.length tcap) ∧ W.cell? ⟨w.heap.size + 1, 2, none⟩ = some (.int .i64 (z : Int)) ∧ Below w.heap.size w W) (first | exact ⟨by assumption, by assumption, by assumption, by assumption, by assumption, by assumption, by assumption⟩ | (refine ⟨by go_keep, by go_keep, by go_keep, by go_keep, by go_keep, by go_keep, ?_⟩; exact HD.out) | go_keep)
    (first
      | (go_at_call 10; ((with_reducible refine (CD.out _ (by first | assumption | exact HD.out)).mono ?_); rintro e w21 ⟨rfl, hb⟩); go_must (have x10 := cell_next (a := ⟨w.heap.size, 0, none⟩) (v := .slice ao t.ns.length cap) (by assumption) hb; have x11 := cell_next (a := ⟨w.heap.size, 1, none⟩) (v := .slice so t.sets.length scap) (by assumption) hb; have x12 := cell_next (a := ⟨w.heap.size, 2, none⟩) (v := .int .i64 (q : Int)) (by assumption) hb; have x13 := cell_next (a := ⟨w.heap.size + 1, 0, none⟩) (v := .slice bo u.ns.length bcap) (by assumption) hb; have x14 := cell_next (a := ⟨w.heap.size + 1, 1, none⟩) (v := .slice to u.sets.length tcap) (by assumption) hb; have x15 := cell_next (a := ⟨w.heap.size + 1, 2, none⟩) (v := .int .i64 (z : Int)) (by assumption) hb; have x16 := Below.trans (show Below w.heap.size w _ by first | assumption | exact HD.out) (hb.mono (Below.size (show Below w.heap.size w _ by first | assumption | exact HD.out))); clear hb))
      | (go_at_call 14; ((with_reducible refine (CRD.out _ (by first | assumption | exact HD.out)).mono ?_); rintro e w22 ⟨rfl, hb⟩); go_must (have x20 := cell_next (a := ⟨w.heap.size, 0, none⟩) (v := .slice ao t.ns.length cap) (by assumption) hb; have x21 := cell_next (a := ⟨w.heap.size, 1, none⟩) (v := .slice so t.sets.length scap) (by assumption) hb; have x22 := cell_next (a := ⟨w.heap.size, 2, none⟩) (v := .int .i64 (q : Int)) (by assumption) hb; have x23 := cell_next (a := ⟨w.heap.size + 1, 0, none⟩) (v := .slice bo u.ns.length bcap) (by assumption) hb; have x24 := cell_next (a := ⟨w.heap.size + 1, 1, none⟩) (v := .slice to u.sets.length tcap) (by assumption) hb; have x25 := cell_next (a := ⟨w.heap.size + 1, 2, none⟩) (v := .int .i64 (z : Int)) (by assumption) hb; have x26 := Below.trans (show Below w.heap.size w _ by first | assumption | exact HD.out) (hb.mono (Below.size (show Below w.heap.size w _ by first | assumption | exact HD.out))); clear hb))
      | (go_at_call 11; ((with_reducible refine (CZ.out _ (by first | assumption | exact HD.out)).mono ?_); rintro e w23 ⟨rfl, hb⟩); go_must (have x30 := cell_next (a := ⟨w.heap.size, 0, none⟩) (v := .slice ao t.ns.length cap) (by assumption) hb; have x31 := cell_next (a := ⟨w.heap.size, 1, none⟩) (v := .slice so t.sets.length scap) (by assumption) hb; have x32 := cell_next (a := ⟨w.heap.size, 2, none⟩) (v := .int .i64 (q : Int)) (by assumption) hb; have x33 := cell_next (a := ⟨w.heap.size + 1, 0, none⟩) (v := .slice bo u.ns.length bcap) (by assumption) hb; have x34 := cell_next (a := ⟨w.heap.size + 1, 1, none⟩) (v := .slice to u.sets.length tcap) (by assumption) hb; have x35 := cell_next (a := ⟨w.heap.size + 1, 2, none⟩) (v := .int .i64 (z : Int)) (by assumption) hb; have x36 := Below.trans (show Below w.heap.size w _ by first | assumption | exact HD.out) (hb.mono (Below.size (show Below w.heap.size w _ by first | assumption | exact HD.out))); clear hb))
      | (go_at_call 15; ((with_reducible refine (CRZ.out _ (by first | assumption | exact HD.out)).mono ?_); rintro e w24 ⟨rfl, hb⟩); go_must (have x40 := cell_next (a := ⟨w.heap.size, 0, none⟩) (v := .slice ao t.ns.length cap) (by assumption) hb; have x41 := cell_next (a := ⟨w.heap.size, 1, none⟩) (v := .slice so t.sets.length scap) (by assumption) hb; have x42 := cell_next (a := ⟨w.heap.size, 2, none⟩) (v := .int .i64 (q : Int)) (by assumption) hb; have x43 := cell_next (a := ⟨w.heap.size + 1, 0, none⟩) (v := .slice bo u.ns.length bcap) (by assumption) hb; have x44 := cell_next (a := ⟨w.heap.size + 1, 1, none⟩) (v := .slice to u.sets.length tcap) (by assumption) hb; have x45 := cell_next (a := ⟨w.heap.size + 1, 2, none⟩) (v := .int .i64 (z : Int)) (by assumption) hb; have x46 := Below.trans (show Below w.heap.size w _ by first | assumption | exact HD.out) (hb.mono (Below.size (show Below w.heap.size w _ by first | assumption | exact HD.out))); clear hb))
      | (go_at_call 12; ((with_reducible refine (CS.out _ (by first | assumption | exact HD.out)).mono ?_); rintro e w25 ⟨rfl, hb⟩); go_must (have x50 := cell_next (a := ⟨w.heap.size, 0, none⟩) (v := .slice ao t.ns.length cap) (by assumption) hb; have x51 := cell_next (a := ⟨w.heap.size, 1, none⟩) (v := .slice so t.sets.length scap) (by assumption) hb; have x52 := cell_next (a := ⟨w.heap.size, 2, none⟩) (v := .int .i64 (q : Int)) (by assumption) hb; have x53 := cell_next (a := ⟨w.heap.size + 1, 0, none⟩) (v := .slice bo u.ns.length bcap) (by assumption) hb; have x54 := cell_next (a := ⟨w.heap.size + 1, 1, none⟩) (v := .slice to u.sets.length tcap) (by assumption) hb; have x55 := cell_next (a := ⟨w.heap.size + 1, 2, none⟩) (v := .int .i64 (z : Int)) (by assumption) hb; have x56 := Below.trans (show Below w.heap.size w _ by first | assumption | exact HD.out) (hb.mono (Below.size (show Below w.heap.size w _ by first | assumption | exact HD.out))); clear hb))
      | (go_at_call 7; ((with_reducible refine (CAL.out _ (by first | assumption | exact HD.out)).mono ?_); rintro e w26 ⟨rfl, hb⟩); go_must (have x60 := cell_next (a := ⟨w.heap.size, 0, none⟩) (v := .slice ao t.ns.length cap) (by assumption) hb; have x61 := cell_next (a := ⟨w.heap.size, 1, none⟩) (v := .slice so t.sets.length scap) (by assumption) hb; have x62 := cell_next (a := ⟨w.heap.size, 2, none⟩) (v := .int .i64 (q : Int)) (by assumption) hb; have x63 := cell_next (a := ⟨w.heap.size + 1, 0, none⟩) (v := .slice bo u.ns.length bcap) (by assumption) hb; have x64 := cell_next (a := ⟨w.heap.size + 1, 1, none⟩) (v := .slice to u.sets.length tcap) (by assumption) hb; have x65 := cell_next (a := ⟨w.heap.size + 1, 2, none⟩) (v := .int .i64 (z : Int)) (by assumption) hb; have x66 := Below.trans (show Below w.heap.size w _ by first | assumption | exact HD.out) (hb.mono (Below.size (show Below w.heap.size w _ by first | assumption | exact HD.out))); clear hb))
      | fail)
  all_goals (
    go_wp2
    go_ret
    exact ⟨rfl, by assumption⟩)

set_option maxRecDepth 100000 in
set_option maxHeartbeats 16000000 in
theorem checks_half (t u : Tr) (v1 v2 : Value) (w : World) (hv : TreeAt w v1 t) (hu : TreeAt w v2 u) (hn1 : Near t) (hn2 : Near u) (hc : checkE t = 0) (hc2 : checkE u ≠ 0) :
    Calls Try.prog 3 #[v1, v2] w fun e w' => e = .returned (.bool true) ∧ Below w.heap.size w w' := by
  have HV := Lib.hid hv
  have HU := Lib.hid hu
  obtain ⟨ao, cap, so, scap, rfl, _, _, _, _⟩ := hv.shape
  obtain ⟨bo, bcap, to, tcap, rfl, _, _, _, _⟩ := hu.shape
  have BW := Lib.hid (fun o o' => ((Below.refl w.heap.size w).alloc (Nat.le_refl _) o).alloc (by simp) o')
  have CF := Lib.hid (fun W (hb : Below w.heap.size w W) => far_b t _ W (HV.out.next hb))
  have CG := Lib.hid (fun W (hb : Below w.heap.size w W) => far_b u _ W (HU.out.next hb))
  rw [farB_no hn1] at CF
  rw [farB_no hn2] at CG
  have CA := Lib.hid alive_any
  have CRT := Lib.hid (fun W (hb : Below w.heap.size w W) => rcheck_any t _ W (HV.out.next hb) (fun k hk => by have := hn1.each k hk; omega))
  have CRU := Lib.hid (fun W (hb : Below w.heap.size w W) => rcheck_any u _ W (HU.out.next hb) (fun k hk => by have := hn2.each k hk; omega))
  have CCT := Lib.hid (fun W (hb : Below w.heap.size w W) => check_any t _ W (HV.out.next hb))
  have T1 := Lib.hid (TBox.new (w.alloc (.cells #[.slice ao t.ns.length cap, .slice so t.sets.length scap, .int .i64 t.root] 25)) (.slice bo u.ns.length bcap) (.slice to u.sets.length tcap) u.root)
  have T0 := Lib.hid ((TBox.new w (.slice ao t.ns.length cap) (.slice so t.sets.length scap) t.root).next ((Below.refl _ _).alloc (Nat.le_refl _) (.cells #[.slice bo u.ns.length bcap, .slice to u.sets.length tcap, .int .i64 u.root] 25)))
  have hr0 := (check_ok hc).1.root0
  have hr1 := (check_ok hc).1.root1
  obtain ⟨q, hq⟩ := Int.eq_ofNat_of_zero_le hr0
  have hqn : q < t.ns.length := by omega
  have CD := Lib.hid (fun W (hb : Below w.heap.size w W) => show Calls Try.prog 10 #[.agg #[.slice ao t.ns.length cap, .slice so t.sets.length scap, .int .i64 (q : Int)]] W (fun e w' => e = .returned (.int .i64 (reck gD t.ns q)) ∧ Below W.heap.size W w') by
    have := depth_any t _ W (HV.out.next hb)
    rw [if_pos hc, hq, Int.toNat_natCast] at this; exact this)
  have CZ := Lib.hid (fun W (hb : Below w.heap.size w W) => show Calls Try.prog 11 #[.agg #[.slice ao t.ns.length cap, .slice so t.sets.length scap, .int .i64 (q : Int)]] W (fun e w' => e = .returned (.int .i64 (reck gZ t.ns q)) ∧ Below W.heap.size W w') by
    have := size_any t _ W (HV.out.next hb)
    rw [if_pos hc, hq, Int.toNat_natCast, gS_gZ (check_ok hc).1 hn1 q hqn] at this; exact this)
  have CRD := Lib.hid (fun W (hb : Below w.heap.size w W) => show Calls Try.prog 14 #[.agg #[.slice ao t.ns.length cap, .slice so t.sets.length scap, .int .i64 (q : Int)], .int .i64 (q : Int)] W (fun e w' => e = .returned (.int .i64 (reck gD t.ns q)) ∧ Below W.heap.size W w') by
    have := rdepth_any t (check_ok hc).1 (bnd_gD (check_ok hc).1 (check_ok hc).2.1) q hqn _ W (HV.out.next hb)
    rw [hq] at this; exact this)
  have CRZ := Lib.hid (fun W (hb : Below w.heap.size w W) => show Calls Try.prog 15 #[.agg #[.slice ao t.ns.length cap, .slice so t.sets.length scap, .int .i64 (q : Int)], .int .i64 (q : Int)] W (fun e w' => e = .returned (.int .i64 (reck gZ t.ns q)) ∧ Below W.heap.size W w') by
    have := rsize_any t (check_ok hc).1 (bnd_gZ (check_ok hc).1 hn1) q hqn _ W (HV.out.next hb)
    rw [hq] at this; exact this)
  have CAL := Lib.hid (fun W (_ : Below w.heap.size w W) => alive_any W)
  have CS := Lib.hid (fun W (hb : Below w.heap.size w W) => show Calls Try.prog 12 #[.agg #[.slice ao t.ns.length cap, .slice so t.sets.length scap, .int .i64 (q : Int)], .agg #[.slice bo u.ns.length bcap, .slice to u.sets.length tcap, .int .i64 u.root]] W (fun e w' => e = .returned (.bool false) ∧ Below W.heap.size W w') by
    have := same_any t u _ _ W (HV.out.next hb) (HU.out.next hb)
    unfold SB at this
    rw [if_neg (fun h => hc2 h.2), hq] at this; exact this)
  have hE := checkE_ne hc2
  rw [hc] at CRT CCT
  rw [hq] at CF CRT CCT T0
  rw [hq] at T1 ⊢
  generalize reck gD t.ns q = D at *
  generalize reck gZ t.ns q = Z at *
  generalize checkE u = F at *
  clear hv hu hn1 hn2 hc hc2 hr0 hr1 hq HV HU
  rcases hE with rfl | rfl
  all_goals (
  go_enter Try.func3, Try.ntmps3
  go_wp2_with (first
    | (go_at_call 6; (with_reducible refine (CF.out _ (BW.out _ _)).mono ?_); rintro e w1 ⟨rfl, hb1⟩; go_must (obtain ⟨a0, a1, a2⟩ := T0.out.next hb1; obtain ⟨a3, a4, a5⟩ := T1.out.next hb1; simp only [World.size_alloc] at a3 a4 a5; have B1 := Lib.hid ((BW.out (.cells #[.slice ao t.ns.length cap, .slice so t.sets.length scap, .int .i64 (q : Int)] 25) (.cells #[.slice bo u.ns.length bcap, .slice to u.sets.length tcap, .int .i64 u.root] 25)).trans (hb1.mono (by simp; omega))); clear hb1))
    | (go_at_call 6; (with_reducible refine (CG.out _ B1.out).mono ?_); rintro e w2 ⟨rfl, hb2⟩; go_must (have b0 := cell_next a0 hb2; have b1 := cell_next a1 hb2; have b2 := cell_next a2 hb2; have b3 := cell_next a3 hb2; have b4 := cell_next a4 hb2; have b5 := cell_next a5 hb2; clear a0 a1 a2 a3 a4 a5; have B2 := Lib.hid (B1.out.trans (hb2.mono B1.out.size)); clear hb2))
    | (go_at_call 8; (with_reducible refine (CRT.out _ B2.out).mono ?_); rintro e w3 ⟨rfl, hb3⟩; go_must (have c0 := cell_next b0 hb3; have c1 := cell_next b1 hb3; have c2 := cell_next b2 hb3; have c3 := cell_next b3 hb3; have c4 := cell_next b4 hb3; have c5 := cell_next b5 hb3; clear b0 b1 b2 b3 b4 b5; have B3 := Lib.hid (B2.out.trans (hb3.mono B2.out.size)); clear hb3))
    | (go_at_call 8; (with_reducible refine (CRU.out _ B3.out).mono ?_); rintro e w4 ⟨rfl, hb4⟩; go_must (have d0 := cell_next c0 hb4; have d1 := cell_next c1 hb4; have d2 := cell_next c2 hb4; have d3 := cell_next c3 hb4; have d4 := cell_next c4 hb4; have d5 := cell_next c5 hb4; clear c0 c1 c2 c3 c4 c5; have B4 := Lib.hid (B3.out.trans (hb4.mono B3.out.size)); clear hb4))
    | (go_at_call 9; (with_reducible refine (CCT.out _ B4.out).mono ?_); rintro e w5 ⟨rfl, hb5⟩; go_must (have e0 := cell_next d0 hb5; have e1 := cell_next d1 hb5; have e2 := cell_next d2 hb5; have e3 := cell_next d3 hb5; have e4 := cell_next d4 hb5; have e5 := cell_next d5 hb5; clear d0 d1 d2 d3 d4 d5; have B5 := Lib.hid (B4.out.trans (hb5.mono B4.out.size)); clear hb5))
    | fail)
  have HD := Lib.hid (show Below w.heap.size w w5.drew from B5.out.trans (below_drew _))
  go_region_held3 (fun W => W.cell? ⟨w.heap.size, 0, none⟩ = some (.slice ao t.ns.length cap) ∧ W.cell? ⟨w.heap.size, 1, none⟩ = some (.slice so t.sets.length scap) ∧ W.cell? ⟨w.heap.size, 2, none⟩ = some (.int .i64 (q : Int)) ∧ W.cell? ⟨w.heap.size + 1, 0, none⟩ = some (.slice bo u.ns.length bcap) ∧ W.cell? ⟨w.heap.size + 1, 1, none⟩ = some (.slice to u.sets.length tcap) ∧ W.cell? ⟨w.heap.size + 1, 2, none⟩ = some (.int .i64 u.root) ∧ Below w.heap.size w W) (first | exact ⟨by assumption, by assumption, by assumption, by assumption, by assumption, by assumption, by assumption⟩ | (refine ⟨by go_keep, by go_keep, by go_keep, by go_keep, by go_keep, by go_keep, ?_⟩; exact HD.out) | go_keep)
    (first
      | (go_at_call 10; ((with_reducible refine (CD.out _ (by first | assumption | exact HD.out)).mono ?_); rintro e w21 ⟨rfl, hb⟩); go_must (have x10 := cell_next (a := ⟨w.heap.size, 0, none⟩) (v := .slice ao t.ns.length cap) (by assumption) hb; have x11 := cell_next (a := ⟨w.heap.size, 1, none⟩) (v := .slice so t.sets.length scap) (by assumption) hb; have x12 := cell_next (a := ⟨w.heap.size, 2, none⟩) (v := .int .i64 (q : Int)) (by assumption) hb; have x13 := cell_next (a := ⟨w.heap.size + 1, 0, none⟩) (v := .slice bo u.ns.length bcap) (by assumption) hb; have x14 := cell_next (a := ⟨w.heap.size + 1, 1, none⟩) (v := .slice to u.sets.length tcap) (by assumption) hb; have x15 := cell_next (a := ⟨w.heap.size + 1, 2, none⟩) (v := .int .i64 u.root) (by assumption) hb; have x16 := Below.trans (show Below w.heap.size w _ by first | assumption | exact HD.out) (hb.mono (Below.size (show Below w.heap.size w _ by first | assumption | exact HD.out))); clear hb))
      | (go_at_call 14; ((with_reducible refine (CRD.out _ (by first | assumption | exact HD.out)).mono ?_); rintro e w22 ⟨rfl, hb⟩); go_must (have x20 := cell_next (a := ⟨w.heap.size, 0, none⟩) (v := .slice ao t.ns.length cap) (by assumption) hb; have x21 := cell_next (a := ⟨w.heap.size, 1, none⟩) (v := .slice so t.sets.length scap) (by assumption) hb; have x22 := cell_next (a := ⟨w.heap.size, 2, none⟩) (v := .int .i64 (q : Int)) (by assumption) hb; have x23 := cell_next (a := ⟨w.heap.size + 1, 0, none⟩) (v := .slice bo u.ns.length bcap) (by assumption) hb; have x24 := cell_next (a := ⟨w.heap.size + 1, 1, none⟩) (v := .slice to u.sets.length tcap) (by assumption) hb; have x25 := cell_next (a := ⟨w.heap.size + 1, 2, none⟩) (v := .int .i64 u.root) (by assumption) hb; have x26 := Below.trans (show Below w.heap.size w _ by first | assumption | exact HD.out) (hb.mono (Below.size (show Below w.heap.size w _ by first | assumption | exact HD.out))); clear hb))
      | (go_at_call 11; ((with_reducible refine (CZ.out _ (by first | assumption | exact HD.out)).mono ?_); rintro e w23 ⟨rfl, hb⟩); go_must (have x30 := cell_next (a := ⟨w.heap.size, 0, none⟩) (v := .slice ao t.ns.length cap) (by assumption) hb; have x31 := cell_next (a := ⟨w.heap.size, 1, none⟩) (v := .slice so t.sets.length scap) (by assumption) hb; have x32 := cell_next (a := ⟨w.heap.size, 2, none⟩) (v := .int .i64 (q : Int)) (by assumption) hb; have x33 := cell_next (a := ⟨w.heap.size + 1, 0, none⟩) (v := .slice bo u.ns.length bcap) (by assumption) hb; have x34 := cell_next (a := ⟨w.heap.size + 1, 1, none⟩) (v := .slice to u.sets.length tcap) (by assumption) hb; have x35 := cell_next (a := ⟨w.heap.size + 1, 2, none⟩) (v := .int .i64 u.root) (by assumption) hb; have x36 := Below.trans (show Below w.heap.size w _ by first | assumption | exact HD.out) (hb.mono (Below.size (show Below w.heap.size w _ by first | assumption | exact HD.out))); clear hb))
      | (go_at_call 15; ((with_reducible refine (CRZ.out _ (by first | assumption | exact HD.out)).mono ?_); rintro e w24 ⟨rfl, hb⟩); go_must (have x40 := cell_next (a := ⟨w.heap.size, 0, none⟩) (v := .slice ao t.ns.length cap) (by assumption) hb; have x41 := cell_next (a := ⟨w.heap.size, 1, none⟩) (v := .slice so t.sets.length scap) (by assumption) hb; have x42 := cell_next (a := ⟨w.heap.size, 2, none⟩) (v := .int .i64 (q : Int)) (by assumption) hb; have x43 := cell_next (a := ⟨w.heap.size + 1, 0, none⟩) (v := .slice bo u.ns.length bcap) (by assumption) hb; have x44 := cell_next (a := ⟨w.heap.size + 1, 1, none⟩) (v := .slice to u.sets.length tcap) (by assumption) hb; have x45 := cell_next (a := ⟨w.heap.size + 1, 2, none⟩) (v := .int .i64 u.root) (by assumption) hb; have x46 := Below.trans (show Below w.heap.size w _ by first | assumption | exact HD.out) (hb.mono (Below.size (show Below w.heap.size w _ by first | assumption | exact HD.out))); clear hb))
      | (go_at_call 12; ((with_reducible refine (CS.out _ (by first | assumption | exact HD.out)).mono ?_); rintro e w25 ⟨rfl, hb⟩); go_must (have x50 := cell_next (a := ⟨w.heap.size, 0, none⟩) (v := .slice ao t.ns.length cap) (by assumption) hb; have x51 := cell_next (a := ⟨w.heap.size, 1, none⟩) (v := .slice so t.sets.length scap) (by assumption) hb; have x52 := cell_next (a := ⟨w.heap.size, 2, none⟩) (v := .int .i64 (q : Int)) (by assumption) hb; have x53 := cell_next (a := ⟨w.heap.size + 1, 0, none⟩) (v := .slice bo u.ns.length bcap) (by assumption) hb; have x54 := cell_next (a := ⟨w.heap.size + 1, 1, none⟩) (v := .slice to u.sets.length tcap) (by assumption) hb; have x55 := cell_next (a := ⟨w.heap.size + 1, 2, none⟩) (v := .int .i64 u.root) (by assumption) hb; have x56 := Below.trans (show Below w.heap.size w _ by first | assumption | exact HD.out) (hb.mono (Below.size (show Below w.heap.size w _ by first | assumption | exact HD.out))); clear hb))
      | (go_at_call 7; ((with_reducible refine (CAL.out _ (by first | assumption | exact HD.out)).mono ?_); rintro e w26 ⟨rfl, hb⟩); go_must (have x60 := cell_next (a := ⟨w.heap.size, 0, none⟩) (v := .slice ao t.ns.length cap) (by assumption) hb; have x61 := cell_next (a := ⟨w.heap.size, 1, none⟩) (v := .slice so t.sets.length scap) (by assumption) hb; have x62 := cell_next (a := ⟨w.heap.size, 2, none⟩) (v := .int .i64 (q : Int)) (by assumption) hb; have x63 := cell_next (a := ⟨w.heap.size + 1, 0, none⟩) (v := .slice bo u.ns.length bcap) (by assumption) hb; have x64 := cell_next (a := ⟨w.heap.size + 1, 1, none⟩) (v := .slice to u.sets.length tcap) (by assumption) hb; have x65 := cell_next (a := ⟨w.heap.size + 1, 2, none⟩) (v := .int .i64 u.root) (by assumption) hb; have x66 := Below.trans (show Below w.heap.size w _ by first | assumption | exact HD.out) (hb.mono (Below.size (show Below w.heap.size w _ by first | assumption | exact HD.out))); clear hb))
      | fail)
  all_goals (
    go_wp2
    go_ret
    exact ⟨rfl, by assumption⟩))

theorem walk_checks (t u : Tr) (v1 v2 : Value) (w : World) (hv : TreeAt w v1 t) (hu : TreeAt w v2 u) :
    Calls Try.prog 3 #[v1, v2] w fun e w' => e = .returned (.bool true) ∧ Below w.heap.size w w' := by
  by_cases hn : Near t ∧ Near u
  · by_cases hc : checkE t = 0
    · by_cases hc2 : checkE u = 0
      · exact checks_yes t u v1 v2 w hv hu hn.1 hn.2 hc hc2
      · exact checks_half t u v1 v2 w hv hu hn.1 hn.2 hc hc2
    · exact checks_bad t u v1 v2 w hv hu hn.1 hn.2 hc
  · exact checks_far t u v1 v2 w hv hu hn

end Go.Proofs.Ytdgpanofehfjdaa.Ar

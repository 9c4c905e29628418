/- The first law: sets put one after the other. -/
import Derived.Test.YtemmaoapicaloaaDoorSbWant
import Derived.Deep.AppendLies
namespace Go.Proofs.YtemmaoapicaloaaDoor.Sb
open Go Go.RowKit Go.Proofs.YtemmaoapicaloaaDoor.At
open Go.Proofs.YtemmaoapicaloaaDoor.Bt (SetAt setV memL nums roomF iV own_slice ofF Tab)

theorem infoSl : (Tryd.prog.info? 27).map (fun i => (i.zero, i.size, i.bytes)) = some (some (.slice none 0 0), 1, 24) := by kernel_rfl

set_option maxRecDepth 100000 in
set_option maxHeartbeats 16000000 in
theorem plays_any (most : Int) (rv : Value) (rs : List Nat) (lv : Value) (l : List (List Int)) (w : World) (hT : Tab w) (hr : U8At w rv rs) (hl : LsAt w lv l) :
    Calls Tryd.prog 3 #[.int .i64 most, rv, lv] w fun e w' => e = .returned (.bool true) ∧ Below w.heap.size w w' := by
  have HT := Lib.hid hT
  have AL := Lib.hid (fun W => alive_any W)
  obtain ⟨ro, rc, rfl, hrm, hrc⟩ := hr.shape
  obtain ⟨lo, lc, rfl, hlm, hlc⟩ := hl.shape
  have HRC := Lib.hid hrc
  have HLC := Lib.hid hlc
  clear hT hr hl hrc hlc
  by_cases h60 : 60 < l.length
  · have h1 : (60 : Int) < (l.length : Int) := by omega
    go_enter Tryd.func3, Tryd.ntmps3
    go_wp2_with (go_at_call 5; (with_reducible refine (AL.out _).mono ?_); rintro e w' ⟨rfl, hb⟩)
    go_ret
    exact ⟨rfl, hb⟩
  have h1 : ¬ (60 : Int) < (l.length : Int) := by omega
  have NW := Lib.hid (new_any most w)
  have RM := Lib.hid (fun W => rroom_any most W)
  generalize hmm : roomT most = m at *
  have HMM := Lib.hid hmm
  clear hmm
  go_enter Tryd.func3, Tryd.ntmps3
  go_wp2_with (go_at_call 6; (with_reducible refine NW.out.mono ?_); rintro e w1 ⟨tb, pv, rfl, ht, hb⟩; unfold ptr; go_must (have K1 := Lib.hid (show PlayRel w tb m 0 (.slice none 0 0) w1 from ⟨_, [], by rw [← HMM.out]; exact TK.new ht, Wants.nil _ _ _, hb, by simp⟩); clear ht hb NW))
  go_loopg [8, 31] l.length (fun g v i wr => ∃ k : Nat, k + g = l.length ∧ i = .int .i64 k ∧ PlayRel w tb m k v wr)
  case atStart => exact ⟨0, by omega, rfl, K1.out⟩
  case round =>
    obtain ⟨k, hk, rfl, T, ks, hT, hW, hb, hlen⟩ := hrel
    obtain ⟨xs, ho, hxs⟩ := id hW
    obtain ⟨vo, vc, rfl⟩ := own_slice ho
    have HW := Lib.hid (And.intro ho hxs)
    clear ho hxs
    by_cases hlt : k < l.length
    · obtain ⟨g0, rfl⟩ : ∃ g0, gk = g0 + 1 := ⟨gk - 1, by omega⟩
      obtain ⟨g, rfl, x, c0, hx⟩ := HLC.out k hlt
      replace c0 := cell_next c0 hb
      have hxr := hx.next hb
      generalize l.getD k [] = s at *
      obtain ⟨xo, xc, rfl, hxm, _⟩ := hxr.shape
      have HS := Lib.hid hxr
      have HK := Lib.hid (show _ ∧ _ ∧ _ ∧ _ from ⟨hT, hW, hb, hlen⟩)
      clear hT hW hb hx hxr
      by_cases hs20 : 20 < s.length
      · have t1 : (20 : Int) < (s.length : Int) := by omega
        go_wp2_with (go_at_call 5; (with_reducible refine (AL.out _).mono ?_); rintro e w' ⟨rfl, hb⟩)
        go_ret
        exact ⟨rfl, HK.out.2.2.1.trans (hb.mono HK.out.2.2.1.size)⟩
      · have t1 : ¬ (20 : Int) < (s.length : Int) := by omega
        go_upto_if 43 with fail
        go_cut [11] from 32 to 118 (fun s11 wx => ∃ r8 : Nat, r8 ≤ 255 ∧ s11 = .int .u8 (r8 : Nat) ∧ wx = wr)
        case first =>
          by_cases hkr : k < rs.length
          · obtain ⟨gr, rfl, cr, hr8⟩ := HRC.out k hkr
            replace cr := cell_next cr HK.out.2.2.1
            generalize rs.getD k 0 = r8 at *
            go_wp2_with fail
            go_meet
            case rel => exact ⟨r8, hr8, rfl, rfl⟩
          · go_wp2_with fail
            go_meet
            case rel => exact ⟨64, by omega, rfl, rfl⟩
        case rest =>
          obtain ⟨r8, hr8, rfl, rfl⟩ := hcut
          have NB := Lib.hid (numbers_any r8 hr8 _ s wc HS.out (by omega))
          obtain ⟨N, hN⟩ : ∃ N, N = ofF s (r8 : Nat) := ⟨_, rfl⟩
          rw [← hN] at NB
          have OF := Lib.hid (fun W (hW : Below wc.heap.size wc W) => of_as W r8 (by omega) _ s N hN (HS.out.next hW))
          have hl60 : ks.length ≤ 60 := by have := HK.out.2.2.2; omega
          obtain ⟨r, hr⟩ := idx_ex ks N
          clear hN
          by_cases h0 : 0 ≤ r
          · have HR := Lib.hid hr
            clear hr
            go_wp2_with (first
              | (go_at_call 7; (with_reducible refine NB.out.mono ?_); rintro e w2 ⟨yo, yc, rfl, q1, q2⟩; go_must (have S2 := Lib.hid (ps_start HK.out.1 HK.out.2.1 HK.out.2.2.1 q1 q2); have RF := Lib.hid (rfind_any _ _ ks N (r) w2 S2.out.wants.ls (ints_of_row S2.out.one.1) HR.out); have B2 := Lib.hid q2; clear q1 q2))
              | (go_at_call 8; (with_reducible refine RF.out.mono ?_); rintro e w3 ⟨rfl, hb⟩; go_must (have S3 := Lib.hid (S2.out.next hb); have B3 := Lib.hid (B2.out.trans (hb.mono B2.out.size)); clear hb))
              | (go_at_call 10; (with_reducible refine (OF.out w3 B3.out).mono ?_); rintro e w4 ⟨ao4, an4, ac4, L4, rfl, hs, hN4, hb⟩; unfold setV; go_must (have S4 := Lib.hid (S3.out.next hb); have B4 := Lib.hid (B3.out.trans (hb.mono B3.out.size)); have F4 := Lib.hid (find_as (r) true S4.out.tk hs hN4 HR.out (by simp; try omega)); unfold setV ptr at F4; clear hs hN4 hb))
              | (go_at_call 9; (with_reducible refine F4.out.mono ?_); rintro e w5 ⟨rfl, hb⟩; go_must (have S5 := Lib.hid (S4.out.next hb); have B5 := Lib.hid (B4.out.trans (hb.mono B4.out.size)); clear hb))
              | (go_at_call 10; (with_reducible refine (OF.out w5 B5.out).mono ?_); rintro e w6 ⟨ao6, an6, ac6, L6, rfl, hs, hN6, hb⟩; unfold setV; go_must (have S6 := Lib.hid (S5.out.next hb); have B6 := Lib.hid (B5.out.trans (hb.mono B5.out.size)); have P6 := Lib.hid (put_there r S6.out.tk hs hN6 HR.out h0); unfold setV ptr at P6; clear hs hN6 hb))
              | (go_at_call 11; (with_reducible refine P6.out.mono ?_); rintro e w7 ⟨rfl, hb⟩; go_must (have S7 := Lib.hid (S6.out.next hb); clear hb))
              | fail)
            all_goals (
              go_roundg g0
              (case rel => exact ⟨k + 1, by omega, by go_num, S7.out.rel HK.out.2.2.2⟩)
              (case measure => omega))
          · obtain rfl : r = -1 := by have := (idx_lt hr).1; omega
            have HR := Lib.hid hr
            clear hr h0
            by_cases hfull : m ≤ ks.length
            · have hfi : (m : Int) ≤ (ks.length : Int) := by omega
              go_wp2_with (first
              | (go_at_call 7; (with_reducible refine NB.out.mono ?_); rintro e w2 ⟨yo, yc, rfl, q1, q2⟩; go_must (have S2 := Lib.hid (ps_start HK.out.1 HK.out.2.1 HK.out.2.2.1 q1 q2); have RF := Lib.hid (rfind_any _ _ ks N (-1) w2 S2.out.wants.ls (ints_of_row S2.out.one.1) HR.out); have B2 := Lib.hid q2; clear q1 q2))
              | (go_at_call 8; (with_reducible refine RF.out.mono ?_); rintro e w3 ⟨rfl, hb⟩; go_must (have S3 := Lib.hid (S2.out.next hb); have B3 := Lib.hid (B2.out.trans (hb.mono B2.out.size)); clear hb))
              | (go_at_call 10; (with_reducible refine (OF.out w3 B3.out).mono ?_); rintro e w4 ⟨ao4, an4, ac4, L4, rfl, hs, hN4, hb⟩; unfold setV; go_must (have S4 := Lib.hid (S3.out.next hb); have B4 := Lib.hid (B3.out.trans (hb.mono B3.out.size)); have F4 := Lib.hid (find_as (-1) false S4.out.tk hs hN4 HR.out (by simp; try omega)); unfold setV ptr at F4; clear hs hN4 hb))
              | (go_at_call 9; (with_reducible refine F4.out.mono ?_); rintro e w5 ⟨rfl, hb⟩; go_must (have S5 := Lib.hid (S4.out.next hb); have B5 := Lib.hid (B4.out.trans (hb.mono B4.out.size)); clear hb))
              | (go_at_call 10; (with_reducible refine (OF.out w5 B5.out).mono ?_); rintro e w6 ⟨ao6, an6, ac6, L6, rfl, hs, hN6, hb⟩; unfold setV; go_must (have S6 := Lib.hid (S5.out.next hb); have B6 := Lib.hid (B5.out.trans (hb.mono B5.out.size)); have P6 := Lib.hid (put_full_as S6.out.tk hs hN6 HR.out hfull); unfold setV ptr at P6; clear hs hN6 hb))
              | (go_at_call 11; (with_reducible refine P6.out.mono ?_); rintro e w7 ⟨rfl, hb⟩; go_must (have S7 := Lib.hid (S6.out.next hb); have FL := Lib.hid (full_as true S7.out.tk (decide_eq_true hfull).symm); unfold ptr at FL; clear hb))
              | (go_at_call 12; (with_reducible refine (RM.out _).mono ?_); rintro e w8 ⟨rfl, hw8⟩; subst hw8)
              | (go_at_call 13; (with_reducible refine FL.out.mono ?_); rintro e w9 ⟨rfl, hb⟩; go_must (have S9 := Lib.hid (S7.out.next hb); clear hb))
              | fail)
              all_goals (
                go_roundg g0
                (case rel => exact ⟨k + 1, by omega, by go_num, S9.out.rel HK.out.2.2.2⟩)
                (case measure => omega))
            · have hfi : ¬ (m : Int) ≤ (ks.length : Int) := by omega
              obtain ⟨i0, hi, hz0, hz1, hz2⟩ := info_parts infoSl
              go_wp2_with (first
              | (go_at_call 7; (with_reducible refine NB.out.mono ?_); rintro e w2 ⟨yo, yc, rfl, q1, q2⟩; go_must (have S2 := Lib.hid (ps_start HK.out.1 HK.out.2.1 HK.out.2.2.1 q1 q2); have RF := Lib.hid (rfind_any _ _ ks N (-1) w2 S2.out.wants.ls (ints_of_row S2.out.one.1) HR.out); have B2 := Lib.hid q2; clear q1 q2))
              | (go_at_call 8; (with_reducible refine RF.out.mono ?_); rintro e w3 ⟨rfl, hb⟩; go_must (have S3 := Lib.hid (S2.out.next hb); have B3 := Lib.hid (B2.out.trans (hb.mono B2.out.size)); clear hb))
              | (go_at_call 10; (with_reducible refine (OF.out w3 B3.out).mono ?_); rintro e w4 ⟨ao4, an4, ac4, L4, rfl, hs, hN4, hb⟩; unfold setV; go_must (have S4 := Lib.hid (S3.out.next hb); have B4 := Lib.hid (B3.out.trans (hb.mono B3.out.size)); have F4 := Lib.hid (find_as (-1) false S4.out.tk hs hN4 HR.out (by simp; try omega)); unfold setV ptr at F4; clear hs hN4 hb))
              | (go_at_call 9; (with_reducible refine F4.out.mono ?_); rintro e w5 ⟨rfl, hb⟩; go_must (have S5 := Lib.hid (S4.out.next hb); have B5 := Lib.hid (B4.out.trans (hb.mono B4.out.size)); clear hb))
              | (go_at_call 10; (with_reducible refine (OF.out w5 B5.out).mono ?_); rintro e w6 ⟨ao6, an6, ac6, L6, rfl, hs, hN6, hb⟩; unfold setV; go_must (have S6 := Lib.hid (S5.out.next hb); have B6 := Lib.hid (B5.out.trans (hb.mono B5.out.size)); have P6 := Lib.hid (put_fresh S6.out.tk hs hN6 HR.out (by omega)); unfold setV ptr at P6; clear hs hN6 hb))
              | (go_at_call 11; (with_reducible refine P6.out.mono ?_); rintro e w7 ⟨T7, rfl, h7, _, st⟩; go_must (have s7 := S6.out.put h7 st; have S7 := Lib.hid s7; obtain ⟨xs7, o7, x7⟩ := s7.wants; have OX := Lib.hid (And.intro o7 x7); clear s7 o7 x7 h7 st))
              | (go_at_call 12; (with_reducible refine (RM.out _).mono ?_); rintro e w8 ⟨rfl, hw8⟩; subst hw8)
              | (at_builtin; refine wpList_append_own _ rfl _ _ 23 rfl w.heap.size 27 i0 (.slice none 0 0) 1 24 Tryd.underlying23 hi hz0 hz1 hz2 rfl (by decide) _ _ _ rfl (OX.out.1.alloc _) ⟨w8.heap.size, 0, none⟩ 1 1 [.slice yo N.length yc] rfl rfl (World.news_of_block (World.alloc_heap_new w8 _)) (by simp [Value.oneCell']) (by unfold maxLen; omega) (by omega) (by have := S7.out.below.size; simp; omega) ?_; intro v' w9 hown' hgrow _; go_must (have S9 := Lib.hid (play_app S7.out OX.out.1 OX.out.2 hown' hgrow HK.out.2.2.2); clear hown' hgrow))
              | fail)
              all_goals (
                go_roundg g0
                (case rel => exact ⟨k + 1, by omega, by go_num, S9.out⟩)
                (case measure => omega))
    · obtain rfl : k = l.length := by omega
      generalize wr = W0 at *
      obtain ⟨_, _, e1, _, hc⟩ := hW.ls.shape
      cases e1
      have HLS := Lib.hid hc
      have HK := Lib.hid (show _ ∧ _ ∧ _ from ⟨hT, hb, hlen⟩)
      have hl60 : ks.length ≤ 60 := by omega
      clear hT hW hb hc HW
      go_wp2
      go_loopw [121] (fun i wr => ∃ j : Nat, j ≤ ks.length ∧ i = .int .i64 j ∧ Below W0.heap.size W0 wr) (fun i _ => ks.length - (intOf i).toNat)
      case atStart => exact ⟨0, by omega, rfl, Below.refl _ _⟩
      case round =>
        obtain ⟨j, hj, rfl, hb⟩ := hrel
        by_cases hjl : j < ks.length
        · obtain ⟨gq, rfl, y, c0, hy⟩ := HLS.out j hjl
          have GT := Lib.hid (get_as j (HK.out.1.next hb) hjl)
          have HY := Lib.hid hy
          have C0 := Lib.hid c0
          obtain ⟨yo, yc, rfl, _, _⟩ := hy.shape
          have HB := Lib.hid hb
          clear hb hy c0
          generalize ks.getD j [] = N at *
          unfold ptr setV at GT
          go_wp2_with (go_at_call 14; (with_reducible refine GT.out.mono ?_); rintro e w2 ⟨r, ao, an, ac, L, rfl, hs, hN, hb2⟩; go_must (have A2 := (Below.refl w2.heap.size w2).alloc (Nat.le_refl _) (.cells #[.int .i64 (r : Nat), .slice ao an ac] 34); have B2 := Lib.hid (HB.out.trans ((hb2.trans (A2.mono hb2.size)).mono HB.out.size)); have HS2 := Lib.hid (hs.next A2); have HN := Lib.hid hN; have X2 := at_new w2 (.cells #[.int .i64 (r : Nat), .slice ao an ac] 34); clear hs hN hb2 A2))
          generalize w2.alloc (.cells #[.int .i64 (r : Nat), .slice ao an ac] 34) = W2 at *
          obtain ⟨x0, x1, x2⟩ := at2 X2
          have d0 := cell_next C0.out B2.out
          have dl := cell_lt d0
          have AO := Lib.hid (fun W (hW : Below W2.heap.size W2 W) => all_own _ r _ L N HN.out W (HT.out.next ((HK.out.2.1.trans (B2.out.mono HK.out.2.1.size)).trans (hW.mono (HK.out.2.1.trans (B2.out.mono HK.out.2.1.size)).size))) (HS2.out.next hW))
          unfold setV at AO
          go_region_held3 (fun W => W.cell? ⟨w2.heap.size, 0, none⟩ = some (.int .i64 (r : Nat)) ∧ W.cell? ⟨w2.heap.size, 1, none⟩ = some (.slice ao an ac) ∧ W.cell? (gq.add j) = some (.slice yo N.length yc)) (first | exact ⟨by assumption, by assumption, by assumption⟩ | assumption | go_keep)
            (first
              | (go_at_call 16; (with_reducible refine (AO.out _ (Below.refl _ _).drew).mono ?_); rintro e w3 ⟨⟨bo, bc, rfl, hi⟩, hb3⟩; go_must (have b3 := (Below.refl W2.heap.size W2).drew.trans (hb3.mono (Nat.le_refl _)); have SN := And.intro (cell_next x0 b3) (And.intro (cell_next x1 b3) (cell_next d0 b3)); have B3 := Lib.hid (B2.out.trans (b3.mono B2.out.size)); have SM := Lib.hid (same_true _ _ N w3 hi (HY.out.next B3.out)); clear hi hb3 b3))
              | (go_at_call 15; (with_reducible refine SM.out.mono ?_); rintro e w4 ⟨rfl, hb4⟩; go_must (have SN4 := And.intro (cell_next SN.1 hb4) (And.intro (cell_next SN.2.1 hb4) (cell_next SN.2.2 hb4)); have B4 := Lib.hid (B3.out.trans (hb4.mono B3.out.size)); clear hb4))
              | fail)
          go_wp2
          go_roundw
          case rel => exact ⟨j + 1, by omega, by go_num, B4.out⟩
          case measure => simp [intOf]; omega
        · obtain rfl : j = ks.length := by omega
          have OV := Lib.hid (over_as (HK.out.1.next hb))
          have HB := Lib.hid hb
          clear hb
          unfold ptr setV at OV
          simp only [Int.cast_ofNat_Int] at OV
          obtain ⟨b, hbb⟩ : ∃ b, b = decide (m ≤ ks.length) := ⟨_, rfl⟩
          have hbi : decide ((m : Int) ≤ (ks.length : Int)) = b := by rw [hbb, decide_eq_decide]; omega
          have HBB := Lib.hid hbb
          clear hbb
          go_wp2_with (first
            | (go_at_call 14; (with_reducible refine OV.out.mono ?_); rintro e w2 ⟨rfl, hb2⟩; go_must (have A2 := (Below.refl w2.heap.size w2).alloc (Nat.le_refl _) (.cells #[.int .i64 0, .slice none 0 0] 34); have b2 := HB.out.trans (hb2.mono HB.out.size); have b3 := b2.trans (A2.mono b2.size); have T3 := HK.out.1.next b3; have LN := Lib.hid (len_as T3); have FL := Lib.hid (full_as b T3 HBB.out); unfold ptr at LN FL; have B3 := Lib.hid (HK.out.2.1.trans (b3.mono HK.out.2.1.size)); clear hb2 A2 b2 b3 T3))
            | (go_at_call 17; (with_reducible refine LN.out.mono ?_); rintro e w4 ⟨rfl, hw4⟩; subst hw4)
            | (go_at_call 13; (with_reducible refine FL.out.mono ?_); rintro e w5 ⟨rfl, hb5⟩; go_must (have B5 := Lib.hid (B3.out.trans (hb5.mono B3.out.size)); clear hb5))
            | (go_at_call 12; (with_reducible refine (RM.out _).mono ?_); rintro e w6 ⟨rfl, hw6⟩; subst hw6)
            | (go_at_call 5; (with_reducible refine (AL.out _).mono ?_); rintro e w7 ⟨rfl, hb7⟩)
            | fail)
          all_goals (
            go_ret
            exact ⟨rfl, B5.out.trans (hb7.mono B5.out.size)⟩)

end Go.Proofs.YtemmaoapicaloaaDoor.Sb

/- The third law's walk. -/
import Derived.Test.YtfbphiamelongaaDoorClBig
namespace Go.Proofs.YtfbphiamelongaaDoor.Cl
open Go Go.RowKit
open Go.Proofs.YtfbphiamelongaaDoor.Bt (SetAt setV memL Tab grown_row grown_trans grown_cell OfOut of_any roomF ofB nums)

set_option maxRecDepth 100000 in
set_option maxHeartbeats 4000000 in
theorem big_yes (lv : Value) (xs : List Int) (w : World) (hT : Tab w) (hl : IntsAt w lv xs) (hx : ¬ 30 < xs.length) :
    Calls Tryd.prog 5 #[lv] w fun e w' => e = .returned (.bool true) ∧ Below w.heap.size w w' := by
  have HL := Lib.hid (fun W (hW : Below w.heap.size w W) => hl.next hW)
  have HT := Lib.hid (fun W (h : Below w.heap.size w W) => hT.next h)
  have AL := Lib.hid (fun W (hW : Below w.heap.size w W) => alive_any W (hT.next hW))
  obtain ⟨lo, lc, rfl, _, _⟩ := hl.shape
  have hx2 : ¬ (30 : Int) < xs.length := by omega
  clear hl hT hx
  go_enter Tryd.func5, Tryd.ntmps5
  go_wp2
  obtain ⟨i0, hi, hz⟩ := Option.map_eq_some_iff.1 infoN
  simp only [Prod.mk.injEq] at hz
  obtain ⟨hz0, hz1, hz2⟩ := hz
  have NB0 : Hid (NB w 0 (w.alloc (.cells #[.int .i64 0, .slice none 0 0] 24))) := Lib.hid ⟨_, at_new w _, World.ownsRow_nil _ _ _ _, (Below.refl _ w).alloc (Nat.le_refl _) _⟩
  go_loopw [16] (fun i wr => ∃ k : Nat, i = .int .i64 k ∧ k ≤ 4097 ∧ NB w k wr) (fun i _ => 4097 - (intOf i).toNat)
  case atStart => exact ⟨0, rfl, by omega, NB0.out⟩
  case round =>
    obtain ⟨k, rfl, hk, v, hbx, hr, hb⟩ := hrel
    by_cases hlt : k < 4097
    · have X := Lib.hid hbx
      have R := Lib.hid hr
      have B := Lib.hid hb
      have hsz := hb.size
      have c1 := at_cell hbx 1
      clear hbx hr hb
      go_wp2_with (at_builtin; go_must (refine wpList_append_lies _ rfl _ _ 22 rfl w.heap.size 56 i0 (.agg #[.int .i64 0, .int .i64 0, .int .i64 0, .slice none 0 0, .int .i64 0]) 5 56 Tryd.underlying22 hi hz0 hz1 hz2 rfl (by decide) v k (bigV k) rfl (own_nx R.out ((Below.refl _ wr).alloc (Nat.le_refl _) _)) ⟨wr.heap.size, 0, none⟩ 1 1 cellsN rfl rfl (World.news_of_block (World.alloc_heap_new wr _)) (by simp [cellsN, Value.oneCell']) (by decide) (by unfold maxLen; omega) (by omega) (by simp; omega) _ rfl ?_); intro g5 cap5 w5 hown hg hat _; go_must (obtain ⟨y1, y2⟩ := NB.next X.out R.out B.out hg hown; have Y2 := Lib.hid y2; have z1 := at_cell y1 1; have z2 := at_froz y1 1; clear hown hg hat y1 y2))
      go_roundw
      case rel => exact ⟨k + 1, by go_num, by omega, Y2.out⟩
      case measure => simp [intOf]; omega
    · obtain rfl : k = 4097 := by omega
      clear NB0 hi hz0 hz1 hz2
      obtain ⟨ao, cap, hv⟩ : ∃ ao cap, v = .slice ao 4097 cap := by
        have := sts_of_row hr
        obtain ⟨ao, cap, e, _, _⟩ := this.shape
        rw [List.length_replicate] at e
        exact ⟨ao, cap, e⟩
      subst hv
      have ST0 := Lib.hid (show StsAt wr (.slice ao 4097 cap) (List.replicate 4097 sN) from sts_of_row hr)
      have B1 := Lib.hid hb
      have X1 := Lib.hid hbx
      have c0 := at_cell hbx 0
      have c1 := at_cell hbx 1
      have ST := Lib.hid (fun W (h : Below wr.heap.size wr W) => Start_no 0 _ (nfaV 0 (.slice ao 4097 cap)) W ⟨_, rfl, ST0.out.next h⟩ (by rw [big_fault]; decide))
      have RU := Lib.hid (fun W (h : Below wr.heap.size wr W) => Run_no 0 _ (nfaV 0 (.slice ao 4097 cap)) ⟨#[97]⟩ W ⟨_, rfl, ST0.out.next h⟩ (by rw [big_fault]; decide))
      have OF := Lib.hid (fun W (hW : Below w.heap.size w W) => of_any 1000 (.slice lo xs.length lc) xs W (HL.out W hW))
      rw [big_fault] at ST RU
      obtain ⟨r, hr1⟩ : ∃ r : Nat, r = 1000 := ⟨_, rfl⟩
      rw [show roomF 1000 = r from (room_small (n := 1000) (by omega)).trans hr1.symm] at OF
      have HR1 := Lib.hid hr1
      clear hr1
      unfold NoSet setV nfaV at ST
      unfold nfaV at RU
      unfold OfOut setV at OF
      clear hr hb hbx ST0 hlt hk
      go_wp2_with (first
        | (go_at_call 11; (with_reducible refine (ST.out _ (Below.refl _ _)).mono ?_); rintro e w2 ⟨rfl, hb⟩; go_must (have C2 := Lib.hid hb; have X2 := Lib.hid (at_next X1.out hb); have d0 := at_cell X2.out 0; have d1 := at_cell X2.out 1; have l2 := cell_lt d0; clear hb c0 c1))
        | (go_at_call 25; (with_reducible refine (RU.out _ (C2.out.alloc C2.out.size _)).mono ?_); rintro e w3 ⟨rfl, hb⟩; go_must (have B3 := Lib.hid (B1.out.trans (((C2.out.alloc C2.out.size (.cells #[.int .i64 0, .slice none 0 0] 30)).trans (hb.mono (C2.out.alloc C2.out.size _).size)).mono B1.out.size)); clear hb d0 d1 l2))
        | (go_at_call 8; (with_reducible refine (OF.out _ B3.out).mono ?_); rintro e w4 ⟨v, L, rfl, hs, hm, hb⟩; obtain ⟨so, sn, sc, rfl⟩ := hs.val; go_must (have B4 := Lib.hid (B3.out.trans (hb.mono B3.out.size)); have S4 := Lib.hid hs; have M4 := Lib.hid hm; clear hs hm hb))
        | fail)
      have B5 := Lib.hid (B4.out.alloc B4.out.size (.cells #[.int .i64 (r : Nat), .slice so sn sc] 30))
      have X5 := Lib.hid (at_new w4 (.cells #[.int .i64 (r : Nat), .slice so sn sc] 30))
      have S5 := Lib.hid (S4.out.next ((Below.refl _ w4).alloc (Nat.le_refl _) (.cells #[.int .i64 (r : Nat), .slice so sn sc] 30)))
      clear ST RU OF B1 X1 C2 X2 B3 B4 S4
      generalize w4.heap.size = p1 at *
      generalize w4.alloc (.cells #[.int .i64 (r : Nat), .slice so sn sc] 30) = W3 at *
      go_cut [9, 10] from 12 (fun s9 s10 wx => ∃ p vo vn vc, s9 = .pointer (some ⟨p, 0, none⟩) ∧ s10 = .int .i64 0 ∧ SB wx p vo vn vc (stepP twoL (fun i => memL L i = true) 97) ∧ Below W3.heap.size W3 wx)
      case first =>
        have TW2 := Lib.hid (fun W (h : NR W3 p1 r so sn sc W) => two_nr W h)
        have C2 := Lib.hid (fun W v (h : NR W3 p1 r so sn sc W) hn => step_nr (HT.out w (Below.refl _ _)) B5.out S5.out W v h hn)
        have c0 := at_cell X5.out 0
        have c1 := at_cell X5.out 1
        have hlt : p1 < W3.heap.size := cell_lt c0
        go_region_held3 (fun W => W.cell? ⟨p1, 0, none⟩ = some (.int .i64 (r : Nat)) ∧ W.cell? ⟨p1, 1, none⟩ = some (.slice so sn sc) ∧ Below W3.heap.size W3 W) (first | assumption | exact ⟨c0, c1, (Below.refl _ W3).drew⟩ | exact NR.next (by assumption) ((Below.refl _ _).alloc (Nat.le_refl _) _) | exact NR.stored (by assumption) hlt (by first | assumption | exact Nat.le_refl _) | go_keep)
          (first
          | (go_at_call 27; (with_reducible refine (TW2.out _ (by assumption)).mono ?_); rintro e w4 ⟨⟨v4, rfl, h1⟩, h2, hS'⟩; go_must (have H4 := Lib.hid h1; have hz4 := hS'.2.2.size; (try have y4 : w4.heap[W3.heap.size]? = some (.cells #[.int .i64 0, .slice none 0 0] 30 (0, 0)) := at_next (at_new W3.drew _) h2); clear h1 h2))
          | (go_at_call 10; (refine (C2.out _ _ (by assumption) (by first | exact H4.out | exact H4.out.next ((Below.refl _ _).alloc (Nat.le_refl _) _))).mono ?_); rintro e w5 ⟨⟨vo5, vn5, vc5, rfl, h1⟩, h2, hS'⟩; go_must (have H5 := Lib.hid h1; (first | have y5 : w5.heap[w4.heap.size]? = some (.cells #[.int .i64 0, .slice none 0 0] 30 (0, 0)) := at_next (at_new w4 _) h2 | have y5 : w5.heap[W3.heap.size]? = some (.cells #[.int .i64 0, .slice none 0 0] 30 (0, 0)) := at_next y4 h2 | skip); (try have z0 := at_cell y5 0); (try have z1 := at_cell y5 1); (try have z2 := at_froz y5 0); (try have z3 := at_froz y5 1); clear h1 h2))
          | fail)
        all_goals
          try go_wp2_with fail
          go_meet
          case rel =>
            have bw := hS'.2.2
            first
              | exact ⟨_, vo5, vn5, vc5, rfl, rfl, SB.alloc H5.out, bw.alloc bw.size _⟩
              | exact ⟨_, vo5, vn5, vc5, rfl, rfl, (SB.stored H5.out y5).1, bw.grown (SB.stored H5.out y5).2 bw.size (fun j e => by cases e; first | assumption | exact Nat.le_refl _)⟩
      case rest =>
        obtain ⟨p2, to, tn, tc, rfl, rfl, hs, hb⟩ := hcut
        obtain ⟨W4, rfl⟩ : ∃ x, x = wc := ⟨_, rfl⟩
        obtain ⟨Bt, Lt, ht1, ht2⟩ := hs.set
        have TB := Lib.hid hs.box
        have T6 := Lib.hid ht1
        have MT := Lib.hid ht2
        have B6 := Lib.hid (B5.out.trans (hb.mono B5.out.size))
        have X6 := Lib.hid (at_next X5.out hb)
        have S6 := Lib.hid (S5.out.next hb)
        have M6 := Lib.hid (fun m => (M4.out m).trans (by rw [HR1.out]))
        clear ht1 ht2 hs hb B5 X5 S5 M4 HR1
        have BW := Lib.hid (fun W (h : Below W4.heap.size W4 W) => B6.out.trans (h.mono B6.out.size))
        have TWB := Lib.hid (fun W (h : Below W4.heap.size W4 W) => keep_call (two_nb W) (fun W' hb => And.intro hb (h.trans (hb.mono h.size))))
        have AM := Lib.hid (fun W (h : Below W4.heap.size W4 W) v (hn : NfaAt W v 2 twoL) => keep_call (among_two W v hn _ xs (HL.out W (BW.out W h))) (fun W' hb => And.intro hb (h.trans (hb.mono h.size))))
        have RS := Lib.hid (fun W (h : Below W4.heap.size W4 W) v (hn : NfaAt W v 2 twoL) B u out (hu : BolAt W B u out) (ho : out.length = 3) => keep_call (rstep_two W v hn B u out hu ho) (fun W' hb => And.intro hb (h.trans (hb.mono h.size))))
        have NU := Lib.hid (fun W (h : Below W4.heap.size W4 W) B u out (hu : BolAt W B u out) (ho : out.length = 3) (hm : ∀ m, memL Lt m = true ↔ mq out m = true) => keep_call (numbers_as B u out (nums Lt) (by rw [ho]; decide) (nums_marks (P := fun m => mq out m = true) hm (fun m => Iff.rfl) (fun m _ => Iff.rfl) (fun m hm => mk_lt hm)) W hu) (fun W' hb => And.intro hb (h.trans (hb.mono h.size))))
        have b0 := Below.refl W4.heap.size W4
        go_wp2_with (first
          | (go_at_call 27; (with_reducible refine (TWB.out _ (by assumption)).mono ?_); rintro e w7 ⟨⟨v7, rfl, h1⟩, hb, hS'⟩; go_must ((first | have HB7 := Lib.hid (And.intro (HA7.out.next hb) h1) | have HA7 := Lib.hid h1); clear h1 hb))
          | (go_at_call 17; (with_reducible refine (AM.out _ (by assumption) _ HB7.out.2).mono ?_); rintro e w8 ⟨⟨ao8, c8, o8, rfl, h1, h2, h3⟩, hb, hS'⟩; go_must (have O8 := Lib.hid (And.intro h1 (And.intro h2 h3)); have HC7 := Lib.hid (HB7.out.1.next hb); clear h1 h2 h3 hb))
          | (go_at_call 21; (with_reducible refine (RS.out _ (by assumption) _ HC7.out _ _ _ O8.out.1 O8.out.2.1).mono ?_); rintro e w9 ⟨⟨ao9, c9, o9, rfl, h1, h2, h3⟩, hb, hS'⟩; go_must (have O9 := Lib.hid (And.intro h1 (And.intro h2 (fun m => ((MT.out m).trans (stepP_congr (fun j hj => big_set M6.out O8.out.2.2 j (Nat.lt_of_lt_of_eq hj two_len)) m)).trans (h3 m).symm))); clear h1 h2 h3 hb))
          | (go_at_call 20; (with_reducible refine (NU.out _ (by assumption) _ _ _ O9.out.1 O9.out.2.1 O9.out.2.2).mono ?_); rintro e w10 ⟨⟨ai, ci, rfl, h1⟩, hb, hS'⟩; go_must (have I10 := Lib.hid h1; have hS10 := hS'; clear h1 hb))
          | fail)
        have B10 := Lib.hid (BW.out w10 hS10)
        have X10 := Lib.hid (at_next X6.out hS10)
        have Y10 := Lib.hid (at_next TB.out hS10)
        have S10 := Lib.hid (S6.out.next hS10)
        have T10 := Lib.hid (T6.out.next hS10)
        have N0 := Lib.hid (show NG w10 p2 to tn tc p1 r so sn sc w10 from ⟨at_cell Y10.out 0, at_cell Y10.out 1, at_cell X10.out 0, at_cell X10.out 1, Below.refl _ _⟩)
        have BW2 := Lib.hid (fun W (h : NG w10 p2 to tn tc p1 r so sn sc W) => B10.out.trans (h.below.mono B10.out.size))
        have QT := Lib.hid (fun W (h : NG w10 p2 to tn tc p1 r so sn sc W) => keep_call (all_three Bt _ Lt W (HT.out W (BW2.out W h)) (T10.out.next h.below)) (fun W' hb => And.intro hb (h.next hb)))
        have SM := Lib.hid (fun W (h : NG w10 p2 to tn tc p1 r so sn sc W) u (hu : IntsAt W u (nums Lt)) => keep_call (same_true u _ (nums Lt) W hu (I10.out.next h.below)) (fun W' hb => h.next hb))
        have TW2 := Lib.hid (fun W (h : NG w10 p2 to tn tc p1 r so sn sc W) => keep_call (two_nb W) (fun W' hb => And.intro hb (h.next hb)))
        have BE := Lib.hid (fun W (h : NG w10 p2 to tn tc p1 r so sn sc W) v (hn : NfaAt W v 2 twoL) => keep_call ((Best_yes 2 twoL v _ r _ L W two_tags hn (HT.out W (BW2.out W h)) (S10.out.next h.below) two_fault).mono (fun _ _ ⟨t, e, h1, h2⟩ => And.intro (Exists.intro t (And.intro e h1)) h2)) (fun W' hb => And.intro hb (h.next hb)))
        have AM2 := Lib.hid (fun W (h : NG w10 p2 to tn tc p1 r so sn sc W) v (hn : NfaAt W v 2 twoL) => keep_call (among_two W v hn _ xs (HL.out W (BW2.out W h))) (fun W' hb => And.intro hb (h.next hb)))
        have RB := Lib.hid (fun W (h : NG w10 p2 to tn tc p1 r so sn sc W) v (hn : NfaAt W v 2 twoL) B u out (hu : BolAt W B u out) (ho : out.length = 3) => keep_call ((rbest_any 2 twoL v B u out W hn two_tags hu ho).mono (fun _ _ ⟨t, e, h1, h2⟩ => And.intro (Exists.intro t (And.intro e h1)) h2)) (fun W' hb => h.next hb))
        have AL2 := Lib.hid (fun W (h : NG w10 p2 to tn tc p1 r so sn sc W) => keep_call (AL.out W (BW2.out W h)) (fun W' hb => h.next hb))
        unfold setV at BE
        clear TWB AM RS NU BW B6 X6 S6 TB T6 MT HA7 HB7 HC7 O8 O9 b0 X10 Y10 S10 T10 HT HL AL I10
        go_region_held3 (fun W => W.cell? ⟨p2, 0, none⟩ = some (.int .i64 3) ∧ W.cell? ⟨p2, 1, none⟩ = some (.slice to tn tc) ∧ W.cell? ⟨p1, 0, none⟩ = some (.int .i64 (r : Nat)) ∧ W.cell? ⟨p1, 1, none⟩ = some (.slice so sn sc) ∧ Below w10.heap.size w10 W) (first | assumption | exact NG.next N0.out ((Below.refl _ _).drew) | go_keep)
          (first
          | (go_at_call 19; (with_reducible refine (QT.out _ (by assumption)).mono ?_); rintro e w11 ⟨⟨aj, cj, rfl, h1⟩, hb, hS'⟩; go_must (have I1 := Lib.hid h1; clear h1 hb))
          | (go_at_call 18; (with_reducible refine (SM.out _ (by assumption) _ I1.out).mono ?_); rintro e w12 ⟨rfl, hS'⟩)
          | (go_at_call 27; (with_reducible refine (TW2.out _ (by assumption)).mono ?_); rintro e w13 ⟨⟨v13, rfl, h1⟩, hb, hS'⟩; go_must ((first | have G3 := Lib.hid (And.intro (G2.out.next hb) h1) | (have T2 := T1; have G2 := Lib.hid h1; clear T2) | have G1 := Lib.hid h1); clear h1 hb))
          | (go_at_call 14; (with_reducible refine (BE.out _ (by assumption) _ G1.out).mono ?_); rintro e w14 ⟨⟨t1, rfl, h1⟩, hb, hS'⟩; go_must (have T1 := Lib.hid h1; clear h1 hb))
          | (go_at_call 17; (with_reducible refine (AM2.out _ (by assumption) _ G3.out.2).mono ?_); rintro e w15 ⟨⟨ao15, c15, o15, rfl, h1, h2, h3⟩, hb, hS'⟩; go_must (have O15 := Lib.hid (And.intro h1 (And.intro h2 h3)); have G4 := Lib.hid (G3.out.1.next hb); clear h1 h2 h3 hb))
          | (go_at_call 23; (with_reducible refine (RB.out _ (by assumption) _ G4.out _ _ _ O15.out.1 O15.out.2.1).mono ?_); rintro e w16 ⟨⟨t2, rfl, h1⟩, hS'⟩; go_must (have T2 := T1.out.uniq h1 (fun i hi => big_set M6.out O15.out.2.2 i (Nat.lt_of_lt_of_eq hi two_len)); subst T2; clear h1 T1))
          | (go_at_call 7; (with_reducible refine (AL2.out _ (by assumption)).mono ?_); rintro e w17 ⟨rfl, hS'⟩)
          | fail)
        go_wp2
        go_ret
        exact ⟨rfl, BW2.out _ hS'⟩

end Go.Proofs.YtfbphiamelongaaDoor.Cl

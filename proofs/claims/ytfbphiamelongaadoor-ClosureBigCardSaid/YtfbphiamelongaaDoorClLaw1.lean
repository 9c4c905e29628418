/- The first law where it asks little: too great a row, or an automaton that may not be. -/
import Derived.Test.YtfbphiamelongaaDoorClAlive
import Derived.Test.YtfbphiamelongaaDoorClRefR2
import Derived.Test.YtfbphiamelongaaDoorClClose
namespace Go.Proofs.YtfbphiamelongaaDoor.Cl
open Go Go.RowKit
open Go.Proofs.YtfbphiamelongaaDoor.Bt (SetAt setV memL Tab grown_row grown_trans OfOut of_any roomF ofB cntX fromL memL_nil)

theorem set_nil (w : World) (B : Nat) : SetAt w B 0 (.slice none 0 0) [] :=
  ⟨World.ownsRow_nil _ _ _ _, rfl, by omega, fun i => by simp, fun n h => by rw [memL_nil] at h; cases h⟩
theorem room_small {n : Nat} (h : n ≤ 65536) : roomF (n : Int) = n := by unfold roomF; rw [if_neg (by omega), if_neg (by omega)]; rfl

set_option maxRecDepth 100000 in
set_option maxHeartbeats 4000000 in
theorem steps_far (a : Int) (l : List St) (sv lv : Value) (xs : List Int) (c : Int) (w : World) (hT : Tab w) (h : StsAt w sv l) (hl : IntsAt w lv xs) (hx : 30 < xs.length) :
    Calls Tryd.prog 3 #[nfaV a sv, lv, .int .u8 c] w fun e w' => e = .returned (.bool true) ∧ Below w.heap.size w w' := by
  have FA := Lib.hid (fun W (hW : Below w.heap.size w W) => rfar_any a l (nfaV a sv) W ⟨sv, rfl, h.next hW⟩)
  have AL := Lib.hid (fun W (hW : Below w.heap.size w W) => alive_any W (hT.next hW))
  obtain ⟨ao, cap, rfl, _, _⟩ := h.shape
  obtain ⟨lo, lc, rfl, _, _⟩ := hl.shape
  have B1 := Lib.hid ((Below.refl w.heap.size w).alloc (Nat.le_refl _) (.cells #[.int .i64 a, .slice ao l.length cap] 24))
  have hx2 : (30 : Int) < xs.length := by omega
  clear h hl hT hx
  unfold nfaV at *
  go_enter Tryd.func3, Tryd.ntmps3
  go_wp2_with (first
    | (go_at_call 6; (with_reducible refine (FA.out _ B1.out).mono ?_); rintro e w1 ⟨b, rfl, _, h1⟩; go_must (have B2 := Lib.hid (B1.out.trans (h1.mono B1.out.size)); clear h1))
    | (go_at_call 7; (with_reducible refine (AL.out w1 B2.out).mono ?_); rintro e w2 ⟨rfl, h2⟩; go_must (have B3 := Lib.hid (B2.out.trans (h2.mono B2.out.size)); clear h2))
    | fail)
  all_goals (go_ret; exact ⟨rfl, B3.out⟩)

/-- what stands in the first law: the automaton's box, and three sets' -/
abbrev NL (W0 : World) (pn : Nat) (a : Int) (ao : Option Addr) (n cap ps : Nat) (so : Option Addr) (sn sc pa ra : Nat) (va : Option Addr) (na ca pb rb : Nat) (vb : Option Addr) (nb cb : Nat) (W : World) : Prop :=
  W.cell? ⟨pn, 0, none⟩ = some (.int .i64 a) ∧ W.cell? ⟨pn, 1, none⟩ = some (.slice ao n cap) ∧ W.cell? ⟨ps, 0, none⟩ = some (.int .i64 (n : Nat)) ∧ W.cell? ⟨ps, 1, none⟩ = some (.slice so sn sc) ∧ W.cell? ⟨pa, 0, none⟩ = some (.int .i64 (ra : Nat)) ∧ W.cell? ⟨pa, 1, none⟩ = some (.slice va na ca) ∧ W.cell? ⟨pb, 0, none⟩ = some (.int .i64 (rb : Nat)) ∧ W.cell? ⟨pb, 1, none⟩ = some (.slice vb nb cb) ∧ Below W0.heap.size W0 W
section
variable {W0 W W' : World} {pn : Nat} {a : Int} {ao : Option Addr} {n cap ps : Nat} {so : Option Addr} {sn sc pa ra : Nat} {va : Option Addr} {na ca pb rb : Nat} {vb : Option Addr} {nb cb : Nat}
theorem NL.next (h : NL W0 pn a ao n cap ps so sn sc pa ra va na ca pb rb vb nb cb W) (hb : Below W.heap.size W W') : NL W0 pn a ao n cap ps so sn sc pa ra va na ca pb rb vb nb cb W' :=
  ⟨cell_next h.1 hb, cell_next h.2.1 hb, cell_next h.2.2.1 hb, cell_next h.2.2.2.1 hb, cell_next h.2.2.2.2.1 hb, cell_next h.2.2.2.2.2.1 hb, cell_next h.2.2.2.2.2.2.1 hb, cell_next h.2.2.2.2.2.2.2.1 hb, h.2.2.2.2.2.2.2.2.trans (hb.mono h.2.2.2.2.2.2.2.2.size)⟩
theorem NL.below (h : NL W0 pn a ao n cap ps so sn sc pa ra va na ca pb rb vb nb cb W) : Below W0.heap.size W0 W := h.2.2.2.2.2.2.2.2
end
/-- a call that keeps all that stood keeps what the law stands on -/
theorem keep_call {P : Program} {f : FuncId} {args : Array Value} {W : World} {R : Ending → World → Prop} {S : World → Prop} (h : Calls P f args W fun e W' => R e W' ∧ Below W.heap.size W W') (hS : ∀ W', Below W.heap.size W W' → S W') : Calls P f args W fun e W' => R e W' ∧ S W' :=
  h.mono (fun _ _ ⟨h1, h2⟩ => ⟨h1, hS _ h2⟩)
theorem count_nil (W : World) (h : SetAt W 0 0 (.slice none 0 0) []) : Calls Tryd.prog 13 #[.agg #[.int .i64 0, .slice none 0 0]] W fun e w' => e = .returned (.int .i64 0) ∧ Below W.heap.size W w' := by
  refine (Bt.count_any 0 0 (.slice none 0 0) [] W h).mono ?_
  rintro e w' ⟨rfl, hb⟩
  exact ⟨rfl, hb⟩

set_option maxRecDepth 100000 in
set_option maxHeartbeats 8000000 in
theorem steps_no (a : Int) (l : List St) (sv lv : Value) (xs : List Int) (c : Int) (w : World) (hT : Tab w) (h : StsAt w sv l) (hl : IntsAt w lv xs) (hx : ¬ 30 < xs.length) (hr : rightB a l = false) :
    Calls Tryd.prog 3 #[nfaV a sv, lv, .int .u8 c] w fun e w' => e = .returned (.bool true) ∧ Below w.heap.size w w' := by
  have FA := Lib.hid (fun W (hW : Below w.heap.size w W) => rfar_any a l (nfaV a sv) W ⟨sv, rfl, h.next hW⟩)
  have AL := Lib.hid (fun W (hW : Below w.heap.size w W) => alive_any W (hT.next hW))
  have RI := Lib.hid (fun W (hW : Below w.heap.size w W) => rright_any a l (nfaV a sv) W ⟨sv, rfl, h.next hW⟩)
  have OF := Lib.hid (fun W (hW : Below w.heap.size w W) n => of_any n lv xs W (hl.next hW))
  have NF := Lib.hid (fun W (hW : Below w.heap.size w W) => (show NfaAt W (nfaV a sv) a l from ⟨sv, rfl, h.next hW⟩))
  have FE : Hid (l.length ≤ 300 → faultE a l = 3) := Lib.hid (fun hn => by unfold faultE; rw [if_neg (by omega), hr]; simp)
  rw [hr] at RI
  obtain ⟨ao, cap, rfl, _, _⟩ := h.shape
  obtain ⟨lo, lc, rfl, _, _⟩ := hl.shape
  have b1 := (Below.refl w.heap.size w).alloc (Nat.le_refl _) (.cells #[.int .i64 a, .slice ao l.length cap] 24)
  have B1 := Lib.hid b1
  have X1 := Lib.hid (at_new w (.cells #[.int .i64 a, .slice ao l.length cap] 24))
  have hx2 : ¬ (30 : Int) < xs.length := by omega
  clear h hl hT hx hr b1
  unfold nfaV at *
  go_enter Tryd.func3, Tryd.ntmps3
  go_wp2_with (first
    | (go_at_call 6; (with_reducible refine (FA.out _ B1.out).mono ?_); rintro e w1 ⟨b, rfl, hb3, h1⟩; go_must (have B2 := Lib.hid (B1.out.trans (h1.mono B1.out.size)); have X2 := Lib.hid (at_next X1.out h1); have F3 := Lib.hid hb3; have c0 := at_cell X2.out 0; have c1 := at_cell X2.out 1; clear h1 hb3))
    | (go_at_call 7; (with_reducible refine (AL.out w1 B2.out).mono ?_); rintro e w2 ⟨rfl, h2⟩; go_must (have B3 := Lib.hid (B2.out.trans (h2.mono B2.out.size)); clear h2))
    | fail)
  · go_ret
    exact ⟨rfl, B3.out⟩
  · have hn := F3.out (Bool.eq_false_iff.2 (by assumption))
    have FE2 := Lib.hid (FE.out hn)
    have OF2 := Lib.hid (OF.out w1 B2.out (l.length : Int))
    unfold OfOut at OF2
    rw [room_small (by omega)] at OF2
    have CL := Lib.hid (fun W (hW : Below w.heap.size w W) B0 room v0 L0 (hs : SetAt W B0 room v0 L0) => Close_no a l _ B0 room v0 L0 W (NF.out W hW) hs (by rw [FE2.out]; decide))
    have SP := Lib.hid (fun W (hW : Below w.heap.size w W) B0 room v0 L0 (hs : SetAt W B0 room v0 L0) => Step_no a l _ B0 room v0 L0 c W (NF.out W hW) hs (by rw [FE2.out]; decide))
    have ST := Lib.hid (fun W (hW : Below w.heap.size w W) => Start_no a l _ W (NF.out W hW) (by rw [FE2.out]; decide))
    have BE := Lib.hid (fun W (hW : Below w.heap.size w W) B0 room v0 L0 (hs : SetAt W B0 room v0 L0) => Best_no a l _ B0 room v0 L0 W (NF.out W hW) hs (by rw [FE2.out]; decide))
    have AV := Lib.hid (fun W (hW : Below w.heap.size w W) B0 room v0 L0 (hs : SetAt W B0 room v0 L0) => Alive_no a l _ B0 room v0 L0 W (NF.out W hW) hs (by rw [FE2.out]; decide))
    rw [FE2.out] at CL SP ST
    unfold NoSet setV at SP ST
    unfold setV at CL OF2
    go_wp2_with (first
      | (go_at_call 8; (with_reducible refine OF2.out.mono ?_); rintro e w3 ⟨v, L, rfl, hs, hm, hb⟩; obtain ⟨so, sn, sc, rfl⟩ := hs.val; go_must (have B3 := Lib.hid (B2.out.trans (hb.mono B2.out.size)); have X3 := Lib.hid (at_next X2.out hb); have S3 := Lib.hid hs; have d0 := at_cell X3.out 0; have d1 := at_cell X3.out 1; have l3 := cell_lt d0; clear hs hm hb c0 c1))
      | (go_at_call 9; (with_reducible refine (CL.out _ (B3.out.alloc B3.out.size _) _ _ _ L (S3.out.next ((Below.refl _ w3).alloc (Nat.le_refl _) _))).mono ?_); rintro e w4 ⟨rfl, hb⟩; go_must (have H34 := Lib.hid (Below.trans ((Below.refl _ w3).alloc (Nat.le_refl _) (.cells #[.int .i64 (l.length : Nat), .slice so sn sc] 30)) (hb.mono (by rw [World.size_alloc]; omega))); have Y4 := Lib.hid (at_next (at_new w3 (.cells #[.int .i64 (l.length : Nat), .slice so sn sc] 30)) hb); have X4 := Lib.hid (at_next X3.out H34.out); have B4 := Lib.hid (B3.out.trans (H34.out.mono B3.out.size)); have S4 := Lib.hid (S3.out.next H34.out); have e0 := at_cell X4.out 0; have e1 := at_cell X4.out 1; have e2 := at_cell Y4.out 0; have e3 := at_cell Y4.out 1; clear hb d0 d1 l3))
      | (go_at_call 10; (with_reducible refine (SP.out w4 B4.out _ _ _ L S4.out).mono ?_); rintro e w5 ⟨rfl, hb⟩; go_must (have B5 := Lib.hid (B4.out.trans (hb.mono B4.out.size)); have X5 := Lib.hid (at_next X4.out hb); have Y5 := Lib.hid (at_next Y4.out hb); have S5 := Lib.hid (S4.out.next hb); have f0 := at_cell X5.out 0; have f1 := at_cell X5.out 1; have l5 := cell_lt f0; clear hb e0 e1 e2 e3))
      | (go_at_call 11; (with_reducible refine (ST.out _ (B5.out.alloc B5.out.size _)).mono ?_); rintro e w6 ⟨rfl, hb⟩; go_must (have H56 := Lib.hid (Below.trans ((Below.refl _ w5).alloc (Nat.le_refl _) (.cells #[.int .i64 0, .slice none 0 0] 30)) (hb.mono (by rw [World.size_alloc]; omega))); have Z6 := Lib.hid (at_next (at_new w5 (.cells #[.int .i64 0, .slice none 0 0] 30)) hb); have X6 := Lib.hid (at_next X5.out H56.out); have Y6 := Lib.hid (at_next Y5.out H56.out); have B6 := Lib.hid (B5.out.trans (H56.out.mono B5.out.size)); have S6 := Lib.hid (S5.out.next H56.out); have g0 := at_cell X6.out 0; have g1 := at_cell X6.out 1; have l6 := cell_lt g0; clear hb f0 f1 l5))
      | (go_at_call 12; (with_reducible refine (RI.out _ (B6.out.alloc B6.out.size _)).mono ?_); rintro e w7 ⟨rfl, hb⟩; go_must (have H67 := Lib.hid (Below.trans ((Below.refl _ w6).alloc (Nat.le_refl _) (.cells #[.int .i64 0, .slice none 0 0] 30)) (hb.mono (by rw [World.size_alloc]; omega))); have V7 := Lib.hid (at_next (at_new w6 (.cells #[.int .i64 0, .slice none 0 0] 30)) hb); have X7 := Lib.hid (at_next X6.out H67.out); have Y7 := Lib.hid (at_next Y6.out H67.out); have Z7 := Lib.hid (at_next Z6.out H67.out); have B7 := Lib.hid (B6.out.trans (H67.out.mono B6.out.size)); have S7 := Lib.hid (S6.out.next H67.out); clear hb g0 g1 l6))
      | fail)
    have N0 := Lib.hid (show NL w7 w.heap.size a ao l.length cap w3.heap.size so sn sc w5.heap.size 0 none 0 0 w6.heap.size 0 none 0 0 w7 from ⟨at_cell X7.out 0, at_cell X7.out 1, at_cell Y7.out 0, at_cell Y7.out 1, at_cell Z7.out 0, at_cell Z7.out 1, at_cell V7.out 0, at_cell V7.out 1, Below.refl _ _⟩)
    have BW := Lib.hid (fun W (h : Below w7.heap.size w7 W) => B7.out.trans (h.mono B7.out.size))
    have CN := Lib.hid (fun W (h : NL w7 w.heap.size a ao l.length cap w3.heap.size so sn sc w5.heap.size 0 none 0 0 w6.heap.size 0 none 0 0 W) => keep_call (count_nil W (set_nil W 0)) (fun W' hb => h.next hb))
    have BE2 := Lib.hid (fun W (h : NL w7 w.heap.size a ao l.length cap w3.heap.size so sn sc w5.heap.size 0 none 0 0 w6.heap.size 0 none 0 0 W) => keep_call (BE.out W (BW.out W h.below) _ _ _ L (S7.out.next h.below)) (fun W' hb => h.next hb))
    have AV2 := Lib.hid (fun W (h : NL w7 w.heap.size a ao l.length cap w3.heap.size so sn sc w5.heap.size 0 none 0 0 w6.heap.size 0 none 0 0 W) => keep_call (AV.out W (BW.out W h.below) _ _ _ L (S7.out.next h.below)) (fun W' hb => h.next hb))
    have AL2 := Lib.hid (fun W (h : NL w7 w.heap.size a ao l.length cap w3.heap.size so sn sc w5.heap.size 0 none 0 0 w6.heap.size 0 none 0 0 W) => keep_call (AL.out W (BW.out W h.below)) (fun W' hb => h.next hb))
    (try unfold setV at BE2 AV2)
    clear CL SP ST BE AV AL RI FA OF2 OF NF FE FE2 F3 B1 X1 B2 X2 B3 X3 S3 H34 Y4 X4 B4 S4 B5 X5 Y5 S5 H56 Z6 X6 Y6 B6 S6 H67 V7 X7 Y7 Z7 BW
    go_region_held3 (fun W => W.cell? ⟨w.heap.size, 0, none⟩ = some (.int .i64 a) ∧ W.cell? ⟨w.heap.size, 1, none⟩ = some (.slice ao l.length cap) ∧ W.cell? ⟨w3.heap.size, 0, none⟩ = some (.int .i64 (l.length : Nat)) ∧ W.cell? ⟨w3.heap.size, 1, none⟩ = some (.slice so sn sc) ∧ W.cell? ⟨w5.heap.size, 0, none⟩ = some (.int .i64 (0 : Nat)) ∧ W.cell? ⟨w5.heap.size, 1, none⟩ = some (.slice none 0 0) ∧ W.cell? ⟨w6.heap.size, 0, none⟩ = some (.int .i64 (0 : Nat)) ∧ W.cell? ⟨w6.heap.size, 1, none⟩ = some (.slice none 0 0) ∧ Below w7.heap.size w7 W) (first | assumption | exact NL.next N0.out ((Below.refl _ _).drew) | go_keep)
      (first
      | (go_at_call 13; (with_reducible refine (CN.out _ (by assumption)).mono ?_); rintro e w8 ⟨rfl, hS'⟩)
      | (go_at_call 14; (with_reducible refine (BE2.out _ (by assumption)).mono ?_); rintro e w8 ⟨rfl, hS'⟩)
      | (go_at_call 15; (with_reducible refine (AV2.out _ (by assumption)).mono ?_); rintro e w8 ⟨rfl, hS'⟩)
      | (go_at_call 7; (with_reducible refine (AL2.out _ (by assumption)).mono ?_); rintro e w8 ⟨rfl, hS'⟩)
      | fail)
    go_wp2
    go_ret
    exact ⟨rfl, B7.out.trans (hS'.below.mono B7.out.size)⟩

end Go.Proofs.YtfbphiamelongaaDoor.Cl

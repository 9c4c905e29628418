/- The second law. -/
import Derived.Test.YtfbphiamelongaaDoorClLaw1
import Derived.Test.YtfbphiamelongaaDoorClRRun
namespace Go.Proofs.YtfbphiamelongaaDoor.Cl
open Go Go.RowKit
open Go.Proofs.YtfbphiamelongaaDoor.Bt (SetAt setV memL Tab grown_row grown_trans)

theorem byteI_app {s m : ByteArray} {i : Nat} (h : i < s.size) : byteI (s ++ m) i = byteI s i := by
  have h' : i < s.data.size := h
  unfold byteI
  rw [ByteArray.data_append, Array.toList_append, List.getD_eq_getElem?_getD, List.getD_eq_getElem?_getD, List.getElem?_append_left (by simpa using h')]
theorem alive_congr {l : List St} {P R : Nat → Prop} (h : ∀ i, i < l.length → (P i ↔ R i)) : aliveP l P ↔ aliveP l R :=
  ⟨fun ⟨i, hi, hr, ht⟩ => ⟨i, hi, (Re.congr h).1 hr, ht⟩, fun ⟨i, hi, hr, ht⟩ => ⟨i, hi, (Re.congr h).2 hr, ht⟩⟩

set_option maxRecDepth 100000 in
set_option maxHeartbeats 4000000 in
theorem runs_far (a : Int) (l : List St) (sv : Value) (s m : ByteArray) (hs : s.size ≤ maxLen) (hm : m.size ≤ maxLen) (w : World) (hT : Tab w) (h : StsAt w sv l) (hx : 20 < s.size ∨ 10 < m.size) :
    Calls Tryd.prog 4 #[nfaV a sv, .string s, .string m] w fun e w' => e = .returned (.bool true) ∧ Below w.heap.size w w' := by
  have hs1 : s.size ≤ 9223372036854775807 := by unfold maxLen at hs; omega
  have hm1 : m.size ≤ 9223372036854775807 := by unfold maxLen at hm; omega
  have FA := Lib.hid (fun W (hW : Below w.heap.size w W) => rfar_any a l (nfaV a sv) W ⟨sv, rfl, h.next hW⟩)
  have AL := Lib.hid (fun W (hW : Below w.heap.size w W) => alive_any W (hT.next hW))
  obtain ⟨ao, cap, rfl, _, _⟩ := h.shape
  have B1 := Lib.hid ((Below.refl w.heap.size w).alloc (Nat.le_refl _) (.cells #[.int .i64 a, .slice ao l.length cap] 24))
  clear h hT hs hm
  unfold nfaV at *
  by_cases h1 : 20 < s.size
  · have hx2 : (20 : Int) < s.size := by omega
    clear hx h1
    go_enter Tryd.func4, Tryd.ntmps4
    go_wp2_with (first
      | (go_at_call 6; (with_reducible refine (FA.out _ B1.out).mono ?_); rintro e w1 ⟨b, rfl, _, h1⟩; go_must (have B2 := Lib.hid (B1.out.trans (h1.mono B1.out.size)); clear h1))
      | (go_at_call 7; (with_reducible refine (AL.out w1 B2.out).mono ?_); rintro e w2 ⟨rfl, h2⟩; go_must (have B3 := Lib.hid (B2.out.trans (h2.mono B2.out.size)); clear h2))
      | fail)
    all_goals (go_ret; exact ⟨rfl, B3.out⟩)
  · have hx2 : ¬ (20 : Int) < s.size := by omega
    have hx3 : (10 : Int) < m.size := by omega
    clear hx h1
    go_enter Tryd.func4, Tryd.ntmps4
    go_wp2_with (first
      | (go_at_call 6; (with_reducible refine (FA.out _ B1.out).mono ?_); rintro e w1 ⟨b, rfl, _, h1⟩; go_must (have B2 := Lib.hid (B1.out.trans (h1.mono B1.out.size)); clear h1))
      | (go_at_call 7; (with_reducible refine (AL.out w1 B2.out).mono ?_); rintro e w2 ⟨rfl, h2⟩; go_must (have B3 := Lib.hid (B2.out.trans (h2.mono B2.out.size)); clear h2))
      | fail)
    all_goals (go_ret; exact ⟨rfl, B3.out⟩)

set_option maxRecDepth 100000 in
set_option maxHeartbeats 4000000 in
theorem runs_no (a : Int) (l : List St) (sv : Value) (s m : ByteArray) (w : World) (hT : Tab w) (h : StsAt w sv l) (hx : ¬ (20 < s.size ∨ 10 < m.size)) (hr : rightB a l = false) :
    Calls Tryd.prog 4 #[nfaV a sv, .string s, .string m] w fun e w' => e = .returned (.bool true) ∧ Below w.heap.size w w' := by
  have FA := Lib.hid (fun W (hW : Below w.heap.size w W) => rfar_any a l (nfaV a sv) W ⟨sv, rfl, h.next hW⟩)
  have AL := Lib.hid (fun W (hW : Below w.heap.size w W) => alive_any W (hT.next hW))
  have RI := Lib.hid (fun W (hW : Below w.heap.size w W) => rright_any a l (nfaV a sv) W ⟨sv, rfl, h.next hW⟩)
  have NF := Lib.hid (fun W (hW : Below w.heap.size w W) => (show NfaAt W (nfaV a sv) a l from ⟨sv, rfl, h.next hW⟩))
  have FE : Hid (l.length ≤ 300 → faultE a l = 3) := Lib.hid (fun hn => by unfold faultE; rw [if_neg (by omega), hr]; simp)
  rw [hr] at RI
  obtain ⟨ao, cap, rfl, _, _⟩ := h.shape
  have B1 := Lib.hid ((Below.refl w.heap.size w).alloc (Nat.le_refl _) (.cells #[.int .i64 a, .slice ao l.length cap] 24))
  have X1 := Lib.hid (at_new w (.cells #[.int .i64 a, .slice ao l.length cap] 24))
  have hx2 : ¬ (20 : Int) < s.size := by omega
  have hx3 : ¬ (10 : Int) < m.size := by omega
  clear h hT hx hr
  unfold nfaV at *
  go_enter Tryd.func4, Tryd.ntmps4
  go_wp2_with (first
    | (go_at_call 6; (with_reducible refine (FA.out _ B1.out).mono ?_); rintro e w1 ⟨b, rfl, hb3, h1⟩; go_must (have B2 := Lib.hid (B1.out.trans (h1.mono B1.out.size)); have X2 := Lib.hid (at_next X1.out h1); have F3 := Lib.hid hb3; have c0 := at_cell X2.out 0; have c1 := at_cell X2.out 1; clear h1 hb3))
    | (go_at_call 7; (with_reducible refine (AL.out w1 B2.out).mono ?_); rintro e w2 ⟨rfl, h2⟩; go_must (have B3 := Lib.hid (B2.out.trans (h2.mono B2.out.size)); clear h2))
    | fail)
  · go_ret
    exact ⟨rfl, B3.out⟩
  · have hn := F3.out (Bool.eq_false_iff.2 (by assumption))
    have FE2 := Lib.hid (FE.out hn)
    have RN := Lib.hid (fun W (hW : Below w.heap.size w W) => Run_no a l _ s W (NF.out W hW) (by rw [FE2.out]; decide))
    rw [FE2.out] at RN
    go_wp2_with (first
      | (go_at_call 25; (with_reducible refine (RN.out w1 B2.out).mono ?_); rintro e w3 ⟨rfl, hb⟩; go_must (have B3 := Lib.hid (B2.out.trans (hb.mono B2.out.size)); have X3 := Lib.hid (at_next X2.out hb); have d0 := at_cell X3.out 0; have d1 := at_cell X3.out 1; clear hb c0 c1))
      | (go_at_call 12; (with_reducible refine (RI.out w3 B3.out).mono ?_); rintro e w4 ⟨rfl, hb⟩; go_must (have B4 := Lib.hid (B3.out.trans (hb.mono B3.out.size)); clear hb d0 d1))
      | (go_at_call 7; (with_reducible refine (AL.out w4 B4.out).mono ?_); rintro e w5 ⟨rfl, h2⟩; go_must (have B5 := Lib.hid (B4.out.trans (h2.mono B4.out.size)); clear h2))
      | fail)
    go_ret
    exact ⟨rfl, B5.out⟩

/-- what stands in the second law's loop -/
def RL (w : World) (a : Int) (ao : Option Addr) (l : List St) (cap ps : Nat) (s : ByteArray) (k : Nat) (v : Value) (L : List Nat) (W : World) : Prop :=
  W.heap[w.heap.size]? = some (.cells #[.int .i64 a, .slice ao l.length cap] 24 (0, 0)) ∧ W.heap[ps]? = some (.cells #[.int .i64 (l.length : Nat), v] 30 (0, 0)) ∧ SetAt W w.heap.size l.length v L ∧ (∀ m, memL L m = true ↔ runP a l (byteI s) k m) ∧ Below w.heap.size w W

set_option maxRecDepth 100000 in
set_option maxHeartbeats 8000000 in
theorem runs_yes (a : Int) (l : List St) (sv : Value) (s m : ByteArray) (w : World) (hT : Tab w) (h : StsAt w sv l) (hx : ¬ (20 < s.size ∨ 10 < m.size)) (hr : rightB a l = true) (hg : TagsOk l) :
    Calls Tryd.prog 4 #[nfaV a sv, .string s, .string m] w fun e w' => e = .returned (.bool true) ∧ Below w.heap.size w w' := by
  have FA := Lib.hid (fun W (hW : Below w.heap.size w W) => rfar_any a l (nfaV a sv) W ⟨sv, rfl, h.next hW⟩)
  have AL := Lib.hid (fun W (hW : Below w.heap.size w W) => alive_any W (hT.next hW))
  have RI := Lib.hid (fun W (hW : Below w.heap.size w W) => rright_any a l (nfaV a sv) W ⟨sv, rfl, h.next hW⟩)
  have NF := Lib.hid (fun W (hW : Below w.heap.size w W) => (show NfaAt W (nfaV a sv) a l from ⟨sv, rfl, h.next hW⟩))
  have HT := Lib.hid (fun W (hW : Below w.heap.size w W) => hT.next hW)
  have FE : Hid (l.length ≤ 300 → faultE a l = 0) := Lib.hid (fun hn => fault_zero.2 ⟨by omega, hr⟩)
  have HR := Lib.hid (And.intro hr hg)
  have hsm : (s ++ m).size = s.size + m.size := ByteArray.size_append
  have HSM := Lib.hid hsm
  rw [hr] at RI
  obtain ⟨ao, cap, rfl, _, _⟩ := h.shape
  have B1 := Lib.hid ((Below.refl w.heap.size w).alloc (Nat.le_refl _) (.cells #[.int .i64 a, .slice ao l.length cap] 24))
  have X1 := Lib.hid (at_new w (.cells #[.int .i64 a, .slice ao l.length cap] 24))
  have hx2 : ¬ (20 : Int) < s.size := by omega
  have hx3 : ¬ (10 : Int) < m.size := by omega
  have hs20 : s.size ≤ 20 := by omega
  have hm10 : m.size ≤ 10 := by omega
  clear h hT hx hr hg hsm
  unfold nfaV at *
  go_enter Tryd.func4, Tryd.ntmps4
  go_wp2_with (first
    | (go_at_call 6; (with_reducible refine (FA.out _ B1.out).mono ?_); rintro e w1 ⟨b, rfl, hb3, h1⟩; go_must (have B2 := Lib.hid (B1.out.trans (h1.mono B1.out.size)); have X2 := Lib.hid (at_next X1.out h1); have F3 := Lib.hid hb3; have c0 := at_cell X2.out 0; have c1 := at_cell X2.out 1; clear h1 hb3))
    | (go_at_call 7; (with_reducible refine (AL.out w1 B2.out).mono ?_); rintro e w2 ⟨rfl, h2⟩; go_must (have B3 := Lib.hid (B2.out.trans (h2.mono B2.out.size)); clear h2))
    | fail)
  · go_ret
    exact ⟨rfl, B3.out⟩
  · have hn := F3.out (Bool.eq_false_iff.2 (by assumption))
    have FE2 := Lib.hid (FE.out hn)
    have hn4 : l.length ≤ 100000 := by omega
    have RY := Lib.hid (fun W (hW : Below w.heap.size w W) => Run_yes a l _ s (by omega) W HR.out.2 (NF.out W hW) (HT.out W hW) FE2.out)
    have ST := Lib.hid (fun W (hW : Below w.heap.size w W) => Start_yes a l _ W (NF.out W hW) FE2.out)
    have SP := Lib.hid (fun W (hW : Below w.heap.size w W) v0 L0 c (hc : 0 ≤ c ∧ c ≤ 255) (hs : SetAt W w.heap.size l.length v0 L0) => Step_yes a l _ w.heap.size l.length v0 L0 c hc.1 hc.2 W (NF.out W hW) (HT.out W hW) hs FE2.out)
    have RR := Lib.hid (fun W (hW : Below w.heap.size w W) => rrun_any a l _ s (by omega) W (NF.out W hW) HR.out.1 HR.out.2 hn4)
    have R2 := Lib.hid (fun W (hW : Below w.heap.size w W) => rrun_any a l _ (s ++ m) (by rw [HSM.out]; omega) W (NF.out W hW) HR.out.1 HR.out.2 hn4)
    have BE := Lib.hid (fun W (hW : Below w.heap.size w W) v0 L0 (hs : SetAt W w.heap.size l.length v0 L0) => Best_yes a l _ w.heap.size l.length v0 L0 W HR.out.2 (NF.out W hW) (HT.out W hW) hs FE2.out)
    have AV := Lib.hid (fun W (hW : Below w.heap.size w W) v0 L0 (hs : SetAt W w.heap.size l.length v0 L0) => Alive_yes a l _ w.heap.size l.length v0 L0 W HR.out.2 (NF.out W hW) (HT.out W hW) hs FE2.out)
    unfold YesSet setV at SP ST
    unfold setV at BE AV
    go_wp2_with (first
      | (go_at_call 25; (with_reducible refine (RY.out w1 B2.out).mono ?_); rintro e w3 ⟨t, rfl, ht, hb⟩; go_must (have B3 := Lib.hid (B2.out.trans (hb.mono B2.out.size)); have X3 := Lib.hid (at_next X2.out hb); have T3 := Lib.hid ht; have d0 := at_cell X3.out 0; have d1 := at_cell X3.out 1; clear hb ht c0 c1))
      | (go_at_call 12; (with_reducible refine (RI.out w3 B3.out).mono ?_); rintro e w4 ⟨rfl, hb⟩; go_must (have B4 := Lib.hid (B3.out.trans (hb.mono B3.out.size)); have X4 := Lib.hid (at_next X3.out hb); have e0 := at_cell X4.out 0; have e1 := at_cell X4.out 1; clear hb d0 d1))
      | (go_at_call 11; (with_reducible refine (ST.out w4 B4.out).mono ?_); rintro e w5 ⟨v5, rfl, L, hs, hm, hb⟩; obtain ⟨so, sn, sc, rfl⟩ := hs.val; go_must (have R5 := Lib.hid (And.intro (at_next X4.out hb) (And.intro (hs.base B4.out.size) (And.intro hm (B4.out.trans (hb.mono B4.out.size))))); clear hs hm hb e0 e1))
      | fail)
    have R6 := Lib.hid (show RL w a ao l cap w5.heap.size s 0 _ L (w5.alloc (.cells #[.int .i64 (l.length : Nat), .slice so sn sc] 30)) from ⟨at_next R5.out.1 ((Below.refl _ _).alloc (Nat.le_refl _) _), at_new w5 _, R5.out.2.1.next ((Below.refl _ _).alloc (Nat.le_refl _) _), R5.out.2.2.1, R5.out.2.2.2.alloc R5.out.2.2.2.size _⟩)
    have hlt5 : w.heap.size < w5.heap.size := cell_lt (at_cell R5.out.1 0)
    clear FA RI FE B1 X1 F3 ST
    generalize hps : w5.heap.size = ps at *
    generalize w5.alloc (.cells #[.int .i64 (l.length : Nat), .slice so sn sc] 30) = W6 at *
    clear hps
    go_loopw [11] (fun i wr => ∃ (k : Nat) (v : Value) (L : List Nat), i = .int .i64 k ∧ k ≤ s.size ∧ RL w a ao l cap ps s k v L wr) (fun i _ => s.size - (intOf i).toNat)
    case atStart => exact ⟨0, _, L, rfl, by omega, R6.out⟩
    case round =>
      obtain ⟨k, v, L, rfl, hk, hR⟩ := hrel
      have g0 := at_cell hR.1 0
      have g1 := at_cell hR.1 1
      have g2 := at_cell hR.2.1 0
      have g3 := at_cell hR.2.1 1
      have z3 := at_froz hR.2.1 0
      have z4 := at_froz hR.2.1 1
      obtain ⟨vo, vn, vc, rfl⟩ := hR.2.2.1.val
      have R := Lib.hid hR
      clear hR
      by_cases hlt : k < s.size
      · have SC := Lib.hid (SP.out wr.drew R.out.2.2.2.2.drew _ L (s[k].toNat : Int) (by rw [byteI_at hlt]; exact byteI_bound s k) (R.out.2.2.1.next ((Below.refl _ wr).drew)))
        have PR : Hid (∀ L2 : List Nat, (∀ m, memL L2 m = true ↔ stepP l (fun i => memL L i = true) (s[k].toNat : Int) m) → ∀ m, memL L2 m = true ↔ runP a l (byteI s) (k + 1) m) := Lib.hid (fun L2 h2 m => by
          rw [h2, byteI_at hlt]
          exact stepP_congr (fun j _ => R.out.2.2.2.1 j) m)
        have hl1 := cell_lt g0
        have hl2 := cell_lt g2
        clear RY RR R2 BE AV AL SP R5 R6 T3 B2 B3 B4 X2 X3 X4 NF HT HR FE2
        go_wp2
        go_region_with (go_at_call 10; (with_reducible refine SC.out.mono ?_); rintro e w6 ⟨v6, rfl, L6, hs6, hL6, hb6⟩; obtain ⟨vo6, vn6, vc6, rfl⟩ := hs6.val; go_must (have h56 : Below wr.heap.size wr w6 := Below.trans ((Below.refl _ wr).drew) hb6; have x6 := at_next R.out.2.1 h56; have d0 := at_cell x6 0; have d1 := at_cell x6 1; have q0 := at_froz x6 0; have q1 := at_froz x6 1; have hl6 := cell_lt d0; have D := Lib.hid (And.intro hs6 (And.intro (PR.out L6 hL6) (And.intro h56 (And.intro x6 (Bt.two_stores (x := .int .i64 (l.length : Nat)) (y := .slice vo6 vn6 vc6) x6))))); clear hs6 hL6 hb6 h56 x6 g0 g1 g2 g3 z3 z4))
        all_goals
          go_wp2
          go_roundw
          case rel =>
            obtain ⟨hs6, hP, h56, x6, m1, m2⟩ := D.out
            have hb6 := R.out.2.2.2.2.trans (h56.mono R.out.2.2.2.2.size)
            exact ⟨k + 1, _, L6, by go_num, by omega, at_kept (at_next R.out.1 h56) m2 (.inr (by simp; omega)), m1, (hs6.kept m2 (ne_row hs6.row x6 (by decide))).base (R.out.2.2.2.2.drew).size, hP, hb6.grown m2 hb6.size (fun j e => by cases e; omega)⟩
          case measure => simp [intOf]; omega
      · obtain rfl : k = s.size := by omega
        have UT := Lib.hid (fun t2 (h2 : BestIs l (runP a l (byteI s) s.size) t2) => h2.uniq T3.out (fun i _ => Iff.rfl))
        have UB := Lib.hid (fun t2 (h2 : BestIs l (fun i => memL L i = true) t2) => h2.uniq T3.out (fun i _ => R.out.2.2.2.1 i))
        have DEAD : Hid (∀ (q : Bool) (t2 : Int), (q = true ↔ aliveP l (fun i => memL L i = true)) → ¬ q = true → BestIs l (runP a l (byteI (s ++ m)) (s ++ m).size) t2 → t2 = -1) := Lib.hid (fun q t2 hq hn ht => by
          rw [HSM.out] at ht
          refine dead_best (fun ha => hn (hq.2 ?_)) ht
          exact (alive_congr (fun i _ => (R.out.2.2.2.1 i).trans (runP_congr (fun j hj => (byteI_app hj).symm) i))).2 ha)
        have S8 := Lib.hid R.out.2.2.1
        have X8 := Lib.hid (And.intro R.out.1 (And.intro R.out.2.1 R.out.2.2.2.2))
        clear SP RY R5 R6 T3 B2 B3 B4 X2 X3 X4 NF HT HR FE2 R z3 z4 hlt
        go_wp2_with (first
          | (go_at_call 26; first
              | ((with_reducible refine (RR.out wr X8.out.2.2).mono ?_); rintro e w6 ⟨t2, rfl, h1, h2⟩; go_must (have E2 := UT.out _ h1; subst E2; have B6 := Lib.hid (X8.out.2.2.trans (h2.mono X8.out.2.2.size)); have X6 := Lib.hid (And.intro (at_next X8.out.1 h2) (at_next X8.out.2.1 h2)); have S6 := Lib.hid (S8.out.next h2); have d0 := at_cell X6.out.1 0; have d1 := at_cell X6.out.1 1; have d2 := at_cell X6.out.2 0; have d3 := at_cell X6.out.2 1; clear h1 h2 g0 g1 g2 g3 UT))
              | ((with_reducible refine (R2.out w8 B8.out).mono ?_); rintro e w9 ⟨t4, rfl, h1, h2⟩; go_must (have E4 := DEAD.out _ _ Q8.out (by assumption) h1; subst E4; have B9 := Lib.hid (B8.out.trans (h2.mono B8.out.size)); clear h1 h2)))
          | (go_at_call 14; (with_reducible refine (BE.out w6 B6.out _ L S6.out).mono ?_); rintro e w7 ⟨t3, rfl, h1, h2⟩; go_must (have E3 := UB.out _ h1; subst E3; have B7 := Lib.hid (B6.out.trans (h2.mono B6.out.size)); have X7 := Lib.hid (And.intro (at_next X6.out.1 h2) (at_next X6.out.2 h2)); have S7 := Lib.hid (S6.out.next h2); have e0 := at_cell X7.out.1 0; have e1 := at_cell X7.out.1 1; have e2 := at_cell X7.out.2 0; have e3 := at_cell X7.out.2 1; clear h1 h2 d0 d1 d2 d3 UB))
          | (go_at_call 15; (with_reducible refine (AV.out w7 B7.out _ L S7.out).mono ?_); rintro e w8 ⟨q, rfl, h1, h2⟩; go_must (have Q8 := Lib.hid h1; have B8 := Lib.hid (B7.out.trans (h2.mono B7.out.size)); have X8' := Lib.hid (at_next X7.out.1 h2); have f0 := at_cell X8'.out 0; have f1 := at_cell X8'.out 1; clear h1 h2 e0 e1 e2 e3))
          | (go_at_call 7; first
              | ((with_reducible refine (AL.out w8 B8.out).mono ?_); rintro e w10 ⟨rfl, h2⟩; go_must (have B10 := Lib.hid (B8.out.trans (h2.mono B8.out.size)); clear h2))
              | ((with_reducible refine (AL.out w9 B9.out).mono ?_); rintro e w10 ⟨rfl, h2⟩; go_must (have B10 := Lib.hid (B9.out.trans (h2.mono B9.out.size)); clear h2)))
          | fail)
        all_goals
          go_ret
          exact ⟨rfl, B10.out⟩

end Go.Proofs.YtfbphiamelongaaDoor.Cl

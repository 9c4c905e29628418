/- The first law of an automaton that may be. -/
import Derived.Test.YtfbphiamelongaaDoorClLaw1
import Derived.Test.YtfbphiamelongaaDoorClRAli
import Derived.Test.YtfbphiamelongaaDoorClRSet
import Derived.Test.YtfbphiamelongaaDoorUtSm
namespace Go.Proofs.YtfbphiamelongaaDoor.Cl
open Go Go.RowKit
open Go.Proofs.YtfbphiamelongaaDoor.Bt (SetAt setV memL Tab grown_row grown_trans OfOut of_any roomF ofB nums nums_rise mem_nums hasI rise_extI iV own_slice)

/-- numbers of a set and of marks are the same where these are -/
theorem nums_marks {L : List Nat} {out : List Bool} {P R : Nat → Prop} (hL : ∀ m, memL L m = true ↔ P m) (ho : ∀ m, mq out m = true ↔ R m) (h : ∀ m, m < out.length → (P m ↔ R m)) (hP : ∀ m, P m → m < out.length) : numB out out.length = nums L := by
  refine rise_extI (numB_rise out _) (nums_rise L) fun x => ?_
  rw [mem_numB, mem_nums]
  unfold hasI
  rw [Bool.and_eq_true, decide_eq_true_eq]
  constructor
  · rintro ⟨i, hi, hm, rfl⟩
    refine ⟨by omega, ?_⟩
    rw [Int.toNat_natCast]
    exact (hL i).2 ((h i hi).2 ((ho i).1 hm))
  · rintro ⟨h0, hm⟩
    have hp := (hL _).1 hm
    exact ⟨x.toNat, hP _ hp, (ho _).2 ((h _ (hP _ hp)).1 hp), by omega⟩
theorem same_true (a b : Value) (xs : List Int) (w : World) (ha : IntsAt w a xs) (hb : IntsAt w b xs) : Calls Tryd.prog 18 #[a, b] w fun e w' => e = .returned (.bool true) ∧ Below w.heap.size w w' := by
  refine (Ut.same_any a b xs xs w ha hb).mono ?_
  rintro e w' ⟨rfl, h⟩
  exact ⟨by simp, h⟩
/-- numbers of marks, as the numbers that they are -/
theorem numbers_as (B : Nat) (u : Value) (out : List Bool) (T : List Int) (hn : out.length ≤ 100000) (hT : numB out out.length = T) (w : World) (hu : BolAt w B u out) : Calls Tryd.prog 20 #[u] w fun e w' => (∃ ao c, e = .returned (.slice ao T.length c) ∧ IntsAt w' (.slice ao T.length c) T) ∧ Below w.heap.size w w' := by
  refine (numbers_any B u out hn w hu).mono ?_
  rintro e w' ⟨v, rfl, h1, h2⟩
  rw [hT] at h1
  obtain ⟨ao, c, rfl⟩ := own_slice h1
  exact ⟨⟨ao, c, rfl, ints_of_row h1⟩, h2⟩
/-- a set's numbers -/
theorem all_as (B room : Nat) (v : Value) (L : List Nat) (w : World) (hT : Tab w) (h : SetAt w B room v L) : Calls Tryd.prog 19 #[setV room v] w fun e w' => (∃ ao c, e = .returned (.slice ao (nums L).length c) ∧ IntsAt w' (.slice ao (nums L).length c) (nums L)) ∧ Below w.heap.size w w' := by
  refine (all_row B room v L w hT h).mono ?_
  rintro e w' ⟨v', rfl, h1, h2⟩
  obtain ⟨ao, c, rfl⟩ := own_slice h1
  exact ⟨⟨ao, c, rfl, ints_of_row h1⟩, h2⟩
/-- marks that a call tells, as values -/
theorem marks_as {P : Program} {f : FuncId} {args : Array Value} {W : World} {n : Nat} {R : Nat → Prop} (h : Calls P f args W fun e W' => MarksOut W n R e W') : Calls P f args W fun e W' => (∃ ao c out, e = .returned (.slice ao n c) ∧ BolAt W' W.heap.size (.slice ao n c) out ∧ out.length = n ∧ ∀ i, mq out i = true ↔ R i) ∧ Below W.heap.size W W' := by
  refine h.mono ?_
  rintro e W' ⟨v, out, rfl, h1, rfl, h3, h4⟩
  obtain ⟨ao, c, rfl, _, _⟩ := h1.shape
  exact ⟨⟨ao, c, out, rfl, h1, rfl, h3⟩, h4⟩

/-- what Close leaves as it was -/
theorem close_kept {w w3 w4 : World} {a : Int} {ao so : Option Addr} {n cap sn sc B : Nat} {L : List Nat} (hb : Below w.heap.size w w3) (hx : w3.heap[w.heap.size]? = some (.cells #[.int .i64 a, .slice ao n cap] 24 (0, 0))) (hs : SetAt w3 B n (.slice so sn sc) L) (hB : w.heap.size ≤ B)
    (hg : (w3.alloc (.cells #[.int .i64 (n : Nat), .slice so sn sc] 30)).grownBy w4 (Value.slice so sn sc).ownBlock) :
    w4.heap[w.heap.size]? = some (.cells #[.int .i64 a, .slice ao n cap] 24 (0, 0)) ∧ w4.heap[w3.heap.size]? = some (.cells #[.int .i64 (n : Nat), .slice so sn sc] 30 (0, 0)) ∧ Below w.heap.size w w4 := by
  have bA := (Below.refl w3.heap.size w3).alloc (Nat.le_refl _) (.cells #[.int .i64 (n : Nat), .slice so sn sc] 30)
  have hs2 := hs.next bA
  have x1 := at_next hx bA
  have x2 := at_new w3 (.cells #[.int .i64 (n : Nat), .slice so sn sc] 30)
  have hb2 := hb.alloc hb.size (.cells #[.int .i64 (n : Nat), .slice so sn sc] 30)
  exact ⟨at_kept x1 hg (ne_row hs2.row x1 (by decide)), at_kept x2 hg (ne_row hs2.row x2 (by decide)), hb2.grown hg hb2.size (fun j e => Nat.le_trans hB (hs2.row.lt j e).1)⟩

set_option maxRecDepth 100000 in
set_option maxHeartbeats 16000000 in
theorem steps_yes (a : Int) (l : List St) (sv lv : Value) (xs : List Int) (c : Int) (hc0 : 0 ≤ c) (hc1 : c ≤ 255) (w : World) (hT : Tab w) (h : StsAt w sv l) (hl : IntsAt w lv xs) (hx : ¬ 30 < xs.length) (hr : rightB a l = true) (hg : TagsOk l) :
    Calls Tryd.prog 3 #[nfaV a sv, lv, .int .u8 c] w fun e w' => e = .returned (.bool true) ∧ Below w.heap.size w w' := by
  have hR := (right_iff.1 hr).2
  have FA := Lib.hid (fun W (hW : Below w.heap.size w W) => rfar_any a l (nfaV a sv) W ⟨sv, rfl, h.next hW⟩)
  have AL := Lib.hid (fun W (hW : Below w.heap.size w W) => alive_any W (hT.next hW))
  have RI := Lib.hid (fun W (hW : Below w.heap.size w W) => rright_any a l (nfaV a sv) W ⟨sv, rfl, h.next hW⟩)
  have OF := Lib.hid (fun W (hW : Below w.heap.size w W) n => of_any n lv xs W (hl.next hW))
  have NF := Lib.hid (fun W (hW : Below w.heap.size w W) => (show NfaAt W (nfaV a sv) a l from ⟨sv, rfl, h.next hW⟩))
  have HL := Lib.hid (fun W (hW : Below w.heap.size w W) => hl.next hW)
  have HT := Lib.hid (fun W (hW : Below w.heap.size w W) => hT.next hW)
  have FE : Hid (l.length ≤ 300 → faultE a l = 0) := Lib.hid (fun hn => fault_zero.2 ⟨by omega, hr⟩)
  have HR := Lib.hid (And.intro hr (And.intro hR hg))
  rw [hr] at RI
  obtain ⟨ao, cap, rfl, _, _⟩ := h.shape
  obtain ⟨lo, lc, rfl, _, _⟩ := hl.shape
  have b1 := (Below.refl w.heap.size w).alloc (Nat.le_refl _) (.cells #[.int .i64 a, .slice ao l.length cap] 24)
  have B1 := Lib.hid b1
  have X1 := Lib.hid (at_new w (.cells #[.int .i64 a, .slice ao l.length cap] 24))
  have hx2 : ¬ (30 : Int) < xs.length := by omega
  clear h hl hT hx hr b1 hR hg
  unfold nfaV at *
  go_enter Tryd.func3, Tryd.ntmps3
  go_wp2_with (first
    | (go_at_call 6; (with_reducible refine (FA.out _ B1.out).mono ?_); rintro e w1 ⟨b, rfl, hb3, h1⟩; go_must (have B2 := Lib.hid (B1.out.trans (h1.mono B1.out.size)); have X2 := Lib.hid (at_next X1.out h1); have F3 := Lib.hid hb3; have c0 := at_cell X2.out 0; have c1 := at_cell X2.out 1; clear h1 hb3))
    | (go_at_call 7; (with_reducible refine (AL.out w1 B2.out).mono ?_); rintro e w2 ⟨rfl, h2⟩; go_must (have B3 := Lib.hid (B2.out.trans (h2.mono B2.out.size)); clear h2))
    | fail)
  · go_ret
    exact ⟨rfl, B3.out⟩
  · have hn := F3.out (Bool.eq_false_iff.2 (by assumption))
    have FE2 := Lib.hid (FE.out hn)
    have hn4 : l.length ≤ 100000 := by omega
    have OF2 := Lib.hid (OF.out w1 B2.out (l.length : Int))
    unfold OfOut at OF2
    rw [room_small (by omega)] at OF2
    have CL := Lib.hid (fun W (hW : Below w.heap.size w W) B0 room v0 L0 (hs : SetAt W B0 room v0 L0) => Close_yes a l _ B0 room v0 L0 W (NF.out W hW) (HT.out W hW) hs FE2.out)
    have SP := Lib.hid (fun W (hW : Below w.heap.size w W) B0 room v0 L0 (hs : SetAt W B0 room v0 L0) => Step_yes a l _ B0 room v0 L0 c hc0 hc1 W (NF.out W hW) (HT.out W hW) hs FE2.out)
    have ST := Lib.hid (fun W (hW : Below w.heap.size w W) => Start_yes a l _ W (NF.out W hW) FE2.out)
    unfold YesSet setV at SP ST
    unfold CloseOut setV at CL
    unfold setV at OF2
    go_wp2_with (first
      | (go_at_call 8; (with_reducible refine OF2.out.mono ?_); rintro e w3 ⟨v, L, rfl, hs, hm, hb⟩; obtain ⟨so, sn, sc, rfl⟩ := hs.val; go_must (have B3 := Lib.hid (B2.out.trans (hb.mono B2.out.size)); have X3 := Lib.hid (at_next X2.out hb); have S3 := Lib.hid (And.intro (hs.base B2.out.size) hm); have d0 := at_cell X3.out 0; have d1 := at_cell X3.out 1; have l3 := cell_lt d0; clear hs hm hb c0 c1))
      | (go_at_call 9; (with_reducible refine (CL.out _ (B3.out.alloc B3.out.size _) _ _ _ L (S3.out.1.next ((Below.refl _ w3).alloc (Nat.le_refl _) _))).mono ?_); rintro e w4 ⟨rfl, ⟨Lc, hs, hm⟩, hg⟩; go_must (have K4 := Lib.hid (close_kept B3.out X3.out S3.out.1 (Nat.le_refl _) hg); have S4 := Lib.hid (And.intro hs hm); have e0 := at_cell K4.out.1 0; have e1 := at_cell K4.out.1 1; have e2 := at_cell K4.out.2.1 0; have e3 := at_cell K4.out.2.1 1; clear hs hm hg d0 d1 l3))
      | (go_at_call 10; (with_reducible refine (SP.out w4 K4.out.2.2 _ _ _ Lc S4.out.1).mono ?_); rintro e w5 ⟨v5, rfl, La, hs, hm, hb⟩; obtain ⟨va, na, ca, rfl⟩ := hs.val; go_must (have B5 := Lib.hid (K4.out.2.2.trans (hb.mono K4.out.2.2.size)); have X5 := Lib.hid (at_next K4.out.1 hb); have Y5 := Lib.hid (at_next K4.out.2.1 hb); have S5 := Lib.hid (S4.out.1.next hb); have A5 := Lib.hid (And.intro hs hm); have f0 := at_cell X5.out 0; have f1 := at_cell X5.out 1; have l5 := cell_lt f0; clear hs hm hb e0 e1 e2 e3))
      | (go_at_call 11; (with_reducible refine (ST.out _ (B5.out.alloc B5.out.size _)).mono ?_); rintro e w6 ⟨v6, rfl, Lb, hs, hm, hb⟩; obtain ⟨vb, nb, cb, rfl⟩ := hs.val; go_must (have H56 := Lib.hid (Below.trans ((Below.refl _ w5).alloc (Nat.le_refl _) (.cells #[.int .i64 (l.length : Nat), .slice va na ca] 30)) (hb.mono (by rw [World.size_alloc]; omega))); have Z6 := Lib.hid (at_next (at_new w5 (.cells #[.int .i64 (l.length : Nat), .slice va na ca] 30)) hb); have X6 := Lib.hid (at_next X5.out H56.out); have Y6 := Lib.hid (at_next Y5.out H56.out); have B6 := Lib.hid (B5.out.trans (H56.out.mono B5.out.size)); have S6 := Lib.hid (S5.out.next H56.out); have A6 := Lib.hid (A5.out.1.next H56.out); have D6 := Lib.hid (And.intro hs hm); have g0 := at_cell X6.out 0; have g1 := at_cell X6.out 1; have l6 := cell_lt g0; clear hs hm hb f0 f1 l5))
      | (go_at_call 12; (with_reducible refine (RI.out _ (B6.out.alloc B6.out.size _)).mono ?_); rintro e w7 ⟨rfl, hb⟩; go_must (have H67 := Lib.hid (Below.trans ((Below.refl _ w6).alloc (Nat.le_refl _) (.cells #[.int .i64 (l.length : Nat), .slice vb nb cb] 30)) (hb.mono (by rw [World.size_alloc]; omega))); have V7 := Lib.hid (at_next (at_new w6 (.cells #[.int .i64 (l.length : Nat), .slice vb nb cb] 30)) hb); have X7 := Lib.hid (at_next X6.out H67.out); have Y7 := Lib.hid (at_next Y6.out H67.out); have Z7 := Lib.hid (at_next Z6.out H67.out); have B7 := Lib.hid (B6.out.trans (H67.out.mono B6.out.size)); have S7 := Lib.hid (S6.out.next H67.out); have A7 := Lib.hid (A6.out.next H67.out); have D7 := Lib.hid (D6.out.1.next H67.out); clear hb g0 g1 l6))
      | fail)
    -- what the three sets have
    have P4 : Hid (∀ m, memL Lc m = true ↔ Re nilF l (fun i => i < l.length ∧ (i : Int) ∈ xs) m) := Lib.hid (fun m => by
      have hL : ∀ i, memL L i = true ↔ i < l.length ∧ (i : Int) ∈ xs := fun i => by
        rw [S3.out.2]; unfold ofB
        rw [Bool.and_eq_true, decide_eq_true_eq, List.any_eq_true]
        constructor
        · rintro ⟨h1, x, h2, h3⟩
          exact ⟨h1, by rwa [← of_decide_eq_true h3]⟩
        · rintro ⟨h1, h2⟩
          exact ⟨h1, _, h2, by simp⟩
      rw [S4.out.2]
      have e : Re nilF l (fun i => memL L i = true) m ↔ Re nilF l (fun i => i < l.length ∧ (i : Int) ∈ xs) m := Re.congr (fun j _ => hL j)
      rw [e]
      constructor
      · rintro (h1 | h1)
        · exact Re.base ((hL m).1 h1) ((hL m).1 h1).1
        · exact h1.2
      · intro h1
        exact .inr ⟨h1.lt, h1⟩)
    have N0 := Lib.hid (show NL w7 w.heap.size a ao l.length cap w3.heap.size so sn sc w5.heap.size l.length va na ca w6.heap.size l.length vb nb cb w7 from ⟨at_cell X7.out 0, at_cell X7.out 1, at_cell Y7.out 0, at_cell Y7.out 1, at_cell Z7.out 0, at_cell Z7.out 1, at_cell V7.out 0, at_cell V7.out 1, Below.refl _ _⟩)
    have BW := Lib.hid (fun W (h : Below w7.heap.size w7 W) => B7.out.trans (h.mono B7.out.size))
    have AM := Lib.hid (fun W (h : NL w7 w.heap.size a ao l.length cap w3.heap.size so sn sc w5.heap.size l.length va na ca w6.heap.size l.length vb nb cb W) => keep_call (marks_as (among_any a ao l.length cap hn4 _ xs W (HL.out W (BW.out W h.below)))) (fun W' hb => And.intro hb (h.next hb)))
    have RC := Lib.hid (fun W (h : NL w7 w.heap.size a ao l.length cap w3.heap.size so sn sc w5.heap.size l.length va na ca w6.heap.size l.length vb nb cb W) B u O (hu : BolAt W B u O) (hO : O.length = l.length) => keep_call (marks_as (rclose_any a l _ B u O W (NF.out W (BW.out W h.below)) HR.out.2.1 hn4 hu hO)) (fun W' hb => And.intro hb (h.next hb)))
    have n0 := at_cell X7.out 0
    have n1 := at_cell X7.out 1
    unfold nfaV at AM
    clear CL SP ST FA OF2 OF FE F3 B1 X1 B2 X2 B3 X3 S3 K4 S4 B5 X5 Y5 S5 H56 Z6 X6 Y6 B6 S6 A6 H67 V7 X7 Y7 Z7 RI
    go_region_held3 (fun W => W.cell? ⟨w.heap.size, 0, none⟩ = some (.int .i64 a) ∧ W.cell? ⟨w.heap.size, 1, none⟩ = some (.slice ao l.length cap) ∧ W.cell? ⟨w3.heap.size, 0, none⟩ = some (.int .i64 (l.length : Nat)) ∧ W.cell? ⟨w3.heap.size, 1, none⟩ = some (.slice so sn sc) ∧ W.cell? ⟨w5.heap.size, 0, none⟩ = some (.int .i64 (l.length : Nat)) ∧ W.cell? ⟨w5.heap.size, 1, none⟩ = some (.slice va na ca) ∧ W.cell? ⟨w6.heap.size, 0, none⟩ = some (.int .i64 (l.length : Nat)) ∧ W.cell? ⟨w6.heap.size, 1, none⟩ = some (.slice vb nb cb) ∧ Below w7.heap.size w7 W) (first | assumption | exact NL.next N0.out ((Below.refl _ _).drew) | go_keep)
      (first
      | (go_at_call 17; (with_reducible refine (AM.out _ (by assumption)).mono ?_); rintro e w8 ⟨⟨ao8, ac8, o8, rfl, h1, h2, h3⟩, hb, hS'⟩; go_must (have O8 := Lib.hid (And.intro h1 (And.intro h2 h3)); clear h1 h2 h3 hb))
      | (go_at_call 16; (with_reducible refine (RC.out _ (by assumption) _ _ _ O8.out.1 O8.out.2.1).mono ?_); rintro e w9 ⟨⟨ao9, ac9, o9, rfl, h1, h2, h3⟩, hb, hS'⟩; go_must (have O9 := Lib.hid (And.intro h1 (And.intro h2 (And.intro h3 hS'))); clear h1 h2 h3 hb))
      | fail)
    have P9 : Hid (∀ m, mq o9 m = true ↔ Re nilF l (fun i => i < l.length ∧ (i : Int) ∈ xs) m) := Lib.hid (fun m => by rw [O9.out.2.2.1]; exact Re.congr (fun j _ => O8.out.2.2 j))
    have PE : Hid (∀ m, memL Lc m = true ↔ mq o9 m = true) := Lib.hid (fun m => by rw [P4.out, P9.out])
    have BW9 := Lib.hid (fun W (h : Below w9.heap.size w9 W) => BW.out W (O9.out.2.2.2.below.trans (h.mono O9.out.2.2.2.below.size)))
    have S9 := Lib.hid (fun W (h : Below w9.heap.size w9 W) => And.intro (S7.out.next (O9.out.2.2.2.below.trans (h.mono O9.out.2.2.2.below.size))) (And.intro (A7.out.next (O9.out.2.2.2.below.trans (h.mono O9.out.2.2.2.below.size))) (D7.out.next (O9.out.2.2.2.below.trans (h.mono O9.out.2.2.2.below.size)))))
    have N9 := Lib.hid (show NL w9 w.heap.size a ao l.length cap w3.heap.size so sn sc w5.heap.size l.length va na ca w6.heap.size l.length vb nb cb w9 from ⟨O9.out.2.2.2.1, O9.out.2.2.2.2.1, O9.out.2.2.2.2.2.1, O9.out.2.2.2.2.2.2.1, O9.out.2.2.2.2.2.2.2.1, O9.out.2.2.2.2.2.2.2.2.1, O9.out.2.2.2.2.2.2.2.2.2.1, O9.out.2.2.2.2.2.2.2.2.2.2.1, Below.refl _ _⟩)
    have QS := Lib.hid (fun W (h : NL w9 w.heap.size a ao l.length cap w3.heap.size so sn sc w5.heap.size l.length va na ca w6.heap.size l.length vb nb cb W) => keep_call (all_as _ _ _ Lc W (HT.out W (BW9.out W h.below)) (S9.out W h.below).1) (fun W' hb => And.intro hb (h.next hb)))
    have QA := Lib.hid (fun W (h : NL w9 w.heap.size a ao l.length cap w3.heap.size so sn sc w5.heap.size l.length va na ca w6.heap.size l.length vb nb cb W) => keep_call (all_as _ _ _ La W (HT.out W (BW9.out W h.below)) (S9.out W h.below).2.1) (fun W' hb => And.intro hb (h.next hb)))
    have QB := Lib.hid (fun W (h : NL w9 w.heap.size a ao l.length cap w3.heap.size so sn sc w5.heap.size l.length va na ca w6.heap.size l.length vb nb cb W) => keep_call (all_as _ _ _ Lb W (HT.out W (BW9.out W h.below)) (S9.out W h.below).2.2) (fun W' hb => And.intro hb (h.next hb)))
    have NI := Lib.hid (fun W (h : NL w9 w.heap.size a ao l.length cap w3.heap.size so sn sc w5.heap.size l.length va na ca w6.heap.size l.length vb nb cb W) => keep_call (numbers_as _ _ o9 (nums Lc) (by rw [O9.out.2.1]; exact hn4) (nums_marks PE.out (fun m => Iff.rfl) (fun m _ => Iff.rfl) (fun m hm => mk_lt hm)) W (O9.out.1.next h.below)) (fun W' hb => And.intro hb (h.next hb)))
    have NS := Lib.hid (fun W (h : NL w9 w.heap.size a ao l.length cap w3.heap.size so sn sc w5.heap.size l.length va na ca w6.heap.size l.length vb nb cb W) => keep_call (marks_as (rstep_any a l _ _ _ o9 c hc0 hc1 W (NF.out W (BW9.out W h.below)) HR.out.2.1 hn4 (O9.out.1.next h.below) O9.out.2.1)) (fun W' hb => And.intro hb (h.next hb)))
    have NA := Lib.hid (fun W (h : NL w9 w.heap.size a ao l.length cap w3.heap.size so sn sc w5.heap.size l.length va na ca w6.heap.size l.length vb nb cb W) B u O (hu : BolAt W B u O) (hO : O.length = l.length) (hm : ∀ m, mq O m = true ↔ stepP l (fun i => mq o9 i = true) c m) => keep_call (numbers_as B u O (nums La) (by rw [hO]; exact hn4) (nums_marks (P := fun m => mq O m = true) (fun m => by rw [A5.out.2, hm]; exact stepP_congr (fun j _ => PE.out j) m) (fun m => Iff.rfl) (fun m _ => Iff.rfl) (fun m hm => mk_lt hm)) W hu) (fun W' hb => And.intro hb (h.next hb)))
    have NT := Lib.hid (fun W (h : NL w9 w.heap.size a ao l.length cap w3.heap.size so sn sc w5.heap.size l.length va na ca w6.heap.size l.length vb nb cb W) => keep_call (marks_as (rstart_any a l _ W (NF.out W (BW9.out W h.below)) HR.out.1 hn4)) (fun W' hb => And.intro hb (h.next hb)))
    have NB := Lib.hid (fun W (h : NL w9 w.heap.size a ao l.length cap w3.heap.size so sn sc w5.heap.size l.length va na ca w6.heap.size l.length vb nb cb W) B u O (hu : BolAt W B u O) (hO : O.length = l.length) (hm : ∀ m, mq O m = true ↔ startP a l m) => keep_call (numbers_as B u O (nums Lb) (by rw [hO]; exact hn4) (nums_marks (P := fun m => mq O m = true) (fun m => by rw [D6.out.2, hm]) (fun m => Iff.rfl) (fun m _ => Iff.rfl) (fun m hm => mk_lt hm)) W hu) (fun W' hb => And.intro hb (h.next hb)))
    have SM := Lib.hid (fun W (h : NL w9 w.heap.size a ao l.length cap w3.heap.size so sn sc w5.heap.size l.length va na ca w6.heap.size l.length vb nb cb W) u v T (hu : IntsAt W u T) (hv : IntsAt W v T) => keep_call (same_true u v T W hu hv) (fun W' hb => And.intro hb (h.next hb)))
    have BE := Lib.hid (fun W (h : NL w9 w.heap.size a ao l.length cap w3.heap.size so sn sc w5.heap.size l.length va na ca w6.heap.size l.length vb nb cb W) => keep_call ((Best_yes a l _ _ _ _ Lc W HR.out.2.2 (NF.out W (BW9.out W h.below)) (HT.out W (BW9.out W h.below)) (S9.out W h.below).1 FE2.out).mono (fun _ _ ⟨t, e, h1, h2⟩ => And.intro (Exists.intro t (And.intro e h1)) h2)) (fun W' hb => h.next hb))
    have RB := Lib.hid (fun W (h : NL w9 w.heap.size a ao l.length cap w3.heap.size so sn sc w5.heap.size l.length va na ca w6.heap.size l.length vb nb cb W) => keep_call ((rbest_any a l _ _ _ o9 W (NF.out W (BW9.out W h.below)) HR.out.2.2 (O9.out.1.next h.below) O9.out.2.1).mono (fun _ _ ⟨t, e, h1, h2⟩ => And.intro (Exists.intro t (And.intro e h1)) h2)) (fun W' hb => h.next hb))
    have AV := Lib.hid (fun W (h : NL w9 w.heap.size a ao l.length cap w3.heap.size so sn sc w5.heap.size l.length va na ca w6.heap.size l.length vb nb cb W) => keep_call ((Alive_yes a l _ _ _ _ Lc W HR.out.2.2 (NF.out W (BW9.out W h.below)) (HT.out W (BW9.out W h.below)) (S9.out W h.below).1 FE2.out).mono (fun _ _ ⟨t, e, h1, h2⟩ => And.intro (Exists.intro t (And.intro e h1)) h2)) (fun W' hb => h.next hb))
    have RV := Lib.hid (fun W (h : NL w9 w.heap.size a ao l.length cap w3.heap.size so sn sc w5.heap.size l.length va na ca w6.heap.size l.length vb nb cb W) => keep_call ((ralive_any a l _ _ _ o9 W (NF.out W (BW9.out W h.below)) HR.out.2.1 HR.out.2.2 hn4 (O9.out.1.next h.below) O9.out.2.1).mono (fun _ _ ⟨t, e, h1, h2⟩ => And.intro (Exists.intro t (And.intro e h1)) h2)) (fun W' hb => h.next hb))
    have AL2 := Lib.hid (fun W (h : NL w9 w.heap.size a ao l.length cap w3.heap.size so sn sc w5.heap.size l.length va na ca w6.heap.size l.length vb nb cb W) => keep_call (AL.out W (BW9.out W h.below)) (fun W' hb => h.next hb))
    have UB := Lib.hid (fun t1 t2 (h1 : BestIs l (fun i => memL Lc i = true) t1) (h2 : BestIs l (fun i => mq o9 i = true) t2) => h1.uniq h2 (fun i _ => PE.out i))
    have UA : Hid (aliveP l (fun i => memL Lc i = true) ↔ aliveP l (fun i => mq o9 i = true)) := Lib.hid ⟨fun ⟨i, hi, hr, ht⟩ => ⟨i, hi, (Re.congr (fun j _ => PE.out j)).1 hr, ht⟩, fun ⟨i, hi, hr, ht⟩ => ⟨i, hi, (Re.congr (fun j _ => PE.out j)).2 hr, ht⟩⟩
    (try unfold setV at QS QA QB BE AV)
    (try unfold nfaV at NS NT BE AV RB RV)
    clear P4 P9 BW S7 A7 D7 O8 N0 n0 n1 AM RC NF HL HT HR FE2 AL A5 D6
    go_wp2
    go_region_held3 (fun W => W.cell? ⟨w.heap.size, 0, none⟩ = some (.int .i64 a) ∧ W.cell? ⟨w.heap.size, 1, none⟩ = some (.slice ao l.length cap) ∧ W.cell? ⟨w3.heap.size, 0, none⟩ = some (.int .i64 (l.length : Nat)) ∧ W.cell? ⟨w3.heap.size, 1, none⟩ = some (.slice so sn sc) ∧ W.cell? ⟨w5.heap.size, 0, none⟩ = some (.int .i64 (l.length : Nat)) ∧ W.cell? ⟨w5.heap.size, 1, none⟩ = some (.slice va na ca) ∧ W.cell? ⟨w6.heap.size, 0, none⟩ = some (.int .i64 (l.length : Nat)) ∧ W.cell? ⟨w6.heap.size, 1, none⟩ = some (.slice vb nb cb) ∧ Below w9.heap.size w9 W) (first | assumption | exact NL.next N9.out ((Below.refl _ _).drew) | go_keep)
      (first
      | (go_at_call 19; (first | (with_reducible refine (QS.out _ (by assumption)).mono ?_) | (with_reducible refine (QA.out _ (by assumption)).mono ?_) | (with_reducible refine (QB.out _ (by assumption)).mono ?_)); rintro e w10 ⟨⟨ai, ci, rfl, h1⟩, hb, hS'⟩; go_must (have I1 := Lib.hid h1; clear h1 hb))
      | (go_at_call 20; (first | (with_reducible refine (NI.out _ (by assumption)).mono ?_) | (with_reducible refine (NA.out _ (by assumption) _ _ _ OA.out.1 OA.out.2.1 OA.out.2.2).mono ?_) | (with_reducible refine (NB.out _ (by assumption) _ _ _ OB.out.1 OB.out.2.1 OB.out.2.2).mono ?_)); rintro e w11 ⟨⟨aj, cj, rfl, h1⟩, hb, hS'⟩; go_must (have I3 := Lib.hid (I1.out.next hb); have I2 := Lib.hid h1; clear h1 hb))
      | (go_at_call 21; (with_reducible refine (NS.out _ (by assumption)).mono ?_); rintro e w12 ⟨⟨ao12, ac12, o12, rfl, h1, h2, h3⟩, hb, hS'⟩; go_must (have OA := Lib.hid (And.intro h1 (And.intro h2 h3)); have I4 := Lib.hid (I1.out.next hb); clear h1 h2 h3 hb I1; have I1 := I4; clear I4))
      | (go_at_call 22; (with_reducible refine (NT.out _ (by assumption)).mono ?_); rintro e w13 ⟨⟨ao13, ac13, o13, rfl, h1, h2, h3⟩, hb, hS'⟩; go_must (have OB := Lib.hid (And.intro h1 (And.intro h2 h3)); have I4 := Lib.hid (I1.out.next hb); clear h1 h2 h3 hb I1; have I1 := I4; clear I4))
      | (go_at_call 18; (with_reducible refine (SM.out _ (by assumption) _ _ _ I3.out I2.out).mono ?_); rintro e w14 ⟨rfl, hb, hS'⟩; go_must (clear hb))
      | fail)
    go_wp2
    go_region_held3 (fun W => W.cell? ⟨w.heap.size, 0, none⟩ = some (.int .i64 a) ∧ W.cell? ⟨w.heap.size, 1, none⟩ = some (.slice ao l.length cap) ∧ W.cell? ⟨w3.heap.size, 0, none⟩ = some (.int .i64 (l.length : Nat)) ∧ W.cell? ⟨w3.heap.size, 1, none⟩ = some (.slice so sn sc) ∧ W.cell? ⟨w5.heap.size, 0, none⟩ = some (.int .i64 (l.length : Nat)) ∧ W.cell? ⟨w5.heap.size, 1, none⟩ = some (.slice va na ca) ∧ W.cell? ⟨w6.heap.size, 0, none⟩ = some (.int .i64 (l.length : Nat)) ∧ W.cell? ⟨w6.heap.size, 1, none⟩ = some (.slice vb nb cb) ∧ Below w9.heap.size w9 W) (first | assumption | exact NL.next (by assumption) ((Below.refl _ _).drew) | go_keep)
      (first
      | (go_at_call 14; (with_reducible refine (BE.out _ (by assumption)).mono ?_); rintro e w15 ⟨⟨t1, rfl, h1⟩, hS'⟩; go_must (have T1 := Lib.hid h1; clear h1))
      | (go_at_call 23; (with_reducible refine (RB.out _ (by assumption)).mono ?_); rintro e w16 ⟨⟨t2, rfl, h1⟩, hS'⟩; go_must (have T2 := UB.out _ _ T1.out h1; subst T2; clear h1 T1))
      | (go_at_call 15; (with_reducible refine (AV.out _ (by assumption)).mono ?_); rintro e w17 ⟨⟨q1, rfl, h1⟩, hS'⟩; go_must (have Q1 := Lib.hid h1; clear h1))
      | (go_at_call 24; (with_reducible refine (RV.out _ (by assumption)).mono ?_); rintro e w18 ⟨⟨q2, rfl, h1⟩, hS'⟩; go_must (have Q2 : q1 = q2 := Bool.eq_iff_iff.2 ((Q1.out.trans UA.out).trans h1.symm); subst Q2; clear h1 Q1))
      | (go_at_call 7; (with_reducible refine (AL2.out _ (by assumption)).mono ?_); rintro e w19 ⟨rfl, hS'⟩)
      | fail)
    go_wp2
    go_ret
    exact ⟨rfl, BW9.out _ hS'.below⟩

end Go.Proofs.YtfbphiamelongaaDoor.Cl

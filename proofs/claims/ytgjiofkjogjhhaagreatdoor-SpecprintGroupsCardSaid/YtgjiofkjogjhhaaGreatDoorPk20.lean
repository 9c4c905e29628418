/- The document's words of an action; what is wrong with a rule, by the document. What is wrong with a spec, by the document. Is a spec too much to be asked of? A spec's text, by the document. The law of specprint's Check and Print, walked. The tables of digits, out of a row's listed variables. What a row's spec and listed variables give to the walk of SpecprintChecks. -/
import Derived.Test.YtgjiofkjogjhhaaGreatDoorPk19
import Derived.Test.YtgjiofkjogjhhaaGreatDoorPk10
import Derived.Test.YtgjiofkjogjhhaaGreatDoorPk11
import Derived.Test.YtgjiofkjogjhhaaGreatDoorPk12
import Derived.Test.YtgjiofkjogjhhaaGreatDoorPk16
import Derived.Test.YtgjiofkjogjhhaaGreatDoorPk17
import Derived.Deep.RegionHeld3
import Derived.Test.YtgjiofkjogjhhaaGreatDoorPk04
import Derived.Test.YtgjiofkjogjhhaaGreatDoorRows
import Derived.Stop.LaidErr

namespace Go.Proofs.YtgjiofkjogjhhaaGreatDoor.Sp
open Go Go.RowKit Go.Shelf
open Go.Proofs.YtgjiofkjogjhhaaGreatDoor.Ar (Nd nd Tr Ok TreeAt checkE check_ok Near rcheck_any)
open Go.Proofs.YtgjiofkjogjhhaaGreatDoor.Rg (nthL)
open Go.Proofs.YtgjiofkjogjhhaaGreatDoor.Wd (nameL name_both)
open Go.Proofs.YtgjiofkjogjhhaaGreatDoor.Ac (bE numL joinB joinW actW textB isE_no empty_no strs_at)
open Go.Proofs.YtgjiofkjogjhhaaGreatDoor.Rp (textL deepL rprint_any near_len rdeep_any scan_tree Tells heapA heapB belA)

theorem retX {a b : ByteArray} (h : a = b) : Ending.returned (.string a) = .returned (.string b) := by rw [h]
set_option maxHeartbeats 1000000 in
theorem rtext_any (em : ByteArray) (g : Int) (M : List ByteArray) (v : Value) (w : World) (hv : StrsAt w v M) (he : em.size ≤ 1000) (hs : ∀ j, j < M.length → (M.getD j bE).size ≤ 1000) (hg : g = -1 ∨ (0 ≤ g ∧ g < M.length)) :
    Calls Tryz.prog 36 #[.agg #[.string em, .int .i64 g], v] w fun e w' => e = .returned (.string (textB em g M)) ∧ Below w.heap.size w w' := by
  obtain ⟨ao, cap, rfl, hm, hc⟩ := strs_at hv
  have HB := Lib.hid ((Below.refl w.heap.size w).alloc (Nat.le_refl _) (.cells #[.string em, .int .i64 g] 34))
  clear hv
  rcases hg with rfl | ⟨h0, h1⟩
  · by_cases hb : em = bE
    · have hb' : em = ⟨#[]⟩ := hb
      have HZ : Hid (textB em (-1) M = ⟨#[115, 107, 105, 112]⟩) := Lib.hid (by unfold textB actW; rw [if_pos hb, if_pos rfl]; rfl)
      generalize textB em (-1) M = T at *
      subst hb'
      clear hb hc
      go_enter Tryz.func36, Tryz.ntmps36
      go_wp2
      go_ret
      exact ⟨retX HZ.out.symm, HB.out⟩
    · have d0 := isE_no hb
      have d1 := empty_no hb
      have HZ : Hid (textB em (-1) M = (⟨#[101, 109, 105, 116, 32]⟩ : ByteArray) ++ em) := Lib.hid (by unfold textB actW joinB; rw [if_neg hb, if_pos rfl]; simp [joinW, Ac.bEmit, ByteArray.ext_iff])
      generalize textB em (-1) M = T at *
      clear hb hc
      go_enter Tryz.func36, Tryz.ntmps36
      go_wp2
      go_ret
      exact ⟨retX HZ.out.symm, HB.out⟩
  · obtain ⟨q, rfl⟩ := Int.eq_ofNat_of_zero_le h0
    have hq : q < M.length := by omega
    obtain ⟨ad, rfl, c0⟩ := hc q hq
    have hsz := hs q hq
    have c1 := cell_next c0 HB.out
    have hl1 := cell_lt c0
    have hgn : ¬ ((q : Int) = -1) := by omega
    by_cases hb : em = bE
    · have hb' : em = ⟨#[]⟩ := hb
      have HZ : Hid (textB em (q : Int) M = (⟨#[115, 107, 105, 112]⟩ : ByteArray) ++ ⟨#[32, 103, 111, 116, 111, 32]⟩ ++ M.getD q bE) := Lib.hid (by unfold textB actW joinB; rw [if_pos hb, if_neg hgn]; simp [joinW, Ac.bSkip, Ac.bGoto, ByteArray.ext_iff])
      generalize textB em (q : Int) M = T at *
      generalize M.getD q bE = x at *
      subst hb'
      clear hb hc c0 hgn
      go_enter Tryz.func36, Tryz.ntmps36
      go_wp2
      go_ret
      exact ⟨retX (by rw [HZ.out]), HB.out⟩
    · have d0 := isE_no hb
      have d1 := empty_no hb
      have HZ : Hid (textB em (q : Int) M = (⟨#[101, 109, 105, 116, 32]⟩ : ByteArray) ++ em ++ ⟨#[32, 103, 111, 116, 111, 32]⟩ ++ M.getD q bE) := Lib.hid (by unfold textB actW joinB; rw [if_neg hb, if_neg hgn]; simp [joinW, Ac.bEmit, Ac.bGoto, ByteArray.ext_iff])
      generalize textB em (q : Int) M = T at *
      generalize M.getD q bE = x at *
      clear hb hc c0 hgn
      go_enter Tryz.func36, Tryz.ntmps36
      go_wp2
      go_ret
      exact ⟨retX (by rw [HZ.out]), HB.out⟩

/-- what the document's look at a rule may take for granted -/
structure FitR (r : Rl) : Prop where
  em : r.em.size ≤ 60
  near : Near r.t
set_option maxRecDepth 100000 in
set_option maxHeartbeats 2000000 in
theorem rrule_mode (r : Rl) (m : Nat) (v : Value) (w : World) (hv : RuleAt w v r) (h : (!isM r.mode m || (!decide (r.go = -1) && !isM r.go m)) = true) :
    Calls Tryz.prog 19 #[v, .int .i64 (m : Nat)] w fun e w' => e = .returned (.int .i64 11) ∧ Below w.heap.size w w' := by
  obtain ⟨no, ncap, so, scap, rfl, ht⟩ := hv
  have HB := Lib.hid ((Below.refl w.heap.size w).alloc (Nat.le_refl _) (.cells #[.int .i64 r.mode, .slice no r.t.ns.length ncap, .slice so r.t.sets.length scap, .int .i64 r.t.root, .string r.em, .int .i64 r.go] 40))
  have hk : r.mode < 0 ∨ (m : Int) ≤ r.mode ∨ r.go < -1 ∨ (m : Int) ≤ r.go := by
    simp only [isM, Bool.or_eq_true, Bool.and_eq_true, Bool.not_eq_true', decide_eq_false_iff_not, Bool.and_eq_false_iff] at h
    omega
  clear h ht
  generalize r.mode = p at *
  generalize r.go = q at *
  by_cases h0 : p < 0
  · clear hk
    go_enter Tryz.func19, Tryz.ntmps19
    go_wp2
    go_ret
    exact ⟨rfl, HB.out⟩
  · by_cases h1 : (m : Int) ≤ p
    · clear hk
      go_enter Tryz.func19, Tryz.ntmps19
      go_wp2
      go_ret
      exact ⟨rfl, HB.out⟩
    · by_cases h2 : q < -1
      · clear hk
        go_enter Tryz.func19, Tryz.ntmps19
        go_wp2
        go_ret
        exact ⟨rfl, HB.out⟩
      · have h3 : (m : Int) ≤ q := by omega
        clear hk
        go_enter Tryz.func19, Tryz.ntmps19
        go_wp2
        go_ret
        exact ⟨rfl, HB.out⟩
theorem firstE5 (a b c d e : Int) : firstE [a, b, c, d, e] = if a ≠ 0 then a else if b ≠ 0 then b else if c ≠ 0 then c else if d ≠ 0 then d else if e ≠ 0 then e else 0 := by
  unfold firstE firstE firstE firstE firstE firstE
  by_cases h1 : a = 0 <;> by_cases h2 : b = 0 <;> by_cases h3 : c = 0 <;> by_cases h4 : d = 0 <;> by_cases h5 : e = 0 <;> simp [h1, h2, h3, h4, h5]
section
variable {m : Nat} {r : Rl}
theorem ruleE_mode (h : (!isM r.mode m || (!decide (r.go = -1) && !isM r.go m)) = true) : ruleE m r = 11 := by
  unfold ruleE ruleL; rw [firstE5, h]; simp [eIf]
theorem ruleE_name (h : (!isM r.mode m || (!decide (r.go = -1) && !isM r.go m)) = false) (h2 : (!decide (r.em = bE) && !nameL r.em.data.toList) = true) : ruleE m r = 4 := by
  unfold ruleE ruleL; rw [firstE5, h, h2]; simp [eIf]
theorem ruleE_tree (h : (!isM r.mode m || (!decide (r.go = -1) && !isM r.go m)) = false) (h2 : (!decide (r.em = bE) && !nameL r.em.data.toList) = false) (h3 : checkE r.t ≠ 0) : ruleE m r = checkE r.t := by
  unfold ruleE ruleL; rw [firstE5, h, h2]; simp [eIf, h3]
theorem ruleE_deep (h : (!isM r.mode m || (!decide (r.go = -1) && !isM r.go m)) = false) (h2 : (!decide (r.em = bE) && !nameL r.em.data.toList) = false) (h3 : checkE r.t = 0) (h4 : 32 < deepL r.t.ns r.t.root.toNat) : ruleE m r = 7 := by
  unfold ruleE ruleL; rw [firstE5, h, h2, h3]; simp [eIf, h4]
theorem ruleE_last (h : (!isM r.mode m || (!decide (r.go = -1) && !isM r.go m)) = false) (h2 : (!decide (r.em = bE) && !nameL r.em.data.toList) = false) (h3 : checkE r.t = 0) (h4 : ¬ 32 < deepL r.t.ns r.t.root.toNat) : ruleE m r = eIf (nulT r.t) 8 := by
  unfold ruleE ruleL; rw [firstE5, h, h2, h3]; cases nulT r.t <;> simp [eIf, h4]
end
theorem nul_row (t : Tr) : Dv.rowB t [] = nulT t := by rw [Bool.eq_iff_iff, Dv.rowB_iff, nulT_iff]
theorem ints_none (w : World) : IntsAt w (.slice none 0 0) [] := .inl ⟨rfl, rfl⟩

set_option maxRecDepth 100000 in
set_option maxHeartbeats 4000000 in
theorem rrule_any (r : Rl) (m : Nat) (v : Value) (w : World) (hv : RuleAt w v r) (hf : FitR r) :
    Calls Tryz.prog 19 #[v, .int .i64 (m : Nat)] w fun e w' => e = .returned (.int .i64 (ruleE m r)) ∧ Below w.heap.size w w' := by
  cases h1 : (!isM r.mode m || (!decide (r.go = -1) && !isM r.go m))
  case true => rw [ruleE_mode h1]; exact rrule_mode r m v w hv h1
  case false =>
  obtain ⟨no, ncap, so, scap, rfl, ht⟩ := hv
  have hb := (Below.refl w.heap.size w).alloc (Nat.le_refl _) (.cells #[.int .i64 r.mode, .slice no r.t.ns.length ncap, .slice so r.t.sets.length scap, .int .i64 r.t.root, .string r.em, .int .i64 r.go] 40)
  have x0 : (w.alloc (.cells #[.int .i64 r.mode, .slice no r.t.ns.length ncap, .slice so r.t.sets.length scap, .int .i64 r.t.root, .string r.em, .int .i64 r.go] 40)).heap[w.heap.size]? = some (.cells #[.int .i64 r.mode, .slice no r.t.ns.length ncap, .slice so r.t.sets.length scap, .int .i64 r.t.root, .string r.em, .int .i64 r.go] 40 (0, 0)) := heapA rfl
  have RBX := Lib.hid (⟨x0, ht.next hb⟩ : RB w.heap.size r no ncap so scap _)
  have HB := Lib.hid hb
  have HT := Lib.hid (fun X (hX : Below w.heap.size w X) => ht.next hX)
  have hq : 0 ≤ r.mode ∧ r.mode < m ∧ -1 ≤ r.go ∧ r.go < m := by
    simp only [isM, Bool.or_eq_false_iff, Bool.and_eq_false_iff, Bool.not_eq_false', Bool.and_eq_true, decide_eq_true_eq] at h1
    omega
  obtain ⟨q0, q1, q2, q3⟩ := hq
  have NM := Lib.hid (fun W => (name_both r.em (by have := hf.em; unfold maxLen; omega) W).2)
  have CK := Lib.hid (fun X (hX : Below w.heap.size w X) => rcheck_any r.t _ X (HT.out X hX) (fun k hk => by have := hf.near.each k hk; omega))
  have E4 := Lib.hid (fun h => ruleE_name h1 h)
  have E3 := Lib.hid (fun h h' => ruleE_tree h1 h h')
  have E7 := Lib.hid (fun h h' h'' => ruleE_deep h1 h h' h'')
  have E8 := Lib.hid (fun h h' h'' => ruleE_last h1 h h' h'')
  clear ht hb x0 h1
  cases h2 : (!decide (r.em = bE) && !nameL r.em.data.toList)
  case true =>
    rw [E4.out h2]
    obtain ⟨n1, n2⟩ : r.em ≠ bE ∧ nameL r.em.data.toList = false := by simpa using h2
    rw [n2] at NM
    have d0 := isE_no n1
    have d1 := empty_no n1
    clear E4 E3 E7 E8 h2 n1 n2 HT CK hf
    go_enter Tryz.func19, Tryz.ntmps19
    go_upto_region 1 with fail
    generalize w.alloc (.cells #[.int .i64 r.mode, .slice no r.t.ns.length ncap, .slice so r.t.sets.length scap, .int .i64 r.t.root, .string r.em, .int .i64 r.go] 40) = W1 at *
    obtain ⟨c0, c1, c2, c3, c4, c5⟩ := RBX.out.cells
    go_wp2_with (first
      | (go_at_call 17; (with_reducible refine (NM.out _).mono ?_); rintro e w' ⟨rfl, hw⟩; subst hw)
      | fail)
    go_ret
    exact ⟨rfl, HB.out⟩
  case false =>
  -- the ways of a name that is none, or right
  have hnm : r.em = bE ∨ (r.em ≠ bE ∧ nameL r.em.data.toList = true) := by
    by_cases e : r.em = bE
    · exact .inl e
    · right; refine ⟨e, ?_⟩; simpa [e] using h2
  obtain ⟨c0, c1, c2, c3, c4, c5⟩ := RBX.out.cells
  have l0 := cell_lt c0
  by_cases h3 : checkE r.t = 0
  · obtain ⟨ok, hN, _⟩ := check_ok h3
    have hr0 := ok.root0
    have hr1 := ok.root1
    obtain ⟨q, hq⟩ := Int.eq_ofNat_of_zero_le hr0
    have hqn : q < r.t.ns.length := by omega
    have PR := Lib.hid (fun X (hX : Below w.heap.size w X) => rprint_any r.t ok hf.near q hqn _ X (HT.out X hX))
    have DP := Lib.hid (fun X => rdeep_any (textL r.t.sets r.t.ns q) X (near_len ok hf.near hqn))
    rw [scan_tree ok hqn] at DP
    have RW := Lib.hid (fun X (hX : Below w.heap.size w X) => Dv.rrow_any ok (HT.out X hX) hN (ints_none X) (by simp))
    rw [nul_row] at RW
    unfold Tells at PR
    rw [h3] at CK
    have E7' := Lib.hid (fun h => E7.out h2 h3 h)
    have E8' := Lib.hid (fun h => E8.out h2 h3 h)
    rw [hq, Int.toNat_natCast] at E7' E8'
    rw [hq] at c0 c1 c2 c3 c4 c5 l0 HB PR CK RW ⊢
    clear E4 E3 E7 E8 h2 RBX HT hf ok hr0 hr1 hq h3 hN
    generalize ruleE m r = E at *
    generalize textL r.t.sets r.t.ns q = T at *
    generalize deepL r.t.ns q = D at *
    generalize nulT r.t = N at *
    generalize r.mode = p at *
    generalize r.go = g at *
    generalize r.em = em at *
    generalize r.t.ns.length = nl at *
    generalize r.t.sets.length = sl at *
    by_cases hd : 32 < D
    · have HZ := Lib.hid (E7'.out hd)
      clear E7' E8' RW
      rcases hnm with e | ⟨n1, n2⟩
      · have e' : em = ⟨#[]⟩ := e
        subst e'
        clear e NM
        go_enter Tryz.func19, Tryz.ntmps19
        go_upto_region 1 with fail
        generalize w.alloc (.cells #[.int .i64 p, .slice no nl ncap, .slice so sl scap, .int .i64 (q : Int), .string ⟨#[]⟩, .int .i64 g] 40) = W1 at *
        go_wp2_with (first
          | (go_at_call 14; (with_reducible refine (CK.out _ HB.out).mono ?_); rintro e w2 ⟨rfl, hb2⟩; go_must (have k0 := cell_next c0 hb2; have k1 := cell_next c1 hb2; have k2 := cell_next c2 hb2; have k3 := cell_next c3 hb2; have k4 := cell_next c4 hb2; have k5 := cell_next c5 hb2; have B2 := Lib.hid (HB.out.trans (hb2.mono HB.out.size)); clear hb2))
          | (go_at_call 35; (with_reducible refine (PR.out _ B2.out).mono ?_); rintro e w3 ⟨rfl, hb3⟩; go_must (have j0 := cell_next k0 hb3; have j1 := cell_next k1 hb3; have j2 := cell_next k2 hb3; have j3 := cell_next k3 hb3; have j4 := cell_next k4 hb3; have j5 := cell_next k5 hb3; have B3 := Lib.hid (B2.out.trans (hb3.mono B2.out.size)); clear hb3))
          | (go_at_call 42; (with_reducible refine (DP.out _).mono ?_); rintro e w' ⟨rfl, hw⟩; subst hw)
          | fail)
        go_ret
        exact ⟨retE HZ.out.symm, B3.out⟩
      · rw [n2] at NM
        have d0 := isE_no n1
        have d1 := empty_no n1
        clear n1 n2
        go_enter Tryz.func19, Tryz.ntmps19
        go_upto_region 1 with fail
        generalize w.alloc (.cells #[.int .i64 p, .slice no nl ncap, .slice so sl scap, .int .i64 (q : Int), .string em, .int .i64 g] 40) = W1 at *
        go_wp2_with (first
          | (go_at_call 17; (with_reducible refine (NM.out _).mono ?_); rintro e w' ⟨rfl, hw⟩; subst hw)
          | (go_at_call 14; (with_reducible refine (CK.out _ HB.out).mono ?_); rintro e w2 ⟨rfl, hb2⟩; go_must (have k0 := cell_next c0 hb2; have k1 := cell_next c1 hb2; have k2 := cell_next c2 hb2; have k3 := cell_next c3 hb2; have k4 := cell_next c4 hb2; have k5 := cell_next c5 hb2; have B2 := Lib.hid (HB.out.trans (hb2.mono HB.out.size)); clear hb2))
          | (go_at_call 35; (with_reducible refine (PR.out _ B2.out).mono ?_); rintro e w3 ⟨rfl, hb3⟩; go_must (have j0 := cell_next k0 hb3; have j1 := cell_next k1 hb3; have j2 := cell_next k2 hb3; have j3 := cell_next k3 hb3; have j4 := cell_next k4 hb3; have j5 := cell_next k5 hb3; have B3 := Lib.hid (B2.out.trans (hb3.mono B2.out.size)); clear hb3))
          | (go_at_call 42; (with_reducible refine (DP.out _).mono ?_); rintro e w' ⟨rfl, hw⟩; subst hw)
          | fail)
        go_ret
        exact ⟨retE HZ.out.symm, B3.out⟩
    · have HZ := Lib.hid (E8'.out hd)
      clear E7' E8'
      cases N
      all_goals (
        rcases hnm with e | ⟨n1, n2⟩
        · have e' : em = ⟨#[]⟩ := e
          subst e'
          clear e NM
          go_enter Tryz.func19, Tryz.ntmps19
          go_upto_region 1 with fail
          generalize w.alloc (.cells #[.int .i64 p, .slice no nl ncap, .slice so sl scap, .int .i64 (q : Int), .string ⟨#[]⟩, .int .i64 g] 40) = W1 at *
          go_wp2_with (first
            | (go_at_call 14; (with_reducible refine (CK.out _ HB.out).mono ?_); rintro e w2 ⟨rfl, hb2⟩; go_must (have k0 := cell_next c0 hb2; have k1 := cell_next c1 hb2; have k2 := cell_next c2 hb2; have k3 := cell_next c3 hb2; have k4 := cell_next c4 hb2; have k5 := cell_next c5 hb2; have B2 := Lib.hid (HB.out.trans (hb2.mono HB.out.size)); clear hb2))
            | (go_at_call 35; (with_reducible refine (PR.out _ B2.out).mono ?_); rintro e w3 ⟨rfl, hb3⟩; go_must (have j0 := cell_next k0 hb3; have j1 := cell_next k1 hb3; have j2 := cell_next k2 hb3; have j3 := cell_next k3 hb3; have j4 := cell_next k4 hb3; have j5 := cell_next k5 hb3; have B3 := Lib.hid (B2.out.trans (hb3.mono B2.out.size)); clear hb3))
            | (go_at_call 42; (with_reducible refine (DP.out _).mono ?_); rintro e w' ⟨rfl, hw⟩; subst hw)
            | (go_at_call 43; (with_reducible refine (RW.out _ B3.out).mono ?_); rintro e w4 ⟨rfl, hb4⟩; go_must (have B4 := Lib.hid (B3.out.trans (hb4.mono B3.out.size)); clear hb4))
            | fail)
          go_ret
          exact ⟨retE HZ.out.symm, B4.out⟩
        · rw [n2] at NM
          have d0 := isE_no n1
          have d1 := empty_no n1
          clear n1 n2
          go_enter Tryz.func19, Tryz.ntmps19
          go_upto_region 1 with fail
          generalize w.alloc (.cells #[.int .i64 p, .slice no nl ncap, .slice so sl scap, .int .i64 (q : Int), .string em, .int .i64 g] 40) = W1 at *
          go_wp2_with (first
            | (go_at_call 17; (with_reducible refine (NM.out _).mono ?_); rintro e w' ⟨rfl, hw⟩; subst hw)
            | (go_at_call 14; (with_reducible refine (CK.out _ HB.out).mono ?_); rintro e w2 ⟨rfl, hb2⟩; go_must (have k0 := cell_next c0 hb2; have k1 := cell_next c1 hb2; have k2 := cell_next c2 hb2; have k3 := cell_next c3 hb2; have k4 := cell_next c4 hb2; have k5 := cell_next c5 hb2; have B2 := Lib.hid (HB.out.trans (hb2.mono HB.out.size)); clear hb2))
            | (go_at_call 35; (with_reducible refine (PR.out _ B2.out).mono ?_); rintro e w3 ⟨rfl, hb3⟩; go_must (have j0 := cell_next k0 hb3; have j1 := cell_next k1 hb3; have j2 := cell_next k2 hb3; have j3 := cell_next k3 hb3; have j4 := cell_next k4 hb3; have j5 := cell_next k5 hb3; have B3 := Lib.hid (B2.out.trans (hb3.mono B2.out.size)); clear hb3))
            | (go_at_call 42; (with_reducible refine (DP.out _).mono ?_); rintro e w' ⟨rfl, hw⟩; subst hw)
            | (go_at_call 43; (with_reducible refine (RW.out _ B3.out).mono ?_); rintro e w4 ⟨rfl, hb4⟩; go_must (have B4 := Lib.hid (B3.out.trans (hb4.mono B3.out.size)); clear hb4))
            | fail)
          go_ret
          exact ⟨retE HZ.out.symm, B4.out⟩)
  · have HZ := Lib.hid (E3.out h2 h3)
    have dne : (checkE r.t != 0) = true := by simpa using h3
    clear E4 E3 E7 E8 h2 RBX HT hf h3
    generalize ruleE m r = E at *
    generalize checkE r.t = C at *
    generalize r.mode = p at *
    generalize r.go = g at *
    generalize r.em = em at *
    generalize r.t.ns.length = nl at *
    generalize r.t.sets.length = sl at *
    generalize r.t.root = rt at *
    rcases hnm with e | ⟨n1, n2⟩
    · have e' : em = ⟨#[]⟩ := e
      subst e'
      clear e NM
      go_enter Tryz.func19, Tryz.ntmps19
      go_upto_region 1 with fail
      generalize w.alloc (.cells #[.int .i64 p, .slice no nl ncap, .slice so sl scap, .int .i64 rt, .string ⟨#[]⟩, .int .i64 g] 40) = W1 at *
      go_wp2_with (first
        | (go_at_call 14; (with_reducible refine (CK.out _ HB.out).mono ?_); rintro e w2 ⟨rfl, hb2⟩; go_must (have k0 := cell_next c0 hb2; have k1 := cell_next c1 hb2; have k2 := cell_next c2 hb2; have k3 := cell_next c3 hb2; have k4 := cell_next c4 hb2; have k5 := cell_next c5 hb2; have B2 := Lib.hid (HB.out.trans (hb2.mono HB.out.size)); clear hb2))
        | (go_at_call 14; (with_reducible refine (CK.out _ B2.out).mono ?_); rintro e w3 ⟨rfl, hb3⟩; go_must (have B3 := Lib.hid (B2.out.trans (hb3.mono B2.out.size)); clear hb3))
        | fail)
      go_ret
      exact ⟨retE HZ.out.symm, B3.out⟩
    · rw [n2] at NM
      have d0 := isE_no n1
      have d1 := empty_no n1
      clear n1 n2
      go_enter Tryz.func19, Tryz.ntmps19
      go_upto_region 1 with fail
      generalize w.alloc (.cells #[.int .i64 p, .slice no nl ncap, .slice so sl scap, .int .i64 rt, .string em, .int .i64 g] 40) = W1 at *
      go_wp2_with (first
        | (go_at_call 17; (with_reducible refine (NM.out _).mono ?_); rintro e w' ⟨rfl, hw⟩; subst hw)
        | (go_at_call 14; (with_reducible refine (CK.out _ HB.out).mono ?_); rintro e w2 ⟨rfl, hb2⟩; go_must (have k0 := cell_next c0 hb2; have k1 := cell_next c1 hb2; have k2 := cell_next c2 hb2; have k3 := cell_next c3 hb2; have k4 := cell_next c4 hb2; have k5 := cell_next c5 hb2; have B2 := Lib.hid (HB.out.trans (hb2.mono HB.out.size)); clear hb2))
        | (go_at_call 14; (with_reducible refine (CK.out _ B2.out).mono ?_); rintro e w3 ⟨rfl, hb3⟩; go_must (have B3 := Lib.hid (B2.out.trans (hb3.mono B2.out.size)); clear hb3))
        | fail)
      go_ret
      exact ⟨retE HZ.out.symm, B3.out⟩

end Go.Proofs.YtgjiofkjogjhhaaGreatDoor.Sp

namespace Go.Proofs.YtgjiofkjogjhhaaGreatDoor.Sp
open Go Go.RowKit Go.Shelf
open Go.Proofs.YtgjiofkjogjhhaaGreatDoor.Ar (Nd nd Tr Ok TreeAt checkE check_ok Near)
open Go.Proofs.YtgjiofkjogjhhaaGreatDoor.Rg (nthL)
open Go.Proofs.YtgjiofkjogjhhaaGreatDoor.Wd (nameL name_both)
open Go.Proofs.YtgjiofkjogjhhaaGreatDoor.Ac (bE numL modesB mdB md_yes md_no modes_any strs_at)
open Go.Proofs.YtgjiofkjogjhhaaGreatDoor.Rp (heapA heapB belA)

/-- what the document's look at a spec may take for granted -/
structure FitQ (M : List ByteArray) (l : List Rl) : Prop where
  names : ∀ j, j < M.length → (M.getD j bE).size ≤ 60
  rules : ∀ i, i < l.length → FitR (rl l i)
theorem md_unlike {M : List ByteArray} (h : namesB M = true) : mdB M = unlikeB M := by
  cases hu : unlikeB M
  · refine md_no fun hm => ?_
    rw [Bool.eq_false_iff] at hu
    exact hu (unlike_iff.2 fun i hi => (hm i hi).2)
  · exact md_yes fun i hi => ⟨names_iff.1 h i hi, unlike_iff.1 hu i hi⟩
section
variable {M : List ByteArray} {l : List Rl}
theorem specE_none (h : (decide (M.length = 0) || decide (l.length = 0)) = true) : specE M l = 10 := by unfold specE specL; rw [firstE5, h]; simp [eIf]
theorem specE_big (h : (decide (M.length = 0) || decide (l.length = 0)) = false) (h2 : (decide (16 < M.length) || decide (128 < l.length)) = true) : specE M l = 6 := by unfold specE specL; rw [firstE5, h, h2]; simp [eIf]
theorem specE_name (h : (decide (M.length = 0) || decide (l.length = 0)) = false) (h2 : (decide (16 < M.length) || decide (128 < l.length)) = false) (h3 : namesB M = false) : specE M l = 4 := by unfold specE specL; rw [firstE5, h, h2, h3]; simp [eIf]
theorem specE_twice (h : (decide (M.length = 0) || decide (l.length = 0)) = false) (h2 : (decide (16 < M.length) || decide (128 < l.length)) = false) (h3 : namesB M = true) (h4 : unlikeB M = false) : specE M l = 5 := by unfold specE specL; rw [firstE5, h, h2, h3, h4]; simp [eIf]
theorem specE_rules (h : (decide (M.length = 0) || decide (l.length = 0)) = false) (h2 : (decide (16 < M.length) || decide (128 < l.length)) = false) (h3 : namesB M = true) (h4 : unlikeB M = true) : specE M l = rulesE M.length l := by
  unfold specE specL; rw [firstE5, h, h2, h3, h4]; simp only [eIf, Bool.not_true]; simp
  intro h; exact h.symm
end
set_option maxRecDepth 100000 in
set_option maxHeartbeats 4000000 in
theorem rcheck_spec (M : List ByteArray) (l : List Rl) (v : Value) (w : World) (hv : SpecAt w v M l) (hf : FitQ M l) :
    Calls Tryz.prog 7 #[v] w fun e w' => e = .returned (.int .i64 (specE M l)) ∧ Below w.heap.size w w' := by
  have HV := Lib.hid hv
  obtain ⟨mo, mcap, ro, rcap, rfl, hm, hl, hms, hr, _⟩ := hv.shape
  obtain ⟨ao, cap, e, _, hc⟩ := hr.shape
  simp only [Value.slice.injEq] at e
  obtain ⟨rfl, _, rfl⟩ := e
  obtain ⟨ao', cap', e, _, hmc⟩ := strs_at hms
  simp only [Value.slice.injEq] at e
  obtain ⟨rfl, _, rfl⟩ := e
  have HC := Lib.hid hc
  have HMC := Lib.hid hmc
  have b1 := (Below.refl w.heap.size w).alloc (Nat.le_refl _) (.cells #[.slice mo M.length mcap, .slice ro l.length rcap] 25)
  have S0 := Lib.hid (SBox.new w (.slice mo M.length mcap) (.slice ro l.length rcap))
  have B1 := Lib.hid b1
  have hW1s : (w.alloc (.cells #[.slice mo M.length mcap, .slice ro l.length rcap] 25)).heap.size = w.heap.size + 1 := World.size_alloc _ _
  have E1 := Lib.hid (@specE_none M l)
  have E2 := Lib.hid (@specE_big M l)
  have E3 := Lib.hid (@specE_name M l)
  have E4 := Lib.hid (@specE_twice M l)
  have E5 := Lib.hid (@specE_rules M l)
  have MD := Lib.hid (modes_any M _ _ (hms.next b1) (fun j hj => by have := hf.names j hj; omega))
  have MU := Lib.hid (@md_unlike M)
  have NSZ := Lib.hid hf.names
  have NIF := Lib.hid (@names_iff M)
  have OR := Lib.hid (fun i (hi : i < l.length) X v1 (h1 : RuleAt X v1 (rl l i)) => rrule_any (rl l i) M.length v1 X h1 (hf.rules i hi))
  have NO : Hid ((∀ j, j < l.length → ruleE M.length (rl l j) = 0) → rulesE M.length l = 0) := Lib.hid (fun hz => firstE_none (l := l.map (ruleE M.length)) (fun j hj => by rw [List.length_map] at hj; rw [mapE_at hj]; exact hz j hj))
  have YES : Hid (∀ i, i < l.length → (∀ j, j < i → ruleE M.length (rl l j) = 0) → ruleE M.length (rl l i) ≠ 0 → rulesE M.length l = ruleE M.length (rl l i)) := Lib.hid (fun i hi hz hne => (firstE_at (l := l.map (ruleE M.length)) (i := i) (by rw [List.length_map]; exact hi) (fun j hj => by rw [mapE_at (by omega)]; exact hz j hj) (by rw [mapE_at hi]; exact hne)).trans (mapE_at hi))
  clear hr hv hc hms hmc b1 hf HV
  generalize specE M l = E at *
  generalize rulesE M.length l = RE at *
  cases h1 : (decide (M.length = 0) || decide (l.length = 0))
  case true =>
    have HZ := Lib.hid (E1.out h1)
    simp only [Bool.or_eq_true, decide_eq_true_eq] at h1
    by_cases h0 : M.length = 0
    · have d0 : ((M.length : Int) == 0) = true := by simp [h0]
      clear h1 h0
      go_enter Tryz.func7, Tryz.ntmps7
      go_wp2
      go_ret
      exact ⟨retE HZ.out.symm, B1.out⟩
    · have d0 : ((M.length : Int) == 0) = false := by simpa using h0
      have d1 : ((l.length : Int) == 0) = true := by have := h1.resolve_left h0; simp [this]
      clear h1 h0
      go_enter Tryz.func7, Tryz.ntmps7
      go_wp2
      go_ret
      exact ⟨retE HZ.out.symm, B1.out⟩
  case false =>
  cases h2 : (decide (16 < M.length) || decide (128 < l.length))
  case true =>
    have HZ := Lib.hid (E2.out h1 h2)
    simp only [Bool.or_eq_true, decide_eq_true_eq] at h2
    simp only [Bool.or_eq_false_iff, decide_eq_false_iff_not] at h1
    have d0 : ((M.length : Int) == 0) = false := by simpa using h1.1
    have d1 : ((l.length : Int) == 0) = false := by simpa using h1.2
    by_cases h0 : 16 < M.length
    · have d2 : (16 : Int) < (M.length : Int) := by omega
      clear h1 h2 h0
      go_enter Tryz.func7, Tryz.ntmps7
      go_wp2
      go_ret
      exact ⟨retE HZ.out.symm, B1.out⟩
    · have d2 : ¬ (16 : Int) < (M.length : Int) := by omega
      have d3 : (128 : Int) < (l.length : Int) := by omega
      clear h1 h2 h0
      go_enter Tryz.func7, Tryz.ntmps7
      go_wp2
      go_ret
      exact ⟨retE HZ.out.symm, B1.out⟩
  case false =>
  have E3' := Lib.hid (E3.out h1 h2)
  have E4' := Lib.hid (E4.out h1 h2)
  have E5' := Lib.hid (E5.out h1 h2)
  simp only [Bool.or_eq_false_iff, decide_eq_false_iff_not] at h1 h2
  have d0 : ((M.length : Int) == 0) = false := by simpa using h1.1
  have d1 : ((l.length : Int) == 0) = false := by simpa using h1.2
  have d2 : ¬ (16 : Int) < (M.length : Int) := by omega
  have d3 : ¬ (128 : Int) < (l.length : Int) := by omega
  have hM16 : M.length ≤ 16 := by omega
  have hl128 : l.length ≤ 128 := by omega
  clear h1 h2 E1 E2 E3 E4 E5
  go_enter Tryz.func7, Tryz.ntmps7
  go_upto_region 1 with fail
  generalize w.alloc (.cells #[.slice mo M.length mcap, .slice ro l.length rcap] 25) = W1 at *
  obtain ⟨s0, s1⟩ := S0.out
  go_wp2
  go_loop [3] (fun i => ∃ k : Nat, k ≤ M.length ∧ i = .int .i64 k ∧ ∀ j, j < k → nameL (M.getD j bE).data.toList = true) (fun i => M.length - (intOf i).toNat)
  case atStart => exact ⟨0, by omega, rfl, fun j hj => by omega⟩
  case round =>
    obtain ⟨k, hk, rfl, hne⟩ := hrel
    have HN := Lib.hid hne
    clear hne
    by_cases hlt : k < M.length
    · obtain ⟨ad, rfl, c0⟩ := HMC.out k hlt
      have c1 := cell_next c0 B1.out
      have h0i : (0 : Int) ≤ k := by omega
      have h1i : (k : Int) < (M.length : Int) := by omega
      have hsz := NSZ.out k hlt
      have hlc := cell_lt c1
      have N1 : Hid (nameL (M.getD k bE).data.toList = false → E = 4) := Lib.hid (fun hn => E3'.out (Bool.eq_false_iff.2 fun h => by rw [NIF.out.1 h k hlt] at hn; cases hn))
      have Y1 : Hid (nameL (M.getD k bE).data.toList = true → ∀ j, j < k + 1 → nameL (M.getD j bE).data.toList = true) := Lib.hid (fun h j hj => by
        rcases Nat.lt_or_ge j k with h' | h'
        · exact HN.out j h'
        · obtain rfl : j = k := by omega
          exact h)
      clear c0
      generalize M.getD k bE = x at *
      have C := Lib.hid (fun W => (name_both x (by unfold maxLen; omega) W).2)
      cases hn : nameL x.data.toList
      · have HZ := Lib.hid (N1.out hn)
        rw [hn] at C
        clear hn N1 Y1
        go_wp2_with (go_at_call 17; (with_reducible refine (C.out _).mono ?_); rintro e w' ⟨rfl, rfl⟩)
        go_ret
        exact ⟨retE HZ.out.symm, B1.out⟩
      · have HY := Lib.hid (Y1.out hn)
        rw [hn] at C
        clear hn N1 Y1
        go_wp2_with (go_at_call 17; (with_reducible refine (C.out _).mono ?_); rintro e w' ⟨rfl, rfl⟩)
        go_round
        case rel => exact ⟨k + 1, by omega, by go_num, HY.out⟩
        case measure => simp [intOf]; omega
    · obtain rfl : k = M.length := by omega
      have hnm : namesB M = true := NIF.out.2 HN.out
      rw [MU.out hnm] at MD
      cases hu : unlikeB M
      · have HZ := Lib.hid (E4'.out hnm hu)
        rw [hu] at MD
        clear hu hnm
        go_wp2_with (first
          | (go_at_call 18; (with_reducible refine MD.out.mono ?_); rintro e w' ⟨rfl, hw⟩; subst hw)
          | fail)
        go_ret
        exact ⟨retE HZ.out.symm, B1.out⟩
      · have HZ := Lib.hid (E5'.out hnm hu)
        rw [hu] at MD
        clear hu hnm
        go_wp2_with (first
          | (go_at_call 18; (with_reducible refine MD.out.mono ?_); rintro e w' ⟨rfl, hw⟩; subst hw)
          | fail)
        go_loopw [4] (fun i wr => ∃ k : Nat, k ≤ l.length ∧ i = .int .i64 k ∧ (∀ j, j < k → ruleE M.length (rl l j) = 0) ∧ Below W1.heap.size W1 wr) (fun i _ => l.length - (intOf i).toNat)
        case atStart => exact ⟨0, by omega, rfl, fun j hj => by omega, Below.refl _ _⟩
        case round =>
          clear s0 s1 MD E3' E4' E5'
          obtain ⟨q, hq, rfl, hz, hb⟩ := hrel
          obtain ⟨wo, rfl⟩ : ∃ x, x = wr := ⟨_, rfl⟩
          have HZ0 := Lib.hid hz
          have HB := Lib.hid (B1.out.trans (hb.mono (by omega)))
          have HBW := Lib.hid hb
          obtain ⟨s0, s1⟩ := S0.out.next hb
          have ls := cell_lt s0
          by_cases hlt : q < l.length
          · obtain ⟨g, rfl, no, ncap, so, scap, hin⟩ := HC.out q hlt
            obtain ⟨d0', d1', d2', d3', d4', d5', dt⟩ := hin.next HB.out
            have ld := cell_lt d0'
            have OK := Lib.hid (fun X (hX : Below wo.heap.size wo X) => OR.out q hlt X _ ⟨no, ncap, so, scap, rfl, dt.next hX⟩)
            have Y1 := Lib.hid (YES.out q hlt hz)
            have Z1 : Hid (ruleE M.length (rl l q) = 0 → ∀ j, j < q + 1 → ruleE M.length (rl l j) = 0) := Lib.hid (fun h j hj => by
              rcases Nat.lt_or_ge j q with h' | h'
              · exact HZ0.out j h'
              · obtain rfl : j = q := by omega
                exact h)
            have h0i : (0 : Int) ≤ q := by omega
            have h1i : (q : Int) < (l.length : Int) := by omega
            clear hz hb hin dt OR
            generalize rl l q = r at *
            have HX : Hid (∀ x : Int, ruleE M.length r = x → True) := Lib.hid fun _ _ => trivial
            obtain ⟨x, hx⟩ : ∃ x, ruleE M.length r = x := ⟨_, rfl⟩
            rw [hx] at OK Y1 Z1
            clear hx HX
            go_upto_region 15 with fail
            go_region_held3 (fun W => W.cell? ⟨w.heap.size, 0, none⟩ = some (.slice mo M.length mcap) ∧ W.cell? ⟨w.heap.size, 1, none⟩ = some (.slice (some g) l.length rcap) ∧ W.cell? (g.add (q * 6)) = some (.int .i64 r.mode) ∧ W.cell? ⟨(g.add (q * 6)).block, (g.add (q * 6)).off + 1, none⟩ = some (.slice no r.t.ns.length ncap) ∧ W.cell? ⟨(g.add (q * 6)).block, (g.add (q * 6)).off + 2, none⟩ = some (.slice so r.t.sets.length scap) ∧ W.cell? ⟨(g.add (q * 6)).block, (g.add (q * 6)).off + 3, none⟩ = some (.int .i64 r.t.root) ∧ W.cell? ⟨(g.add (q * 6)).block, (g.add (q * 6)).off + 4, none⟩ = some (.string r.em) ∧ W.cell? ⟨(g.add (q * 6)).block, (g.add (q * 6)).off + 5, none⟩ = some (.int .i64 r.go)) (first | with_reducible exact ⟨s0, s1, d0', d1', d2', d3', d4', d5'⟩ | with_reducible exact ⟨ks0, ks1, kd0, kd1, kd2, kd3, kd4, kd5⟩ | go_keep)
              (first | (go_at_call 19; (with_reducible refine (OK.out _ Ms.below_drew1).mono ?_); rintro e w6 ⟨rfl, hb6'⟩; go_must (have hb6 := Ms.drew_back hb6'; have ks0 := cell_next s0 hb6; have ks1 := cell_next s1 hb6; have kd0 := cell_next d0' hb6; have kd1 := cell_next d1' hb6; have kd2 := cell_next d2' hb6; have kd3 := cell_next d3' hb6; have kd4 := cell_next d4' hb6; have kd5 := cell_next d5' hb6; have B6 := Lib.hid (HBW.out.trans (hb6.mono HBW.out.size)); have HB6 := Lib.hid (HB.out.trans (hb6.mono HB.out.size)); clear hb6 hb6')) | fail)
            all_goals (
              by_cases he : x = 0
              · have HZ2 := Lib.hid (Z1.out he)
                subst he
                clear Y1 Z1
                go_wp2_with fail
                go_roundw
                case rel => exact ⟨q + 1, by omega, by go_num, HZ2.out, B6.out⟩
                case measure => simp [intOf]; omega
              · have HF := Lib.hid (Y1.out he)
                have dx : (x != 0) = true := by simpa using he
                clear he Y1 Z1
                go_wp2_with fail
                go_ret
                exact ⟨retE (by rw [HZ.out, HF.out]), HB6.out⟩)
          · obtain rfl : q = l.length := by omega
            have HF := Lib.hid (NO.out hz)
            clear hz hb
            go_wp2
            go_ret
            exact ⟨retE (by rw [HZ.out, HF.out]), HB.out⟩
end Go.Proofs.YtgjiofkjogjhhaaGreatDoor.Sp

namespace Go.Proofs.YtgjiofkjogjhhaaGreatDoor.Sp
open Go Go.RowKit Go.Shelf
open Go.Proofs.YtgjiofkjogjhhaaGreatDoor.Ar (Nd nd Tr Ok TreeAt TBox checkE check_ok Near far_b farB_no farB_yes rcheck_any rsize_any bnd_gZ reck gZ)
open Go.Proofs.YtgjiofkjogjhhaaGreatDoor.Rg (nthL)
open Go.Proofs.YtgjiofkjogjhhaaGreatDoor.Ac (bE strs_at far_any far_no)
open Go.Proofs.YtgjiofkjogjhhaaGreatDoor.Rp (heapA heapB belA)

/-- what Far lets by -/
structure NearS (M : List ByteArray) (l : List Rl) : Prop where
  few : l.length ≤ 12
  modes : M.length ≤ 20
  fit : FitQ M l
def FarS (M : List ByteArray) (l : List Rl) (w : World) (e : Ending) (w' : World) : Prop := ∃ b : Bool, e = .returned (.bool b) ∧ (b = false → NearS M l) ∧ Below w.heap.size w w'
theorem FarS.yes {M : List ByteArray} {l : List Rl} {w w' : World} (hb : Below w.heap.size w w') : FarS M l w (.returned (.bool true)) w' := ⟨true, rfl, (fun h => by cases h), hb⟩
theorem FarS.no {M : List ByteArray} {l : List Rl} {w w' : World} (h : NearS M l) (hb : Below w.heap.size w w') : FarS M l w (.returned (.bool false)) w' := ⟨false, rfl, fun _ => h, hb⟩
set_option maxRecDepth 100000 in
set_option maxHeartbeats 8000000 in
theorem far_spec (M : List ByteArray) (l : List Rl) (v : Value) (w : World) (hv : SpecAt w v M l) :
    Calls Tryz.prog 5 #[v] w (FarS M l w) := by
  have HV := Lib.hid hv
  obtain ⟨mo, mcap, ro, rcap, rfl, hm, hl, hms, hr, _⟩ := hv.shape
  obtain ⟨ao, cap, e, _, hc⟩ := hr.shape
  simp only [Value.slice.injEq] at e
  obtain ⟨rfl, _, rfl⟩ := e
  have HC := Lib.hid hc
  have b1 := (Below.refl w.heap.size w).alloc (Nat.le_refl _) (.cells #[.slice mo M.length mcap, .slice ro l.length rcap] 25)
  have S0 := Lib.hid (SBox.new w (.slice mo M.length mcap) (.slice ro l.length rcap))
  have CF := Lib.hid (far_any M _ _ (hms.next b1))
  have FN := Lib.hid (@far_no M)
  have B1 := Lib.hid b1
  clear hr hv hc b1 hms HV
  generalize Ac.farB M = fm at *
  go_enter Tryz.func5, Tryz.ntmps5
  go_upto_region 1 with fail
  generalize w.alloc (.cells #[.slice mo M.length mcap, .slice ro l.length rcap] 25) = W1 at *
  obtain ⟨s0, s1⟩ := S0.out
  cases fm
  case true =>
    go_wp2_with (first | (go_at_call 12; (with_reducible refine CF.out.mono ?_); rintro e w' ⟨rfl, hw⟩; subst hw) | fail)
    go_ret
    exact FarS.yes B1.out
  case false =>
  by_cases h12 : 12 < l.length
  · have d12 : (12 : Int) < (l.length : Int) := by omega
    go_wp2_with (first | (go_at_call 12; (with_reducible refine CF.out.mono ?_); rintro e w' ⟨rfl, hw⟩; subst hw) | fail)
    go_ret
    exact FarS.yes B1.out
  · have d12 : ¬ (12 : Int) < (l.length : Int) := by omega
    have hl12 : l.length ≤ 12 := by omega
    have FNN := Lib.hid (FN.out rfl)
    go_wp2_with (first | (go_at_call 12; (with_reducible refine CF.out.mono ?_); rintro e w' ⟨rfl, hw⟩; subst hw) | fail)
    clear CF FN h12
    go_loopw [3] (fun i wr => ∃ k : Nat, i = .int .i64 k ∧ k ≤ l.length ∧ (∀ j, j < k → FitR (rl l j)) ∧ Below W1.heap.size W1 wr) (fun i _ => l.length - (intOf i).toNat)
    case atStart => exact ⟨0, rfl, Nat.zero_le _, fun j hj => by omega, Below.refl _ _⟩
    case round =>
      clear s0 s1
      obtain ⟨k, rfl, hk, hfit, hb⟩ := hrel
      obtain ⟨wo, rfl⟩ : ∃ x, x = wr := ⟨_, rfl⟩
      have HFIT := Lib.hid hfit
      have HB := Lib.hid (B1.out.trans (hb.mono B1.out.size))
      have HBW := Lib.hid hb
      obtain ⟨s0, s1⟩ := S0.out.next hb
      have ls := cell_lt s0
      by_cases hlt : k < l.length
      · obtain ⟨rg, rfl, no, ncap, so, scap, hin⟩ := HC.out k hlt
        obtain ⟨d0, d1, d2, d3, d4, d5, dt⟩ := hin.next HB.out
        have ld := cell_lt d0
        have h0i : (0 : Int) ≤ k := by omega
        have h1i : (k : Int) < (l.length : Int) := by omega
        have FITN : Hid (FitR (rl l k) → ∀ j, j < k + 1 → FitR (rl l j)) := Lib.hid (fun h j hj => by
          rcases Nat.lt_or_ge j k with h' | h'
          · exact HFIT.out j h'
          · obtain rfl : j = k := by omega
            exact h)
        clear hfit hb hin
        generalize rl l k = r at *
        have bx := (Below.refl wo.heap.size wo).alloc (Nat.le_refl _) (.cells #[.slice no r.t.ns.length ncap, .slice so r.t.sets.length scap, .int .i64 r.t.root] 38)
        have TB := Lib.hid (TBox.new wo (.slice no r.t.ns.length ncap) (.slice so r.t.sets.length scap) r.t.root)
        have BX := Lib.hid bx
        have HT := Lib.hid (fun X (hX : Below wo.heap.size wo X) => dt.next hX)
        have CFT := Lib.hid (fun X (hX : Below wo.heap.size wo X) => far_b r.t _ X (HT.out X hX))
        have sx0 := cell_next s0 bx
        have sx1 := cell_next s1 bx
        have dx4 := cell_next d4 bx
        have dx0 := cell_next d0 bx
        have HBWX := Lib.hid (HBW.out.trans (bx.mono HBW.out.size))
        have HBX := Lib.hid (HB.out.trans (bx.mono HB.out.size))
        go_upto_region 7 with fail
        clear bx s0 s1 d0 d1 d2 d3 d4 d5 dt ls ld
        generalize wo.alloc (.cells #[.slice no r.t.ns.length ncap, .slice so r.t.sets.length scap, .int .i64 r.t.root] 38) = X0 at *
        obtain ⟨t0, t1, t2⟩ := TB.out
        have lt := cell_lt t0
        by_cases hn : Near r.t
        · rw [farB_no hn] at CFT
          by_cases h30 : 30 < r.t.ns.length
          · have d30 : (30 : Int) < (r.t.ns.length : Int) := by omega
            go_wp2_with (first
              | (go_at_call 13; (with_reducible refine (CFT.out _ BX.out).mono ?_); rintro e w1 ⟨rfl, hb1⟩; go_must (have B5 := Lib.hid (HBX.out.trans (hb1.mono HBX.out.size)); have BX1 := Lib.hid (BX.out.trans (hb1.mono BX.out.size)); have HBW5 := Lib.hid (HBWX.out.trans (hb1.mono HBWX.out.size)); have dy0 := cell_next dx0 hb1; have dy4 := cell_next dx4 hb1; have sy0 := cell_next sx0 hb1; have sy1 := cell_next sx1 hb1; have u0 := cell_next t0 hb1; have u1 := cell_next t1 hb1; have u2 := cell_next t2 hb1; clear hb1))
              | fail)
            go_ret
            exact FarS.yes B5.out
          · have d30 : ¬ (30 : Int) < (r.t.ns.length : Int) := by omega
            by_cases h60 : 60 < r.em.size
            · have d60 : (60 : Int) < (r.em.size : Int) := by omega
              go_wp2_with (first
                | (go_at_call 13; (with_reducible refine (CFT.out _ BX.out).mono ?_); rintro e w1 ⟨rfl, hb1⟩; go_must (have B5 := Lib.hid (HBX.out.trans (hb1.mono HBX.out.size)); have BX1 := Lib.hid (BX.out.trans (hb1.mono BX.out.size)); have HBW5 := Lib.hid (HBWX.out.trans (hb1.mono HBWX.out.size)); have dy0 := cell_next dx0 hb1; have dy4 := cell_next dx4 hb1; have sy0 := cell_next sx0 hb1; have sy1 := cell_next sx1 hb1; have u0 := cell_next t0 hb1; have u1 := cell_next t1 hb1; have u2 := cell_next t2 hb1; clear hb1))
                | fail)
              go_ret
              exact FarS.yes B5.out
            · have d60 : ¬ (60 : Int) < (r.em.size : Int) := by omega
              have FIN := Lib.hid (FITN.out ⟨by omega, hn⟩)
              have CCT := Lib.hid (fun X (hX : Below wo.heap.size wo X) => rcheck_any r.t _ X (HT.out X hX) (fun j hj => by have := hn.each j hj; omega))
              by_cases hc : checkE r.t = 0
              · have hr0 := (check_ok hc).1.root0
                have hr1 := (check_ok hc).1.root1
                obtain ⟨q, hq⟩ := Int.eq_ofNat_of_zero_le hr0
                have hqn : q < r.t.ns.length := by omega
                have CZT := Lib.hid (fun X (hX : Below wo.heap.size wo X) => rsize_any r.t (check_ok hc).1 (bnd_gZ (check_ok hc).1 hn) q hqn _ X (HT.out X hX))
                rw [hc] at CCT
                rw [hq] at CZT CFT CCT t2 HT
                generalize reck gZ r.t.ns q = z at *
                clear hc hr0 hr1 hq hn hqn h30 h60 HT
                by_cases h100 : 100 < z
                · go_wp2_with (first
                    | (go_at_call 13; (with_reducible refine (CFT.out _ BX.out).mono ?_); rintro e w1 ⟨rfl, hb1⟩; go_must (have B5 := Lib.hid (HBX.out.trans (hb1.mono HBX.out.size)); have BX1 := Lib.hid (BX.out.trans (hb1.mono BX.out.size)); have HBW5 := Lib.hid (HBWX.out.trans (hb1.mono HBWX.out.size)); have dy0 := cell_next dx0 hb1; have dy4 := cell_next dx4 hb1; have sy0 := cell_next sx0 hb1; have sy1 := cell_next sx1 hb1; have u0 := cell_next t0 hb1; have u1 := cell_next t1 hb1; have u2 := cell_next t2 hb1; clear hb1))
                    | (go_at_call 14; (with_reducible refine (CCT.out _ BX1.out).mono ?_); rintro e w2 ⟨rfl, hb2⟩; go_must (have B6 := Lib.hid (B5.out.trans (hb2.mono B5.out.size)); have BX2 := Lib.hid (BX1.out.trans (hb2.mono BX1.out.size)); have HBW6 := Lib.hid (HBW5.out.trans (hb2.mono HBW5.out.size)); have sz0 := cell_next sy0 hb2; have sz1 := cell_next sy1 hb2; have v0 := cell_next u0 hb2; have v1 := cell_next u1 hb2; have v2 := cell_next u2 hb2; clear hb2))
                    | (go_at_call 15; (with_reducible refine (CZT.out _ BX2.out).mono ?_); rintro e w3 ⟨rfl, hb3⟩; go_must (have B7 := Lib.hid (B6.out.trans (hb3.mono B6.out.size)); have HBW7 := Lib.hid (HBW6.out.trans (hb3.mono HBW6.out.size)); clear hb3))
                    | fail)
                  go_ret
                  exact FarS.yes B7.out
                · go_wp2_with (first
                    | (go_at_call 13; (with_reducible refine (CFT.out _ BX.out).mono ?_); rintro e w1 ⟨rfl, hb1⟩; go_must (have B5 := Lib.hid (HBX.out.trans (hb1.mono HBX.out.size)); have BX1 := Lib.hid (BX.out.trans (hb1.mono BX.out.size)); have HBW5 := Lib.hid (HBWX.out.trans (hb1.mono HBWX.out.size)); have dy0 := cell_next dx0 hb1; have dy4 := cell_next dx4 hb1; have sy0 := cell_next sx0 hb1; have sy1 := cell_next sx1 hb1; have u0 := cell_next t0 hb1; have u1 := cell_next t1 hb1; have u2 := cell_next t2 hb1; clear hb1))
                    | (go_at_call 14; (with_reducible refine (CCT.out _ BX1.out).mono ?_); rintro e w2 ⟨rfl, hb2⟩; go_must (have B6 := Lib.hid (B5.out.trans (hb2.mono B5.out.size)); have BX2 := Lib.hid (BX1.out.trans (hb2.mono BX1.out.size)); have HBW6 := Lib.hid (HBW5.out.trans (hb2.mono HBW5.out.size)); have sz0 := cell_next sy0 hb2; have sz1 := cell_next sy1 hb2; have v0 := cell_next u0 hb2; have v1 := cell_next u1 hb2; have v2 := cell_next u2 hb2; clear hb2))
                    | (go_at_call 15; (with_reducible refine (CZT.out _ BX2.out).mono ?_); rintro e w3 ⟨rfl, hb3⟩; go_must (have B7 := Lib.hid (B6.out.trans (hb3.mono B6.out.size)); have HBW7 := Lib.hid (HBW6.out.trans (hb3.mono HBW6.out.size)); clear hb3))
                    | fail)
                  go_roundw
                  case rel => exact ⟨k + 1, rfl, by omega, FIN.out, HBW7.out⟩
                  case measure => simp [intOf]; omega
              · have hne : (checkE r.t == 0) = false := by simpa using hc
                generalize checkE r.t = E at *
                clear hc hn h30 h60 HT
                go_wp2_with (first
                  | (go_at_call 13; (with_reducible refine (CFT.out _ BX.out).mono ?_); rintro e w1 ⟨rfl, hb1⟩; go_must (have B5 := Lib.hid (HBX.out.trans (hb1.mono HBX.out.size)); have BX1 := Lib.hid (BX.out.trans (hb1.mono BX.out.size)); have HBW5 := Lib.hid (HBWX.out.trans (hb1.mono HBWX.out.size)); have dy0 := cell_next dx0 hb1; have dy4 := cell_next dx4 hb1; have sy0 := cell_next sx0 hb1; have sy1 := cell_next sx1 hb1; have u0 := cell_next t0 hb1; have u1 := cell_next t1 hb1; have u2 := cell_next t2 hb1; clear hb1))
                  | (go_at_call 14; (with_reducible refine (CCT.out _ BX1.out).mono ?_); rintro e w2 ⟨rfl, hb2⟩; go_must (have B6 := Lib.hid (B5.out.trans (hb2.mono B5.out.size)); have BX2 := Lib.hid (BX1.out.trans (hb2.mono BX1.out.size)); have HBW6 := Lib.hid (HBW5.out.trans (hb2.mono HBW5.out.size)); have sz0 := cell_next sy0 hb2; have sz1 := cell_next sy1 hb2; have v0 := cell_next u0 hb2; have v1 := cell_next u1 hb2; have v2 := cell_next u2 hb2; clear hb2))
                  | fail)
                go_roundw
                case rel => exact ⟨k + 1, rfl, by omega, FIN.out, HBW6.out⟩
                case measure => simp [intOf]; omega
        · rw [farB_yes hn] at CFT
          go_wp2_with (first
            | (go_at_call 13; (with_reducible refine (CFT.out _ BX.out).mono ?_); rintro e w1 ⟨rfl, hb1⟩; go_must (have B5 := Lib.hid (HBX.out.trans (hb1.mono HBX.out.size)); clear hb1))
            | fail)
          go_ret
          exact FarS.yes B5.out
      · obtain rfl : k = l.length := by omega
        have NS := Lib.hid (show NearS M l from ⟨hl12, FNN.out.1, ⟨FNN.out.2, HFIT.out⟩⟩)
        clear hfit hb
        go_wp2
        go_ret
        exact FarS.no NS.out HB.out
end Go.Proofs.YtgjiofkjogjhhaaGreatDoor.Sp

namespace Go.Proofs.YtgjiofkjogjhhaaGreatDoor.Ms
open Go Go.RowKit
theorem below_drew2 {n : Nat} {w : World} : Below n w w.drew := ⟨rfl, rfl, rfl, Nat.le_refl _, fun _ _ => rfl⟩
end Go.Proofs.YtgjiofkjogjhhaaGreatDoor.Ms

namespace Go.Proofs.YtgjiofkjogjhhaaGreatDoor.Sp
open Go Go.RowKit Go.Shelf
open Go.Proofs.YtgjiofkjogjhhaaGreatDoor.Ar (Nd nd Tr Ok TreeAt checkE check_ok Near)
open Go.Proofs.YtgjiofkjogjhhaaGreatDoor.Rg (nthL)
open Go.Proofs.YtgjiofkjogjhhaaGreatDoor.Wd (nameL)
open Go.Proofs.YtgjiofkjogjhhaaGreatDoor.Ac (bE numL textB strs_at)
open Go.Proofs.YtgjiofkjogjhhaaGreatDoor.Rp (textL rprint_any Tells run_join size_mk heapA heapB belA)

theorem modeB (acc : List UInt8) (x : ByteArray) (M : List ByteArray) (j : Nat) (h : M.getD j bE = x) : (⟨acc.toArray⟩ : ByteArray) ++ ⟨#[109, 111, 100, 101, 32]⟩ ++ x ++ ⟨#[10]⟩ = ⟨(acc ++ modeT M j).toArray⟩ := by
  unfold modeT; rw [h]; simp [ByteArray.ext_iff]
theorem lineB (acc : List UInt8) (M : List ByteArray) (r : Rl) : (⟨acc.toArray⟩ : ByteArray) ++ textB r.em r.go M ++ ⟨#[32, 58, 32]⟩ ++ ⟨(ruleT r).toArray⟩ ++ ⟨#[10]⟩ = ⟨(acc ++ lineT M r).toArray⟩ := by
  unfold lineT; simp [ByteArray.ext_iff]
theorem idxs_bound {l : List Rl} {m i n : Nat} (h : i ≤ n) : (idxs l m i).length ≤ (idxs l m n).length := by
  unfold idxs
  exact List.Sublist.length_le (List.Sublist.filter _ (List.range_sublist.2 h))

set_option maxRecDepth 100000 in
set_option maxHeartbeats 8000000 in
theorem rprint_spec (M : List ByteArray) (l : List Rl) (v : Value) (w : World) (hv : SpecAt w v M l) (hf : FitQ M l) (ok : OkS M l) (hl12 : l.length ≤ 12) :
    Calls Tryz.prog 10 #[v] w (RetP w (prS M l) (prE l)) := by
  have HV := Lib.hid hv
  obtain ⟨mo, mcap, ro, rcap, rfl, _, _, hms, hr, _⟩ := hv.shape
  obtain ⟨ao, cap, e, _, hc⟩ := hr.shape
  simp only [Value.slice.injEq] at e
  obtain ⟨rfl, _, rfl⟩ := e
  obtain ⟨ao', cap', e, _, hmc⟩ := strs_at hms
  simp only [Value.slice.injEq] at e
  obtain ⟨rfl, _, rfl⟩ := e
  have HC := Lib.hid hc
  have HMC := Lib.hid hmc
  have b1 := (Below.refl w.heap.size w).alloc (Nat.le_refl _) (.cells #[.slice mo M.length mcap, .slice ro l.length rcap] 25)
  have S0 := Lib.hid (SBox.new w (.slice mo M.length mcap) (.slice ro l.length rcap))
  have B1 := Lib.hid b1
  have TX := Lib.hid (fun i (hi : i < l.length) X (hX : Below w.heap.size w X) => rtext_any (rl l i).em (rl l i).go M _ X (hms.next hX) (by have := (hf.rules i hi).em; omega) (fun j hj => by have := hf.names j hj; omega) (rule_ok (ok.rules i hi)).go)
  have PR : Hid (∀ i, i < l.length → ∃ q : Nat, (rl l i).t.root = q ∧ ∀ v X, TreeAt X v (rl l i).t → Calls Tryz.prog 35 #[v, .int .i64 (q : Nat)] X fun e w' => e = .returned (.string ⟨(ruleT (rl l i)).toArray⟩) ∧ Below X.heap.size X w') := Lib.hid fun i hi => by
    have hc := (rule_ok (ok.rules i hi)).tree
    obtain ⟨okt, _, _⟩ := check_ok hc
    obtain ⟨q, hq⟩ := Int.eq_ofNat_of_zero_le okt.root0
    have hr1 := okt.root1
    refine ⟨q, hq, fun v X ht => ?_⟩
    have := rprint_any (rl l i).t okt (hf.rules i hi).near q (by omega) v X ht
    unfold ruleT
    rw [hq]
    exact this
  have TSZ := Lib.hid (fun i (hi : i < l.length) => act_size ok.names' (rule_ok (ok.rules i hi)).em (rule_ok (ok.rules i hi)).go)
  have LSZ := Lib.hid (fun i (hi : i < l.length) (h : (ruleT (rl l i)).length ≤ 4096) => line_len ok.names (rule_ok (ok.rules i hi)) h)
  have NSZ := Lib.hid (fun j (hj : j < M.length) => name_size (ok.names j hj))
  have MB := Lib.hid (fun acc x j h => modeB acc x M j h)
  have LB := Lib.hid (fun acc r => lineB acc M r)
  have BIG := Lib.hid (fun k (hk : k < l.length) (h : 4096 < (ruleT (rl l k)).length) => pr_big (l := l) ⟨k, hk, h⟩ M)
  have FITS := Lib.hid (fun (h : ¬ tooL l) => pr_fits ok hl12 h)
  have PROK := Lib.hid (fun (h : ¬ tooL l) => pr_ok h M)
  have ALLV := Lib.hid (fun (h : ∀ k, k ∈ grpL l M.length → (ruleT (rl l k)).length ≤ 4096) => (fun ⟨k, hk, h2⟩ => by
    have := (rule_ok (ok.rules k hk)).mode
    have := h k (grpL_of hk this.1 this.2)
    omega : ¬ tooL l))
  have MSZ : Hid (∀ j, j < M.length → (modeT M j).length ≤ 38) := Lib.hid fun j hj => by
    have := name_size (ok.names j hj)
    rw [Lib.size_eq] at this
    simp only [modeT, List.length_append, List.length_cons, List.length_nil]
    omega
  have hm16 := ok.m1
  have A0 := Lib.hid (allT_zero M l)
  have P0 := Lib.hid (show grpL l 0 = [] from rfl)
  have AS := Lib.hid (allT_succ M l)
  have GS := Lib.hid (grpL_succ l)
  have GLE := Lib.hid (grpL_le l)
  clear hv hf ok b1 hr hc hmc hms HV
  go_enter Tryz.func10, Tryz.ntmps10
  go_upto_region 1 with fail
  have hW1s : (w.alloc (.cells #[.slice mo M.length mcap, .slice ro l.length rcap] 25)).heap.size = w.heap.size + 1 := World.size_alloc _ _
  generalize w.alloc (.cells #[.slice mo M.length mcap, .slice ro l.length rcap] 25) = W1 at *
  go_wp2
  go_loopw [4, 5] (fun o i wr => ∃ j : Nat, i = .int .i64 j ∧ j ≤ M.length ∧ o = .string ⟨(allT M l j).toArray⟩ ∧ Below W1.heap.size W1 wr ∧ (∀ k, k ∈ grpL l j → (ruleT (rl l k)).length ≤ 4096) ∧ (allT M l j).length ≤ j * 38 + (grpL l j).length * 4175) (fun _ i _ => M.length - (intOf i).toNat)
  case atStart => exact ⟨0, rfl, Nat.zero_le _, (by rw [A0.out]), Below.refl _ _, (fun k hk => by rw [P0.out] at hk; cases hk), (by rw [A0.out]; simp)⟩
  case round =>
    obtain ⟨j, rfl, hj, rfl, hb, hsm, hlen⟩ := hrel
    obtain ⟨wo, rfl⟩ : ∃ x, x = wr := ⟨_, rfl⟩
    have HB := Lib.hid (B1.out.trans (hb.mono (by omega)))
    have HBW := Lib.hid hb
    have HSM := Lib.hid hsm
    have HLEN := Lib.hid hlen
    obtain ⟨s0, s1⟩ := S0.out.next hb
    have ls := cell_lt s0
    by_cases hlt : j < M.length
    · obtain ⟨ma, rfl, c0⟩ := HMC.out j hlt
      have c1 := cell_next c0 HB.out
      have hnsz := NSZ.out j hlt
      have h0i : (0 : Int) ≤ j := by omega
      have h1i : (j : Int) < (M.length : Int) := by omega
      have hlm := cell_lt c1
      have hgl : (grpL l j).length ≤ 12 := by have := GLE.out j; omega
      have hA1 : (allT M l j).length ≤ 60000 := by omega
      have hszA : (⟨(allT M l j).toArray⟩ : ByteArray).size = (allT M l j).length := rfl
      have MBj := Lib.hid (MB.out (allT M l j) (M.getD j bE) j rfl)
      have hmt := MSZ.out j hlt
      have ASj := Lib.hid (AS.out j)
      have GSj := Lib.hid (GS.out j)
      have GLj := Lib.hid (GLE.out (j + 1))
      have IZ := Lib.hid (idxs_zero l j)
      clear hb hsm hlen c0
      generalize M.getD j bE = mx at *
      generalize hmm : modeT M j = mt at *
      clear hmm
      obtain ⟨ab, hab⟩ : ∃ ab : ByteArray, (⟨(allT M l j).toArray⟩ : ByteArray) = ab := ⟨_, rfl⟩
      rw [hab] at hszA MBj ⊢
      have hba : ab.size ≤ 60000 := by omega
      clear hab hszA
      have IBD := Lib.hid (fun q (hq : q ≤ l.length) => idxs_bound (l := l) (m := j) hq)
      go_wp2
      clear s0 s1 c1 ls hlm
      go_loopw [4, 6] (fun o i wr => ∃ q : Nat, i = .int .i64 q ∧ q ≤ l.length ∧ o = .string ⟨(allT M l j ++ mt ++ rowT M l (idxs l j q)).toArray⟩ ∧ Below W1.heap.size W1 wr ∧ (∀ k, k ∈ idxs l j q → (ruleT (rl l k)).length ≤ 4096) ∧ (rowT M l (idxs l j q)).length ≤ (idxs l j q).length * 4175) (fun _ i _ => l.length - (intOf i).toNat)
      case atStart => exact ⟨0, rfl, Nat.zero_le _, (by rw [IZ.out, MBj.out]; simp [rowT]), HBW.out, (fun k hk => by rw [IZ.out] at hk; cases hk), (by rw [IZ.out]; simp [rowT])⟩
      case round =>
        obtain ⟨q, rfl, hq, rfl, hb, hsm, hlen⟩ := hrel
        obtain ⟨wo, rfl⟩ : ∃ x, x = wr := ⟨_, rfl⟩
        have HBx := Lib.hid (B1.out.trans (hb.mono (by omega)))
        have HBWx := Lib.hid hb
        have HSMx := Lib.hid hsm
        have HLENx := Lib.hid hlen
        obtain ⟨s0, s1⟩ := S0.out.next hb
        have ls := cell_lt s0
        by_cases hql : q < l.length
        · obtain ⟨rg, rfl, no, ncap, so, scap, hin⟩ := HC.out q hql
          obtain ⟨d0, d1, d2, d3, d4, d5, dt⟩ := hin.next HBx.out
          have ld := cell_lt d0
          have IY : Hid ((rl l q).mode = (j : Int) → idxs l j (q + 1) = idxs l j q ++ [q]) := Lib.hid idxs_yes
          have IN : Hid ((rl l q).mode ≠ (j : Int) → idxs l j (q + 1) = idxs l j q) := Lib.hid idxs_no
          have RS := Lib.hid (rowT_snoc M l (idxs l j q) q)
          obtain ⟨rt, hrt, PRq⟩ := PR.out q hql
          have PQ := Lib.hid (fun X (hX : Below wo.heap.size wo X) => PRq _ X (dt.next hX))
          have TQ := Lib.hid (fun X (hX : Below wo.heap.size wo X) => TX.out q hql X (HBx.out.trans (hX.mono HBx.out.size)))
          have tsz := TSZ.out q hql
          have LSq := Lib.hid (LSZ.out q hql)
          have BK := Lib.hid (BIG.out q hql)
          have LBq := Lib.hid (LB.out (allT M l j ++ mt ++ rowT M l (idxs l j q)) (rl l q))
          have IBq := IBD.out q hq
          have h0q : (0 : Int) ≤ q := by omega
          have h1q : (q : Int) < (l.length : Int) := by omega
          have hkl := idxs_len l j q
          have SMN : Hid ((ruleT (rl l q)).length ≤ 4096 → ∀ k, k ∈ idxs l j q ++ [q] → (ruleT (rl l k)).length ≤ 4096) := Lib.hid (fun h k hk => by
            rw [List.mem_append, List.mem_singleton] at hk
            rcases hk with hk | rfl
            · exact HSMx.out k hk
            · exact h)
          have hacc : (allT M l j ++ mt ++ rowT M l (idxs l j q)).length ≤ 200000 := by
            simp only [List.length_append]
            omega
          have hobs : (⟨(allT M l j ++ mt ++ rowT M l (idxs l j q)).toArray⟩ : ByteArray).size = (allT M l j ++ mt ++ rowT M l (idxs l j q)).length := rfl
          clear hb hsm hlen hin dt PRq HC PR TX BIG
          rw [hrt] at d3 PQ
          generalize rl l q = r at *
          by_cases hp : r.mode = (j : Int)
          · rw [hp] at d0
            have IYq := IY.out hp
            rw [← IYq] at RS SMN
            clear IY IN
            by_cases hbig : (ruleT r).length ≤ 4096
            · have SM2 := Lib.hid (SMN.out hbig)
              have hl1 := LSq.out hbig
              have hTs : (⟨(ruleT r).toArray⟩ : ByteArray).size = (ruleT r).length := rfl
              have hbi : ¬ (4096 : Int) < ((⟨(ruleT r).toArray⟩ : ByteArray).size : Int) := by omega
              generalize hlt' : (⟨(ruleT r).toArray⟩ : ByteArray) = TB at *
              generalize hob : (⟨(allT M l j ++ mt ++ rowT M l (idxs l j q)).toArray⟩ : ByteArray) = ob at *
              generalize textB r.em r.go M = A at *
              obtain ⟨x1, e1, z1, j1⟩ := run_join ob A (by omega)
              obtain ⟨x2, e2, z2, j2⟩ := run_join x1 ⟨#[32, 58, 32]⟩ (by show x1.size + 3 ≤ _; omega)
              have z2' : x2.size = x1.size + 3 := z2
              obtain ⟨x3, e3, z3, j3⟩ := run_join x2 TB (by omega)
              obtain ⟨x4, e4, z4, j4⟩ := run_join x3 ⟨#[10]⟩ (by show x3.size + 1 ≤ _; omega)
              have HX : Hid (x4 = ⟨(allT M l j ++ mt ++ rowT M l (idxs l j (q + 1))).toArray⟩) := Lib.hid (by rw [e4, e3, e2, e1, LBq.out, RS.out, List.append_assoc])
              clear e1 e2 e3 e4 z1 z2 z3 z4 z2' LBq BK SMN LSq hlt' hob
              go_upto_region 10 with fail
              go_region_held3 (fun W => W.cell? ⟨w.heap.size, 1, none⟩ = some (.slice (some rg) l.length rcap) ∧ W.cell? ⟨(rg.add (q * 6)).block, (rg.add (q * 6)).off + 1, none⟩ = some (.slice no r.t.ns.length ncap) ∧ W.cell? ⟨(rg.add (q * 6)).block, (rg.add (q * 6)).off + 2, none⟩ = some (.slice so r.t.sets.length scap) ∧ W.cell? ⟨(rg.add (q * 6)).block, (rg.add (q * 6)).off + 3, none⟩ = some (.int .i64 (rt : Nat))) (first | with_reducible exact ⟨s1, d1, d2, d3⟩ | with_reducible exact ⟨ks1, kd1, kd2, kd3⟩ | go_keep)
                (first | (go_at_call 35; (with_reducible refine (PQ.out _ Ms.below_drew1).mono ?_); rintro e w6 ⟨rfl, hb6'⟩; go_must (have hb6 := Ms.drew_back hb6'; have ks0 := cell_next s0 hb6; have ks1 := cell_next s1 hb6; have kd1 := cell_next d1 hb6; have kd2 := cell_next d2 hb6; have kd3 := cell_next d3 hb6; have kd4 := cell_next d4 hb6; have kd5 := cell_next d5 hb6; have B6 := Lib.hid (HBWx.out.trans (hb6.mono HBWx.out.size)); have HB6 := Lib.hid (HBx.out.trans (hb6.mono HBx.out.size)); have TQ6 := Lib.hid (TQ.out _ (hb6.trans Ms.below_drew2)); clear hb6 hb6')) | fail)
              all_goals (
                go_upto_region 13 with fail
                go_region_held3 (fun W => W.cell? ⟨w.heap.size, 0, none⟩ = some (.slice (some ma) M.length mcap) ∧ W.cell? ⟨w.heap.size, 1, none⟩ = some (.slice (some rg) l.length rcap) ∧ W.cell? ⟨(rg.add (q * 6)).block, (rg.add (q * 6)).off + 4, none⟩ = some (.string r.em) ∧ W.cell? ⟨(rg.add (q * 6)).block, (rg.add (q * 6)).off + 5, none⟩ = some (.int .i64 r.go)) (first | with_reducible exact ⟨ks0, ks1, kd4, kd5⟩ | with_reducible exact ⟨ms0, ms1, md4, md5⟩ | go_keep)
                  (first | (go_at_call 36; (with_reducible refine TQ6.out.mono ?_); rintro e w7 ⟨rfl, hb7'⟩; go_must (have hb7 := Ms.drew_back hb7'; have ms0 := cell_next ks0 hb7; have ms1 := cell_next ks1 hb7; have md4 := cell_next kd4 hb7; have md5 := cell_next kd5 hb7; have B7 := Lib.hid (B6.out.trans (hb7.mono B6.out.size)); clear hb7 hb7')) | fail)
                all_goals (
                  go_wp2_with fail
                  go_roundw
                  case rel => exact ⟨q + 1, by go_num, by omega, (by rw [HX.out]), B7.out, SM2.out, (by rw [RS.out, IYq, List.length_append, List.length_append]; have := HLENx.out; simp only [List.length_cons, List.length_nil]; omega)⟩
                  case measure => simp [intOf]; omega))
            · have BKP := Lib.hid (BK.out (by omega))
              have hbi : (4096 : Int) < ((⟨(ruleT r).toArray⟩ : ByteArray).size : Int) := by show (4096 : Int) < ((ruleT r).length : Int); omega
              generalize (⟨(ruleT r).toArray⟩ : ByteArray) = TB at *
              clear BK SMN LSq LBq
              go_upto_region 10 with fail
              go_region_held3 (fun W => W.cell? ⟨w.heap.size, 1, none⟩ = some (.slice (some rg) l.length rcap) ∧ W.cell? ⟨(rg.add (q * 6)).block, (rg.add (q * 6)).off + 1, none⟩ = some (.slice no r.t.ns.length ncap) ∧ W.cell? ⟨(rg.add (q * 6)).block, (rg.add (q * 6)).off + 2, none⟩ = some (.slice so r.t.sets.length scap) ∧ W.cell? ⟨(rg.add (q * 6)).block, (rg.add (q * 6)).off + 3, none⟩ = some (.int .i64 (rt : Nat))) (first | with_reducible exact ⟨s1, d1, d2, d3⟩ | with_reducible exact ⟨ks1, kd1, kd2, kd3⟩ | go_keep)
                (first | (go_at_call 35; (with_reducible refine (PQ.out _ Ms.below_drew1).mono ?_); rintro e w6 ⟨rfl, hb6'⟩; go_must (have hb6 := Ms.drew_back hb6'; have ks0 := cell_next s0 hb6; have ks1 := cell_next s1 hb6; have kd1 := cell_next d1 hb6; have kd2 := cell_next d2 hb6; have kd3 := cell_next d3 hb6; have kd4 := cell_next d4 hb6; have kd5 := cell_next d5 hb6; have B6 := Lib.hid (HBWx.out.trans (hb6.mono HBWx.out.size)); have HB6 := Lib.hid (HBx.out.trans (hb6.mono HBx.out.size)); have TQ6 := Lib.hid (TQ.out _ (hb6.trans Ms.below_drew2)); clear hb6 hb6')) | fail)
              all_goals (
                go_wp2_with fail
                go_ret2
                exact ⟨by rw [BKP.out.1, BKP.out.2]; rfl, HB6.out⟩)
          · have INq := IN.out hp
            have dm : (r.mode != (j : Int)) = true := by simpa using hp
            clear IY IN PQ TQ BK SMN LSq LBq
            go_wp2_with fail
            go_roundw
            case rel => exact ⟨q + 1, by go_num, by omega, (by rw [INq]), HBWx.out, (by rw [INq]; exact HSMx.out), (by rw [INq]; exact HLENx.out)⟩
            case measure => simp [intOf]; omega
        · obtain rfl : q = l.length := by omega
          clear hb hsm hlen
          go_wp2_with fail
          go_roundw
          case rel => exact ⟨j + 1, by go_num, by omega, (by rw [ASj.out, List.append_assoc]), HBWx.out, (fun k hk => by
            rw [GSj.out, List.mem_append] at hk
            rcases hk with hk | hk
            · exact HSM.out k hk
            · exact HSMx.out k hk), (by rw [ASj.out, GSj.out]; simp only [List.length_append]; have := HLENx.out; have := HLEN.out; omega)⟩
          case measure => simp [intOf]; omega
    · obtain rfl : j = M.length := by omega
      have hno := ALLV.out hsm
      have hfit := FITS.out hno
      have PP := Lib.hid (PROK.out hno)
      have hszT : (⟨(allT M l M.length).toArray⟩ : ByteArray).size = (allT M l M.length).length := rfl
      have hbi : ¬ (65536 : Int) < ((⟨(allT M l M.length).toArray⟩ : ByteArray).size : Int) := by omega
      have HRB := Lib.hid HB.out
      have HPS := Lib.hid (show (⟨(prS M l).toArray⟩ : ByteArray) = ⟨(allT M l M.length).toArray⟩ by rw [PP.out.1])
      clear hno hsm hlen hb HC BIG A0 P0 AS GS GLE FITS PROK ALLV HSM HLEN hszT hfit
      generalize (⟨(allT M l M.length).toArray⟩ : ByteArray) = TT at *
      go_wp2_with fail
      go_ret2
      exact ⟨by rw [PP.out.2, HPS.out]; rfl, HRB.out⟩
end Go.Proofs.YtgjiofkjogjhhaaGreatDoor.Sp

namespace Go.Proofs.YtgjiofkjogjhhaaGreatDoor.Sp
open Go Go.RowKit Go.Shelf
open Go.Proofs.YtgjiofkjogjhhaaGreatDoor.Ac (bE)
theorem NearS.fitS {M : List ByteArray} {l : List Rl} (h : NearS M l) : FitS M l :=
  ⟨fun j hj => by have := h.fit.names j hj; omega, fun i hi => ⟨by have := (h.fit.rules i hi).em; omega, (h.fit.rules i hi).near.each⟩⟩
set_option maxRecDepth 100000 in
set_option maxHeartbeats 8000000 in
theorem law_checks (M : List ByteArray) (l : List Rl) (v : Value) (w : World) (hv : SpecAt w v M l) (hst : Dg.St w) :
    Calls Tryz.prog 3 #[v] w fun e w' => e = .returned (.bool true) ∧ Below w.heap.size w w' := by
  have HV := Lib.hid hv
  obtain ⟨mo, mcap, ro, rcap, rfl, hm, hl, hms, hr, _⟩ := hv.shape
  have b1 := (Below.refl w.heap.size w).alloc (Nat.le_refl _) (.cells #[.slice mo M.length mcap, .slice ro l.length rcap] 25)
  have S0 := Lib.hid (SBox.new w (.slice mo M.length mcap) (.slice ro l.length rcap))
  have CF := Lib.hid (far_spec M l _ _ (HV.out.next b1))
  have B1 := Lib.hid b1
  have CA := Lib.hid (fun W (hb : Below w.heap.size w W) => alive_any W (hst.next hb))
  have CR := Lib.hid (fun W (hb : Below w.heap.size w W) (hn : NearS M l) => rcheck_spec M l _ W (HV.out.next hb) hn.fit)
  have CC := Lib.hid (fun W (hb : Below w.heap.size w W) (hn : NearS M l) => check_spec _ (HV.out.next hb) hn.fitS)
  have CPB := Lib.hid (fun W (hb : Below w.heap.size w W) (hn : NearS M l) (hne : specE M l ≠ 0) => print_bad M l _ W (HV.out.next hb) hn.fitS hne)
  have CPO := Lib.hid (fun W (hb : Below w.heap.size w W) (hn : NearS M l) (hz : specE M l = 0) => print_ok M l _ W (HV.out.next hb) hn.fitS (spec_ok hz) hz hn.few (hst.next hb))
  have CRP := Lib.hid (fun W (hb : Below w.heap.size w W) (hn : NearS M l) (hz : specE M l = 0) => rprint_spec M l _ W (HV.out.next hb) hn.fit (spec_ok hz) hn.few)
  clear hv hst HV b1 hms hr
  unfold FarS at CF
  unfold RetP at CPO CRP
  by_cases hz : specE M l = 0
  · have CP := Lib.hid (fun W hb hn => CPO.out W hb hn hz)
    have CRP' := Lib.hid (fun W hb hn => CRP.out W hb hn hz)
    rw [hz] at CR CC
    clear CPO CPB CRP
    have CRP := CRP'
    clear CRP' hz
    generalize prS M l = ps at *
    generalize prE l = pe at *
    go_enter Tryz.func3, Tryz.ntmps3
    go_upto_region 1 with fail
    generalize w.alloc (.cells #[.slice mo M.length mcap, .slice ro l.length rcap] 25) = W1 at *
    obtain ⟨s0, s1⟩ := S0.out
    go_wp2_with (first
      | (go_at_call 5; (with_reducible refine CF.out.mono ?_); rintro e w1 ⟨b, rfl, hnear, hb⟩; go_must (have t0 := cell_next s0 hb; have t1 := cell_next s1 hb; have B2 := Lib.hid (B1.out.trans (hb.mono B1.out.size)); have HN := Lib.hid hnear; clear hb hnear s0 s1))
      | (go_at_call 7; (with_reducible refine (CR.out _ B2.out (HN.out (by assumption))).mono ?_); rintro e w2 ⟨rfl, hb⟩; go_must (have u0 := cell_next t0 hb; have u1 := cell_next t1 hb; have B3 := Lib.hid (B2.out.trans (hb.mono B2.out.size)); clear hb t0 t1))
      | (go_at_call 8; (with_reducible refine (CP.out _ B3.out (HN.out (by assumption))).mono ?_); rintro e w3 ⟨rfl, hb⟩; go_must (have x0 := cell_next u0 hb; have x1 := cell_next u1 hb; have B4 := Lib.hid (B3.out.trans (hb.mono B3.out.size)); clear hb u0 u1))
      | (go_at_call 9; (with_reducible refine (CC.out _ B4.out (HN.out (by assumption))).mono ?_); rintro e w4 ⟨rfl, hb⟩; go_must (have y0 := cell_next x0 hb; have y1 := cell_next x1 hb; have B5 := Lib.hid (B4.out.trans (hb.mono B4.out.size)); clear hb x0 x1))
      | (go_at_call 10; (with_reducible refine (CRP.out _ B5.out (HN.out (by assumption))).mono ?_); rintro e w5 ⟨rfl, hb⟩; go_must (have z0 := cell_next y0 hb; have z1 := cell_next y1 hb; have B6 := Lib.hid (B5.out.trans (hb.mono B5.out.size)); clear hb y0 y1))
      | (go_at_call 6; (first | (with_reducible refine (CA.out _ B6.out).mono ?_) | (with_reducible refine (CA.out _ B5.out).mono ?_) | (with_reducible refine (CA.out _ B2.out).mono ?_)); rintro e w9 ⟨rfl, hb⟩; go_must ((first | (have B9 := Lib.hid (B6.out.trans (hb.mono B6.out.size))) | (have B9 := Lib.hid (B5.out.trans (hb.mono B5.out.size))) | (have B9 := Lib.hid (B2.out.trans (hb.mono B2.out.size)))); clear hb))
      | fail)
    all_goals (go_ret; exact ⟨rfl, B9.out⟩)
  · have CP := Lib.hid (fun W hb hn => CPB.out W hb hn hz)
    have hne : (specE M l != 0) = true := by simpa using hz
    clear CPO CPB CRP hz
    generalize specE M l = E at *
    go_enter Tryz.func3, Tryz.ntmps3
    go_upto_region 1 with fail
    generalize w.alloc (.cells #[.slice mo M.length mcap, .slice ro l.length rcap] 25) = W1 at *
    obtain ⟨s0, s1⟩ := S0.out
    go_wp2_with (first
      | (go_at_call 5; (with_reducible refine CF.out.mono ?_); rintro e w1 ⟨b, rfl, hnear, hb⟩; go_must (have t0 := cell_next s0 hb; have t1 := cell_next s1 hb; have B2 := Lib.hid (B1.out.trans (hb.mono B1.out.size)); have HN := Lib.hid hnear; clear hb hnear s0 s1))
      | (go_at_call 7; (with_reducible refine (CR.out _ B2.out (HN.out (by assumption))).mono ?_); rintro e w2 ⟨rfl, hb⟩; go_must (have u0 := cell_next t0 hb; have u1 := cell_next t1 hb; have B3 := Lib.hid (B2.out.trans (hb.mono B2.out.size)); clear hb t0 t1))
      | (go_at_call 8; (with_reducible refine (CP.out _ B3.out (HN.out (by assumption))).mono ?_); rintro e w3 ⟨rfl, hb⟩; go_must (have x0 := cell_next u0 hb; have x1 := cell_next u1 hb; have B4 := Lib.hid (B3.out.trans (hb.mono B3.out.size)); clear hb u0 u1))
      | (go_at_call 9; (with_reducible refine (CC.out _ B4.out (HN.out (by assumption))).mono ?_); rintro e w4 ⟨rfl, hb⟩; go_must (have y0 := cell_next x0 hb; have y1 := cell_next x1 hb; have B5 := Lib.hid (B4.out.trans (hb.mono B4.out.size)); clear hb x0 x1))
      | (go_at_call 6; (first | (with_reducible refine (CA.out _ B6.out).mono ?_) | (with_reducible refine (CA.out _ B5.out).mono ?_) | (with_reducible refine (CA.out _ B2.out).mono ?_)); rintro e w9 ⟨rfl, hb⟩; go_must ((first | (have B9 := Lib.hid (B6.out.trans (hb.mono B6.out.size))) | (have B9 := Lib.hid (B5.out.trans (hb.mono B5.out.size))) | (have B9 := Lib.hid (B2.out.trans (hb.mono B2.out.size)))); clear hb))
      | fail)
    all_goals (go_ret; exact ⟨rfl, B9.out⟩)
end Go.Proofs.YtgjiofkjogjhhaaGreatDoor.Sp

namespace Go.Proofs.YtgjiofkjogjhhaaGreatDoor.Dg
open Go.RowKit

theorem gTab : Tryz.prog.globalNamed "spool/digit.digits16" = some 1 := by kernel_rfl
theorem gTabType : (Tryz.prog.globals[1]?).map (·.type) = some 163 := by kernel_rfl
theorem cells22 : Tryz.prog.cellsOf 163 = 22 := by kernel_rfl
theorem cellsU8 : Tryz.prog.cellsOf 5 = 1 := by kernel_rfl
theorem gPow : Tryz.prog.globalNamed "internal/strconv.uint64pow10" = some 2 := by kernel_rfl
theorem gPowType : (Tryz.prog.globals[2]?).map (·.type) = some 172 := by kernel_rfl
theorem cells20 : Tryz.prog.cellsOf 172 = 20 := by kernel_rfl
theorem cellsU64 : Tryz.prog.cellsOf 166 = 1 := by kernel_rfl

theorem tab_of {W : World} (h : Lib.TabIs Tryz.prog W "spool/digit.digits16" .u8 (tab.map fun c => (c.toNat : Int))) : Tab W := by
  intro k hk
  have := h.cell gTab k (by simpa [tab] using hk)
  rw [this]
  congr 2
  simp [List.getD, List.getElem?_map]
  cases e : tab[k]? <;> simp

theorem st_of_laid {W : World} (h : laidMet Tryz.prog [("math/bits.deBruijn32tab", Rows.laid_math_bits_deBruijn32tab), ("math/bits.deBruijn64tab", Rows.laid_math_bits_deBruijn64tab), ("internal/strconv.uint64pow10", Rows.laid_internal_strconv_uint64pow10), ("spool/digit.digits16", Rows.laid_spool_digit_digits16)] W) : St W :=
  ⟨tab_of (Lib.tabIs_of_head (rest := []) gTab gTabType Tryz.underlying163 Tryz.underlying5 cellsU8 cells22 h.tail.tail.tail),
   Lib.tabIs_of_head gPow gPowType Tryz.underlying172 Tryz.underlying166 cellsU64 cells20 h.tail.tail⟩

end Go.Proofs.YtgjiofkjogjhhaaGreatDoor.Dg

namespace Go.Proofs.YtgjiofkjogjhhaaGreatDoor.Sp
open Go Go.RowKit Go.Shelf Go.ChangeShapes Go.WideShapes Go.Deep
set_option maxRecDepth 100000 in
theorem st_of_laid {W : World} (h : laidMet Tryz.prog [("math/bits.deBruijn32tab", Rows.laid_math_bits_deBruijn32tab), ("math/bits.deBruijn64tab", Rows.laid_math_bits_deBruijn64tab), ("internal/strconv.uint64pow10", Rows.laid_internal_strconv_uint64pow10), ("spool/digit.digits16", Rows.laid_spool_digit_digits16)] W) : Dg.St W := Dg.st_of_laid h
theorem walkChecks (M : List ByteArray) (l : List Rl) (v : Value) (w : World) (hv : SpecAt w v M l) (hst : Dg.St w) :
    Calls Tryz.prog 3 #[v] w fun e w' => e = .returned (.bool true) ∧ Below w.heap.size w w' := law_checks M l v w hv hst
end Go.Proofs.YtgjiofkjogjhhaaGreatDoor.Sp

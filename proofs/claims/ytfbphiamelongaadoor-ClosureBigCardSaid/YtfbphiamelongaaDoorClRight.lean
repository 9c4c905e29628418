/- Whether an automaton may be, by the program; what keeps one from being followed. -/
import Derived.Test.YtfbphiamelongaaDoorClMem
import Derived.Deep.DeepMust
import Derived.Deep.Cut
namespace Go.Proofs.YtfbphiamelongaaDoor.Cl
open Go Go.RowKit

theorem right_no {a : Int} {l : List St} {k : Nat} (hk : k < l.length) (h : stB l.length (st l k) = false) : rightB a l = false := by
  rw [Bool.eq_false_iff]
  intro hr
  have := stB_iff.2 ((right_iff.1 hr).2 k hk)
  rw [h] at this; cases this
theorem right_yes {a : Int} {l : List St} (h : ∀ k, k < l.length → stB l.length (st l k) = true) : rightB a l = hasB l.length a := by
  rw [Bool.eq_iff_iff, right_iff, hasB_iff]
  exact ⟨fun h => h.1, fun h1 => ⟨h1, fun i hi => stB_iff.1 (h i hi)⟩⟩
theorem st_no {n : Nat} {s : St} {j : Nat} (hj : j < s.eps.length) (h : hasB n (s.eps.getD j 0) = false) : stB n s = false := by
  rw [Bool.eq_false_iff]
  intro hs
  have := (stB_iff.1 hs).eps (s.eps.getD j 0) (by simp [List.getD, hj])
  rw [hasB_iff.2 this] at h; cases h
theorem st_yes {n : Nat} {s : St} (ht : ¬ s.tag < -1) (hg : goesB n s = true) (h : ∀ j, j < s.eps.length → hasB n (s.eps.getD j 0) = true) : stB n s = true := by
  unfold stB
  simp only [Bool.and_eq_true, Bool.not_eq_true', decide_eq_false_iff_not, List.all_eq_true]
  refine ⟨⟨ht, hg⟩, fun x hx => ?_⟩
  obtain ⟨j, hj, rfl⟩ := List.getElem_of_mem hx
  simpa [List.getD, hj] using h j hj

set_option maxRecDepth 100000 in
set_option maxHeartbeats 4000000 in
theorem right_any (a : Int) (l : List St) (sv : Value) (w : World) (h : StsAt w sv l) :
    Calls Tryd.prog 46 #[nfaV a sv] w fun e w' => e = .returned (.bool (rightB a l)) ∧ Below w.heap.size w w' := by
  obtain ⟨ao, cap, rfl, hm, hc⟩ := h.shape
  have HC := Lib.hid hc
  have NO := Lib.hid (fun k (hk : k < l.length) (h : stB l.length (st l k) = false) => right_no (a := a) hk h)
  have YES := Lib.hid (fun h => right_yes (a := a) (l := l) h)
  have HF := Lib.hid (fun i W => has_any a ao l.length cap i W)
  have GF := Lib.hid (fun s eo ec W => goes_any a ao l.length cap s eo ec W)
  have b1 := (Below.refl w.heap.size w).alloc (Nat.le_refl _) (.cells #[.int .i64 a, .slice ao l.length cap] 24)
  have S0 := Lib.hid (BoxC.new w #[.int .i64 a, .slice ao l.length cap] 24)
  have B1 := Lib.hid b1
  clear h hc b1
  generalize rightB a l = R at *
  unfold nfaV
  go_enter Tryd.func46, Tryd.ntmps46
  go_upto_region 1 with fail
  have hW1s : (w.alloc (.cells #[.int .i64 a, .slice ao l.length cap] 24)).heap.size = w.heap.size + 1 := World.size_alloc _ _
  generalize w.alloc (.cells #[.int .i64 a, .slice ao l.length cap] 24) = W1 at *
  have s0 := S0.out.cell 0 _ rfl
  have s1 := S0.out.cell 1 _ rfl
  go_wp2
  go_loopw [10] (fun i wr => ∃ k : Nat, k ≤ l.length ∧ i = .int .i64 k ∧ (∀ j, j < k → stB l.length (st l j) = true) ∧ Below W1.heap.size W1 wr) (fun i _ => l.length - (intOf i).toNat)
  case atStart => exact ⟨0, by omega, rfl, fun j hj => by omega, Below.refl _ _⟩
  case round =>
    clear s0 s1
    obtain ⟨k, hk, rfl, hz, hb⟩ := hrel
    obtain ⟨wo, rfl⟩ : ∃ x, x = wr := ⟨_, rfl⟩
    have HZ0 := Lib.hid hz
    have HB := Lib.hid (B1.out.trans (hb.mono (by omega)))
    have HBW := Lib.hid hb
    have bo := S0.out.next hb
    have s0 := bo.cell 0 _ rfl
    have s1 := bo.cell 1 _ rfl
    have ls := cell_lt s0
    by_cases hlt : k < l.length
    · obtain ⟨g, rfl, eo, ec, hin⟩ := HC.out k hlt
      have hin1 := hin.next HB.out
      obtain ⟨c0, c1, c2, c3, c4, ce⟩ := hin1
      have N1 := Lib.hid (NO.out k hlt)
      have Z1 : Hid (stB l.length (st l k) = true → ∀ j, j < k + 1 → stB l.length (st l j) = true) := Lib.hid (fun h j hj => by
        rcases Nat.lt_or_ge j k with h' | h'
        · exact HZ0.out j h'
        · obtain rfl : j = k := by omega
          exact h)
      have h0i : (0 : Int) ≤ k := by omega
      have h1i : (k : Int) < (l.length : Int) := by omega
      have CE := Lib.hid ce
      clear hz hb hin ce
      generalize st l k = s at *
      have G1 := Lib.hid (fun W => GF.out s eo ec W)
      have E1 := Lib.hid (fun j (hj : j < s.eps.length) h => N1.out (st_no hj h))
      have T1 := Lib.hid (fun (h : s.tag < -1) => N1.out (by simp [stB, h]))
      have GN := Lib.hid (fun (h : goesB l.length s = false) => N1.out (by simp [stB, h]))
      have Y1 := Lib.hid (fun h1 h2 h3 => Z1.out (st_yes h1 h2 h3))
      unfold stV at G1
      clear N1 Z1
      by_cases ht : s.tag < -1
      · have HZ := Lib.hid (T1.out ht)
        go_wp2
        go_ret
        exact ⟨retB HZ.out.symm, HB.out.alloc HB.out.size _⟩
      · cases hg : goesB l.length s
        · have HZ := Lib.hid (GN.out hg)
          rw [hg] at G1
          clear hg
          go_wp2_with (go_at_call 53; (with_reducible refine (G1.out _).mono ?_); rintro e w1 ⟨rfl, hb1⟩)
          go_ret
          exact ⟨retB HZ.out.symm, (HB.out.alloc HB.out.size _).trans (hb1.mono (HB.out.alloc HB.out.size _).size)⟩
        · have Y2 := Lib.hid (Y1.out ht hg)
          rw [hg] at G1
          clear hg
          have bs := Lib.hid (BoxC.new wo #[.int .i64 s.lo, .int .i64 s.hi, .int .i64 s.to, .slice eo s.eps.length ec, .int .i64 s.tag] 56)
          have BS := Lib.hid (bo.next ((Below.refl _ _).alloc (Nat.le_refl _) (.cells #[.int .i64 s.lo, .int .i64 s.hi, .int .i64 s.to, .slice eo s.eps.length ec, .int .i64 s.tag] 56)))
          have HB2 := Lib.hid (HBW.out.alloc HBW.out.size (.cells #[.int .i64 s.lo, .int .i64 s.hi, .int .i64 s.to, .slice eo s.eps.length ec, .int .i64 s.tag] 56))
          have CE2 := Lib.hid (CE.out.next ((Below.refl _ _).alloc (Nat.le_refl _) (.cells #[.int .i64 s.lo, .int .i64 s.hi, .int .i64 s.to, .slice eo s.eps.length ec, .int .i64 s.tag] 56)))
          go_upto_region 4 with fail
          have hWs : (wo.alloc (.cells #[.int .i64 s.lo, .int .i64 s.hi, .int .i64 s.to, .slice eo s.eps.length ec, .int .i64 s.tag] 56)).heap.size = wo.heap.size + 1 := World.size_alloc _ _
          clear s0 s1 c0 c1 c2 c3 c4 bo
          generalize wo.alloc (.cells #[.int .i64 s.lo, .int .i64 s.hi, .int .i64 s.to, .slice eo s.eps.length ec, .int .i64 s.tag] 56) = W2 at *
          have s0 := BS.out.cell 0 _ rfl
          have s1 := BS.out.cell 1 _ rfl
          have c0 := bs.out.cell 0 _ rfl
          have c1 := bs.out.cell 1 _ rfl
          have c2 := bs.out.cell 2 _ rfl
          have c3 := bs.out.cell 3 _ rfl
          have c4 := bs.out.cell 4 _ rfl
          go_wp2_with (go_at_call 53; (with_reducible refine (G1.out _).mono ?_); rintro e w1 ⟨rfl, hb1⟩; go_must (have c3' := cell_next c3 hb1))
          have BS3 := Lib.hid (BS.out.next hb1)
          have HB3 := Lib.hid (HB2.out.trans (hb1.mono HB2.out.size))
          obtain ⟨eo2, ec2, e2, he2, hc2⟩ := (CE2.out.next hb1).shape
          simp only [Value.slice.injEq] at e2
          obtain ⟨rfl, _, rfl⟩ := e2
          have HE := Lib.hid hc2
          clear hc2 s0 s1 c0 c1 c2 c3 c4 c3' hb1
          go_loopw [26] (fun i wr => ∃ j : Nat, j ≤ s.eps.length ∧ i = .int .i64 j ∧ (∀ q, q < j → hasB l.length (s.eps.getD q 0) = true) ∧ Below w1.heap.size w1 wr) (fun i _ => s.eps.length - (intOf i).toNat)
          case atStart => exact ⟨0, by omega, rfl, fun q hq => by omega, Below.refl _ _⟩
          case round =>
            obtain ⟨j, hj, rfl, hq, hb⟩ := hrel
            have HQ := Lib.hid hq
            have HBJ := Lib.hid hb
            have bo := BS3.out.next hb
            have s0 := bo.cell 0 _ rfl
            have s1 := bo.cell 1 _ rfl
            have ls := cell_lt s0
            clear hq hb
            by_cases hjl : j < s.eps.length
            · obtain ⟨ad, rfl, hcell0⟩ := HE.out j hjl
              have hcell := cell_next hcell0 HBJ.out
              have E2 := Lib.hid (E1.out j hjl)
              have Q2 : Hid (hasB l.length (s.eps.getD j 0) = true → ∀ q, q < j + 1 → hasB l.length (s.eps.getD q 0) = true) := Lib.hid (fun h q hq => by
                rcases Nat.lt_or_ge q j with h' | h'
                · exact HQ.out q h'
                · obtain rfl : q = j := by omega
                  exact h)
              clear hcell0
              generalize s.eps.getD j 0 = x at *
              have H1 := Lib.hid (fun W => HF.out x W)
              cases hx : hasB l.length x
              · have HZ := Lib.hid (E2.out hx)
                rw [hx] at H1
                clear hx
                go_wp2_with (go_at_call 54; (with_reducible refine (H1.out _).mono ?_); rintro e w2 ⟨rfl, hw⟩; subst hw)
                go_ret
                exact ⟨retB HZ.out.symm, B1.out.trans (((HB3.out.trans (HBJ.out.mono HB3.out.size)).alloc (HB3.out.trans (HBJ.out.mono HB3.out.size)).size _).mono (by omega))⟩
              · have HZ := Lib.hid (Q2.out hx)
                rw [hx] at H1
                clear hx
                go_wp2_with (go_at_call 54; (with_reducible refine (H1.out _).mono ?_); rintro e w2 ⟨rfl, hw⟩; subst hw)
                go_roundw
                case rel => exact ⟨j + 1, by omega, by go_num, HZ.out, HBJ.out.alloc HBJ.out.size _⟩
                case measure => simp [intOf]; omega
            · obtain rfl : j = s.eps.length := by omega
              have HY := Lib.hid (Y2.out HQ.out)
              go_wp2
              go_roundw
              case rel => exact ⟨k + 1, by omega, by go_num, HY.out, HB3.out.trans (HBJ.out.mono HB3.out.size)⟩
              case measure => simp [intOf]; omega
    · obtain rfl : k = l.length := by omega
      have HY := Lib.hid (YES.out hz)
      have H1 := Lib.hid (fun W => HF.out a W)
      clear hz hb
      go_wp2_with (go_at_call 54; (with_reducible refine (H1.out _).mono ?_); rintro e w2 ⟨rfl, hw⟩; subst hw)
      go_ret
      exact ⟨retB HY.out.symm, HB.out.alloc HB.out.size _⟩

/-- why an automaton can't be followed -/
def faultE (a : Int) (l : List St) : Int := if 4096 < l.length then 6 else if rightB a l = true then 0 else 3
theorem fault_any (a : Int) (l : List St) (v : Value) (w : World) (h : NfaAt w v a l) :
    Calls Tryd.prog 30 #[v] w fun e w' => e = .returned (.int .i64 (faultE a l)) ∧ Below w.heap.size w w' := by
  obtain ⟨sv, rfl, h⟩ := h
  have RF := Lib.hid (fun W (hW : Below w.heap.size w W) => right_any a l sv W (h.next hW))
  obtain ⟨ao, cap, rfl, hm, hc⟩ := h.shape
  have B1 := Lib.hid ((Below.refl w.heap.size w).alloc (Nat.le_refl _) (.cells #[.int .i64 a, .slice ao l.length cap] 24))
  have FE : Hid (faultE a l = if 4096 < l.length then 6 else if rightB a l = true then 0 else 3) := Lib.hid rfl
  clear hc h
  unfold nfaV at *
  generalize faultE a l = F at *
  by_cases hn : 4096 < l.length
  · rw [if_pos hn] at FE
    go_enter Tryd.func30, Tryd.ntmps30
    go_wp2
    go_ret
    exact ⟨retI FE.out.symm, B1.out⟩
  · rw [if_neg hn] at FE
    generalize rightB a l = R at *
    cases R
    · go_enter Tryd.func30, Tryd.ntmps30
      go_wp2_with (go_at_call 46; (with_reducible refine (RF.out _ B1.out).mono ?_); rintro e w1 ⟨rfl, hb1⟩)
      go_ret
      exact ⟨retI FE.out.symm, B1.out.trans (hb1.mono B1.out.size)⟩
    · go_enter Tryd.func30, Tryd.ntmps30
      go_wp2_with (go_at_call 46; (with_reducible refine (RF.out _ B1.out).mono ?_); rintro e w1 ⟨rfl, hb1⟩)
      go_ret
      exact ⟨retI FE.out.symm, B1.out.trans (hb1.mono B1.out.size)⟩

end Go.Proofs.YtfbphiamelongaaDoor.Cl

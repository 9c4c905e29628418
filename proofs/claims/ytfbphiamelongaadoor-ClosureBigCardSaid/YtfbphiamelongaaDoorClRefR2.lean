/- The document's Right and Far. -/
import Derived.Test.YtfbphiamelongaaDoorClRefR
namespace Go.Proofs.YtfbphiamelongaaDoor.Cl
open Go Go.RowKit

theorem right_part (a : Int) (l : List St) : rightB a l = (hasB l.length a && (l.take l.length).all (stB l.length)) := by
  rw [List.take_length, Bool.and_comm]; rfl
theorem right_snoc {l : List St} {n k : Nat} (h : k < l.length) : (l.take (k + 1)).all (stB n) = ((l.take k).all (stB n) && stB n (st l k)) := by
  rw [List.take_succ_eq_append_getElem h, List.all_append, st_eq h]; simp

theorem bdN {B : Nat} (w : World) (k : Nat) : Below B w (w.drewN k) := ⟨rfl, rfl, rfl, Nat.le_refl _, fun _ _ => rfl⟩

set_option maxRecDepth 100000 in
set_option maxHeartbeats 4000000 in
theorem rright_any (a : Int) (l : List St) (v : Value) (w : World) (h : NfaAt w v a l) :
    Calls Tryd.prog 12 #[v] w fun e w' => e = .returned (.bool (rightB a l)) ∧ Below w.heap.size w w' := by
  obtain ⟨sv, rfl, h⟩ := h
  obtain ⟨ao, cap, rfl, hm, hst⟩ := h.shape
  have HST := Lib.hid hst
  have SC := Lib.hid (fun s eo ec W (he : IntsAt W (.slice eo s.eps.length ec) s.eps) => rstate_any l.length s eo ec W he)
  have RP := Lib.hid (right_part a l)
  have RS := Lib.hid (fun k (hk : k < l.length) => right_snoc (n := l.length) hk)
  have HA : Hid (hasB l.length a = (decide (0 ≤ a) && decide (a < l.length))) := Lib.hid rfl
  have B1 := Lib.hid ((Below.refl w.heap.size w).alloc (Nat.le_refl _) (.cells #[.int .i64 a, .slice ao l.length cap] 24))
  have X := Lib.hid (at_new w (.cells #[.int .i64 a, .slice ao l.length cap] 24))
  clear hst h
  generalize rightB a l = R at *
  generalize hasB l.length a = ha at *
  unfold nfaV
  go_enter Tryd.func12, Tryd.ntmps12
  go_upto_region 1 with fail
  generalize w.alloc (.cells #[.int .i64 a, .slice ao l.length cap] 24) = W1 at *
  have c0 := at_cell X.out 0
  have c1 := at_cell X.out 1
  have hl := cell_lt c0
  go_cut [3] from 5 (fun x wx => x = .bool ha ∧ wx = W1)
  case first =>
    by_cases g0 : 0 ≤ a
    · by_cases g1 : a < l.length
      · have e : ha = true := by rw [HA.out]; simp [g0, g1]
        subst e
        clear HA RP
        go_wp2_with fail
        go_meet
        case rel => exact ⟨rfl, rfl⟩
      · have e : ha = false := by rw [HA.out]; simp [g1]
        subst e
        clear HA RP
        go_wp2_with fail
        go_meet
        case rel => exact ⟨rfl, rfl⟩
    · have e : ha = false := by rw [HA.out]; simp [g0]
      subst e
      clear HA RP
      go_wp2_with fail
      go_meet
      case rel => exact ⟨rfl, rfl⟩
  case rest =>
    obtain ⟨rfl, rfl⟩ := hcut
    clear HA
    go_wp2
    go_loopw [3, 4] (fun q i wr => ∃ k : Nat, k ≤ l.length ∧ i = .int .i64 k ∧ q = .bool (ha && (l.take k).all (stB l.length)) ∧ Below wc.heap.size wc wr) (fun _ i _ => l.length - (intOf i).toNat)
    case atStart => exact ⟨0, by omega, rfl, by simp, Below.refl _ _⟩
    case round =>
      obtain ⟨k, hk, rfl, rfl, hb⟩ := hrel
      obtain ⟨wo, rfl⟩ : ∃ x, x = wr := ⟨_, rfl⟩
      have HB := Lib.hid hb
      have HBW := Lib.hid (B1.out.trans (hb.mono B1.out.size))
      have x1 := at_next X.out hb
      have g0 := at_cell x1 0
      have g1 := at_cell x1 1
      have hl1 := cell_lt g0
      clear hb
      by_cases hlt : k < l.length
      · have S1 : Hid ((ha && (l.take (k + 1)).all (stB l.length)) = ((ha && (l.take k).all (stB l.length)) && stB l.length (st l k))) := Lib.hid (by rw [RS.out k hlt, Bool.and_assoc])
        generalize hq : (ha && (l.take k).all (stB l.length)) = q at *
        clear hq
        cases q
        · rw [Bool.false_and] at S1
          go_wp2
          go_quiet (fail)
          go_wp2
          go_roundw
          case rel => exact ⟨k + 1, by omega, by go_num, by rw [S1.out], HB.out.trans (bdN _ _)⟩
          case measure => simp [intOf]; omega
        · rw [Bool.true_and] at S1
          obtain ⟨g, rfl, eo, ec, hin0⟩ := HST.out k hlt
          have hin := hin0.next HBW.out
          obtain ⟨d0, d1, d2, d3, d4, de⟩ := hin
          have C1 := Lib.hid (SC.out (st l k) eo ec wo.drew (de.next ((Below.refl _ _).drew)))
          have h0i : (0 : Int) ≤ k := by omega
          have h1i : (k : Int) < (l.length : Int) := by omega
          clear hin0 de
          unfold stV at C1
          generalize st l k = s at *
          generalize stB l.length s = z at *
          go_wp2
          go_region_with (go_at_call 37; (refine C1.out.mono ?_); rintro e w5 ⟨rfl, h5⟩; go_must (have H5 := Lib.hid (HB.out.trans ((Below.trans ((Below.refl _ wo).drew) h5).mono HB.out.size)); clear h5))
          all_goals
            go_wp2
            go_roundw
            case rel => exact ⟨k + 1, by omega, by go_num, by rw [S1.out], H5.out⟩
            case measure => simp [intOf]; omega
      · obtain rfl : k = l.length := by omega
        rw [← RP.out]
        clear RP
        go_wp2
        go_ret
        exact ⟨rfl, HBW.out⟩

/-- what Far tells: one that is not too great has few states -/
def FarOut (l : List St) (w : World) (e : Ending) (w' : World) : Prop := ∃ b : Bool, e = .returned (.bool b) ∧ (b = false → l.length ≤ 300) ∧ Below w.heap.size w w'
theorem FarOut.mk' {l : List St} {w w' : World} (b : Bool) (h : b = false → l.length ≤ 300) (k : Below w.heap.size w w') : FarOut l w (.returned (.bool b)) w' := ⟨b, rfl, h, k⟩

set_option maxRecDepth 100000 in
set_option maxHeartbeats 4000000 in
theorem rfar_any (a : Int) (l : List St) (v : Value) (w : World) (h : NfaAt w v a l) :
    Calls Tryd.prog 6 #[v] w fun e w' => FarOut l w e w' := by
  obtain ⟨sv, rfl, h⟩ := h
  obtain ⟨ao, cap, rfl, hm, hst⟩ := h.shape
  have HST := Lib.hid hst
  have B1 := Lib.hid ((Below.refl w.heap.size w).alloc (Nat.le_refl _) (.cells #[.int .i64 a, .slice ao l.length cap] 24))
  have X := Lib.hid (at_new w (.cells #[.int .i64 a, .slice ao l.length cap] 24))
  clear hst h
  unfold nfaV
  go_enter Tryd.func6, Tryd.ntmps6
  go_upto_region 1 with fail
  generalize w.alloc (.cells #[.int .i64 a, .slice ao l.length cap] 24) = W1 at *
  have c0 := at_cell X.out 0
  have c1 := at_cell X.out 1
  have hl := cell_lt c0
  go_wp2
  go_loop [3, 4] (fun m i => ∃ (k : Nat) (x : Int), k ≤ l.length ∧ i = .int .i64 k ∧ m = .int .i64 x) (fun _ i => l.length - (intOf i).toNat)
  case atStart => exact ⟨0, 0, by omega, rfl, rfl⟩
  case round =>
    obtain ⟨k, x, hk, rfl, rfl⟩ := hrel
    by_cases hlt : k < l.length
    · by_cases h4 : (k : Int) < 400
      · obtain ⟨g, rfl, eo, ec, hin0⟩ := HST.out k hlt
        obtain ⟨d0, d1, d2, d3, d4, de⟩ := hin0.next B1.out
        have h0i : (0 : Int) ≤ k := by omega
        have h1i : (k : Int) < (l.length : Int) := by omega
        clear hin0 de
        generalize (st l k).eps.length = en at *
        go_wp2
        go_round
        case rel => exact ⟨k + 1, _, by omega, by go_num, rfl⟩
        case measure => simp [intOf]; omega
      · by_cases h3 : (300 : Int) < l.length
        · go_wp2
          go_ret
          exact FarOut.mk' true (by simp) B1.out
        · omega
    · obtain rfl : k = l.length := by omega
      by_cases h3 : (300 : Int) < l.length
      · go_wp2
        go_ret
        exact FarOut.mk' true (by simp) B1.out
      · go_wp2
        all_goals
          go_ret
          exact FarOut.mk' _ (fun _ => by omega) B1.out

end Go.Proofs.YtfbphiamelongaaDoor.Cl

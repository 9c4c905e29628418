/- The document's folded set. -/
import Derived.Test.YtdkiahelnomjpaaDoorFdRef
import Derived.Test.YtdkiahelnomjpaaDoorRgSet2
namespace Go.Proofs.YtdkiahelnomjpaaDoor.Fd
open Go.RowKit Go.Shelf Go.Proofs.YtdkiahelnomjpaaDoor.Rg

/-- what the first k numbers have added -/
def upB (l : List R) (k : Nat) (o : Int) : Bool := decide (o < (k : Int)) && inB l o
theorem inB_append (a b : List R) (c : Int) : inB (a ++ b) c = (inB a c || inB b c) := by
  unfold inB; rw [hasB_append, Bool.and_or_distrib_left]
theorem up_start (l : List R) (c : Int) : othB (upB l 0) c = false := by
  unfold othB upB
  cases h : othF c with
  | none => rfl
  | some o =>
    have := oth_bounds h
    simp only
    rw [show decide (o < ((0 : Nat) : Int)) = false by simp; omega]; rfl
theorem up_end (l : List R) (c : Int) : othB (upB l 1200) c = othB (inB l) c := by
  unfold othB upB
  cases h : othF c with
  | none => rfl
  | some o =>
    have := oth_bounds h
    simp only
    rw [show decide (o < ((1200 : Nat) : Int)) = true by simp; omega]; rfl
theorem up_ne (l : List R) {k : Nat} {o : Int} (h : o ≠ (k : Int)) : upB l (k + 1) o = upB l k o := by
  unfold upB
  rw [show decide (o < ((k + 1 : Nat) : Int)) = decide (o < (k : Int)) by rw [Bool.eq_iff_iff]; simp; omega]
theorem up_no {l : List R} {k : Nat} (h : othF (k : Int) = none ∨ inB l (k : Int) = false) (c : Int) : othB (upB l (k + 1)) c = othB (upB l k) c := by
  unfold othB
  cases hc : othF c with
  | none => rfl
  | some o =>
    simp only
    by_cases ho : o = (k : Int)
    · subst ho
      have hb := oth_back hc
      rcases h with h | h
      · rw [h] at hb; cases hb
      · unfold upB; rw [h]; simp
    · exact up_ne l ho
theorem up_yes {l out : List R} {k : Nat} {o : Int} (h : othF (k : Int) = some o) (hk : inB l (k : Int) = true) {c : Int} (ho : inB out c = (inB l c || othB (upB l k) c)) : inB (out ++ [(o, o)]) c = (inB l c || othB (upB l (k + 1)) c) := by
  rw [inB_append, ho, Bool.or_assoc]
  congr 1
  have hb := oth_bounds h
  by_cases hc : c = o
  · subst hc
    have e1 : inB [(c, c)] c = true := by unfold inB; rw [hasB_one]; simp; omega
    have e2 : othB (upB l (k + 1)) c = true := by
      unfold othB
      rw [oth_back h]
      simp only [upB]
      rw [hk]; simp; omega
    rw [e1, e2, Bool.or_true]
  · have e1 : inB [(o, o)] c = false := by
      have hn : ¬ (o ≤ c ∧ c ≤ o) := by omega
      unfold inB; rw [hasB_one, Bool.eq_false_iff]; simp; omega
    rw [e1, Bool.or_false]
    unfold othB
    cases h2 : othF c with
    | none => rfl
    | some o' =>
      simp only
      refine (up_ne l ?_).symm
      rintro rfl
      have := oth_back h2
      rw [h] at this
      exact hc (Option.some.inj this).symm

def RSetRel (l : List R) (w : World) (s i : Value) (wr : World) : Prop :=
  ∃ (k : Nat) (out : List R), i = .int .i64 k ∧ k ≤ 1200 ∧ wr.ownsRow w.heap.size 33 2 s out.length (flatR out) ∧ out.length ≤ l.length + k ∧ (∀ c, inB out c = (inB l c || othB (upB l k) c)) ∧ Below w.heap.size w wr

set_option maxRecDepth 100000 in
set_option maxHeartbeats 4000000 in
theorem set_r (l : List R) (v : Value) (w : World) (hv : RngsAt w v l) (hM : l.length ≤ 10000) :
    Calls Tryd.prog 13 #[v] w fun e w' => SetOut w (foldB (inB l)) (2402 + 2 * l.length) e w' := by
  obtain ⟨i0, hi, hz0, hz1, hz2⟩ := info_parts infoR
  have HV := Lib.hid hv
  clear hv
  go_enter Tryd.func13, Tryd.ntmps13
  go_wp2_with (at_builtin; (refine wpList_app rfl _ _ rfl w.heap.size (.slice none 0 0) 0 [] rfl (World.ownsRow_nil _ _ _ _) v l rfl HV.out (by omega) (Nat.le_refl _) ?_); intro v1 w1 hown1 hg1; go_must (have O1 := Lib.hid (show w1.ownsRow w.heap.size 33 2 v1 l.length (flatR l) by simpa using hown1); have B1 := Lib.hid ((Below.refl w.heap.size w).grown hg1 (Nat.le_refl _) (fun k hk => by simp [Value.ownBlock] at hk)); clear hown1 hg1))
  go_loopw [3, 4] (fun s i wr => RSetRel l w s i wr) (fun _ i _ => 1200 - (intOf i).toNat)
  case atStart => exact ⟨0, l, rfl, by omega, O1.out, by omega, fun c => by rw [up_start, Bool.or_false], B1.out⟩
  case round =>
    obtain ⟨k, out, rfl, hk, hrow, hlen, hhas, hbw⟩ := hrel
    have hsz := hbw.size
    by_cases hlt : k < 1200
    · have n1 : (k : Int) < 1200 := by omega
      have HROW := Lib.hid hrow
      have HBW := Lib.hid hbw
      have HHAS := Lib.hid hhas
      have c1 := Lib.hid (roth_any (k : Int) wr)
      have c2 := Lib.hid (rhas_any l (k : Int) v wr (HV.out.next hbw))
      clear hrow hbw hhas
      obtain ⟨x, h⟩ : ∃ x, othF (k : Int) = x := ⟨_, rfl⟩
      cases x with
      | none =>
        rw [othN, h] at c1
        simp only [Option.isSome_none] at c1
        have HN := Lib.hid (up_no (l := l) (k := k) (.inl h))
        clear h
        go_wp2_with (go_at_call 7; (with_reducible refine c1.out.mono ?_); rintro e w2 ⟨rfl, hw⟩; subst hw)
        go_roundw
        case rel => exact ⟨k + 1, out, by go_num, hlt, HROW.out, by omega, fun c => by rw [HHAS.out, HN.out], HBW.out⟩
        case measure => simp [intOf]; omega
      | some o =>
        have hob := oth_bounds h
        rw [othN, h] at c1
        simp only [Option.isSome_some, Option.getD_some] at c1
        obtain ⟨y, hy⟩ : ∃ y, inB l (k : Int) = y := ⟨_, rfl⟩
        rw [hy] at c2
        cases y with
        | false =>
          have HN := Lib.hid (up_no (l := l) (k := k) (.inr hy))
          clear h hy
          go_wp2_with (first
            | (go_at_call 7; (with_reducible refine c1.out.mono ?_); rintro e w2 ⟨rfl, hw⟩; subst hw)
            | (go_at_call 14; (with_reducible refine c2.out.mono ?_); rintro e w2 ⟨rfl, hw⟩; subst hw))
          go_roundw
          case rel => exact ⟨k + 1, out, by go_num, hlt, HROW.out, by omega, fun c => by rw [HHAS.out, HN.out], HBW.out⟩
          case measure => simp [intOf]; omega
        | true =>
          have HY := Lib.hid (fun c => up_yes (c := c) h hy (HHAS.out c))
          clear h hy
          go_wp2_with (first
            | (go_at_call 7; (with_reducible refine c1.out.mono ?_); rintro e w2 ⟨rfl, hw⟩; subst hw)
            | (go_at_call 14; (with_reducible refine c2.out.mono ?_); rintro e w2 ⟨rfl, hw⟩; subst hw)
            | (at_builtin; go_must (refine wpList_append_own _ rfl _ _ 27 rfl w.heap.size 33 i0 (.agg #[.int .i64 0, .int .i64 0]) 2 16 Tryd.underlying27 hi hz0 hz1 hz2 rfl (by decide) _ out.length (flatR out) rfl (rowR_next HROW.out ((Below.refl _ _).alloc (Nat.le_refl _) _)) ⟨w2.heap.size, 0, none⟩ 1 1 [.int .i64 o, .int .i64 o] rfl rfl (two_new _ _ _ _ _ (by simp)) (by simp [Value.oneCell']) (by unfold maxLen; omega) (by omega) (by simp; omega) ?_); intro v' w4 hown hgrow _; go_must (have Z := Lib.hid (app_row (r := (o, o)) hown hgrow (rowR_next HROW.out ((Below.refl _ _).alloc (Nat.le_refl _) _)) (HBW.out.trans (((Below.refl _ _).alloc (Nat.le_refl _) _).mono hsz)) (by simp; omega)); clear hown hgrow)))
          go_roundw
          case rel => exact ⟨k + 1, out ++ [(o, o)], by go_num, hlt, Z.out.1, by rw [List.length_append, List.length_singleton]; omega, fun c => HY.out c, Z.out.2⟩
          case measure => simp [intOf]; omega
    · obtain rfl : k = 1200 := by omega
      have cs := Lib.hid (set_any 0 (by omega) out [] u3 (.slice none 0 0) wr (rngs_of_row hrow) (none_at wr) (by simp; omega))
      have HHAS := Lib.hid hhas
      have HBW := Lib.hid hbw
      clear hrow hhas hbw
      go_wp2_with (go_at_call 21; refine cs.out.mono ?_; rintro e w3 ⟨v3, U, rfl, k1, k2, k3, k4, k5⟩; go_must (have K1 := Lib.hid k1; have K2 := Lib.hid k2; have K3 := Lib.hid k3; have K4 := Lib.hid k4; have K5 := Lib.hid k5; clear k1 k2 k3 k4 k5))
      go_ret
      exact ⟨_, U, rfl, row_base K1.out hsz, K2.out, fun c => by rw [K3.out, show (isC c && holdB 0 out [] c) = inB out c from inB_isC out c, HHAS.out, up_end]; rfl, by have := K4.out; simp at this; omega, HBW.out.trans (K5.out.mono hsz)⟩

end Go.Proofs.YtdkiahelnomjpaaDoor.Fd

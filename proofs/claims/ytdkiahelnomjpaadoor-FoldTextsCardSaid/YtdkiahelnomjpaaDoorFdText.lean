/- Two texts but for the letters' case: the program's Same and the document's. -/
import Derived.Test.YtdkiahelnomjpaaDoorRgCmp
namespace Go.Proofs.YtdkiahelnomjpaaDoor.Fd
open Go.RowKit Go.Shelf Go.Proofs.YtdkiahelnomjpaaDoor.Rg

/-- a byte's small letter -/
def lowI (x : Int) : Int := if 65 ≤ x ∧ x ≤ 90 then x + 32 else x
theorem retU {a b : Int} (h : a = b) : Ending.returned (.int .u8 a) = .returned (.int .u8 b) := by rw [h]

set_option maxHeartbeats 400000 in
theorem letter_any (x : Int) (h0 : 0 ≤ x) (h1 : x ≤ 255) (w : World) : Calls Tryd.prog 22 #[.int .u8 x] w fun e w' => e = .returned (.int .u8 (lowI x)) ∧ w' = w := by
  rcases Int.lt_or_le x 65 with h | h
  · have hb := Lib.hid (show lowI x = x by unfold lowI; rw [if_neg (by omega)])
    have d0 : decide (65 ≤ x) = false := by simp; omega
    clear h
    go_enter Tryd.func22, Tryd.ntmps22
    go_wp2
    go_ret
    exact ⟨retU hb.out.symm, rfl⟩
  · have d0 : decide (65 ≤ x) = true := by simp; omega
    rcases Int.lt_or_le 90 x with k | k
    · have hb := Lib.hid (show lowI x = x by unfold lowI; rw [if_neg (by omega)])
      have d1 : decide (x ≤ 90) = false := by simp; omega
      clear h k
      go_enter Tryd.func22, Tryd.ntmps22
      go_wp2
      go_ret
      exact ⟨retU hb.out.symm, rfl⟩
    · have hb := Lib.hid (show lowI x = x + 32 by unfold lowI; rw [if_pos (by omega)])
      have d1 : decide (x ≤ 90) = true := by simp; omega
      go_enter Tryd.func22, Tryd.ntmps22
      go_wp2
      go_ret
      exact ⟨retU (by rw [hb.out]; omega), rfl⟩
set_option maxHeartbeats 400000 in
theorem low_any (x : Int) (h0 : 0 ≤ x) (h1 : x ≤ 255) (w : World) : Calls Tryd.prog 23 #[.int .u8 x] w fun e w' => e = .returned (.int .u8 (lowI x)) ∧ w' = w := by
  rcases Int.lt_or_le x 65 with h | h
  · have hb := Lib.hid (show lowI x = x by unfold lowI; rw [if_neg (by omega)])
    have d0 : decide (65 ≤ x) = false := by simp; omega
    clear h
    go_enter Tryd.func23, Tryd.ntmps23
    go_wp2
    go_ret
    exact ⟨retU hb.out.symm, rfl⟩
  · have d0 : decide (65 ≤ x) = true := by simp; omega
    rcases Int.lt_or_le 90 x with k | k
    · have hb := Lib.hid (show lowI x = x by unfold lowI; rw [if_neg (by omega)])
      have d1 : decide (x ≤ 90) = false := by simp; omega
      clear h k
      go_enter Tryd.func23, Tryd.ntmps23
      go_wp2
      go_ret
      exact ⟨retU hb.out.symm, rfl⟩
    · have hb := Lib.hid (show lowI x = x + 32 by unfold lowI; rw [if_pos (by omega)])
      have d1 : decide (x ≤ 90) = true := by simp; omega
      go_enter Tryd.func23, Tryd.ntmps23
      go_wp2
      go_ret
      exact ⟨retU (by rw [hb.out]), rfl⟩

/-- the same but for the letters' case -/
def eqL : List UInt8 → List UInt8 → Bool
  | [], [] => true
  | x :: s, y :: t => (lowI x.toNat == lowI y.toNat) && eqL s t
  | _, _ => false
theorem eqL_self : ∀ l : List UInt8, eqL l l = true
  | [] => rfl
  | x :: s => by simp [eqL, eqL_self s]
theorem eqL_len : ∀ {a b : List UInt8}, a.length ≠ b.length → eqL a b = false
  | [], [], h => absurd rfl h
  | [], y :: t, _ => rfl
  | x :: s, [], _ => rfl
  | x :: s, y :: t, h => by
    have := eqL_len (a := s) (b := t) (by simpa using h)
    simp [eqL, this]
theorem eqL_step {a b : ByteArray} {k : Nat} (ha : k < a.size) (hb : k < b.size) : eqL (a.data.toList.drop k) (b.data.toList.drop k) = ((lowI (a[k].toNat : Int) == lowI (b[k].toNat : Int)) && eqL (a.data.toList.drop (k + 1)) (b.data.toList.drop (k + 1))) := by
  have h1 : k < a.data.toList.length := by simpa using ha
  have h2 : k < b.data.toList.length := by simpa using hb
  rw [List.drop_eq_getElem_cons h1, List.drop_eq_getElem_cons h2]
  rfl

set_option maxHeartbeats 1600000 in
theorem same_t (a b : ByteArray) (ha : a.size ≤ maxLen) (w : World) :
    Calls Tryd.prog 15 #[.string a, .string b] w fun e w' => e = .returned (.bool (eqL a.data.toList b.data.toList)) ∧ Below w.heap.size w w' := by
  unfold maxLen at ha
  by_cases hlen : a.size = b.size
  · go_enter Tryd.func15, Tryd.ntmps15
    go_wp2
    go_loopw [13] (fun i wr => ∃ k : Nat, i = .int .i64 k ∧ k ≤ a.size ∧ eqL a.data.toList b.data.toList = eqL (a.data.toList.drop k) (b.data.toList.drop k) ∧ Below w.heap.size w wr) (fun i _ => a.size - (intOf i).toNat)
    case atStart => exact ⟨0, rfl, Nat.zero_le _, rfl, Below.refl _ _⟩
    case round =>
      obtain ⟨k, rfl, hk, he, hbw⟩ := hrel
      by_cases hlt : k < a.size
      · have hlt2 : k < b.size := by omega
        rw [eqL_step hlt hlt2] at he
        have HE := Lib.hid he
        have HB := Lib.hid hbw
        have n1 : (k : Int) < a.size := by omega
        have n2 : (k : Int) < b.size := by omega
        have b1 := a[k].toNat_lt
        have b2 := b[k].toNat_lt
        have c1 := Lib.hid (fun w => letter_any (a[k].toNat : Int) (by omega) (by omega) w)
        have c2 := Lib.hid (fun w => letter_any (b[k].toNat : Int) (by omega) (by omega) w)
        clear he hbw b1 b2
        go_wp2
        cases hq : (lowI (a[k].toNat : Int) == lowI (b[k].toNat : Int))
        · go_quiet (first
            | (go_at_call 22; with_reducible exact Calls.quiet_of_same (c1.out _))
            | (go_at_call 22; with_reducible exact Calls.quiet_of_same (c2.out _)))
          go_wp2
          go_ret
          exact ⟨retB (by rw [HE.out, hq]; rfl), HB.out.trans ((below_drewN _ _).mono HB.out.size)⟩
        · go_quiet (first
            | (go_at_call 22; with_reducible exact Calls.quiet_of_same (c1.out _))
            | (go_at_call 22; with_reducible exact Calls.quiet_of_same (c2.out _)))
          go_wp2
          go_roundw
          case rel => exact ⟨k + 1, by go_num, by omega, (by rw [HE.out, hq]; rfl), HB.out.trans ((below_drewN _ _).mono HB.out.size)⟩
          case measure => simp [intOf]; omega
      · obtain rfl : k = a.size := by omega
        have h1 : eqL a.data.toList b.data.toList = true := by rw [he, List.drop_of_length_le (by simp), List.drop_of_length_le (by simp [hlen])]; rfl
        have HE := Lib.hid h1
        clear he h1
        go_wp2
        go_ret
        exact ⟨retB HE.out.symm, hbw⟩
  · have HL := Lib.hid (eqL_len (a := a.data.toList) (b := b.data.toList) (by simpa using hlen))
    go_enter Tryd.func15, Tryd.ntmps15
    go_wp2
    go_ret
    exact ⟨retB HL.out.symm, Below.refl _ _⟩

set_option maxHeartbeats 1600000 in
theorem same_r (a b : ByteArray) (ha : a.size ≤ maxLen) (w : World) :
    Calls Tryd.prog 16 #[.string a, .string b] w fun e w' => e = .returned (.bool (eqL a.data.toList b.data.toList)) ∧ Below w.heap.size w w' := by
  unfold maxLen at ha
  by_cases hlen : a.size = b.size
  · go_enter Tryd.func16, Tryd.ntmps16
    go_wp2
    go_loopw [5] (fun i wr => ∃ k : Nat, i = .int .i64 k ∧ k ≤ a.size ∧ eqL a.data.toList b.data.toList = eqL (a.data.toList.drop k) (b.data.toList.drop k) ∧ Below w.heap.size w wr) (fun i _ => a.size - (intOf i).toNat)
    case atStart => exact ⟨0, rfl, Nat.zero_le _, rfl, Below.refl _ _⟩
    case round =>
      obtain ⟨k, rfl, hk, he, hbw⟩ := hrel
      by_cases hlt : k < a.size
      · have hlt2 : k < b.size := by omega
        rw [eqL_step hlt hlt2] at he
        have HE := Lib.hid he
        have HB := Lib.hid hbw
        have n1 : (k : Int) < a.size := by omega
        have n2 : (k : Int) < b.size := by omega
        have b1 := a[k].toNat_lt
        have b2 := b[k].toNat_lt
        have c1 := Lib.hid (fun w => low_any (a[k].toNat : Int) (by omega) (by omega) w)
        have c2 := Lib.hid (fun w => low_any (b[k].toNat : Int) (by omega) (by omega) w)
        clear he hbw b1 b2
        go_wp2
        cases hq : (lowI (a[k].toNat : Int) == lowI (b[k].toNat : Int))
        · go_quiet (first
            | (go_at_call 23; with_reducible exact Calls.quiet_of_same (c1.out _))
            | (go_at_call 23; with_reducible exact Calls.quiet_of_same (c2.out _)))
          go_wp2
          go_ret
          exact ⟨retB (by rw [HE.out, hq]; rfl), HB.out.trans ((below_drewN _ _).mono HB.out.size)⟩
        · go_quiet (first
            | (go_at_call 23; with_reducible exact Calls.quiet_of_same (c1.out _))
            | (go_at_call 23; with_reducible exact Calls.quiet_of_same (c2.out _)))
          go_wp2
          go_roundw
          case rel => exact ⟨k + 1, by go_num, by omega, (by rw [HE.out, hq]; rfl), HB.out.trans ((below_drewN _ _).mono HB.out.size)⟩
          case measure => simp [intOf]; omega
      · obtain rfl : k = a.size := by omega
        have h1 : eqL a.data.toList b.data.toList = true := by rw [he, List.drop_of_length_le (by simp), List.drop_of_length_le (by simp [hlen])]; rfl
        have HE := Lib.hid h1
        clear he h1
        go_wp2
        go_ret
        exact ⟨retB HE.out.symm, hbw⟩
  · have HL := Lib.hid (eqL_len (a := a.data.toList) (b := b.data.toList) (by simpa using hlen))
    go_enter Tryd.func16, Tryd.ntmps16
    go_wp2
    go_ret
    exact ⟨retB HL.out.symm, Below.refl _ _⟩

end Go.Proofs.YtdkiahelnomjpaaDoor.Fd

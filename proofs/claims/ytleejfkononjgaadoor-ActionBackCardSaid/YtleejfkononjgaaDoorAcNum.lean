/- A name's place among names: the library's Index, numberOf, the document's place; whether names are too much. -/
import Derived.Test.YtleejfkononjgaaDoorAcPlain
import Derived.Test.YtleejfkononjgaaDoorStrs
import Derived.Test.YtleejfkononjgaaDoorWdRef
namespace Go.Proofs.YtleejfkononjgaaDoor.Ac
open Go Go.RowKit Go.Shelf Go.Proofs.YtleejfkononjgaaDoor.Wd

theorem retNum {a b : Int} (h : a = b) : Ending.returned (.int .i64 a) = .returned (.int .i64 b) := by rw [h]
theorem strs_at {w : World} {v : Value} {l : List ByteArray} (h : StrsAt w v l) :
    ∃ (ao : Option Addr) (cap : Nat), v = .slice ao l.length cap ∧ l.length ≤ 9223372036854775807 ∧ ∀ i, i < l.length → ∃ ad, ao = some ad ∧ w.cell? (ad.add i) = some (.string (l.getD i bE)) := h.shape

set_option maxHeartbeats 800000 in
theorem index_any (l : List ByteArray) (v : Value) (m : ByteArray) (w : World) (hv : StrsAt w v l) :
    Calls Tryd.prog 30 #[v, .string m] w fun e w' => e = .returned (.int .i64 (numL l m)) ∧ w = w' := by
  obtain ⟨ao, cap, rfl, hm, hc⟩ := strs_at hv
  have HC := Lib.hid hc
  clear hc hv
  go_enter Tryd.func30, Tryd.ntmps30
  go_wp2
  go_loop [5, 8] (fun _ i => ∃ k : Nat, k ≤ l.length ∧ i = .int .i64 k ∧ ∀ j, j < k → l.getD j bE ≠ m) (fun _ i => l.length - (intOf i).toNat)
  case atStart => exact ⟨0, by omega, rfl, fun j hj => by omega⟩
  case round =>
    obtain ⟨k, hk, rfl, hne⟩ := hrel
    have HN := Lib.hid hne
    clear hne
    by_cases hlt : k < l.length
    · obtain ⟨ad, rfl, c0⟩ := HC.out k hlt
      have h0i : (0 : Int) ≤ k := by omega
      by_cases he : l.getD k bE = m
      · have HR := Lib.hid (num_at hlt he HN.out)
        rw [he] at c0
        clear he
        go_wp2
        go_ret
        exact ⟨retNum HR.out.symm, rfl⟩
      · obtain ⟨x, hx⟩ : ∃ x, l.getD k bE = x := ⟨_, rfl⟩
        rw [hx] at c0 he
        have HX := Lib.hid (show l.getD k bE ≠ m from fun e => he (hx.symm.trans e))
        clear hx
        go_wp2
        · exact absurd (bytes_eq (by assumption)).symm he
        · go_round
          case rel => exact ⟨k + 1, by omega, by go_num, fun j hj => by
            rcases Nat.lt_or_ge j k with h | h
            · exact HN.out j h
            · obtain rfl : j = k := by omega
              exact HX.out⟩
          case measure => simp [intOf]; omega
    · obtain rfl : k = l.length := by omega
      have HR := Lib.hid (num_no HN.out)
      go_wp2
      go_ret
      exact ⟨retNum HR.out.symm, rfl⟩

theorem number_any (l : List ByteArray) (v : Value) (m : ByteArray) (w : World) (hv : StrsAt w v l) :
    Calls Tryd.prog 20 #[.string m, v] w fun e w' => e = .returned (.int .i64 (numL l m)) ∧ w = w' := by
  have C := Lib.hid (index_any l v m w hv)
  clear hv
  generalize numL l m = n at *
  go_enter Tryd.func20, Tryd.ntmps20
  go_wp2_with (go_at_call 30; refine C.out.mono ?_; rintro e w' ⟨rfl, rfl⟩)
  go_ret
  exact ⟨rfl, rfl⟩

set_option maxHeartbeats 800000 in
theorem place_any (l : List ByteArray) (v : Value) (m : ByteArray) (w : World) (hv : StrsAt w v l) :
    Calls Tryd.prog 17 #[v, .string m] w fun e w' => e = .returned (.int .i64 (numL l m)) ∧ w = w' := by
  obtain ⟨ao, cap, rfl, hm, hc⟩ := strs_at hv
  have HC := Lib.hid hc
  clear hc hv
  go_enter Tryd.func17, Tryd.ntmps17
  go_wp2
  go_loop [5] (fun i => ∃ k : Nat, k ≤ l.length ∧ i = .int .i64 k ∧ ∀ j, j < k → l.getD j bE ≠ m) (fun i => l.length - (intOf i).toNat)
  case atStart => exact ⟨0, by omega, rfl, fun j hj => by omega⟩
  case round =>
    obtain ⟨k, hk, rfl, hne⟩ := hrel
    have HN := Lib.hid hne
    clear hne
    by_cases hlt : k < l.length
    · obtain ⟨ad, rfl, c0⟩ := HC.out k hlt
      have h0i : (0 : Int) ≤ k := by omega
      by_cases he : l.getD k bE = m
      · have HR := Lib.hid (num_at hlt he HN.out)
        rw [he] at c0
        clear he
        go_wp2
        go_ret
        exact ⟨retNum HR.out.symm, rfl⟩
      · obtain ⟨x, hx⟩ : ∃ x, l.getD k bE = x := ⟨_, rfl⟩
        rw [hx] at c0 he
        have HX := Lib.hid (show l.getD k bE ≠ m from fun e => he (hx.symm.trans e))
        clear hx
        go_wp2
        · exact absurd (bytes_eq (by assumption)) he
        · go_round
          case rel => exact ⟨k + 1, by omega, by go_num, fun j hj => by
            rcases Nat.lt_or_ge j k with h | h
            · exact HN.out j h
            · obtain rfl : j = k := by omega
              exact HX.out⟩
          case measure => simp [intOf]; omega
    · obtain rfl : k = l.length := by omega
      have HR := Lib.hid (num_no HN.out)
      go_wp2
      go_ret
      exact ⟨retNum HR.out.symm, rfl⟩

open Classical in
/-- are these names too much -/
noncomputable def farB (l : List ByteArray) : Bool := decide (∃ j, j < l.length ∧ 60 < (l.getD j bE).size) || decide (20 < l.length)
theorem far_no {l : List ByteArray} (h : farB l = false) : l.length ≤ 20 ∧ ∀ j, j < l.length → (l.getD j bE).size ≤ 60 := by
  unfold farB at h
  rw [Bool.or_eq_false_iff, decide_eq_false_iff_not, decide_eq_false_iff_not] at h
  refine ⟨by omega, fun j hj => ?_⟩
  rcases Nat.lt_or_ge 60 (l.getD j bE).size with h' | h'
  · exact absurd ⟨j, hj, h'⟩ h.1
  · exact h'
theorem retBool {a b : Bool} (h : a = b) : Ending.returned (.bool a) = .returned (.bool b) := by rw [h]

set_option maxHeartbeats 800000 in
theorem far_any (l : List ByteArray) (v : Value) (w : World) (hv : StrsAt w v l) :
    Calls Tryd.prog 5 #[v] w fun e w' => e = .returned (.bool (farB l)) ∧ w = w' := by
  obtain ⟨ao, cap, rfl, hm, hc⟩ := strs_at hv
  have HC := Lib.hid hc
  clear hc hv
  go_enter Tryd.func5, Tryd.ntmps5
  go_wp2
  go_loop [3] (fun i => ∃ k : Nat, k ≤ l.length ∧ i = .int .i64 k ∧ ∀ j, j < k → (l.getD j bE).size ≤ 60) (fun i => l.length - (intOf i).toNat)
  case atStart => exact ⟨0, by omega, rfl, fun j hj => by omega⟩
  case round =>
    obtain ⟨k, hk, rfl, hne⟩ := hrel
    have HN := Lib.hid hne
    clear hne
    by_cases hlt : k < l.length
    · obtain ⟨ad, rfl, c0⟩ := HC.out k hlt
      have h0i : (0 : Int) ≤ k := by omega
      by_cases he : 60 < (l.getD k bE).size
      · have HR : Hid (farB l = true) := Lib.hid (by unfold farB; rw [Bool.or_eq_true]; exact .inl (decide_eq_true ⟨k, hlt, he⟩))
        generalize l.getD k bE = x at *
        have d0 : decide (60 < x.size) = true := by simpa using he
        go_wp2
        go_ret
        exact ⟨retBool HR.out.symm, rfl⟩
      · have HX := Lib.hid (Nat.le_of_not_lt he)
        obtain ⟨x, hx⟩ : ∃ x, l.getD k bE = x := ⟨_, rfl⟩
        rw [hx] at c0 he
        clear hx
        have d0 : decide (60 < x.size) = false := by simpa using he
        go_wp2
        go_round
        case rel => exact ⟨k + 1, by omega, by go_num, fun j hj => by
            rcases Nat.lt_or_ge j k with h | h
            · exact HN.out j h
            · obtain rfl : j = k := by omega
              exact HX.out⟩
        case measure => simp [intOf]; omega
    · obtain rfl : k = l.length := by omega
      have HR : Hid (farB l = decide (20 < l.length)) := Lib.hid (by
        unfold farB
        rw [decide_eq_false (fun ⟨j, hj, h⟩ => by have := HN.out j hj; omega), Bool.false_or])
      go_wp2
      go_ret
      exact ⟨retBool (HR.out.trans (decide_eq_decide.2 (by omega))).symm, rfl⟩

end Go.Proofs.YtleejfkononjgaaDoor.Ac

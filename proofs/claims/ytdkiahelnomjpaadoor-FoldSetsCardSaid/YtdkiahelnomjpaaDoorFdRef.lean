/- The document's pairs. -/
import Derived.Test.YtdkiahelnomjpaaDoorFdPlain
namespace Go.Proofs.YtdkiahelnomjpaaDoor.Fd
open Go.RowKit Go.Shelf Go.Proofs.YtdkiahelnomjpaaDoor.Rg

/-- how far above a great letter the small one is -/
def abv (c : Int) : Int := if inR 65 90 c || inR 192 214 c || inR 216 222 c || inR 913 929 c || inR 931 939 c || inR 1040 1071 c then 32 else if inR 1024 1039 c then 80 else 0
theorem abv_is (c : Int) : (abv c = 32 ∧ ((65 ≤ c ∧ c ≤ 90) ∨ (192 ≤ c ∧ c ≤ 214) ∨ (216 ≤ c ∧ c ≤ 222) ∨ (913 ≤ c ∧ c ≤ 929) ∨ (931 ≤ c ∧ c ≤ 939) ∨ (1040 ≤ c ∧ c ≤ 1071))) ∨ (abv c = 80 ∧ 1024 ≤ c ∧ c ≤ 1039) ∨
    (abv c = 0 ∧ (c < 65 ∨ (90 < c ∧ c < 192) ∨ c = 215 ∨ (222 < c ∧ c < 913) ∨ c = 930 ∨ (939 < c ∧ c < 1024) ∨ 1071 < c)) := by
  have h : (65 ≤ c ∧ c ≤ 90) ∨ (192 ≤ c ∧ c ≤ 214) ∨ (216 ≤ c ∧ c ≤ 222) ∨ (913 ≤ c ∧ c ≤ 929) ∨ (931 ≤ c ∧ c ≤ 939) ∨ (1040 ≤ c ∧ c ≤ 1071) ∨ (1024 ≤ c ∧ c ≤ 1039) ∨ (c < 65 ∨ (90 < c ∧ c < 192) ∨ c = 215 ∨ (222 < c ∧ c < 913) ∨ c = 930 ∨ (939 < c ∧ c < 1024) ∨ 1071 < c) := by omega
  rcases h with h | h | h | h | h | h | h | h
  iterate 6 exact .inl ⟨by unfold abv; simp (disch := omega) only [inR_t, inR_f, Bool.or_false, Bool.or_true, if_true], by omega⟩
  · exact .inr (.inl ⟨by unfold abv; simp (disch := omega) only [inR_t, inR_f, Bool.or_false, if_true, if_false, Bool.false_eq_true], by omega⟩)
  · exact .inr (.inr ⟨by unfold abv; simp (disch := omega) only [inR_f, Bool.or_false, if_false, Bool.false_eq_true], by omega⟩)
theorem abv_low {c : Int} (h : abv c = 32) : Pair c (c + 32) := by
  have := abv_is c
  unfold Pair; omega
theorem abv_high {c : Int} (h : abv c = 80) : Pair c (c + 80) := by
  have := abv_is c
  unfold Pair; omega
theorem oth_none {c : Int} (h1 : abv c = 0) (h2 : ¬ abv (c - 32) = 32) (h3 : ¬ abv (c - 80) = 80) : othF c = none := by
  cases h : othF c with
  | none => rfl
  | some o =>
    have hp := othF_pair h
    unfold Pair at hp
    have a1 := abv_is c
    have a2 := abv_is (c - 32)
    have a3 := abv_is (c - 80)
    omega
theorem oth_far {c : Int} (h : c < 0 ∨ 2000 < c) : othF c = none := by
  cases h : othF c with
  | none => rfl
  | some o =>
    have := oth_bounds h
    omega
def othN (c : Int) : Int := (othF c).getD 0
theorem retT {c o : Int} {b : Bool} (h1 : othN c = o) (h2 : (othF c).isSome = b) : Ending.returned (.tuple #[.int .i64 o, .bool b]) = .returned (.tuple #[.int .i64 (othN c), .bool (othF c).isSome]) := by rw [h1, h2]
theorem retO {c o : Int} (h : othF c = some o) : Ending.returned (.tuple #[.int .i64 o, .bool true]) = .returned (.tuple #[.int .i64 (othN c), .bool (othF c).isSome]) := retT (by rw [othN, h]; rfl) (by rw [h]; rfl)
theorem retN {c : Int} (h : othF c = none) : Ending.returned (.tuple #[.int .i64 0, .bool false]) = .returned (.tuple #[.int .i64 (othN c), .bool (othF c).isSome]) := retT (by rw [othN, h]; rfl) (by rw [h]; rfl)
theorem retI {a b : Int} (h : a = b) : Ending.returned (.int .i64 a) = .returned (.int .i64 b) := by rw [h]

set_option maxHeartbeats 1600000 in
theorem above_any (c : Int) (w : World) : Calls Tryd.prog 18 #[.int .i64 c] w fun e w' => e = .returned (.int .i64 (abv c)) ∧ w' = w := by
  have hi := abv_is c
  have hc : c ≤ 64 ∨ (65 ≤ c ∧ c ≤ 90) ∨ (91 ≤ c ∧ c ≤ 191) ∨ (192 ≤ c ∧ c ≤ 214) ∨ (215 ≤ c ∧ c ≤ 215) ∨ (216 ≤ c ∧ c ≤ 222) ∨ (223 ≤ c ∧ c ≤ 912) ∨ (913 ≤ c ∧ c ≤ 929) ∨ (930 ≤ c ∧ c ≤ 930) ∨ (931 ≤ c ∧ c ≤ 939) ∨ (940 ≤ c ∧ c ≤ 1023) ∨ (1024 ≤ c ∧ c ≤ 1039) ∨ (1040 ≤ c ∧ c ≤ 1071) ∨ 1072 ≤ c := by omega
  rcases hc with hc | hc | hc | hc | hc | hc | hc | hc | hc | hc | hc | hc | hc | hc
  · have g65 : decide (65 ≤ c) = false := by simp; omega
    have g192 : decide (192 ≤ c) = false := by simp; omega
    have g913 : decide (913 ≤ c) = false := by simp; omega
    have g1040 : decide (1040 ≤ c) = false := by simp; omega
    have g1024 : decide (1024 ≤ c) = false := by simp; omega
    have l90 : decide (c ≤ 90) = true := by simp; omega
    have l222 : decide (c ≤ 222) = true := by simp; omega
    have l939 : decide (c ≤ 939) = true := by simp; omega
    have l1071 : decide (c ≤ 1071) = true := by simp; omega
    have l1039 : decide (c ≤ 1039) = true := by simp; omega
    have n215 : (c != 215) = true := by simp; omega
    have n930 : (c != 930) = true := by simp; omega
    have hr := Lib.hid (show abv c = 0 by omega)
    clear hi hc
    go_enter Tryd.func18, Tryd.ntmps18
    go_wp2
    go_ret
    exact ⟨retI hr.out.symm, rfl⟩
  · have g65 : decide (65 ≤ c) = true := by simp; omega
    have g192 : decide (192 ≤ c) = false := by simp; omega
    have g913 : decide (913 ≤ c) = false := by simp; omega
    have g1040 : decide (1040 ≤ c) = false := by simp; omega
    have g1024 : decide (1024 ≤ c) = false := by simp; omega
    have l90 : decide (c ≤ 90) = true := by simp; omega
    have l222 : decide (c ≤ 222) = true := by simp; omega
    have l939 : decide (c ≤ 939) = true := by simp; omega
    have l1071 : decide (c ≤ 1071) = true := by simp; omega
    have l1039 : decide (c ≤ 1039) = true := by simp; omega
    have n215 : (c != 215) = true := by simp; omega
    have n930 : (c != 930) = true := by simp; omega
    have hr := Lib.hid (show abv c = 32 by omega)
    clear hi hc
    go_enter Tryd.func18, Tryd.ntmps18
    go_wp2
    go_ret
    exact ⟨retI hr.out.symm, rfl⟩
  · have g65 : decide (65 ≤ c) = true := by simp; omega
    have g192 : decide (192 ≤ c) = false := by simp; omega
    have g913 : decide (913 ≤ c) = false := by simp; omega
    have g1040 : decide (1040 ≤ c) = false := by simp; omega
    have g1024 : decide (1024 ≤ c) = false := by simp; omega
    have l90 : decide (c ≤ 90) = false := by simp; omega
    have l222 : decide (c ≤ 222) = true := by simp; omega
    have l939 : decide (c ≤ 939) = true := by simp; omega
    have l1071 : decide (c ≤ 1071) = true := by simp; omega
    have l1039 : decide (c ≤ 1039) = true := by simp; omega
    have n215 : (c != 215) = true := by simp; omega
    have n930 : (c != 930) = true := by simp; omega
    have hr := Lib.hid (show abv c = 0 by omega)
    clear hi hc
    go_enter Tryd.func18, Tryd.ntmps18
    go_wp2
    go_ret
    exact ⟨retI hr.out.symm, rfl⟩
  · have g65 : decide (65 ≤ c) = true := by simp; omega
    have g192 : decide (192 ≤ c) = true := by simp; omega
    have g913 : decide (913 ≤ c) = false := by simp; omega
    have g1040 : decide (1040 ≤ c) = false := by simp; omega
    have g1024 : decide (1024 ≤ c) = false := by simp; omega
    have l90 : decide (c ≤ 90) = false := by simp; omega
    have l222 : decide (c ≤ 222) = true := by simp; omega
    have l939 : decide (c ≤ 939) = true := by simp; omega
    have l1071 : decide (c ≤ 1071) = true := by simp; omega
    have l1039 : decide (c ≤ 1039) = true := by simp; omega
    have n215 : (c != 215) = true := by simp; omega
    have n930 : (c != 930) = true := by simp; omega
    have hr := Lib.hid (show abv c = 32 by omega)
    clear hi hc
    go_enter Tryd.func18, Tryd.ntmps18
    go_wp2
    go_ret
    exact ⟨retI hr.out.symm, rfl⟩
  · have g65 : decide (65 ≤ c) = true := by simp; omega
    have g192 : decide (192 ≤ c) = true := by simp; omega
    have g913 : decide (913 ≤ c) = false := by simp; omega
    have g1040 : decide (1040 ≤ c) = false := by simp; omega
    have g1024 : decide (1024 ≤ c) = false := by simp; omega
    have l90 : decide (c ≤ 90) = false := by simp; omega
    have l222 : decide (c ≤ 222) = true := by simp; omega
    have l939 : decide (c ≤ 939) = true := by simp; omega
    have l1071 : decide (c ≤ 1071) = true := by simp; omega
    have l1039 : decide (c ≤ 1039) = true := by simp; omega
    have n930 : (c != 930) = true := by simp; omega
    have n215 : (c != 215) = false := by simp; omega
    have hr := Lib.hid (show abv c = 0 by omega)
    clear hi hc
    go_enter Tryd.func18, Tryd.ntmps18
    go_wp2
    go_ret
    exact ⟨retI hr.out.symm, rfl⟩
  · have g65 : decide (65 ≤ c) = true := by simp; omega
    have g192 : decide (192 ≤ c) = true := by simp; omega
    have g913 : decide (913 ≤ c) = false := by simp; omega
    have g1040 : decide (1040 ≤ c) = false := by simp; omega
    have g1024 : decide (1024 ≤ c) = false := by simp; omega
    have l90 : decide (c ≤ 90) = false := by simp; omega
    have l222 : decide (c ≤ 222) = true := by simp; omega
    have l939 : decide (c ≤ 939) = true := by simp; omega
    have l1071 : decide (c ≤ 1071) = true := by simp; omega
    have l1039 : decide (c ≤ 1039) = true := by simp; omega
    have n215 : (c != 215) = true := by simp; omega
    have n930 : (c != 930) = true := by simp; omega
    have hr := Lib.hid (show abv c = 32 by omega)
    clear hi hc
    go_enter Tryd.func18, Tryd.ntmps18
    go_wp2
    go_ret
    exact ⟨retI hr.out.symm, rfl⟩
  · have g65 : decide (65 ≤ c) = true := by simp; omega
    have g192 : decide (192 ≤ c) = true := by simp; omega
    have g913 : decide (913 ≤ c) = false := by simp; omega
    have g1040 : decide (1040 ≤ c) = false := by simp; omega
    have g1024 : decide (1024 ≤ c) = false := by simp; omega
    have l90 : decide (c ≤ 90) = false := by simp; omega
    have l222 : decide (c ≤ 222) = false := by simp; omega
    have l939 : decide (c ≤ 939) = true := by simp; omega
    have l1071 : decide (c ≤ 1071) = true := by simp; omega
    have l1039 : decide (c ≤ 1039) = true := by simp; omega
    have n215 : (c != 215) = true := by simp; omega
    have n930 : (c != 930) = true := by simp; omega
    have hr := Lib.hid (show abv c = 0 by omega)
    clear hi hc
    go_enter Tryd.func18, Tryd.ntmps18
    go_wp2
    go_ret
    exact ⟨retI hr.out.symm, rfl⟩
  · have g65 : decide (65 ≤ c) = true := by simp; omega
    have g192 : decide (192 ≤ c) = true := by simp; omega
    have g913 : decide (913 ≤ c) = true := by simp; omega
    have g1040 : decide (1040 ≤ c) = false := by simp; omega
    have g1024 : decide (1024 ≤ c) = false := by simp; omega
    have l90 : decide (c ≤ 90) = false := by simp; omega
    have l222 : decide (c ≤ 222) = false := by simp; omega
    have l939 : decide (c ≤ 939) = true := by simp; omega
    have l1071 : decide (c ≤ 1071) = true := by simp; omega
    have l1039 : decide (c ≤ 1039) = true := by simp; omega
    have n215 : (c != 215) = true := by simp; omega
    have n930 : (c != 930) = true := by simp; omega
    have hr := Lib.hid (show abv c = 32 by omega)
    clear hi hc
    go_enter Tryd.func18, Tryd.ntmps18
    go_wp2
    go_ret
    exact ⟨retI hr.out.symm, rfl⟩
  · have g65 : decide (65 ≤ c) = true := by simp; omega
    have g192 : decide (192 ≤ c) = true := by simp; omega
    have g913 : decide (913 ≤ c) = true := by simp; omega
    have g1040 : decide (1040 ≤ c) = false := by simp; omega
    have g1024 : decide (1024 ≤ c) = false := by simp; omega
    have l90 : decide (c ≤ 90) = false := by simp; omega
    have l222 : decide (c ≤ 222) = false := by simp; omega
    have l939 : decide (c ≤ 939) = true := by simp; omega
    have l1071 : decide (c ≤ 1071) = true := by simp; omega
    have l1039 : decide (c ≤ 1039) = true := by simp; omega
    have n215 : (c != 215) = true := by simp; omega
    have n930 : (c != 930) = false := by simp; omega
    have hr := Lib.hid (show abv c = 0 by omega)
    clear hi hc
    go_enter Tryd.func18, Tryd.ntmps18
    go_wp2
    go_ret
    exact ⟨retI hr.out.symm, rfl⟩
  · have g65 : decide (65 ≤ c) = true := by simp; omega
    have g192 : decide (192 ≤ c) = true := by simp; omega
    have g913 : decide (913 ≤ c) = true := by simp; omega
    have g1040 : decide (1040 ≤ c) = false := by simp; omega
    have g1024 : decide (1024 ≤ c) = false := by simp; omega
    have l90 : decide (c ≤ 90) = false := by simp; omega
    have l222 : decide (c ≤ 222) = false := by simp; omega
    have l939 : decide (c ≤ 939) = true := by simp; omega
    have l1071 : decide (c ≤ 1071) = true := by simp; omega
    have l1039 : decide (c ≤ 1039) = true := by simp; omega
    have n215 : (c != 215) = true := by simp; omega
    have n930 : (c != 930) = true := by simp; omega
    have hr := Lib.hid (show abv c = 32 by omega)
    clear hi hc
    go_enter Tryd.func18, Tryd.ntmps18
    go_wp2
    go_ret
    exact ⟨retI hr.out.symm, rfl⟩
  · have g65 : decide (65 ≤ c) = true := by simp; omega
    have g192 : decide (192 ≤ c) = true := by simp; omega
    have g913 : decide (913 ≤ c) = true := by simp; omega
    have g1040 : decide (1040 ≤ c) = false := by simp; omega
    have g1024 : decide (1024 ≤ c) = false := by simp; omega
    have l90 : decide (c ≤ 90) = false := by simp; omega
    have l222 : decide (c ≤ 222) = false := by simp; omega
    have l939 : decide (c ≤ 939) = false := by simp; omega
    have l1071 : decide (c ≤ 1071) = true := by simp; omega
    have l1039 : decide (c ≤ 1039) = true := by simp; omega
    have n215 : (c != 215) = true := by simp; omega
    have n930 : (c != 930) = true := by simp; omega
    have hr := Lib.hid (show abv c = 0 by omega)
    clear hi hc
    go_enter Tryd.func18, Tryd.ntmps18
    go_wp2
    go_ret
    exact ⟨retI hr.out.symm, rfl⟩
  · have g65 : decide (65 ≤ c) = true := by simp; omega
    have g192 : decide (192 ≤ c) = true := by simp; omega
    have g913 : decide (913 ≤ c) = true := by simp; omega
    have g1040 : decide (1040 ≤ c) = false := by simp; omega
    have g1024 : decide (1024 ≤ c) = true := by simp; omega
    have l90 : decide (c ≤ 90) = false := by simp; omega
    have l222 : decide (c ≤ 222) = false := by simp; omega
    have l939 : decide (c ≤ 939) = false := by simp; omega
    have l1071 : decide (c ≤ 1071) = true := by simp; omega
    have l1039 : decide (c ≤ 1039) = true := by simp; omega
    have n215 : (c != 215) = true := by simp; omega
    have n930 : (c != 930) = true := by simp; omega
    have hr := Lib.hid (show abv c = 80 by omega)
    clear hi hc
    go_enter Tryd.func18, Tryd.ntmps18
    go_wp2
    go_ret
    exact ⟨retI hr.out.symm, rfl⟩
  · have g65 : decide (65 ≤ c) = true := by simp; omega
    have g192 : decide (192 ≤ c) = true := by simp; omega
    have g913 : decide (913 ≤ c) = true := by simp; omega
    have g1040 : decide (1040 ≤ c) = true := by simp; omega
    have g1024 : decide (1024 ≤ c) = true := by simp; omega
    have l90 : decide (c ≤ 90) = false := by simp; omega
    have l222 : decide (c ≤ 222) = false := by simp; omega
    have l939 : decide (c ≤ 939) = false := by simp; omega
    have l1071 : decide (c ≤ 1071) = true := by simp; omega
    have l1039 : decide (c ≤ 1039) = false := by simp; omega
    have n215 : (c != 215) = true := by simp; omega
    have n930 : (c != 930) = true := by simp; omega
    have hr := Lib.hid (show abv c = 32 by omega)
    clear hi hc
    go_enter Tryd.func18, Tryd.ntmps18
    go_wp2
    go_ret
    exact ⟨retI hr.out.symm, rfl⟩
  · have g65 : decide (65 ≤ c) = true := by simp; omega
    have g192 : decide (192 ≤ c) = true := by simp; omega
    have g913 : decide (913 ≤ c) = true := by simp; omega
    have g1040 : decide (1040 ≤ c) = true := by simp; omega
    have g1024 : decide (1024 ≤ c) = true := by simp; omega
    have l90 : decide (c ≤ 90) = false := by simp; omega
    have l222 : decide (c ≤ 222) = false := by simp; omega
    have l939 : decide (c ≤ 939) = false := by simp; omega
    have l1071 : decide (c ≤ 1071) = false := by simp; omega
    have l1039 : decide (c ≤ 1039) = false := by simp; omega
    have n215 : (c != 215) = true := by simp; omega
    have n930 : (c != 930) = true := by simp; omega
    have hr := Lib.hid (show abv c = 0 by omega)
    clear hi hc
    go_enter Tryd.func18, Tryd.ntmps18
    go_wp2
    go_ret
    exact ⟨retI hr.out.symm, rfl⟩

set_option maxHeartbeats 1600000 in
theorem roth_any (c : Int) (w : World) : Calls Tryd.prog 7 #[.int .i64 c] w fun e w' => e = .returned (.tuple #[.int .i64 (othN c), .bool (othF c).isSome]) ∧ w' = w := by
  rcases Int.lt_or_le c 0 with h | h
  · have d1 : decide (c < 0) = true := by simpa using h
    have hr := Lib.hid (oth_far (.inl h))
    clear h
    go_enter Tryd.func7, Tryd.ntmps7
    go_wp2
    go_ret2
    exact ⟨retN hr.out, rfl⟩
  · have d1 : decide (c < 0) = false := by simp; omega
    rcases Int.lt_or_le 2000 c with k | k
    · have d2 : decide (2000 < c) = true := by simpa using k
      have hr := Lib.hid (oth_far (.inr k))
      clear h k
      go_enter Tryd.func7, Tryd.ntmps7
      go_wp2
      go_ret2
      exact ⟨retN hr.out, rfl⟩
    · have d2 : decide (2000 < c) = false := by simp; omega
      have a1 := Lib.hid (fun W => above_any c W)
      have a2 := Lib.hid (fun W => above_any (c - 32) W)
      have a3 := Lib.hid (fun W => above_any (c - 80) W)
      have hi := abv_is c
      have hh : abv c = 0 ∨ abv c = 32 ∨ abv c = 80 := by omega
      clear hi
      rcases hh with q | q | q
      · rw [q] at a1
        by_cases q2 : abv (c - 32) = 32
        · have hr := Lib.hid (show othF c = some (c - 32) from pair_othF (.inr (by have := abv_low q2; rwa [show c - 32 + 32 = c by omega] at this)))
          rw [q2] at a2
          clear q q2
          go_enter Tryd.func7, Tryd.ntmps7
          go_wp2_with (first
            | (go_at_call 18; (with_reducible refine (a1.out _).mono ?_); rintro e w' ⟨rfl, hw⟩; subst hw)
            | (go_at_call 18; (with_reducible refine (a2.out _).mono ?_); rintro e w' ⟨rfl, hw⟩; subst hw))
          go_ret2
          exact ⟨retO hr.out, rfl⟩
        · by_cases q3 : abv (c - 80) = 80
          · have hr := Lib.hid (show othF c = some (c - 80) from pair_othF (.inr (by have := abv_high q3; rwa [show c - 80 + 80 = c by omega] at this)))
            rw [q3] at a3
            have t2 : (abv (c - 32) == 32) = false := by simpa using q2
            clear q q2 q3
            go_enter Tryd.func7, Tryd.ntmps7
            go_wp2_with (first
              | (go_at_call 18; (with_reducible refine (a1.out _).mono ?_); rintro e w' ⟨rfl, hw⟩; subst hw)
              | (go_at_call 18; (with_reducible refine (a2.out _).mono ?_); rintro e w' ⟨rfl, hw⟩; subst hw)
              | (go_at_call 18; (with_reducible refine (a3.out _).mono ?_); rintro e w' ⟨rfl, hw⟩; subst hw))
            go_ret2
            exact ⟨retO hr.out, rfl⟩
          · have hr := Lib.hid (oth_none q q2 q3)
            have t2 : (abv (c - 32) == 32) = false := by simpa using q2
            have t3 : (abv (c - 80) == 80) = false := by simpa using q3
            clear q q2 q3
            go_enter Tryd.func7, Tryd.ntmps7
            go_wp2_with (first
              | (go_at_call 18; (with_reducible refine (a1.out _).mono ?_); rintro e w' ⟨rfl, hw⟩; subst hw)
              | (go_at_call 18; (with_reducible refine (a2.out _).mono ?_); rintro e w' ⟨rfl, hw⟩; subst hw)
              | (go_at_call 18; (with_reducible refine (a3.out _).mono ?_); rintro e w' ⟨rfl, hw⟩; subst hw))
            go_ret2
            exact ⟨retN hr.out, rfl⟩
      · have hr := Lib.hid (show othF c = some (c + 32) from pair_othF (.inl (abv_low q)))
        rw [q] at a1
        clear q
        go_enter Tryd.func7, Tryd.ntmps7
        go_wp2_with (go_at_call 18; (with_reducible refine (a1.out _).mono ?_); rintro e w' ⟨rfl, hw⟩; subst hw)
        go_ret2
        exact ⟨retO hr.out, rfl⟩
      · have hr := Lib.hid (show othF c = some (c + 80) from pair_othF (.inl (abv_high q)))
        rw [q] at a1
        clear q
        go_enter Tryd.func7, Tryd.ntmps7
        go_wp2_with (go_at_call 18; (with_reducible refine (a1.out _).mono ?_); rintro e w' ⟨rfl, hw⟩; subst hw)
        go_ret2
        exact ⟨retO hr.out, rfl⟩

set_option maxHeartbeats 1600000 in
theorem rsmall_any (c : Int) (w : World) : Calls Tryd.prog 9 #[.int .i64 c] w fun e w' => e = .returned (.int .i64 (smallF c)) ∧ w' = w := by
  have a1 := Lib.hid (fun W => roth_any c W)
  cases h : othF c with
  | none =>
    have hr := Lib.hid (show smallF c = c by unfold smallF; rw [h]; exact Int.max_self _)
    rw [othN, h] at a1
    simp only [Option.isSome_none] at a1
    clear h
    go_enter Tryd.func9, Tryd.ntmps9
    go_wp2_with (go_at_call 7; (with_reducible refine (a1.out _).mono ?_); rintro e w' ⟨rfl, hw⟩; subst hw)
    go_ret
    exact ⟨retI hr.out.symm, rfl⟩
  | some o =>
    rw [othN, h] at a1
    simp only [Option.isSome_some, Option.getD_some] at a1
    rcases Int.lt_or_le c o with k | k
    · have hr := Lib.hid (show smallF c = o by unfold smallF; rw [h, Option.getD_some]; exact Int.max_eq_right (by omega))
      have d1 : decide (c < o) = true := by simpa using k
      clear h k
      go_enter Tryd.func9, Tryd.ntmps9
      go_wp2_with (go_at_call 7; (with_reducible refine (a1.out _).mono ?_); rintro e w' ⟨rfl, hw⟩; subst hw)
      go_ret
      exact ⟨retI hr.out.symm, rfl⟩
    · have hr := Lib.hid (show smallF c = c by unfold smallF; rw [h, Option.getD_some]; exact Int.max_eq_left (by omega))
      have d1 : decide (c < o) = false := by simp; omega
      clear h k
      go_enter Tryd.func9, Tryd.ntmps9
      go_wp2_with (go_at_call 7; (with_reducible refine (a1.out _).mono ?_); rintro e w' ⟨rfl, hw⟩; subst hw)
      go_ret
      exact ⟨retI hr.out.symm, rfl⟩

end Go.Proofs.YtdkiahelnomjpaaDoor.Fd

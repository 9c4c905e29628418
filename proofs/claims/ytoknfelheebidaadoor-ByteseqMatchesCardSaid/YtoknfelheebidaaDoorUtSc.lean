/- Walks of one code point: whether it is one, how many bytes, its bytes by the document, what a text begins with. -/
import Derived.Test.YtoknfelheebidaaDoorUtPlain
import Derived.Test.YtoknfelheebidaaDoorChecked
import Derived.Test.YtoknfelheebidaaDoorShelf
import Derived.WalkKit
import Derived.Lib.Hide
import Derived.WalkLawsBesides
import Derived.WalkSpells
namespace Go.Proofs.YtoknfelheebidaaDoor.Ut
open Go.RowKit

theorem sc_end {c : Int} {b : Bool} (h : b = scalar c) : Ending.returned (.bool b) = .returned (.bool (scalar c)) := by rw [h]

set_option maxRecDepth 100000 in
set_option maxHeartbeats 400000 in
theorem scalar_any (c : Int) (w : World) :
    Calls Tryd.prog 32 #[.int .i64 c] w fun e w' => e = .returned (.bool (scalar c)) ∧ w = w' := by
  go_enter Tryd.func32, Tryd.ntmps32
  go_wp2
  all_goals (go_ret; refine ⟨sc_end ?_, rfl⟩; rw [Bool.eq_iff_iff]; simp [scalar]; try omega)

set_option maxRecDepth 100000 in
set_option maxHeartbeats 400000 in
theorem rscalar_any (c : Int) (w : World) :
    Calls Tryd.prog 19 #[.int .i64 c] w fun e w' => e = .returned (.bool (scalar c)) ∧ w = w' := by
  go_enter Tryd.func19, Tryd.ntmps19
  go_wp2
  all_goals (go_ret; refine ⟨sc_end ?_, rfl⟩; rw [Bool.eq_iff_iff]; simp [scalar]; try omega)


theorem runeLen_good {c : Int} (h : scalar c = true) : Lib.runeLen c = ((putL c).length : Int) := by
  rw [putL, if_pos h, ← Lib.runeCells_length]
  rw [scalar_iff] at h
  unfold Lib.runeLen Lib.runeCells
  rw [List.length_map]
  by_cases a : c ≤ 127
  · rw [Lib.encodeRuneZ_one (by omega) a]; simp; omega
  · by_cases b : c ≤ 2047
    · rw [Lib.encodeRuneZ_two (by omega) b]; simp; omega
    · by_cases d : c ≤ 65535
      · rw [Lib.encodeRuneZ_three (by omega)]; simp; omega
      · rw [Lib.encodeRuneZ_four (by omega) (by omega)]; simp; omega

set_option maxRecDepth 100000 in
set_option maxHeartbeats 400000 in
theorem length_any (c : Int) (w : World) :
    Calls Tryd.prog 26 #[.int .i64 c] w fun e w' => e = .returned (.int .i64 ((putL c).length : Int)) ∧ w = w' := by
  have hs : ∀ w, Calls Tryd.prog 32 #[.int .i64 c] w fun e w' => e = .returned (.bool (scalar c)) ∧ w = w' := fun w => scalar_any c w
  cases h : scalar c with
  | false =>
    rw [h] at hs
    have HS := Lib.hid hs
    clear hs
    go_enter Tryd.func26, Tryd.ntmps26
    go_wp2_with (go_at_call 32; refine (HS.out _).mono ?_; rintro e w' ⟨rfl, rfl⟩)
    go_ret
    exact ⟨by rw [put_bad h]; rfl, rfl⟩
  | true =>
    rw [h] at hs
    have HS := Lib.hid hs
    clear hs
    have hr := runeLen_good h
    rw [scalar_iff] at h
    have hr1 : ∀ w, Calls Tryd.prog 33 #[.int .i32 c] w fun e w' => e = .returned (.int .i64 (Lib.runeLen c)) ∧ w' = w := fun w => Tryd.utf8_RuneLen c w
    have HR := Lib.hid hr1
    clear hr1
    rw [← hr]
    clear hr
    have h0 : 0 ≤ c := by omega
    have h1 : c ≤ 1114111 := by omega
    clear h
    go_enter Tryd.func26, Tryd.ntmps26
    go_wp2_with (first
      | (go_at_call 32; refine (HS.out _).mono ?_; rintro e w' ⟨rfl, rfl⟩)
      | (go_at_call 33; refine (HR.out _).mono ?_; rintro e w' ⟨rfl, rfl⟩))
    go_ret
    exact ⟨rfl, rfl⟩

/-- what utf.Get and the document's Get tell -/
def vGet (l : List UInt8) : Value := .tuple #[.int .i64 (getL l).1, .int .i64 ((getL l).2 : Nat)]

/-! ### the document's own -/
theorem run_enc (w : World) (c : Int) (n : Nat) (X : Array Value) (h : X = (Lib.runeCells c).toArray ∧ (Lib.runeCells c).length = n) :
    (convert 45 9 (.slice (some ⟨w.heap.size, 0, none⟩) n n)).run Tryd.prog (w.alloc (.cells X 5)) = .ok (.string ⟨(Lib.encodeRune c).toArray⟩) (w.alloc (.cells X 5)) := by
  obtain ⟨h, hn⟩ := h
  subst h
  have hn' : n = (Lib.encodeRune c).length := by rw [← hn, Lib.runeCells_length]
  rw [hn']
  refine run_convert_bytes_back _ _ _ 5 _ _ _ Tryd.underlying45 Tryd.underlying5 Tryd.underlying9 fun j hj => ?_
  have e : (⟨w.heap.size, 0, none⟩ : Addr).add j = ⟨w.heap.size, j, none⟩ := by
    unfold Addr.add; split
    · rename_i h0; subst h0; rfl
    · simp
  rw [e, World.cell?_alloc_new, ← Lib.byteCells_encodeRune]
  simp [Lib.byteCells, hj]

theorem str_eq {l m : List UInt8} (h : l = m) : Ending.returned (.string ⟨l.toArray⟩) = .returned (.string ⟨m.toArray⟩) := by rw [h]

set_option maxRecDepth 100000 in
set_option maxHeartbeats 400000 in
theorem rput_any (c : Int) (w : World) :
    Calls Tryd.prog 7 #[.int .i64 c] w fun e w' => e = .returned (.string ⟨(putL c).toArray⟩) ∧ Below w.heap.size w w' := by
  have hs : ∀ w, Calls Tryd.prog 19 #[.int .i64 c] w fun e w' => e = .returned (.bool (scalar c)) ∧ w = w' := fun w => rscalar_any c w
  cases h : scalar c with
  | false =>
    rw [h] at hs
    have HS := Lib.hid hs
    clear hs
    go_enter Tryd.func7, Tryd.ntmps7
    go_wp2_with (go_at_call 19; refine (HS.out _).mono ?_; rintro e w' ⟨rfl, rfl⟩)
    go_ret
    exact ⟨by rw [put_bad h]; rfl, Below.refl _ _⟩
  | true =>
    rw [h] at hs
    have HS := Lib.hid hs
    clear hs
    have hp := put_good h
    rw [hp]
    rw [scalar_iff] at h
    have h0 : 0 ≤ c := by omega
    have h1 : c ≤ 1114111 := by omega
    have w1 : c ≤ 127 ∨ (128 ≤ c ∧ c ≤ 2047) ∨ (2048 ≤ c ∧ c ≤ 65535) ∨ 65536 ≤ c := by omega
    rcases w1 with w1 | w1 | w1 | w1
    · have hcv := run_enc w c 1 #[.int .u8 c] (by simp [Lib.runeCells, Lib.encodeRuneZ_one h0 w1])
      clear h hp
      go_enter Tryd.func7, Tryd.ntmps7
      go_wp2_with (first
        | (go_at_call 19; refine (HS.out _).mono ?_; rintro e w' ⟨rfl, rfl⟩))
      go_ret
      exact ⟨rfl, (Below.refl _ w).alloc (Nat.le_refl _) _⟩
    · have hcv := run_enc w c 2 #[.int .u8 (192 + c / 64), .int .u8 (128 + c % 64)] (by simp [Lib.runeCells, Lib.encodeRuneZ_two w1.1 w1.2])
      obtain ⟨w1, w2⟩ := w1
      clear h hp
      go_enter Tryd.func7, Tryd.ntmps7
      go_wp2_with (first
        | (go_at_call 19; refine (HS.out _).mono ?_; rintro e w' ⟨rfl, rfl⟩))
      go_ret
      exact ⟨rfl, (Below.refl _ w).alloc (Nat.le_refl _) _⟩
    · have hcv := run_enc w c 3 #[.int .u8 (224 + c / 4096), .int .u8 (128 + c / 64 % 64), .int .u8 (128 + c % 64)] (by simp [Lib.runeCells, Lib.encodeRuneZ_three (show (2048 ≤ c ∧ c < 55296) ∨ (57343 < c ∧ c ≤ 65535) by omega)])
      obtain ⟨w1, w2⟩ := w1
      clear h hp
      go_enter Tryd.func7, Tryd.ntmps7
      go_wp2_with (first
        | (go_at_call 19; refine (HS.out _).mono ?_; rintro e w' ⟨rfl, rfl⟩))
      go_ret
      exact ⟨rfl, (Below.refl _ w).alloc (Nat.le_refl _) _⟩
    · have hcv := run_enc w c 4 #[.int .u8 (240 + c / 262144), .int .u8 (128 + c / 4096 % 64), .int .u8 (128 + c / 64 % 64), .int .u8 (128 + c % 64)] (by simp [Lib.runeCells, Lib.encodeRuneZ_four w1 h1])
      clear h hp
      go_enter Tryd.func7, Tryd.ntmps7
      go_wp2_with (first
        | (go_at_call 19; refine (HS.out _).mono ?_; rintro e w' ⟨rfl, rfl⟩))
      go_ret
      exact ⟨rfl, (Below.refl _ w).alloc (Nat.le_refl _) _⟩

end Go.Proofs.YtoknfelheebidaaDoor.Ut

/- The document's Has: in, upper, lower, and each name. -/
import Derived.Test.YtenmjnopbbingaaDoorNmPlain
import Derived.Deep.DeepMust
namespace Go.Proofs.YtenmjnopbbingaaDoor.Nm
open Go.RowKit Go.Shelf Go.Proofs.YtenmjnopbbingaaDoor.Rg

def inR (a b c : Int) : Bool := decide (a ≤ c) && decide (c ≤ b)
theorem in_any (c lo hi : Int) (w : World) : Calls Tryd.prog 24 #[.int .i64 c, .int .i64 lo, .int .i64 hi] w fun e w' => e = .returned (.bool (inR lo hi c)) ∧ w = w' := by
  by_cases h1 : lo ≤ c
  · by_cases h2 : c ≤ hi
    · go_enter Tryd.func24, Tryd.ntmps24
      go_wp2
      go_ret
      exact ⟨by simp [inR, h1, h2], rfl⟩
    · go_enter Tryd.func24, Tryd.ntmps24
      go_wp2
      go_ret
      exact ⟨by simp [inR, h2], rfl⟩
  · have h3 : decide (lo ≤ c) = false := decide_eq_false h1
    go_enter Tryd.func24, Tryd.ntmps24
    go_wp2
    go_ret
    exact ⟨by unfold inR; rw [h3]; rfl, rfl⟩

def upB (c : Int) : Bool := inR 65 90 c || (inR 192 222 c && (c != 215)) || (inR 913 939 c && (c != 930)) || inR 1024 1071 c
def loB (c : Int) : Bool := inR 97 122 c || (inR 223 255 c && (c != 247)) || inR 945 971 c || inR 1072 1119 c
set_option maxHeartbeats 2000000 in
theorem upper_any (c : Int) (w : World) : Calls Tryd.prog 25 #[.int .i64 c] w fun e w' => e = .returned (.bool (upB c)) ∧ w = w' := by
  go_enter Tryd.func25, Tryd.ntmps25
  go_wp2_with (go_at_call 24; (with_reducible refine (in_any _ _ _ _).mono ?_); rintro e w' ⟨rfl, rfl⟩)
  all_goals
    go_ret
    refine ⟨retB ?_, rfl⟩
    simp_all [upB]
set_option maxHeartbeats 2000000 in
theorem lower_any (c : Int) (w : World) : Calls Tryd.prog 26 #[.int .i64 c] w fun e w' => e = .returned (.bool (loB c)) ∧ w = w' := by
  go_enter Tryd.func26, Tryd.ntmps26
  go_wp2_with (go_at_call 24; (with_reducible refine (in_any _ _ _ _).mono ?_); rintro e w' ⟨rfl, rfl⟩)
  all_goals
    go_ret
    refine ⟨retB ?_, rfl⟩
    simp_all [loB]

/-- what the document says of a name, and of a number that may be one -/
def docN (nm : ByteArray) (c : Int) : Bool :=
  if (nm.toList == [65, 110, 121]) = true then true else
  if (nm.toList == [65, 115, 99, 105, 105]) = true then decide (c < 128) else
  if (nm.toList == [67, 111, 110, 116, 114, 111, 108]) = true then (decide (c < 32) || inR 127 159 c) else
  if (nm.toList == [68, 105, 103, 105, 116]) = true then inR 48 57 c else
  if (nm.toList == [72, 101, 120]) = true then (inR 48 57 c || inR 65 70 c || inR 97 102 c) else
  if (nm.toList == [85, 112, 112, 101, 114]) = true then upB c else
  if (nm.toList == [76, 111, 119, 101, 114]) = true then loB c else
  if (nm.toList == [65, 108, 112, 104, 97]) = true then (upB c || loB c) else
  if (nm.toList == [65, 108, 110, 117, 109]) = true then (upB c || loB c || inR 48 57 c) else
  if (nm.toList == [87, 111, 114, 100]) = true then (upB c || loB c || inR 48 57 c || (c == 95)) else
  if (nm.toList == [83, 112, 97, 99, 101]) = true then (inR 9 13 c || (c == 32) || (c == 133) || (c == 160) || inR 8192 8202 c || inR 8232 8233 c || (c == 8239) || (c == 8287) || (c == 12288)) else
  if (nm.toList == [80, 117, 110, 99, 116]) = true then (inR 33 126 c && !inR 48 57 c && !inR 65 90 c && !inR 97 122 c) else
  if (nm.toList == [76, 97, 116, 105, 110]) = true then (inR 65 90 c || inR 97 122 c || (c == 170) || (c == 186) || (inR 192 591 c && (c != 215) && (c != 247))) else
  if (nm.toList == [71, 114, 101, 101, 107]) = true then inR 880 1023 c else
  if (nm.toList == [67, 121, 114, 105, 108, 108, 105, 99]) = true then inR 1024 1279 c else
  if (nm.toList == [72, 97, 110]) = true then (inR 13312 40959 c && !inR 19904 19967 c) else
  false
set_option maxRecDepth 100000 in
theorem out_has (nm : ByteArray) (c : Int) (h : ¬ (0 ≤ c ∧ c ≤ 1114111)) (w : World) : Calls Tryd.prog 15 #[.string nm, .int .i64 c] w fun e w' => e = .returned (.bool false) ∧ w = w' := by
  by_cases h0 : c < 0
  · clear h
    go_enter Tryd.func15, Tryd.ntmps15
    go_wp2
    go_ret
    exact ⟨rfl, rfl⟩
  · have h1 : 1114111 < c := by omega
    clear h
    go_enter Tryd.func15, Tryd.ntmps15
    go_wp2
    go_ret
    exact ⟨rfl, rfl⟩
set_option maxRecDepth 100000 in
set_option maxHeartbeats 16000000 in
theorem rhas_in (nm : ByteArray) (c : Int) (h0 : 0 ≤ c) (h1 : c ≤ 1114111) (w : World) : Calls Tryd.prog 15 #[.string nm, .int .i64 c] w fun e w' => e = .returned (.bool (docN nm c)) ∧ w = w' := by
  go_enter Tryd.func15, Tryd.ntmps15
  go_wp2_with (first
    | (go_at_call 24; (with_reducible refine (in_any _ _ _ _).mono ?_); rintro e w' ⟨rfl, rfl⟩)
    | (go_at_call 25; (with_reducible refine (upper_any _ _).mono ?_); rintro e w' ⟨rfl, rfl⟩)
    | (go_at_call 26; (with_reducible refine (lower_any _ _).mono ?_); rintro e w' ⟨rfl, rfl⟩))
  all_goals
    go_ret
    refine ⟨retB ?_, rfl⟩
    unfold docN
    repeat' first | rw [if_pos (by assumption)] | rw [if_neg (by assumption)] | fail
    try simp [*]
    try decide

end Go.Proofs.YtenmjnopbbingaaDoor.Nm

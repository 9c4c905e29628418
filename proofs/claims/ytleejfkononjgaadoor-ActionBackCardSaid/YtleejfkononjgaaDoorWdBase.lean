/- What Next tells, in plain words. -/
import Derived.Test.YtleejfkononjgaaDoorWdRef
namespace Go.Proofs.YtleejfkononjgaaDoor.Wd
open Go.RowKit Go.Shelf

theorem ret2 {a b c d : Int} (h : a = c) (k : b = d) : Ending.returned (.tuple #[.int .i64 a, .int .i64 b]) = .returned (.tuple #[.int .i64 c, .int .i64 d]) := by rw [h, k]
def vNext (l : List UInt8) (k : Nat) : Value := .tuple #[.int .i64 ((nextL l k).1 : Nat), .int .i64 ((nextL l k).2 : Nat)]
theorem retNext {l : List UInt8} {K a b : Nat} (ha : (nextL l K).1 = a) (hb : (nextL l K).2 = b) : Ending.returned (.tuple #[.int .i64 (a : Nat), .int .i64 (b : Nat)]) = .returned (vNext l K) := by unfold vNext; rw [ha, hb]
theorem go_or_stop (p : UInt8 → Bool) {s : ByteArray} {k t : Nat} (hp : t = k + spanL p (s.data.toList.drop k)) : (∃ h : k < s.size, p s[k] = true ∧ t = k + 1 + spanL p (s.data.toList.drop (k + 1))) ∨ (t = k ∧ ∀ h : k < s.size, p s[k] = false) := by
  by_cases h : k < s.size
  · cases hc : p s[k]
    · rw [span_at h, spanL_no hc] at hp
      exact .inr ⟨hp, fun _ => hc⟩
    · rw [span_at h, spanL_yes hc] at hp
      exact .inl ⟨h, hc, by omega⟩
  · rw [span_end (by omega), spanL_nil] at hp
    exact .inr ⟨hp, fun h' => absurd h' h⟩

end Go.Proofs.YtleejfkononjgaaDoor.Wd

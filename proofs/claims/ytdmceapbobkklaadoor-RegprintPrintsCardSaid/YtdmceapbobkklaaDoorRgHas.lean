/- Has, the program's and the document's. -/
import Derived.Test.YtdmceapbobkklaaDoorRgMem
namespace Go.Proofs.YtdmceapbobkklaaDoor.Rg
open Go.RowKit

/-- is c in one of these, whatever c is -/
def hasB (l : List R) (c : Int) : Bool := l.any fun r => decide (r.1 ≤ c) && decide (c ≤ r.2)
/-- is c in the set of any ranges -/
def inB (l : List R) (c : Int) : Bool := decide (0 ≤ c) && decide (c ≤ 1114111) && hasB l c
theorem hasB_drop {l : List R} {i : Nat} {c : Int} (h : i < l.length) : hasB (l.drop i) c = ((decide ((nth l i).1 ≤ c) && decide (c ≤ (nth l i).2)) || hasB (l.drop (i + 1)) c) := by
  rw [List.drop_eq_getElem_cons h, nth_eq h]; rfl
theorem retB {a b : Bool} (h : a = b) : Ending.returned (.bool a) = .returned (.bool b) := by rw [h]

set_option maxHeartbeats 800000 in
theorem rhas_any (l : List R) (c : Int) (v : Value) (w : World) (hv : RngsAt w v l) :
    Calls Tryd.prog 60 #[v, .int .i64 c] w fun e w' => e = .returned (.bool (inB l c)) ∧ w' = w := by
  obtain ⟨ao, cap, rfl, hm, hcs⟩ := hv.shape
  have HC := Lib.hid hcs
  clear hcs hv
  go_enter Tryd.func60, Tryd.ntmps60
  go_wp2
  go_loop [5] (fun i => ∃ k : Nat, k ≤ l.length ∧ i = .int .i64 k ∧ inB l c = inB (l.drop k) c) (fun i => l.length - (intOf i).toNat)
  case atStart => exact ⟨0, by omega, rfl, rfl⟩
  case round =>
    obtain ⟨k, hk, rfl, hh⟩ := hrel
    by_cases hlt : k < l.length
    · obtain ⟨g, rfl, c1, c2⟩ := HC.out k hlt
      have HH := Lib.hid hh
      clear hh
      go_wp2
      all_goals first
        | (go_ret; exact ⟨retB (by rw [HH.out]; simp [inB, hasB_drop hlt]; omega), rfl⟩)
        | (go_round
           case rel => exact ⟨k + 1, by omega, by go_num, by rw [HH.out]; simp only [inB, hasB_drop hlt]; grind⟩
           case measure => simp [intOf]; omega)
    · obtain rfl : k = l.length := by omega
      rw [List.drop_length] at hh
      have HH := Lib.hid hh
      clear hh
      go_wp2
      go_ret
      exact ⟨retB (by rw [HH.out]; simp [inB, hasB]), rfl⟩

end Go.Proofs.YtdmceapbobkklaaDoor.Rg

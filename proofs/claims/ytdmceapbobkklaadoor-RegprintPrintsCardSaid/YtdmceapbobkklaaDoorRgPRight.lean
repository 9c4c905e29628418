/- The program's Right. -/
import Derived.Test.YtdmceapbobkklaaDoorRgCmp0
import Derived.Deep.DeepMust
namespace Go.Proofs.YtdmceapbobkklaaDoor.Rg
open Go.RowKit Go.Shelf

/-- what Right tells -/
def RightOut (l : List R) (w : World) (e : Ending) (w' : World) : Prop := ∃ b, e = .returned (.bool b) ∧ (b = true ↔ setFrom 0 l) ∧ Below w.heap.size w w'
def RightRel (l : List R) (w : World) (s i : Value) (wr : World) : Prop :=
  ∃ (k : Nat) (m : Int), i = .int .i64 k ∧ s = .int .i64 m ∧ k ≤ l.length ∧ 0 ≤ m ∧ m ≤ 1114113 ∧ (setFrom 0 l ↔ setFrom m (l.drop k)) ∧ Below w.heap.size w wr

set_option maxHeartbeats 1600000 in
theorem right_any (l : List R) (v : Value) (w : World) (hv : RngsAt w v l) :
    Calls Tryd.prog 29 #[v] w fun e w' => RightOut l w e w' := by
  obtain ⟨ao, cap, rfl, hm, hcs⟩ := hv.shape
  have HC := Lib.hid hcs
  clear hcs hv
  go_enter Tryd.func29, Tryd.ntmps29
  go_wp2
  go_loopw [3, 8] (fun s i wr => RightRel l w s i wr) (fun _ i _ => l.length - (intOf i).toNat)
  case atStart => exact ⟨0, 0, rfl, rfl, Nat.zero_le _, by omega, by omega, Iff.rfl, Below.refl _ _⟩
  case round =>
    obtain ⟨k, m, rfl, rfl, hk, hm0, hm1, hset, hb⟩ := hrel
    by_cases hlt : k < l.length
    · obtain ⟨g, rfl, c1, c2⟩ := HC.out k hlt
      replace c1 := cell_next c1 hb
      replace c2 := cell_next c2 hb
      rw [set_at hlt] at hset
      have HS := Lib.hid hset
      have HB := Lib.hid hb
      have hsz := hb.size
      clear hset hb
      go_wp2
      all_goals first
        | (go_ret; exact ⟨_, rfl, ⟨fun h => (by cases h), fun h => by obtain ⟨h1, h2, h3, _⟩ := HS.out.1 h; omega⟩, HB.out.alloc hsz _⟩)
        | (go_roundw
           case rel => exact ⟨k + 1, _, by go_num, rfl, by omega, by omega, by omega, by rw [HS.out]; exact ⟨fun h => h.2.2.2, fun h => ⟨by omega, by omega, by omega, h⟩⟩, HB.out.alloc hsz _⟩
           case measure => simp [intOf]; omega)
    · obtain rfl : k = l.length := by omega
      rw [List.drop_length] at hset
      have HS := Lib.hid hset
      clear hset
      go_wp2
      go_ret
      exact ⟨_, rfl, by rw [HS.out]; simp [setFrom], hb⟩


end Go.Proofs.YtdmceapbobkklaaDoor.Rg

/- Walks of one digit of 16: the program's and the document's answer. -/
import Derived.Test.YtemnhlljobjjgaaDoorDgPlain
import Derived.Test.YtemnhlljobjjgaaDoorChecked
import Derived.Lib.Hide
import Derived.Lib.LaidTab
namespace Go.Proofs.YtemnhlljobjjgaaDoor.Dg
open Go.RowKit

/-- the table of the program, as its cells -/
def Tab (w : World) : Prop := ∀ k, k < 22 → w.cell? ⟨0, k, none⟩ = some (.int .u8 ((tab.getD k 0).toNat : Int))

/-- what value16 tells -/
def v16 (c : UInt8) : Value := match hexV c with | some v => .tuple #[.int .i64 (v : Nat), .bool true] | none => .tuple #[.int .i64 0, .bool false]
theorem end1 {c : UInt8} {v : Nat} {z : Int} (h : hexV c = some v) (hz : z = v) : Ending.returned (.int .i64 z) = .returned (.int .i64 (v1 c)) := by rw [v1, h, hz]
theorem end1n {c : UInt8} (h : hexV c = none) : Ending.returned (.int .i64 (-1)) = .returned (.int .i64 (v1 c)) := by rw [v1, h]
theorem end16 {c : UInt8} {v : Nat} {z : Int} (h : hexV c = some v) (hz : z = v) : Ending.returned (.tuple #[.int .i64 z, .bool true]) = .returned (v16 c) := by rw [v16, h, hz]
theorem end16n {c : UInt8} (h : hexV c = none) : Ending.returned (.tuple #[.int .i64 0, .bool false]) = .returned (v16 c) := by rw [v16, h]

set_option maxRecDepth 100000 in
set_option maxHeartbeats 400000 in
theorem one_any (c : UInt8) (w : World) :
    Calls Tryd.prog 19 #[.int .u8 (c.toNat : Int)] w fun e w' => e = .returned (.int .i64 (v1 c)) ∧ w = w' := by
  go_enter Tryd.func19, Tryd.ntmps19
  go_wp2
  go_loop [4] (fun i => ∃ k : Nat, k ≤ 22 ∧ fidx (tab.drop k) c k = fidx tab c 0 ∧ i = .int .i64 k) (fun i => 22 - (intOf i).toNat)
  case atStart => exact ⟨0, by omega, rfl, rfl⟩
  case round =>
    obtain ⟨k, hk, hg, rfl⟩ := hrel
    have HG := Lib.hid hg
    clear hg
    by_cases hlt : k < 22
    · have hall := Lib.hid (all_at ⟨k, hlt⟩)
      go_wp2
      · have hq : (((tab.getD k 0).toNat : Int) == (c.toNat : Int)) = true := by rw [← hall.out]; assumption
        have hv := hexV_hit hlt (beq_eq hq) HG.out
        go_ret
        exact ⟨end1 hv (by rw [place_big (by omega)]; omega), rfl⟩
      · have hq : (((tab.getD k 0).toNat : Int) == (c.toNat : Int)) = true := by rw [← hall.out]; assumption
        have hv := hexV_hit hlt (beq_eq hq) HG.out
        go_ret
        exact ⟨end1 hv (by rw [place_small (by omega)]), rfl⟩
      · have hq : (((tab.getD k 0).toNat : Int) == (c.toNat : Int)) = false := by rw [← hall.out]; assumption
        have hv := fidx_miss (l := tab) (k := k) (by simpa [tab] using hlt) (beq_ne hq)
        go_round
        case rel => exact ⟨k + 1, by omega, by rw [← HG.out, hv], by go_num⟩
        case measure => simp [intOf]; omega
    · have hks : k = 22 := by omega
      subst hks
      have hv := Lib.hid (hexV_none HG.out)
      go_wp2
      go_ret
      exact ⟨end1n hv.out, rfl⟩

set_option maxRecDepth 100000 in
set_option maxHeartbeats 400000 in
theorem value16_any (c : UInt8) (w : World) (ht : Tab w) :
    Calls Tryd.prog 18 #[.int .u8 (c.toNat : Int)] w fun e w' => e = .returned (v16 c) ∧ w = w' := by
  have HT := Lib.hid ht
  clear ht
  go_enter Tryd.func18, Tryd.ntmps18
  go_wp2
  go_loop [5] (fun i => ∃ k : Nat, k ≤ 22 ∧ fidx (tab.drop k) c k = fidx tab c 0 ∧ i = .int .i64 k) (fun i => 22 - (intOf i).toNat)
  case atStart => exact ⟨0, by omega, rfl, rfl⟩
  case round =>
    obtain ⟨k, hk, hg, rfl⟩ := hrel
    have HG := Lib.hid hg
    clear hg
    by_cases hlt : k < 22
    · have hc := HT.out k hlt
      go_wp2
      · have hq : (((tab.getD k 0).toNat : Int) != (c.toNat : Int)) = true := by assumption
        have hv := fidx_miss (l := tab) (k := k) (by simpa [tab] using hlt) (bne_ne hq)
        go_round
        case rel => exact ⟨k + 1, by omega, by rw [← HG.out, hv], by go_num⟩
        case measure => simp [intOf]; omega
      · have hq : (((tab.getD k 0).toNat : Int) != (c.toNat : Int)) = false := by assumption
        have hv := hexV_hit hlt (bne_eq hq) HG.out
        go_ret2
        exact ⟨end16 hv (by rw [place_big (by omega)]; omega), rfl⟩
      · have hq : (((tab.getD k 0).toNat : Int) != (c.toNat : Int)) = false := by assumption
        have hv := hexV_hit hlt (bne_eq hq) HG.out
        go_ret2
        exact ⟨end16 hv (by rw [place_small (by omega)]), rfl⟩
    · have hks : k = 22 := by omega
      subst hks
      have hv := Lib.hid (hexV_none HG.out)
      go_wp2
      go_ret2
      exact ⟨end16n hv.out, rfl⟩

theorem value16_some {c : UInt8} {v : Nat} (h : hexV c = some v) (w : World) (ht : Tab w) :
    Calls Tryd.prog 18 #[.int .u8 (c.toNat : Int)] w fun e w' => e = .returned (.tuple #[.int .i64 (v : Nat), .bool true]) ∧ w = w' :=
  (value16_any c w ht).mono fun e w' ⟨he, hw⟩ => ⟨by rw [he, v16, h], hw⟩
theorem value16_none {c : UInt8} (h : hexV c = none) (w : World) (ht : Tab w) :
    Calls Tryd.prog 18 #[.int .u8 (c.toNat : Int)] w fun e w' => e = .returned (.tuple #[.int .i64 0, .bool false]) ∧ w = w' :=
  (value16_any c w ht).mono fun e w' ⟨he, hw⟩ => ⟨by rw [he, v16, h], hw⟩

end Go.Proofs.YtemnhlljobjjgaaDoor.Dg

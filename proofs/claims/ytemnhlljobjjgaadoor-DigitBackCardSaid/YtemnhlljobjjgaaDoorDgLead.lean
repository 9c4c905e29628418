/- Walks of Lead: the program's and the document's answer. -/
import Derived.Test.YtemnhlljobjjgaaDoorDgPlain
import Derived.Test.YtemnhlljobjjgaaDoorChecked
import Derived.Lib.Hide
import Derived.Deep.Cut
namespace Go.Proofs.YtemnhlljobjjgaaDoor.Dg
open Go.RowKit

theorem ret2 {a b c d : Int} (h1 : a = c) (h2 : b = d) : Ending.returned (.tuple #[.int .i64 a, .int .i64 b]) = .returned (.tuple #[.int .i64 c, .int .i64 d]) := by rw [h1, h2]

set_option maxRecDepth 100000 in
set_option maxHeartbeats 400000 in
theorem lead_any (s : ByteArray) (w : World) (hs : s.size ≤ maxLen) :
    Calls Tryd.prog 11 #[.string s] w fun e w' =>
      e = .returned (.tuple #[.int .i64 ((goLead s.data.toList 0 0).1 : Nat), .int .i64 ((goLead s.data.toList 0 0).2 : Nat)]) ∧ w = w' := by
  unfold maxLen at hs
  go_enter Tryd.func11, Tryd.ntmps11
  go_wp2
  go_loop [4, 8] (fun n i => ∃ (m : Int) (k : Nat), k ≤ s.size ∧ 0 ≤ m ∧ m ≤ 1000000000 ∧ goLead (s.data.toList.drop k) m.toNat k = goLead s.data.toList 0 0 ∧ i = .int .i64 k ∧ n = .int .i64 m) (fun _ i => s.size - (intOf i).toNat)
  case atStart => exact ⟨0, 0, Nat.zero_le _, by omega, by omega, rfl, rfl, rfl⟩
  case round =>
    obtain ⟨m, k, hk, hm0, hm, hg, rfl, rfl⟩ := hrel
    have HG := Lib.hid hg
    clear hg
    by_cases hlt : k < s.size
    · have hn := Lib.hid (fun h => lead_next (n := m.toNat) hlt h)
      have hst := Lib.hid (fun h => lead_stop (n := m.toNat) hlt h)
      by_cases h8 : m < 100000000
      · go_wp2
        · have hc : (s[k].toNat : Int) < 48 ∨ 57 < (s[k].toNat : Int) := by assumption
          have hs' := hst.out (isDig_no hc)
          go_ret2
          exact ⟨ret2 (by rw [← HG.out, hs']; omega) (by rw [← HG.out, hs']), rfl⟩
        · have hc : 48 ≤ (s[k].toNat : Int) ∧ (s[k].toNat : Int) ≤ 57 := by assumption
          have hs' := hn.out (isDig_yes hc)
          have he := step_small (n := m.toNat) (by omega) (isDig_yes hc)
          go_round
          case rel => exact ⟨m * 10 + ((s[k].toNat : Int) - 48), k + 1, by omega, by omega, by omega, by rw [← HG.out, hs', he]; congr 1; omega, by go_num, by go_num⟩
          case measure => simp [intOf]; omega
        · have hc : (s[k].toNat : Int) < 48 := by assumption
          have hs' := hst.out (isDig_no (Or.inl hc))
          go_ret2
          exact ⟨ret2 (by rw [← HG.out, hs']; omega) (by rw [← HG.out, hs']), rfl⟩
      · go_wp2
        · have hc : (s[k].toNat : Int) < 48 ∨ 57 < (s[k].toNat : Int) := by assumption
          have hs' := hst.out (isDig_no hc)
          go_ret2
          exact ⟨ret2 (by rw [← HG.out, hs']; omega) (by rw [← HG.out, hs']), rfl⟩
        · have hc : 48 ≤ (s[k].toNat : Int) ∧ (s[k].toNat : Int) ≤ 57 := by assumption
          have hs' := hn.out (isDig_yes hc)
          have he := step_big (n := m.toNat) (c := s[k]) (by omega)
          go_round
          case rel => exact ⟨1000000000, k + 1, by omega, by omega, by omega, by rw [← HG.out, hs', he]; rfl, by go_num, rfl⟩
          case measure => simp [intOf]; omega
        · have hc : (s[k].toNat : Int) < 48 := by assumption
          have hs' := hst.out (isDig_no (Or.inl hc))
          go_ret2
          exact ⟨ret2 (by rw [← HG.out, hs']; omega) (by rw [← HG.out, hs']), rfl⟩
    · have hst := Lib.hid (lead_end (n := m.toNat) (s := s) (k := k) (by omega))
      have hks : k = s.size := by omega
      subst hks
      go_wp2
      go_ret2
      exact ⟨ret2 (by rw [← HG.out, hst.out]; omega) (by rw [← HG.out, hst.out]), rfl⟩

end Go.Proofs.YtemnhlljobjjgaaDoor.Dg

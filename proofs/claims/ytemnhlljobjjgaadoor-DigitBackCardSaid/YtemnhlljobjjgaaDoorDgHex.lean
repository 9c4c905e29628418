/- Walks of Hex, and of the document's Lead. -/
import Derived.Test.YtemnhlljobjjgaaDoorDgOne
namespace Go.Proofs.YtemnhlljobjjgaaDoor.Dg
open Go.RowKit

def vHex (l : List UInt8) : Value := match hexR l with | some n => .tuple #[.int .i64 (n : Nat), .bool true] | none => .tuple #[.int .i64 0, .bool false]
theorem endHex {l : List UInt8} {n : Nat} {z : Int} (h : hexR l = some n) (hz : z = n) : Ending.returned (.tuple #[.int .i64 z, .bool true]) = .returned (vHex l) := by rw [vHex, h, hz]
theorem endHexB {l : List UInt8} {n : Nat} {z : Int} {b : Bool} (h : hexR l = some n) (hz : z = n) (hb : b = true) : Ending.returned (.tuple #[.int .i64 z, .bool b]) = .returned (vHex l) := by rw [vHex, h, hz, hb]
theorem endHexn {l : List UInt8} (h : hexR l = none) : Ending.returned (.tuple #[.int .i64 0, .bool false]) = .returned (vHex l) := by rw [vHex, h]

theorem ret2' {a b c d : Int} (h1 : a = c) (h2 : b = d) : Ending.returned (.tuple #[.int .i64 a, .int .i64 b]) = .returned (.tuple #[.int .i64 c, .int .i64 d]) := by rw [h1, h2]

set_option maxRecDepth 100000 in
set_option maxHeartbeats 400000 in
theorem rlead_any (s : ByteArray) (w : World) (hs : s.size ≤ maxLen) :
    Calls Tryd.prog 12 #[.string s] w fun e w' =>
      e = .returned (.tuple #[.int .i64 ((goLead s.data.toList 0 0).1 : Nat), .int .i64 ((goLead s.data.toList 0 0).2 : Nat)]) ∧ w = w' := by
  unfold maxLen at hs
  go_enter Tryd.func12, Tryd.ntmps12
  go_wp2
  go_loop [4, 5] (fun n i => ∃ (m : Int) (k : Nat), k ≤ s.size ∧ 0 ≤ m ∧ m ≤ 1000000000 ∧ goLead (s.data.toList.drop k) m.toNat k = goLead s.data.toList 0 0 ∧ i = .int .i64 k ∧ n = .int .i64 m) (fun _ i => s.size - (intOf i).toNat)
  case atStart => exact ⟨0, 0, Nat.zero_le _, by omega, by omega, rfl, rfl, rfl⟩
  case round =>
    obtain ⟨m, k, hk, hm0, hm, hg, rfl, rfl⟩ := hrel
    have HG := Lib.hid hg
    clear hg
    by_cases hlt : k < s.size
    · have hn := Lib.hid (fun h => lead_next (n := m.toNat) hlt h)
      have hst := Lib.hid (fun h => lead_stop (n := m.toNat) hlt h)
      have b1 := v1_ge s[k]
      have b2 := v1_le s[k]
      go_wp2_with (go_at_call 19; refine (one_any _ _).mono ?_; rintro e w' ⟨rfl, rfl⟩)
      · have hc : 48 ≤ (s[k].toNat : Int) := by assumption
        have hc2 : (s[k].toNat : Int) ≤ 57 := by assumption
        have hd := isDig_yes ⟨hc, hc2⟩
        have he := v1_dig hd
        have hbig : 1000000000 < 10 * m + v1 s[k] := by assumption
        have hs' := hn.out hd
        go_roundw
        case rel => exact ⟨1000000000, k + 1, by omega, by omega, by omega, by rw [← HG.out, hs']; congr 1; unfold step; omega, by go_num, rfl⟩
        case measure => simp [intOf]; omega
      · have hc : 48 ≤ (s[k].toNat : Int) := by assumption
        have hc2 : (s[k].toNat : Int) ≤ 57 := by assumption
        have hd := isDig_yes ⟨hc, hc2⟩
        have he := v1_dig hd
        have hbig : 10 * m + v1 s[k] ≤ 1000000000 := by assumption
        have hs' := hn.out hd
        go_roundw
        case rel => exact ⟨10 * m + v1 s[k], k + 1, by omega, by omega, by omega, by rw [← HG.out, hs']; congr 1; unfold step; omega, by go_num, rfl⟩
        case measure => simp [intOf]; omega
      · have hc : 57 < (s[k].toNat : Int) := by assumption
        have hs' := hst.out (isDig_no (Or.inr hc))
        go_ret2
        exact ⟨ret2' (by rw [← HG.out, hs']; omega) (by rw [← HG.out, hs']), rfl⟩
      · have hc : (s[k].toNat : Int) < 48 := by assumption
        have hs' := hst.out (isDig_no (Or.inl hc))
        go_ret2
        exact ⟨ret2' (by rw [← HG.out, hs']; omega) (by rw [← HG.out, hs']), rfl⟩
    · have hst := Lib.hid (lead_end (n := m.toNat) (s := s) (k := k) (by omega))
      have hks : k = s.size := by omega
      subst hks
      go_wp2_with fail
      go_ret2
      exact ⟨ret2' (by rw [← HG.out, hst.out]; omega) (by rw [← HG.out, hst.out]), rfl⟩

set_option maxRecDepth 100000 in
set_option maxHeartbeats 400000 in
theorem hex_any (s : ByteArray) (w : World) (hs : s.size ≤ maxLen) (ht : Tab w) :
    Calls Tryd.prog 9 #[.string s] w fun e w' => e = .returned (vHex s.data.toList) ∧ w = w' := by
  unfold maxLen at hs
  have HT := Lib.hid ht
  clear ht
  by_cases h0 : s.size = 0
  · have hr := Lib.hid (hexR_no (s := s) (by omega))
    go_enter Tryd.func9, Tryd.ntmps9
    go_wp2_with fail
    go_ret2
    exact ⟨endHexn hr.out, rfl⟩
  · by_cases h6 : 6 < s.size
    · have hr := Lib.hid (hexR_no (s := s) (by omega))
      go_enter Tryd.func9, Tryd.ntmps9
      go_wp2_with fail
      go_ret2
      exact ⟨endHexn hr.out, rfl⟩
    · have hr := Lib.hid (hexR_yes (s := s) (by omega) (by omega))
      have h0' : ((s.size : Int) == 0) = false := beq_eq_false_iff_ne.2 (by omega)
      have h6' : ¬ 6 < (s.size : Int) := by omega
      go_enter Tryd.func9, Tryd.ntmps9
      go_wp2_with fail
      go_loop [4, 18] (fun n i => ∃ (m : Int) (k : Nat), k ≤ s.size ∧ 0 ≤ m ∧ m < 16 ^ k ∧ goHex (s.data.toList.drop k) m.toNat = goHex s.data.toList 0 ∧ i = .int .i64 k ∧ n = .int .i64 m) (fun _ i => s.size - (intOf i).toNat)
      case atStart => exact ⟨0, 0, Nat.zero_le _, by omega, by decide, rfl, rfl, rfl⟩
      case round =>
        obtain ⟨m, k, hk, hm0, hm, hg, rfl, rfl⟩ := hrel
        have HG := Lib.hid hg
        have hm1 : m < 16777216 := pow16 hm (by omega)
        have Hm := Lib.hid hm
        clear hg hm
        by_cases hlt : k < s.size
        · rcases hv : hexV s[k] with _ | v
          · have hn := Lib.hid (hex_stop (n := m.toNat) hlt hv)
            have Hv := Lib.hid hv
            clear hv
            go_wp2_with (go_at_call 18; refine (value16_none Hv.out _ HT.out).mono ?_; rintro e w' ⟨rfl, rfl⟩)
            go_ret2
            exact ⟨endHexn (by rw [hr.out, ← HG.out, hn.out]), rfl⟩
          · have hn := Lib.hid (hex_next (n := m.toNat) hlt hv)
            have hb := hexV_lt hv
            have Hv := Lib.hid hv
            clear hv
            go_wp2_with (go_at_call 18; refine (value16_some Hv.out _ HT.out).mono ?_; rintro e w' ⟨rfl, rfl⟩)
            go_roundw
            case rel => exact ⟨m * 16 + v, k + 1, by omega, by omega, pow16s Hm.out hb, by rw [← HG.out, hn.out]; congr 1; omega, by go_num, by go_num⟩
            case measure => simp [intOf]; omega
        · have hst := Lib.hid (hex_end (n := m.toNat) (s := s) (k := k) (by omega))
          have hks : k = s.size := by omega
          subst hks
          go_wp2_with fail
          go_ret2
          exact ⟨endHex (n := m.toNat) (by rw [hr.out, ← HG.out, hst.out]) (by omega), rfl⟩

set_option maxRecDepth 100000 in
set_option maxHeartbeats 400000 in
theorem rhex_any (s : ByteArray) (w : World) (hs : s.size ≤ maxLen) :
    Calls Tryd.prog 10 #[.string s] w fun e w' => e = .returned (vHex s.data.toList) ∧ w = w' := by
  unfold maxLen at hs
  by_cases h0 : s.size = 0
  · have hr := Lib.hid (hexR_no (s := s) (by omega))
    go_enter Tryd.func10, Tryd.ntmps10
    go_wp2_with fail
    go_loop [4, 5] (fun n i => n = .int .i64 0 ∧ i = .int .i64 0) (fun _ i => s.size - (intOf i).toNat)
    case atStart => exact ⟨rfl, rfl⟩
    case round =>
      obtain ⟨rfl, rfl⟩ := hrel
      go_wp2_with fail
      go_ret2
      exact ⟨endHexn hr.out, rfl⟩
  · have hr6 := Lib.hid (fun h => hexR_no (s := s) h)
    have hry := Lib.hid (fun h => hexR_yes (s := s) (by omega) h)
    go_enter Tryd.func10, Tryd.ntmps10
    go_wp2_with fail
    go_loop [4, 5] (fun n i => ∃ (m : Int) (k : Nat), k ≤ s.size ∧ k ≤ 6 ∧ 0 ≤ m ∧ m < 16 ^ k ∧ goHex (s.data.toList.drop k) m.toNat = goHex s.data.toList 0 ∧ i = .int .i64 k ∧ n = .int .i64 m) (fun _ i => s.size - (intOf i).toNat)
    case atStart => exact ⟨0, 0, Nat.zero_le _, by omega, by omega, by decide, rfl, rfl, rfl⟩
    case round =>
      obtain ⟨m, k, hk, hk6, hm0, hm, hg, rfl, rfl⟩ := hrel
      have HG := Lib.hid hg
      have hm1 : m < 16777216 := pow16 hm hk6
      have Hm := Lib.hid hm
      clear hg hm
      by_cases hlt : k < s.size
      · have b1 := v1_ge s[k]
        have b2 := v1_le s[k]
        go_wp2_with (go_at_call 19; refine (one_any _ _).mono ?_; rintro e w' ⟨rfl, rfl⟩)
        · have hc : v1 s[k] < 0 ∨ 6 ≤ (k : Int) := by assumption
          by_cases hneg : v1 s[k] < 0
          · have hn := hex_stop (n := m.toNat) hlt (v1_none hneg)
            go_ret2
            exact ⟨endHexn (by rcases Nat.lt_or_ge 6 s.size with h | h; exact hr6.out (Or.inr h); rw [hry.out h, ← HG.out, hn]), rfl⟩
          · go_ret2
            exact ⟨endHexn (hr6.out (Or.inr (by omega))), rfl⟩
        · have hc : 0 ≤ v1 s[k] ∧ (k : Int) < 6 := by assumption
          have hv := v1_some hc.1
          have hn := hex_next (n := m.toNat) hlt hv
          go_roundw
          case rel => exact ⟨16 * m + v1 s[k], k + 1, by omega, by omega, by omega, pow16s' Hm.out b2, by rw [← HG.out, hn]; congr 1; omega, by go_num, by go_num⟩
          case measure => simp [intOf]; omega
        · have hc : v1 s[k] < 0 := by assumption
          have hn := hex_stop (n := m.toNat) hlt (v1_none hc)
          go_ret2
          exact ⟨endHexn (by rcases Nat.lt_or_ge 6 s.size with h | h; exact hr6.out (Or.inr h); rw [hry.out h, ← HG.out, hn]), rfl⟩
      · have hst := Lib.hid (hex_end (n := m.toNat) (s := s) (k := k) (by omega))
        have hks : k = s.size := by omega
        subst hks
        go_wp2_with fail
        go_ret2
        exact ⟨endHexB (n := m.toNat) (by rw [hry.out hk6, ← HG.out, hst.out]) (by omega) (by simp; omega), rfl⟩

end Go.Proofs.YtemnhlljobjjgaaDoor.Dg

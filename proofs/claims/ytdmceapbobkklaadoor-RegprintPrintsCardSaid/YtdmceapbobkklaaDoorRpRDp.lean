/- The document's Deep: how deep a text's brackets are. -/
import Derived.Test.YtdmceapbobkklaaDoorRpLet
namespace Go.Proofs.YtdmceapbobkklaaDoor.Rp
open Go Go.RowKit

theorem scan_take {s : Tx} {k : Nat} (h : k < s.length) (st : Int × Int × Bool) : scanL (s.take (k + 1)) st = scan1 (scanL (s.take k) st) s[k] := by
  rw [List.take_succ_eq_append_getElem h, scan_append]; rfl
/-- one byte, by its number -/
theorem scan1_int (n m : Int) (q : Bool) (c : UInt8) (d : Int) (hd : (c.toNat : Int) = d) : ∃ n2 m2 q2, scan1 (n, m, q) c = (n2, m2, q2) ∧
    (d = 93 → q2 = false) ∧ (d = 91 → q2 = true) ∧ (d ≠ 93 → d ≠ 91 → q2 = q) ∧
    (d = 40 → q = false → n2 = n + 1) ∧ (d = 41 → q = false → n2 = n - 1) ∧ (d ≠ 40 → d ≠ 41 → n2 = n) ∧ (q = true → n2 = n) ∧ (m ≤ n2 → m2 = n2) ∧ (n2 ≤ m → m2 = m) := by
  have hk : ∀ k : UInt8, (c = k) ↔ d = (k.toNat : Int) := fun k => by rw [← UInt8.toNat_inj]; omega
  have e93 := hk 93; have e91 := hk 91; have e40 := hk 40; have e41 := hk 41
  simp at e93 e91 e40 e41
  refine ⟨_, _, _, rfl, ?_, ?_, ?_, ?_, ?_, ?_, ?_, ?_, ?_⟩
  all_goals simp only [e93, e91, e40, e41]
  all_goals grind

theorem ret_i {a b : Int} (h : a = b) : Ending.returned (.int .i64 a) = .returned (.int .i64 b) := by rw [h]
set_option maxRecDepth 100000 in
set_option maxHeartbeats 4000000 in
theorem rdeep_any (s : Tx) (w : World) (hs : s.length ≤ 4000000) : Calls Tryd.prog 10 #[.string ⟨s.toArray⟩] w fun e w' => e = .returned (.int .i64 (scanL s (0, 0, false)).2.1) ∧ w' = w := by
  have hsz : (⟨s.toArray⟩ : ByteArray).size = s.length := rfl
  go_enter Tryd.func10, Tryd.ntmps10
  go_wp2
  go_loop [3, 4, 5, 6] (fun m n q i => ∃ (k : Nat) (x y : Int) (b : Bool), k ≤ s.length ∧ i = .int .i64 k ∧ n = .int .i64 x ∧ m = .int .i64 y ∧ q = .bool b ∧ scanL (s.take k) (0, 0, false) = (x, y, b) ∧ -(k : Int) ≤ x ∧ x ≤ k ∧ 0 ≤ y ∧ y ≤ k) (fun _ _ _ i => s.length - (intOf i).toNat)
  case atStart => exact ⟨0, 0, 0, false, Nat.zero_le _, rfl, rfl, rfl, rfl, by simp [scanL], by omega, by omega, by omega, by omega⟩
  case round =>
    obtain ⟨k, x, y, b, hk, rfl, rfl, rfl, rfl, hsc, g1, g2, g3, g4⟩ := hrel
    by_cases hlt : k < s.length
    · have hnx := scan_take hlt (0, 0, false)
      rw [hsc] at hnx
      obtain ⟨d, hd⟩ : ∃ d : Int, ((⟨s.toArray⟩ : ByteArray)[k]'(by rw [hsz]; exact hlt)).toNat = d := ⟨_, rfl⟩
      obtain ⟨n2, m2, q2, e, h1, h2, h3, h4, h5, h6, h7, h8, h9⟩ := scan1_int x y b s[k] d hd
      rw [e] at hnx
      have HN := Lib.hid hnx
      have H1 := Lib.hid h1
      have H2 := Lib.hid h2
      have H3 := Lib.hid h3
      have H4 := Lib.hid h4
      have H5 := Lib.hid h5
      have H6 := Lib.hid h6
      have H7 := Lib.hid h7
      have H8 := Lib.hid h8
      have H9 := Lib.hid h9
      clear hnx hsc e h1 h2 h3 h4 h5 h6 h7 h8 h9
      cases b
      all_goals (
        go_wp2
        all_goals (
          go_round
          case rel =>
            have h1 := H1.out
            have h2 := H2.out
            have h3 := H3.out
            have h4 := H4.out
            have h5 := H5.out
            have h6 := H6.out
            have h7 := H7.out
            have h8 := H8.out
            have h9 := H9.out
            refine ⟨k + 1, n2, m2, q2, by omega, by go_num, ?_, ?_, ?_, HN.out, ?_, ?_, ?_, ?_⟩
            all_goals (clear HN H1 H2 H3 H4 H5 H6 H7 H8 H9)
            all_goals first | omega | (congr 1; grind) | grind
          case measure => simp [intOf]; omega))
    · have hks : k = s.length := by omega
      subst hks
      rw [List.take_length] at hsc
      have HSC := Lib.hid hsc
      clear hsc
      go_wp2
      go_ret
      exact ⟨ret_i (by rw [HSC.out]), rfl⟩

end Go.Proofs.YtdmceapbobkklaaDoor.Rp

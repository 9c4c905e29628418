/- Of, the program's and the document's. -/
import Derived.Test.YteimahbfjgcpiaaDoorPlPlain
import Derived.Test.YteimahbfjgcpiaaDoorShelf
import Derived.Test.YteimahbfjgcpiaaDoorInts
import Derived.Lib.Hide
import Derived.WalkLawsBesides
import Derived.WalkSpells
namespace Go.Proofs.YteimahbfjgcpiaaDoor.Pl
open Go.RowKit

theorem ret2 {a b c d : Int} (h : a = c) (k : b = d) : Ending.returned (.tuple #[.int .i64 a, .int .i64 b]) = .returned (.tuple #[.int .i64 c, .int .i64 d]) := by rw [h, k]
def vOf (l : List UInt8) : Value := .tuple #[.int .i64 ((ofL l).1 : Nat), .int .i64 ((ofL l).2 : Nat)]
theorem retOf {l : List UInt8} {L C : Nat} (h : ofL l = (L, C)) : Ending.returned (.tuple #[.int .i64 (L : Nat), .int .i64 (C : Nat)]) = .returned (vOf l) := by unfold vOf; rw [h]

theorem ahead_list (s : ByteArray) (k : Nat) (h : k ≤ s.size) : (s.extract 0 k).data.toList = s.data.toList.take k ∧ (s.extract 0 k).size = k := by
  constructor
  · rw [Lib.extract_eq]; simp
  · rw [ByteArray.size_extract]; omega

set_option maxRecDepth 100000 in
set_option maxHeartbeats 400000 in
theorem of_any (s : ByteArray) (at_ : Int) (w : World) (hs : s.size ≤ 1000000) (h0 : -9223372036854775808 ≤ at_) (h1 : at_ ≤ 9223372036854775807) :
    Calls Tryd.prog 7 #[.string s, .int .i64 at_] w fun e w' => e = .returned (vOf (s.data.toList.take (cl at_ s.size))) ∧ w = w' := by
  obtain ⟨k, hk⟩ : ∃ k, cl at_ s.size = k := ⟨_, rfl⟩
  have hkl : k ≤ s.size := by rw [← hk]; exact cl_le _ _
  obtain ⟨e1, e2⟩ := ahead_list s k hkl
  have hc1 := ofL_line (s.data.toList.take k)
  have hc2 := ofL_col (s.extract 0 k)
  rw [e1, e2] at hc2
  have hb1 := ofL_line_le (s.data.toList.take k)
  have hb2 := ofL_col_le (s.data.toList.take k)
  have hl : (s.data.toList.take k).length = k := by rw [List.length_take]; have := len_size s; omega
  rw [hl] at hb1 hb2
  have c1 := Lib.hid (fun w => Tryd.strings_Count_one (s.extract 0 k) 10 w)
  have c2 := Lib.hid (fun w => Tryd.strings_LastIndexByte (s.extract 0 k) 10 (by rw [e2]; omega) w)
  rw [e1] at c1
  unfold Lib.countByte at c1
  rw [hk]
  unfold vOf
  generalize (ofL (s.data.toList.take k)).1 = L at *
  generalize (ofL (s.data.toList.take k)).2 = C at *
  generalize (s.data.toList.take k).count 10 = N at *
  generalize Lib.lastIndexByte (s.extract 0 k) 10 = X at *
  have hk2 : ((min (max at_ 0) (s.size : Int))).toNat = k := by unfold cl at hk; omega
  have hN : (N : Int) ≤ 1000000 := by omega
  have hX0 : -1 ≤ X := by omega
  have hX1 : X ≤ k := by omega
  have hk0 : (k : Int) ≤ 1000000 := by omega
  have HC1 := Lib.hid hc1
  have HC2 := Lib.hid hc2
  have HK := Lib.hid hk2
  have E2 := Lib.hid e2
  clear hk hc1 hc2 hk2 e1 e2 hl

  go_enter Tryd.func7, Tryd.ntmps7
  go_wp2_with (first
    | (go_at_call 17; rw [HK.out]; refine (c1.out _).mono ?_; rintro e w' ⟨rfl, rfl⟩)
    | (go_at_call 18; refine (c2.out _).mono ?_; rintro e w' ⟨rfl, rfl⟩; have e3 := E2.out))
  go_ret2
  exact ⟨ret2 (by rw [HC1.out]; rfl) HC2.out.symm, rfl⟩

theorem take_lt {s : ByteArray} {k : Nat} (h : k < s.size) (l : List UInt8) (hl : l = s.data.toList.take k) : s.data.toList.take (k + 1) = l ++ [s[k]] := by
  rw [hl]; exact take_succ (l := s.data.toList) h
theorem byte10 (c : UInt8) : c = 10 ↔ (c.toNat : Int) = 10 := by
  rw [← UInt8.toNat_inj]; have e : (10 : UInt8).toNat = 10 := rfl; rw [e]; omega

set_option maxRecDepth 100000 in
set_option maxHeartbeats 400000 in
theorem rof_any (s : ByteArray) (at_ : Int) (w : World) (hs : s.size ≤ 1000000) (h0 : -9223372036854775808 ≤ at_) (h1 : at_ ≤ 9223372036854775807) :
    Calls Tryd.prog 8 #[.string s, .int .i64 at_] w fun e w' => e = .returned (vOf (s.data.toList.take (cl at_ s.size))) ∧ w = w' := by
  obtain ⟨K, hk⟩ : ∃ k, cl at_ s.size = k := ⟨_, rfl⟩
  rw [hk]
  unfold cl at hk
  have hkl : K ≤ s.size := by omega
  have hka : (K : Int) ≤ at_ ∨ K = 0 := by omega
  have hke : K = s.size ∨ at_ ≤ K := by omega
  clear hk
  go_enter Tryd.func8, Tryd.ntmps8
  go_wp2
  go_loop [6, 7, 8] (fun x y i => ∃ (k L C : Nat), k ≤ K ∧ ofL (s.data.toList.take k) = (L, C) ∧ x = .int .i64 L ∧ y = .int .i64 C ∧ i = .int .i64 k) (fun _ _ i => K - (intOf i).toNat)
  case atStart => exact ⟨0, 1, 1, by omega, rfl, rfl, rfl, rfl⟩
  case round =>
    obtain ⟨k, L, C, hkK, ho, rfl, rfl, rfl⟩ := hrel
    have hb1 := ofL_line_le (s.data.toList.take k)
    have hb2 := ofL_col_le (s.data.toList.take k)
    have hl : (s.data.toList.take k).length = k := by rw [List.length_take]; have := len_size s; omega
    rw [hl, ho] at hb1 hb2
    simp only at hb1 hb2
    by_cases hlt : k < K
    · have hks : k < s.size := by omega
      have hst : ∀ c, s[k]'hks = c → ofL (s.data.toList.take (k + 1)) = stepP (L, C) c := fun c hc => by rw [take_lt (by omega) _ rfl, ofL_snoc, ho, hc]
      have HS := Lib.hid hst
      have hat : (k : Int) < at_ := by omega
      clear hst ho hl hke
      generalize hc : s[k]'hks = c at *
      go_wp2
      · have h10 : c = 10 := by have := byte10 c; simp_all
        have := HS.out c rfl
        go_round
        case rel => exact ⟨k + 1, L + 1, 1, by omega, by rw [this]; unfold stepP; rw [if_pos h10], by go_num, rfl, by go_num⟩
        case measure => simp [intOf]; omega
      · have h10 : c ≠ 10 := by have := byte10 c; simp_all
        have := HS.out c rfl
        go_round
        case rel => exact ⟨k + 1, L, C + 1, by omega, by rw [this]; unfold stepP; rw [if_neg h10], rfl, by go_num, by go_num⟩
        case measure => simp [intOf]; omega
    · obtain rfl : k = K := by omega
      have HO := Lib.hid ho
      clear ho hl hka
      rcases hke with rfl | hke
      all_goals
        go_wp2
        all_goals
          go_ret2
          exact ⟨retOf HO.out, rfl⟩

end Go.Proofs.YteimahbfjgcpiaaDoor.Pl

/- Walks of the document's guess, and of its Get. -/
import Derived.Test.YtoknfelheebidaaDoorUtSc
import Derived.Deep.RegionWith
import Derived.Deep.QuietTactic
import Derived.BigQuiet
namespace Go.Proofs.YtoknfelheebidaaDoor.Ut
open Go.RowKit

theorem nth_at {s : ByteArray} {k : Nat} (h : k < s.size) : nth s.data.toList k = (s[k].toNat : Int) := by
  unfold nth
  rw [Lib.getD_get!' s k]
  cases s with
  | mk d =>
    show ((d[k]!).toNat : Int) = (d[k].toNat : Int)
    rw [getElem!_pos d k h]
theorem guess_next {l : List UInt8} {n i : Nat} {c b : Int} (h : i < n) (hb : nth l i = b) : guessR l (n - i) i c = guessR l (n - (i + 1)) (i + 1) (64 * c + b - 128) := by
  rw [show n - i = (n - (i + 1)) + 1 by omega, guessR, hb]
theorem guess_end {l : List UInt8} {n i : Nat} {c : Int} (h : n ≤ i) : guessR l (n - i) i c = c := by
  rw [show n - i = 0 by omega, guessR]
theorem gend {a b : Int} (h : a = b) : Ending.returned (.int .i64 a) = .returned (.int .i64 b) := by rw [h]

def bnd (k : Nat) : Int := if k = 1 then 300 else if k = 2 then 20000 else if k = 3 then 2000000 else 200000000
theorem bnd_step {k : Nat} {m : Int} (hk : 1 ≤ k ∧ k ≤ 3) (h0 : -bnd k ≤ m) (h1 : m ≤ bnd k) :
    -2000000 ≤ m ∧ m ≤ 2000000 ∧ ∀ b : Int, 0 ≤ b → b < 256 → -bnd (k + 1) ≤ 64 * m + b - 128 ∧ 64 * m + b - 128 ≤ bnd (k + 1) := by
  have : k = 1 ∨ k = 2 ∨ k = 3 := by omega
  rcases this with rfl | rfl | rfl <;> simp [bnd] at * <;> refine ⟨by omega, by omega, fun b hb0 hb1 => by omega⟩

set_option maxRecDepth 100000 in
set_option maxHeartbeats 800000 in
theorem guess_any (s : ByteArray) (n : Nat) (w : World) (hs : s.size ≤ maxLen) (h1 : 1 ≤ n) (h4 : n ≤ 4) (hn : n ≤ s.size) :
    Calls Tryd.prog 29 #[.string s, .int .i64 (n : Int)] w fun e w' => e = .returned (.int .i64 (guessL s.data.toList n)) ∧ w = w' := by
  unfold maxLen at hs
  have h0 : 0 < s.size := by omega
  have hb0 := nth_at h0
  have hr0 := nth_range s.data.toList 0
  have hst : guessR s.data.toList (n - 1) 1 ((s[0].toNat : Int) - lead n) = guessL s.data.toList n := by rw [guessL, hb0]
  rw [hb0] at hr0
  clear hb0
  have hl : n = 1 ∨ n = 2 ∨ n = 3 ∨ n = 4 := by omega
  have HS := Lib.hid hst
  clear hst
  rcases hl with rfl | rfl | rfl | rfl
  · have HS' : guessR s.data.toList (1 - 1) 1 ((s[0].toNat : Int)) = guessL s.data.toList 1 := by rw [← HS.out, show lead 1 = 0 from rfl, Int.sub_zero]
    have HT := Lib.hid HS'
    clear HS' HS
    go_enter Tryd.func29, Tryd.ntmps29
    go_wp2
    go_loop [5, 6] (fun c i => ∃ (m : Int) (k : Nat), 1 ≤ k ∧ k ≤ 1 ∧ -bnd k ≤ m ∧ m ≤ bnd k ∧ guessR s.data.toList (1 - k) k m = guessL s.data.toList 1 ∧ c = .int .i64 m ∧ i = .int .i64 k) (fun _ i => 1 - (intOf i).toNat)
    case atStart => exact ⟨(s[0].toNat : Int), 1, by omega, by omega, by have : bnd 1 = 300 := rfl; omega, by have : bnd 1 = 300 := rfl; omega, HT.out, by go_num, rfl⟩
    case round =>
      obtain ⟨m, k, hk1, hk2, hm1, hm2, hg, rfl, rfl⟩ := hrel
      have HG := Lib.hid hg
      clear hg
      by_cases hlt : k < 1
      · exfalso; omega
      · have hx := Lib.hid (guess_end (l := s.data.toList) (n := 1) (i := k) (c := m) (by omega))
        obtain rfl : k = 1 := by omega
        go_wp2
        go_ret
        exact ⟨gend (by rw [← HG.out, hx.out]), rfl⟩
  · have HS' : guessR s.data.toList (2 - 1) 1 ((s[0].toNat : Int) - 192) = guessL s.data.toList 2 := by rw [← HS.out]; simp [lead]
    have HT := Lib.hid HS'
    clear HS' HS
    go_enter Tryd.func29, Tryd.ntmps29
    go_wp2
    go_loop [5, 6] (fun c i => ∃ (m : Int) (k : Nat), 1 ≤ k ∧ k ≤ 2 ∧ -bnd k ≤ m ∧ m ≤ bnd k ∧ guessR s.data.toList (2 - k) k m = guessL s.data.toList 2 ∧ c = .int .i64 m ∧ i = .int .i64 k) (fun _ i => 2 - (intOf i).toNat)
    case atStart => exact ⟨(s[0].toNat : Int) - 192, 1, by omega, by omega, by have : bnd 1 = 300 := rfl; omega, by have : bnd 1 = 300 := rfl; omega, HT.out, by go_num, rfl⟩
    case round =>
      obtain ⟨m, k, hk1, hk2, hm1, hm2, hg, rfl, rfl⟩ := hrel
      have HG := Lib.hid hg
      clear hg
      by_cases hlt : k < 2
      · obtain ⟨hm3, hm4, hB⟩ := bnd_step (by omega) hm1 hm2
        have HB := Lib.hid hB
        clear hB
        have hks : k < s.size := by omega
        have hby : (s[k].toNat : Int) < 256 := by have := UInt8.toNat_lt s[k]; omega
        have hx := Lib.hid (guess_next (c := m) hlt (nth_at hks))
        go_wp2
        go_round
        case rel => exact ⟨64 * m + (s[k].toNat : Int) - 128, k + 1, by omega, by omega, (HB.out _ (by omega) (by omega)).1, (HB.out _ (by omega) (by omega)).2, by rw [← HG.out, hx.out], by go_num, by go_num⟩
        case measure => simp [intOf]; omega
      · have hx := Lib.hid (guess_end (l := s.data.toList) (n := 2) (i := k) (c := m) (by omega))
        obtain rfl : k = 2 := by omega
        go_wp2
        go_ret
        exact ⟨gend (by rw [← HG.out, hx.out]), rfl⟩
  · have HS' : guessR s.data.toList (3 - 1) 1 ((s[0].toNat : Int) - 224) = guessL s.data.toList 3 := by rw [← HS.out]; simp [lead]
    have HT := Lib.hid HS'
    clear HS' HS
    go_enter Tryd.func29, Tryd.ntmps29
    go_wp2
    go_loop [5, 6] (fun c i => ∃ (m : Int) (k : Nat), 1 ≤ k ∧ k ≤ 3 ∧ -bnd k ≤ m ∧ m ≤ bnd k ∧ guessR s.data.toList (3 - k) k m = guessL s.data.toList 3 ∧ c = .int .i64 m ∧ i = .int .i64 k) (fun _ i => 3 - (intOf i).toNat)
    case atStart => exact ⟨(s[0].toNat : Int) - 224, 1, by omega, by omega, by have : bnd 1 = 300 := rfl; omega, by have : bnd 1 = 300 := rfl; omega, HT.out, by go_num, rfl⟩
    case round =>
      obtain ⟨m, k, hk1, hk2, hm1, hm2, hg, rfl, rfl⟩ := hrel
      have HG := Lib.hid hg
      clear hg
      by_cases hlt : k < 3
      · obtain ⟨hm3, hm4, hB⟩ := bnd_step (by omega) hm1 hm2
        have HB := Lib.hid hB
        clear hB
        have hks : k < s.size := by omega
        have hby : (s[k].toNat : Int) < 256 := by have := UInt8.toNat_lt s[k]; omega
        have hx := Lib.hid (guess_next (c := m) hlt (nth_at hks))
        go_wp2
        go_round
        case rel => exact ⟨64 * m + (s[k].toNat : Int) - 128, k + 1, by omega, by omega, (HB.out _ (by omega) (by omega)).1, (HB.out _ (by omega) (by omega)).2, by rw [← HG.out, hx.out], by go_num, by go_num⟩
        case measure => simp [intOf]; omega
      · have hx := Lib.hid (guess_end (l := s.data.toList) (n := 3) (i := k) (c := m) (by omega))
        obtain rfl : k = 3 := by omega
        go_wp2
        go_ret
        exact ⟨gend (by rw [← HG.out, hx.out]), rfl⟩
  · have HS' : guessR s.data.toList (4 - 1) 1 ((s[0].toNat : Int) - 240) = guessL s.data.toList 4 := by rw [← HS.out]; simp [lead]
    have HT := Lib.hid HS'
    clear HS' HS
    go_enter Tryd.func29, Tryd.ntmps29
    go_wp2
    go_loop [5, 6] (fun c i => ∃ (m : Int) (k : Nat), 1 ≤ k ∧ k ≤ 4 ∧ -bnd k ≤ m ∧ m ≤ bnd k ∧ guessR s.data.toList (4 - k) k m = guessL s.data.toList 4 ∧ c = .int .i64 m ∧ i = .int .i64 k) (fun _ i => 4 - (intOf i).toNat)
    case atStart => exact ⟨(s[0].toNat : Int) - 240, 1, by omega, by omega, by have : bnd 1 = 300 := rfl; omega, by have : bnd 1 = 300 := rfl; omega, HT.out, by go_num, rfl⟩
    case round =>
      obtain ⟨m, k, hk1, hk2, hm1, hm2, hg, rfl, rfl⟩ := hrel
      have HG := Lib.hid hg
      clear hg
      by_cases hlt : k < 4
      · obtain ⟨hm3, hm4, hB⟩ := bnd_step (by omega) hm1 hm2
        have HB := Lib.hid hB
        clear hB
        have hks : k < s.size := by omega
        have hby : (s[k].toNat : Int) < 256 := by have := UInt8.toNat_lt s[k]; omega
        have hx := Lib.hid (guess_next (c := m) hlt (nth_at hks))
        go_wp2
        go_round
        case rel => exact ⟨64 * m + (s[k].toNat : Int) - 128, k + 1, by omega, by omega, (HB.out _ (by omega) (by omega)).1, (HB.out _ (by omega) (by omega)).2, by rw [← HG.out, hx.out], by go_num, by go_num⟩
        case measure => simp [intOf]; omega
      · have hx := Lib.hid (guess_end (l := s.data.toList) (n := 4) (i := k) (c := m) (by omega))
        obtain rfl : k = 4 := by omega
        go_wp2
        go_ret
        exact ⟨gend (by rw [← HG.out, hx.out]), rfl⟩


theorem drewN_below (B : Nat) (w : World) (n : Nat) : Below B w (w.drewN n) := ⟨rfl, rfl, rfl, Nat.le_refl _, fun _ _ => rfl⟩
theorem cut_list (s : ByteArray) (k : Nat) : s.extract 0 k = ⟨(s.data.toList.take k).toArray⟩ := by
  apply ByteArray.ext
  apply Array.ext'
  simp
theorem vget_hit {l : List UInt8} {g c : Int} {k : Nat} (h : getL l = (g, k)) (hg : g = c) : Ending.returned (.tuple #[.int .i64 c, .int .i64 (k : Nat)]) = .returned (vGet l) := by
  subst hg; unfold vGet; rw [h]
theorem vget_miss {l : List UInt8} (h : getL l = (-1, 1)) : Ending.returned (.tuple #[.int .i64 (-1), .int .i64 1]) = .returned (vGet l) := by
  unfold vGet; rw [h]; rfl

set_option maxRecDepth 100000 in
set_option maxHeartbeats 800000 in
theorem rget_any (s : ByteArray) (w : World) (hs : s.size ≤ maxLen) :
    Calls Tryd.prog 20 #[.string s] w fun e w' => e = .returned (vGet s.data.toList) ∧ Below w.heap.size w w' := by
  have G := Lib.hid (fun n w => guess_any s n w hs)
  unfold maxLen at hs
  by_cases h0 : s.size = 0
  · have hl : s.data.toList = [] := by
      have := Lib.size_eq s
      exact List.eq_nil_of_length_eq_zero (by omega)
    go_enter Tryd.func20, Tryd.ntmps20
    go_wp2
    go_ret2
    exact ⟨by rw [hl]; rfl, Below.refl _ _⟩
  · have hne : s.data.toList ≠ [] := by
      intro e
      have := Lib.size_eq s
      rw [e] at this
      exact h0 this
    have hz : ((s.size : Int) == 0) = false := beq_eq_false_iff_ne.2 (by omega)
    go_enter Tryd.func20, Tryd.ntmps20
    go_wp2
    go_loopw [4] (fun n wr => ∃ k : Nat, 1 ≤ k ∧ k ≤ 5 ∧ k ≤ s.size + 1 ∧ misses s.data.toList k ∧ Below w.heap.size w wr ∧ n = .int .i64 k) (fun n _ => 5 - (intOf n).toNat)
    case atStart => exact ⟨1, by omega, by omega, by omega, misses_one _, Below.refl _ _, rfl⟩
    case round =>
      obtain ⟨k, hk1, hk5, hks, hm, hb, rfl⟩ := hrel
      have HM := Lib.hid hm
      clear hm
      by_cases hlt : k ≤ 4 ∧ k ≤ s.size
      · obtain ⟨hl4, hls⟩ := hlt
        have hgr := guess_range s.data.toList k hk1 hl4
        have g1 := Lib.hid (fun w => G.out k w hk1 hl4 hls)
        generalize hg : guessL s.data.toList k = c at *
        have s1 := Lib.hid (fun w => rscalar_any c w)
        have p1 := Lib.hid (fun w => rput_any c w)
        have hcut : s.extract 0 k = ⟨(s.data.toList.take k).toArray⟩ := cut_list s k
        cases hsc : scalar c with
        | false =>
          rw [hsc] at s1
          go_wp2_with (first
            | (go_at_call 29; refine (g1.out _).mono ?_; rintro e w' ⟨rfl, rfl⟩))
          go_quiet ((go_at_call 19; exact Calls.quiet_of_same ((s1.out _).mono fun _ _ h => ⟨h.1, h.2.symm⟩)))
          all_goals
            go_wp2
            go_roundw
            case rel => exact ⟨k + 1, by omega, by omega, by omega, misses_step HM.out (by rw [hg]; exact fun h => by rw [hsc] at h; cases h.1), hb.trans (drewN_below _ _ _), by go_num⟩
            case measure => simp [intOf]; omega
        | true =>
          rw [hsc] at s1
          by_cases heq : putL c = s.data.toList.take k
          · have hit := Lib.hid (getL_hit (l := s.data.toList) (n := k) (by rw [← Lib.size_eq]; exact hls) (by rw [hg]; exact hsc) (by rw [hg]; exact heq))
            have HE := Lib.hid heq
            have he : (putL c == s.data.toList.take k) = true := by rw [heq]; exact beq_self_eq_true _
            clear heq
            go_wp2_with (first
              | (go_at_call 29; refine (g1.out _).mono ?_; rintro e w' ⟨rfl, rfl⟩))
            go_region_with (first
              | (go_at_call 19; refine (s1.out _).mono ?_; rintro e w' ⟨rfl, rfl⟩)
              | (go_at_call 7; refine (p1.out _).mono ?_; rintro e w' ⟨rfl, hb2⟩))
            all_goals
              go_wp2
              go_ret2
              exact ⟨vget_hit hit.out hg, (hb.drew.trans (hb2.mono (by have := hb.size; simp; omega)))⟩
          · have HE := Lib.hid heq
            have he : (putL c == s.data.toList.take k) = false := beq_eq_false_iff_ne.2 heq
            clear heq
            go_wp2_with (first
              | (go_at_call 29; refine (g1.out _).mono ?_; rintro e w' ⟨rfl, rfl⟩))
            go_region_with (first
              | (go_at_call 19; refine (s1.out _).mono ?_; rintro e w' ⟨rfl, rfl⟩)
              | (go_at_call 7; refine (p1.out _).mono ?_; rintro e w' ⟨rfl, hb2⟩))
            all_goals
              go_wp2
              go_roundw
              case rel => exact ⟨k + 1, by omega, by omega, by omega, misses_step HM.out (by rw [hg]; exact fun h => HE.out h.2), hb.drew.trans (hb2.mono (by have := hb.size; simp; omega)), by go_num⟩
              case measure => simp [intOf]; omega
      · have hx : 4 < k ∨ s.size < k := by omega
        have HX := Lib.hid (getL_miss hne HM.out (by rw [← Lib.size_eq]; exact hx))
        go_wp2
        all_goals (go_ret2; exact ⟨vget_miss HX.out, hb⟩)

end Go.Proofs.YtoknfelheebidaaDoor.Ut

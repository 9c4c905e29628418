/- Walks of one code point: whether it is one, how many bytes, its bytes by the document, what a text begins with. Walks of the document's guess, and of its Get. What a text begins with. The iterator over a text's code points: codes, and what it hands its caller. codes as its callers meet it; Valid. A range over a right text: the rune at a place, the iterator's step. -/
import Derived.Test.YtbkafoaoddajoaaGreatDoorPk13
import Derived.Test.YtbkafoaoddajoaaGreatDoorChecked
import Derived.Test.YtbkafoaoddajoaaGreatDoorPk08
import Derived.WalkKit
import Derived.Lib.Hide
import Derived.WalkLawsBesides
import Derived.WalkSpells
import Derived.Deep.RegionWith
import Derived.Deep.QuietTactic
import Derived.BigQuiet
import Derived.Test.YtbkafoaoddajoaaGreatDoorPk01
import Derived.RangeFuncNested
import Derived.RangeFuncBound
import Derived.RangeFuncCalls
import Derived.RangeFuncLeaves
import Derived.RangeFuncBox
import Derived.Shelf.Abstract
import Derived.Shelf.RegionOpen
import Derived.OwnWalkIn
import Derived.TacticsInMore
import Derived.LoopNIn
import Derived.LoopIn
import Derived.Maps.AppendAt
import Derived.Lib.OthersKept
import Derived.Lib.RuneCount

namespace Go.Proofs.YtbkafoaoddajoaaGreatDoor.Ut
open Go.RowKit

theorem sc_end {c : Int} {b : Bool} (h : b = scalar c) : Ending.returned (.bool b) = .returned (.bool (scalar c)) := by rw [h]

set_option maxRecDepth 100000 in
set_option maxHeartbeats 400000 in
theorem rscalar_any (c : Int) (w : World) :
    Calls Tryz.prog 49 #[.int .i64 c] w fun e w' => e = .returned (.bool (scalar c)) ∧ w = w' := by
  go_enter Tryz.func49, Tryz.ntmps49
  go_wp2
  all_goals (go_ret; refine ⟨sc_end ?_, rfl⟩; rw [Bool.eq_iff_iff]; simp [scalar]; try omega)


theorem runeLen_good {c : Int} (h : scalar c = true) : Lib.runeLen c = ((putL c).length : Int) := by
  rw [putL, if_pos h, ← Lib.runeCells_length]
  rw [scalar_iff] at h
  unfold Lib.runeLen Lib.runeCells
  rw [List.length_map]
  by_cases a : c ≤ 127
  · rw [Lib.encodeRuneZ_one (by omega) a]; simp; omega
  · by_cases b : c ≤ 2047
    · rw [Lib.encodeRuneZ_two (by omega) b]; simp; omega
    · by_cases d : c ≤ 65535
      · rw [Lib.encodeRuneZ_three (by omega)]; simp; omega
      · rw [Lib.encodeRuneZ_four (by omega) (by omega)]; simp; omega

/-- what utf.Get and the document's Get tell -/
def vGet (l : List UInt8) : Value := .tuple #[.int .i64 (getL l).1, .int .i64 ((getL l).2 : Nat)]

/-! ### the document's own -/
theorem run_enc (w : World) (c : Int) (n : Nat) (X : Array Value) (h : X = (Lib.runeCells c).toArray ∧ (Lib.runeCells c).length = n) :
    (convert 112 9 (.slice (some ⟨w.heap.size, 0, none⟩) n n)).run Tryz.prog (w.alloc (.cells X 5)) = .ok (.string ⟨(Lib.encodeRune c).toArray⟩) (w.alloc (.cells X 5)) := by
  obtain ⟨h, hn⟩ := h
  subst h
  have hn' : n = (Lib.encodeRune c).length := by rw [← hn, Lib.runeCells_length]
  rw [hn']
  refine run_convert_bytes_back _ _ _ 5 _ _ _ Tryz.underlying112 Tryz.underlying5 Tryz.underlying9 fun j hj => ?_
  have e : (⟨w.heap.size, 0, none⟩ : Addr).add j = ⟨w.heap.size, j, none⟩ := by
    unfold Addr.add; split
    · rename_i h0; subst h0; rfl
    · simp
  rw [e, World.cell?_alloc_new, ← Lib.byteCells_encodeRune]
  simp [Lib.byteCells, hj]

theorem str_eq {l m : List UInt8} (h : l = m) : Ending.returned (.string ⟨l.toArray⟩) = .returned (.string ⟨m.toArray⟩) := by rw [h]

set_option maxRecDepth 100000 in
set_option maxHeartbeats 400000 in
theorem rput_any (c : Int) (w : World) :
    Calls Tryz.prog 50 #[.int .i64 c] w fun e w' => e = .returned (.string ⟨(putL c).toArray⟩) ∧ Below w.heap.size w w' := by
  have hs : ∀ w, Calls Tryz.prog 49 #[.int .i64 c] w fun e w' => e = .returned (.bool (scalar c)) ∧ w = w' := fun w => rscalar_any c w
  cases h : scalar c with
  | false =>
    rw [h] at hs
    have HS := Lib.hid hs
    clear hs
    go_enter Tryz.func50, Tryz.ntmps50
    go_wp2_with (go_at_call 49; refine (HS.out _).mono ?_; rintro e w' ⟨rfl, rfl⟩)
    go_ret
    exact ⟨by rw [put_bad h]; rfl, Below.refl _ _⟩
  | true =>
    rw [h] at hs
    have HS := Lib.hid hs
    clear hs
    have hp := put_good h
    rw [hp]
    rw [scalar_iff] at h
    have h0 : 0 ≤ c := by omega
    have h1 : c ≤ 1114111 := by omega
    have w1 : c ≤ 127 ∨ (128 ≤ c ∧ c ≤ 2047) ∨ (2048 ≤ c ∧ c ≤ 65535) ∨ 65536 ≤ c := by omega
    rcases w1 with w1 | w1 | w1 | w1
    · have hcv := run_enc w c 1 #[.int .u8 c] (by simp [Lib.runeCells, Lib.encodeRuneZ_one h0 w1])
      clear h hp
      go_enter Tryz.func50, Tryz.ntmps50
      go_wp2_with (first
        | (go_at_call 49; refine (HS.out _).mono ?_; rintro e w' ⟨rfl, rfl⟩))
      go_ret
      exact ⟨rfl, (Below.refl _ w).alloc (Nat.le_refl _) _⟩
    · have hcv := run_enc w c 2 #[.int .u8 (192 + c / 64), .int .u8 (128 + c % 64)] (by simp [Lib.runeCells, Lib.encodeRuneZ_two w1.1 w1.2])
      obtain ⟨w1, w2⟩ := w1
      clear h hp
      go_enter Tryz.func50, Tryz.ntmps50
      go_wp2_with (first
        | (go_at_call 49; refine (HS.out _).mono ?_; rintro e w' ⟨rfl, rfl⟩))
      go_ret
      exact ⟨rfl, (Below.refl _ w).alloc (Nat.le_refl _) _⟩
    · have hcv := run_enc w c 3 #[.int .u8 (224 + c / 4096), .int .u8 (128 + c / 64 % 64), .int .u8 (128 + c % 64)] (by simp [Lib.runeCells, Lib.encodeRuneZ_three (show (2048 ≤ c ∧ c < 55296) ∨ (57343 < c ∧ c ≤ 65535) by omega)])
      obtain ⟨w1, w2⟩ := w1
      clear h hp
      go_enter Tryz.func50, Tryz.ntmps50
      go_wp2_with (first
        | (go_at_call 49; refine (HS.out _).mono ?_; rintro e w' ⟨rfl, rfl⟩))
      go_ret
      exact ⟨rfl, (Below.refl _ w).alloc (Nat.le_refl _) _⟩
    · have hcv := run_enc w c 4 #[.int .u8 (240 + c / 262144), .int .u8 (128 + c / 4096 % 64), .int .u8 (128 + c / 64 % 64), .int .u8 (128 + c % 64)] (by simp [Lib.runeCells, Lib.encodeRuneZ_four w1 h1])
      clear h hp
      go_enter Tryz.func50, Tryz.ntmps50
      go_wp2_with (first
        | (go_at_call 49; refine (HS.out _).mono ?_; rintro e w' ⟨rfl, rfl⟩))
      go_ret
      exact ⟨rfl, (Below.refl _ w).alloc (Nat.le_refl _) _⟩

end Go.Proofs.YtbkafoaoddajoaaGreatDoor.Ut

namespace Go.Proofs.YtbkafoaoddajoaaGreatDoor.Ut
open Go.RowKit

theorem nth_at {s : ByteArray} {k : Nat} (h : k < s.size) : nth s.data.toList k = (s[k].toNat : Int) := by
  unfold nth
  rw [Lib.getD_get!' s k]
  cases s with
  | mk d =>
    show ((d[k]!).toNat : Int) = (d[k].toNat : Int)
    rw [getElem!_pos d k h]
theorem guess_next {l : List UInt8} {n i : Nat} {c b : Int} (h : i < n) (hb : nth l i = b) : guessR l (n - i) i c = guessR l (n - (i + 1)) (i + 1) (64 * c + b - 128) := by
  rw [show n - i = (n - (i + 1)) + 1 by omega, guessR, hb]
theorem guess_end {l : List UInt8} {n i : Nat} {c : Int} (h : n ≤ i) : guessR l (n - i) i c = c := by
  rw [show n - i = 0 by omega, guessR]
theorem gend {a b : Int} (h : a = b) : Ending.returned (.int .i64 a) = .returned (.int .i64 b) := by rw [h]

def bnd (k : Nat) : Int := if k = 1 then 300 else if k = 2 then 20000 else if k = 3 then 2000000 else 200000000
theorem bnd_step {k : Nat} {m : Int} (hk : 1 ≤ k ∧ k ≤ 3) (h0 : -bnd k ≤ m) (h1 : m ≤ bnd k) :
    -2000000 ≤ m ∧ m ≤ 2000000 ∧ ∀ b : Int, 0 ≤ b → b < 256 → -bnd (k + 1) ≤ 64 * m + b - 128 ∧ 64 * m + b - 128 ≤ bnd (k + 1) := by
  have : k = 1 ∨ k = 2 ∨ k = 3 := by omega
  rcases this with rfl | rfl | rfl <;> simp [bnd] at * <;> refine ⟨by omega, by omega, fun b hb0 hb1 => by omega⟩

set_option maxRecDepth 100000 in
set_option maxHeartbeats 800000 in
theorem guess_any (s : ByteArray) (n : Nat) (w : World) (hs : s.size ≤ maxLen) (h1 : 1 ≤ n) (h4 : n ≤ 4) (hn : n ≤ s.size) :
    Calls Tryz.prog 48 #[.string s, .int .i64 (n : Int)] w fun e w' => e = .returned (.int .i64 (guessL s.data.toList n)) ∧ w = w' := by
  unfold maxLen at hs
  have h0 : 0 < s.size := by omega
  have hb0 := nth_at h0
  have hr0 := nth_range s.data.toList 0
  have hst : guessR s.data.toList (n - 1) 1 ((s[0].toNat : Int) - lead n) = guessL s.data.toList n := by rw [guessL, hb0]
  rw [hb0] at hr0
  clear hb0
  have hl : n = 1 ∨ n = 2 ∨ n = 3 ∨ n = 4 := by omega
  have HS := Lib.hid hst
  clear hst
  rcases hl with rfl | rfl | rfl | rfl
  · have HS' : guessR s.data.toList (1 - 1) 1 ((s[0].toNat : Int)) = guessL s.data.toList 1 := by rw [← HS.out, show lead 1 = 0 from rfl, Int.sub_zero]
    have HT := Lib.hid HS'
    clear HS' HS
    go_enter Tryz.func48, Tryz.ntmps48
    go_wp2
    go_loop [5, 6] (fun c i => ∃ (m : Int) (k : Nat), 1 ≤ k ∧ k ≤ 1 ∧ -bnd k ≤ m ∧ m ≤ bnd k ∧ guessR s.data.toList (1 - k) k m = guessL s.data.toList 1 ∧ c = .int .i64 m ∧ i = .int .i64 k) (fun _ i => 1 - (intOf i).toNat)
    case atStart => exact ⟨(s[0].toNat : Int), 1, by omega, by omega, by have : bnd 1 = 300 := rfl; omega, by have : bnd 1 = 300 := rfl; omega, HT.out, by go_num, rfl⟩
    case round =>
      obtain ⟨m, k, hk1, hk2, hm1, hm2, hg, rfl, rfl⟩ := hrel
      have HG := Lib.hid hg
      clear hg
      by_cases hlt : k < 1
      · exfalso; omega
      · have hx := Lib.hid (guess_end (l := s.data.toList) (n := 1) (i := k) (c := m) (by omega))
        obtain rfl : k = 1 := by omega
        go_wp2
        go_ret
        exact ⟨gend (by rw [← HG.out, hx.out]), rfl⟩
  · have HS' : guessR s.data.toList (2 - 1) 1 ((s[0].toNat : Int) - 192) = guessL s.data.toList 2 := by rw [← HS.out]; simp [lead]
    have HT := Lib.hid HS'
    clear HS' HS
    go_enter Tryz.func48, Tryz.ntmps48
    go_wp2
    go_loop [5, 6] (fun c i => ∃ (m : Int) (k : Nat), 1 ≤ k ∧ k ≤ 2 ∧ -bnd k ≤ m ∧ m ≤ bnd k ∧ guessR s.data.toList (2 - k) k m = guessL s.data.toList 2 ∧ c = .int .i64 m ∧ i = .int .i64 k) (fun _ i => 2 - (intOf i).toNat)
    case atStart => exact ⟨(s[0].toNat : Int) - 192, 1, by omega, by omega, by have : bnd 1 = 300 := rfl; omega, by have : bnd 1 = 300 := rfl; omega, HT.out, by go_num, rfl⟩
    case round =>
      obtain ⟨m, k, hk1, hk2, hm1, hm2, hg, rfl, rfl⟩ := hrel
      have HG := Lib.hid hg
      clear hg
      by_cases hlt : k < 2
      · obtain ⟨hm3, hm4, hB⟩ := bnd_step (by omega) hm1 hm2
        have HB := Lib.hid hB
        clear hB
        have hks : k < s.size := by omega
        have hby : (s[k].toNat : Int) < 256 := by have := UInt8.toNat_lt s[k]; omega
        have hx := Lib.hid (guess_next (c := m) hlt (nth_at hks))
        go_wp2
        go_round
        case rel => exact ⟨64 * m + (s[k].toNat : Int) - 128, k + 1, by omega, by omega, (HB.out _ (by omega) (by omega)).1, (HB.out _ (by omega) (by omega)).2, by rw [← HG.out, hx.out], by go_num, by go_num⟩
        case measure => simp [intOf]; omega
      · have hx := Lib.hid (guess_end (l := s.data.toList) (n := 2) (i := k) (c := m) (by omega))
        obtain rfl : k = 2 := by omega
        go_wp2
        go_ret
        exact ⟨gend (by rw [← HG.out, hx.out]), rfl⟩
  · have HS' : guessR s.data.toList (3 - 1) 1 ((s[0].toNat : Int) - 224) = guessL s.data.toList 3 := by rw [← HS.out]; simp [lead]
    have HT := Lib.hid HS'
    clear HS' HS
    go_enter Tryz.func48, Tryz.ntmps48
    go_wp2
    go_loop [5, 6] (fun c i => ∃ (m : Int) (k : Nat), 1 ≤ k ∧ k ≤ 3 ∧ -bnd k ≤ m ∧ m ≤ bnd k ∧ guessR s.data.toList (3 - k) k m = guessL s.data.toList 3 ∧ c = .int .i64 m ∧ i = .int .i64 k) (fun _ i => 3 - (intOf i).toNat)
    case atStart => exact ⟨(s[0].toNat : Int) - 224, 1, by omega, by omega, by have : bnd 1 = 300 := rfl; omega, by have : bnd 1 = 300 := rfl; omega, HT.out, by go_num, rfl⟩
    case round =>
      obtain ⟨m, k, hk1, hk2, hm1, hm2, hg, rfl, rfl⟩ := hrel
      have HG := Lib.hid hg
      clear hg
      by_cases hlt : k < 3
      · obtain ⟨hm3, hm4, hB⟩ := bnd_step (by omega) hm1 hm2
        have HB := Lib.hid hB
        clear hB
        have hks : k < s.size := by omega
        have hby : (s[k].toNat : Int) < 256 := by have := UInt8.toNat_lt s[k]; omega
        have hx := Lib.hid (guess_next (c := m) hlt (nth_at hks))
        go_wp2
        go_round
        case rel => exact ⟨64 * m + (s[k].toNat : Int) - 128, k + 1, by omega, by omega, (HB.out _ (by omega) (by omega)).1, (HB.out _ (by omega) (by omega)).2, by rw [← HG.out, hx.out], by go_num, by go_num⟩
        case measure => simp [intOf]; omega
      · have hx := Lib.hid (guess_end (l := s.data.toList) (n := 3) (i := k) (c := m) (by omega))
        obtain rfl : k = 3 := by omega
        go_wp2
        go_ret
        exact ⟨gend (by rw [← HG.out, hx.out]), rfl⟩
  · have HS' : guessR s.data.toList (4 - 1) 1 ((s[0].toNat : Int) - 240) = guessL s.data.toList 4 := by rw [← HS.out]; simp [lead]
    have HT := Lib.hid HS'
    clear HS' HS
    go_enter Tryz.func48, Tryz.ntmps48
    go_wp2
    go_loop [5, 6] (fun c i => ∃ (m : Int) (k : Nat), 1 ≤ k ∧ k ≤ 4 ∧ -bnd k ≤ m ∧ m ≤ bnd k ∧ guessR s.data.toList (4 - k) k m = guessL s.data.toList 4 ∧ c = .int .i64 m ∧ i = .int .i64 k) (fun _ i => 4 - (intOf i).toNat)
    case atStart => exact ⟨(s[0].toNat : Int) - 240, 1, by omega, by omega, by have : bnd 1 = 300 := rfl; omega, by have : bnd 1 = 300 := rfl; omega, HT.out, by go_num, rfl⟩
    case round =>
      obtain ⟨m, k, hk1, hk2, hm1, hm2, hg, rfl, rfl⟩ := hrel
      have HG := Lib.hid hg
      clear hg
      by_cases hlt : k < 4
      · obtain ⟨hm3, hm4, hB⟩ := bnd_step (by omega) hm1 hm2
        have HB := Lib.hid hB
        clear hB
        have hks : k < s.size := by omega
        have hby : (s[k].toNat : Int) < 256 := by have := UInt8.toNat_lt s[k]; omega
        have hx := Lib.hid (guess_next (c := m) hlt (nth_at hks))
        go_wp2
        go_round
        case rel => exact ⟨64 * m + (s[k].toNat : Int) - 128, k + 1, by omega, by omega, (HB.out _ (by omega) (by omega)).1, (HB.out _ (by omega) (by omega)).2, by rw [← HG.out, hx.out], by go_num, by go_num⟩
        case measure => simp [intOf]; omega
      · have hx := Lib.hid (guess_end (l := s.data.toList) (n := 4) (i := k) (c := m) (by omega))
        obtain rfl : k = 4 := by omega
        go_wp2
        go_ret
        exact ⟨gend (by rw [← HG.out, hx.out]), rfl⟩


theorem drewN_below (B : Nat) (w : World) (n : Nat) : Below B w (w.drewN n) := ⟨rfl, rfl, rfl, Nat.le_refl _, fun _ _ => rfl⟩
theorem cut_list (s : ByteArray) (k : Nat) : s.extract 0 k = ⟨(s.data.toList.take k).toArray⟩ := by
  apply ByteArray.ext
  apply Array.ext'
  simp
theorem vget_hit {l : List UInt8} {g c : Int} {k : Nat} (h : getL l = (g, k)) (hg : g = c) : Ending.returned (.tuple #[.int .i64 c, .int .i64 (k : Nat)]) = .returned (vGet l) := by
  subst hg; unfold vGet; rw [h]
theorem vget_miss {l : List UInt8} (h : getL l = (-1, 1)) : Ending.returned (.tuple #[.int .i64 (-1), .int .i64 1]) = .returned (vGet l) := by
  unfold vGet; rw [h]; rfl

set_option maxRecDepth 100000 in
set_option maxHeartbeats 800000 in
theorem rget_any (s : ByteArray) (w : World) (hs : s.size ≤ maxLen) :
    Calls Tryz.prog 25 #[.string s] w fun e w' => e = .returned (vGet s.data.toList) ∧ Below w.heap.size w w' := by
  have G := Lib.hid (fun n w => guess_any s n w hs)
  unfold maxLen at hs
  by_cases h0 : s.size = 0
  · have hl : s.data.toList = [] := by
      have := Lib.size_eq s
      exact List.eq_nil_of_length_eq_zero (by omega)
    go_enter Tryz.func25, Tryz.ntmps25
    go_wp2
    go_ret2
    exact ⟨by rw [hl]; rfl, Below.refl _ _⟩
  · have hne : s.data.toList ≠ [] := by
      intro e
      have := Lib.size_eq s
      rw [e] at this
      exact h0 this
    have hz : ((s.size : Int) == 0) = false := beq_eq_false_iff_ne.2 (by omega)
    go_enter Tryz.func25, Tryz.ntmps25
    go_wp2
    go_loopw [4] (fun n wr => ∃ k : Nat, 1 ≤ k ∧ k ≤ 5 ∧ k ≤ s.size + 1 ∧ misses s.data.toList k ∧ Below w.heap.size w wr ∧ n = .int .i64 k) (fun n _ => 5 - (intOf n).toNat)
    case atStart => exact ⟨1, by omega, by omega, by omega, misses_one _, Below.refl _ _, rfl⟩
    case round =>
      obtain ⟨k, hk1, hk5, hks, hm, hb, rfl⟩ := hrel
      have HM := Lib.hid hm
      clear hm
      by_cases hlt : k ≤ 4 ∧ k ≤ s.size
      · obtain ⟨hl4, hls⟩ := hlt
        have hgr := guess_range s.data.toList k hk1 hl4
        have g1 := Lib.hid (fun w => G.out k w hk1 hl4 hls)
        generalize hg : guessL s.data.toList k = c at *
        have s1 := Lib.hid (fun w => rscalar_any c w)
        have p1 := Lib.hid (fun w => rput_any c w)
        have hcut : s.extract 0 k = ⟨(s.data.toList.take k).toArray⟩ := cut_list s k
        cases hsc : scalar c with
        | false =>
          rw [hsc] at s1
          go_wp2_with (first
            | (go_at_call 48; refine (g1.out _).mono ?_; rintro e w' ⟨rfl, rfl⟩))
          go_quiet ((go_at_call 49; exact Calls.quiet_of_same ((s1.out _).mono fun _ _ h => ⟨h.1, h.2.symm⟩)))
          all_goals
            go_wp2
            go_roundw
            case rel => exact ⟨k + 1, by omega, by omega, by omega, misses_step HM.out (by rw [hg]; exact fun h => by rw [hsc] at h; cases h.1), hb.trans (drewN_below _ _ _), by go_num⟩
            case measure => simp [intOf]; omega
        | true =>
          rw [hsc] at s1
          by_cases heq : putL c = s.data.toList.take k
          · have hit := Lib.hid (getL_hit (l := s.data.toList) (n := k) (by rw [← Lib.size_eq]; exact hls) (by rw [hg]; exact hsc) (by rw [hg]; exact heq))
            have HE := Lib.hid heq
            have he : (putL c == s.data.toList.take k) = true := by rw [heq]; exact beq_self_eq_true _
            clear heq
            go_wp2_with (first
              | (go_at_call 48; refine (g1.out _).mono ?_; rintro e w' ⟨rfl, rfl⟩))
            go_region_with (first
              | (go_at_call 49; refine (s1.out _).mono ?_; rintro e w' ⟨rfl, rfl⟩)
              | (go_at_call 50; refine (p1.out _).mono ?_; rintro e w' ⟨rfl, hb2⟩))
            all_goals
              go_wp2
              go_ret2
              exact ⟨vget_hit hit.out hg, (hb.drew.trans (hb2.mono (by have := hb.size; simp; omega)))⟩
          · have HE := Lib.hid heq
            have he : (putL c == s.data.toList.take k) = false := beq_eq_false_iff_ne.2 heq
            clear heq
            go_wp2_with (first
              | (go_at_call 48; refine (g1.out _).mono ?_; rintro e w' ⟨rfl, rfl⟩))
            go_region_with (first
              | (go_at_call 49; refine (s1.out _).mono ?_; rintro e w' ⟨rfl, rfl⟩)
              | (go_at_call 50; refine (p1.out _).mono ?_; rintro e w' ⟨rfl, hb2⟩))
            all_goals
              go_wp2
              go_roundw
              case rel => exact ⟨k + 1, by omega, by omega, by omega, misses_step HM.out (by rw [hg]; exact fun h => HE.out h.2), hb.drew.trans (hb2.mono (by have := hb.size; simp; omega)), by go_num⟩
              case measure => simp [intOf]; omega
      · have hx : 4 < k ∨ s.size < k := by omega
        have HX := Lib.hid (getL_miss hne HM.out (by rw [← Lib.size_eq]; exact hx))
        go_wp2
        all_goals (go_ret2; exact ⟨vget_miss HX.out, hb⟩)

end Go.Proofs.YtbkafoaoddajoaaGreatDoor.Ut

namespace Go.Proofs.YtbkafoaoddajoaaGreatDoor.Ut
open Go.RowKit

theorem gv_bad {r k z : Int} {V : Value} (h : V = if r = 65533 ∧ k = 1 then Value.tuple #[.int .i64 (-1), .int .i64 1] else .tuple #[.int .i64 r, .int .i64 k]) (hp : r = 65533 ∧ k = 1) (hz : z = 1) :
    Ending.returned (.tuple #[.int .i64 (-1), .int .i64 z]) = .returned V := by rw [h, if_pos hp, hz]
theorem gv_good {r k z : Int} {V : Value} (h : V = if r = 65533 ∧ k = 1 then Value.tuple #[.int .i64 (-1), .int .i64 1] else .tuple #[.int .i64 r, .int .i64 k]) (hp : ¬ (r = 65533 ∧ k = 1)) (hz : z = r) :
    Ending.returned (.tuple #[.int .i64 z, .int .i64 k]) = .returned V := by rw [h, if_neg hp, hz]

theorem decodeGo_eq (s : ByteArray) : Lib.decodeGo s = if s.data.toList = [] then (65533, 0) else dN s.data.toList := by
  unfold Lib.decodeGo dN
  rw [Lib.decode_N]
  rw [Lib.size_eq s]
  cases s.data.toList with
  | nil => rfl
  | cons a l => simp

set_option maxRecDepth 100000 in
set_option maxHeartbeats 400000 in
theorem get_any (s : ByteArray) (w : World) (hT : Lib.Utf8Tabs 0 1 w) :
    Calls Tryz.prog 54 #[.string s] w fun e w' => e = .returned (vGet s.data.toList) ∧ Below w.heap.size w w' := by
  have hd := Tryz.utf8_DecodeRuneInString s w hT
  rw [decodeGo_eq] at hd
  clear hT
  by_cases h0 : s.data.toList = []
  · rw [if_pos h0] at hd
    rw [h0]
    have HD := Lib.hid hd
    clear hd h0
    go_enter Tryz.func54, Tryz.ntmps54
    go_wp2_with (go_at_call 67; refine HD.out.mono ?_; rintro e w' ⟨rfl, hb⟩)
    go_ret2
    exact ⟨rfl, hb⟩
  · rw [if_neg h0] at hd
    have hv : vGet s.data.toList = if (dN s.data.toList).1 = 65533 ∧ (dN s.data.toList).2 = 1 then .tuple #[.int .i64 (-1), .int .i64 1] else .tuple #[.int .i64 ((dN s.data.toList).1 : Int), .int .i64 ((dN s.data.toList).2 : Int)] := by
      unfold vGet getL
      rw [if_neg h0]
      split <;> rfl
    rw [hv]
    have hw : 1 ≤ ((dN s.data.toList).2 : Int) ∧ ((dN s.data.toList).2 : Int) ≤ 4 ∧ 0 ≤ ((dN s.data.toList).1 : Int) ∧ ((dN s.data.toList).1 : Int) ≤ 1114111 := by
      rcases dN_back h0 with h | h
      · rw [h]; simp
      · have h1 := h.len
        have h2 := h.scalar
        rw [scalar_iff] at h2
        omega
    have hi : ((dN s.data.toList).1 = 65533 ∧ (dN s.data.toList).2 = 1) ↔ (((dN s.data.toList).1 : Int) = 65533 ∧ ((dN s.data.toList).2 : Int) = 1) := by omega
    simp only [hi]
    clear hi hv
    generalize ((dN s.data.toList).1 : Int) = r at *
    generalize ((dN s.data.toList).2 : Int) = k at *
    have HD := Lib.hid hd
    clear hd h0
    obtain ⟨w0, w1, w2, w3⟩ := hw
    obtain ⟨V, hV⟩ : ∃ V, V = if r = 65533 ∧ k = 1 then Value.tuple #[.int .i64 (-1), .int .i64 1] else .tuple #[.int .i64 r, .int .i64 k] := ⟨_, rfl⟩
    rw [← hV]
    have HV := Lib.hid hV
    clear hV
    go_enter Tryz.func54, Tryz.ntmps54
    go_wp2_with (go_at_call 67; refine HD.out.mono ?_; rintro e w' ⟨rfl, hb⟩)
    all_goals (go_ret2; first | exact ⟨gv_bad HV.out (by omega) (by omega), hb⟩ | exact ⟨gv_good HV.out (by omega) (by omega), hb⟩)


end Go.Proofs.YtbkafoaoddajoaaGreatDoor.Ut

namespace Go.Proofs.YtbkafoaoddajoaaGreatDoor.Ut
open Go.RowKit Go.Shelf

attribute [local go_sem] Oper.semAt_some

/-- the tables of the library's decoding, as the program's text lays them -/
abbrev Tabs (w : World) : Prop := Lib.Utf8Tabs 0 1 w
theorem tabs_lt {w : World} (h : Tabs w) : 0 < w.heap.size ∧ 1 < w.heap.size := by
  constructor
  · have := h.1 0 (by omega)
    rcases Nat.lt_or_ge 0 w.heap.size with h' | h'
    · exact h'
    · simp [World.cell?, Array.getElem?_eq_none h'] at this
  · have := (h.2 0 (by omega)).1
    rcases Nat.lt_or_ge 1 w.heap.size with h' | h'
    · exact h'
    · simp [World.cell?, Array.getElem?_eq_none h'] at this
theorem tabs_below {w w' : World} {n₀ : Nat} (h : Tabs w) (h0 : 0 < n₀) (h1 : 1 < n₀) (hb : Below n₀ w w') : Tabs w' :=
  ⟨fun c hc => (hb.cell (p := ⟨0, c, none⟩) h0).trans (h.1 c hc),
   fun i hi => ⟨(hb.cell (p := ⟨1, 2 * i, none⟩) h1).trans (h.2 i hi).1, (hb.cell (p := ⟨1, 2 * i + 1, none⟩) h1).trans (h.2 i hi).2⟩⟩
theorem tabs_next {w w' : World} (h : Tabs w) (hb : Below w.heap.size w w') : Tabs w' :=
  tabs_below h (tabs_lt h).1 (tabs_lt h).2 hb

/-- what a round keeps: all below n₀, and the text's box -/
def Kept (n₀ Bn : Nat) (s : ByteArray) (W W' : World) : Prop := Below n₀ W W' ∧ (Boxed W Bn 9 (.string s) → Boxed W' Bn 9 (.string s))
theorem kept_t {n₀ Bn : Nat} {s : ByteArray} {A B C : World} (h : Kept n₀ Bn s A B) (k : Kept n₀ Bn s B C) : Kept n₀ Bn s A C := ⟨h.1.trans k.1, fun x => k.2 (h.2 x)⟩
theorem kept_b {n₀ Bn : Nat} {s : ByteArray} {w : World} (hn : n₀ ≤ w.heap.size) (W : World) (l : Nat) (o o' : Obj) (hl : w.heap.size ≤ l) (h : W.heap[l]? = some o) (hc : o.isCells = false) (hw : o.isWalk = false) : Kept n₀ Bn s W (W.putObj l o') :=
  ⟨belowK_b hn W l o o' hl h hc hw, fun x => x.kept (grownBy_putObj' W l o') (fun e => by
    obtain rfl : Bn = l := by simpa using e
    rw [show W.heap[Bn]? = _ from x] at h; cases h; cases hc)⟩

theorem drop_extract (s : ByteArray) (k : Nat) : (s.extract k s.size).data.toList = s.data.toList.drop k := by
  rw [Lib.extract_eq, List.take_of_length_le]
  rw [List.length_drop, ← Lib.size_eq]
  omega
theorem all_step {l : List UInt8} {k : Nat} (hk : k < l.length) : allL (l.drop k) = (getL (l.drop k)).1 :: allL (l.drop (k + (getL (l.drop k)).2)) := by
  have hne : l.drop k ≠ [] := by
    intro e
    have := congrArg List.length e
    simp at this; omega
  rw [allL_cons hne, List.drop_drop]
theorem get_at {l : List UInt8} {k : Nat} (hk : k < l.length) : 1 ≤ (getL (l.drop k)).2 ∧ k + (getL (l.drop k)).2 ≤ l.length := by
  have hne : l.drop k ≠ [] := by
    intro e
    have := congrArg List.length e
    simp at this; omega
  have := getL_width hne
  simp only [List.length_drop] at this
  omega

set_option maxRecDepth 100000 in
set_option maxHeartbeats 1000000 in
theorem codes1_in (F : Fence) (n : Nat) (hf : F.fn 53) (hf2 : F.fn 54) (hro : F.round = none) (hn : 1 ≤ n) (l Bn n₀ : Nat) (s : ByteArray) (hs : s.size ≤ maxLen) (h0 : 0 < n₀) (h1 : 1 < n₀)
    (J Jx : List Int → World → Prop) (B0 : Nat) (hJ : AbidesFrom B0 J)
    (hget : ∀ (s : ByteArray) (w : World), Tabs w → CallsIn F (n - 1) Tryz.prog 54 #[.string s] w fun e w' => e = .returned (vGet s.data.toList) ∧ Below w.heap.size w w')
    (hY : ∀ pre x W, J pre W → pre.length < (allL s.data.toList).length → YieldAt F (n - 1) Tryz.prog l #[.int .i64 x] W fun e W' =>
      (e = .returned (.bool true) ∧ J (pre ++ [x]) W' ∧ Kept n₀ Bn s W W') ∨ (e = .returned (.bool false) ∧ Jx (pre ++ [x]) W'))
    (W : World) (hn0 : n₀ ≤ W.heap.size) (hBn : Boxed W Bn 9 (.string s)) (hT : Tabs W) (hJ0 : J [] W) :
    CallsIn F n Tryz.prog 53 #[.func (.yield l) #[] #[], .pointer (some ⟨Bn, 0, none⟩)] W fun e W' => (∃ v, e = .returned v) ∧
      ((∃ ys, ys = allL s.data.toList ∧ J ys W') ∨ (∃ pre, pre <+: allL s.data.toList ∧ Jx pre W')) := by
  unfold maxLen at hs
  have HL := Lib.hid (Lib.size_eq s)
  refine callsIn_of_wp Tryz.func53 rfl hf ?_ hro
  simp only [Tryz.ntmps53, List.size_toArray, List.length_cons, List.length_nil, Nat.reduceAdd, Nat.reduceSub, Array.replicate_succ, Array.replicate_zero, List.push_toArray, List.append_toArray, List.nil_append, List.cons_append]
  gi_wp2
  gi_loopw [3] (fun i wr => ∃ (k : Nat) (pre : List Int), i = .int .i64 k ∧ k ≤ s.size ∧ allL s.data.toList = pre ++ allL (s.data.toList.drop k) ∧ n₀ ≤ wr.heap.size ∧ Boxed wr Bn 9 (.string s) ∧ Tabs wr ∧ J pre wr) (fun i _ => s.size - (intOf i).toNat)
  case atStart => exact ⟨0, [], rfl, by omega, rfl, hn0, hBn, hT, hJ0⟩
  case round =>
    obtain ⟨k, pre, rfl, hk, hx, hsz, hbx, hTr, hJs⟩ := hrel
    have hcell := hbx.cell
    by_cases hlt : k < s.size
    · have hst := all_step (l := s.data.toList) (k := k) (by rw [← HL.out]; exact hlt)
      have hw := get_at (l := s.data.toList) (k := k) (by rw [← HL.out]; exact hlt)
      rw [← HL.out] at hw
      have hg := Lib.hid (fun w h => hget (s.extract k s.size) w h)
      simp only [drop_extract, vGet] at hg
      rw [hst] at hx
      clear hst
      generalize (getL (s.data.toList.drop k)).1 = c at *
      generalize (getL (s.data.toList.drop k)).2 = m at *
      have hlen : pre.length < (allL s.data.toList).length := by rw [hx]; simp
      have HY := Lib.hid (fun W h => hY pre c W h hlen)
      have HX := Lib.hid hx
      clear hx hY hlen
      obtain ⟨hm1, hmk⟩ := hw
      gi_wp2_with (gi_at_call 54; refine (hg.out _ hTr).mono ?_; rintro e w' ⟨rfl, hb⟩; obtain ⟨fn, tmps, assign, body, hy, hR⟩ := HY.out w' (hJ pre wr w' none hJs (grown_below hb) (fun r e => by cases e)))
      refine hR.mono ?_
      have hbx2 : Boxed w' Bn 9 (.string s) := (hb.block Bn hbx.lt).trans hbx
      rintro e W3 (⟨rfl, hJ3, hk3⟩ | ⟨rfl, hJx3⟩)
      · have hbx3 := hk3.2 hbx2
        have hT3 : Tabs W3 := tabs_below (tabs_next hTr hb) h0 h1 hk3.1
        gi_wp2
        go_roundw
        case rel => exact ⟨k + m, pre ++ [c], by go_num, by omega, by rw [HX.out]; simp, Nat.le_trans (Nat.le_trans hsz hb.size) hk3.1.size, hbx3, hT3, hJ3⟩
        case measure => simp [intOf]; omega
      · gi_wp2
        refine bodyPost_ret (results_none rfl _ _ _) rfl ?_
        exact ⟨⟨_, rfl⟩, .inr ⟨pre ++ [c], ⟨allL (s.data.toList.drop (k + m)), by rw [HX.out]; simp⟩, hJx3⟩⟩
    · have hX := Lib.hid hx
      clear hx
      have he : s.data.toList.drop k = [] := List.drop_eq_nil_of_le (by rw [← HL.out]; omega)
      have HE := Lib.hid he
      clear he
      gi_wp2
      go_end0
      exact ⟨⟨_, rfl⟩, .inl ⟨pre, by rw [hX.out, HE.out, allL_nil, List.append_nil], hJs⟩⟩

end Go.Proofs.YtbkafoaoddajoaaGreatDoor.Ut

namespace Go.Proofs.YtbkafoaoddajoaaGreatDoor.Ut
open Go.RowKit Go.Shelf

attribute [local go_sem] Oper.semAt_some

set_option maxHeartbeats 1000000 in
theorem codes_in (F : Fence) (n : Nat) (hf : F.fn 37) (hro : F.round = none) (s : ByteArray) (w : World) :
    CallsIn F n Tryz.prog 37 #[.string s] w fun e w' => e = .returned (.func (.func 53) #[] #[.pointer (some ⟨w.heap.size, 0, none⟩)]) ∧ w' = w.alloc (.cells #[.string s] 9) := by
  refine callsIn_of_wp Tryz.func37 rfl hf ?_ hro
  simp only [Tryz.ntmps37, List.size_toArray, List.length_cons, List.length_nil, Nat.reduceAdd, Nat.reduceSub, Array.replicate_succ, Array.replicate_zero, List.push_toArray, List.append_toArray, List.nil_append, List.cons_append]
  gi_wp2
  go_ret
  exact ⟨rfl, rfl⟩

theorem codes_stops (F : Fence) (n : Nat) (hf : F.fn 53) (hf2 : F.fn 54) (hro : F.round = none) (hn : 1 ≤ n) (Bn n₀ : Nat) (s : ByteArray) (hs : s.size ≤ maxLen) (w : World)
    (hget : ∀ (s : ByteArray) (w : World), Tabs w → CallsIn F (n - 1) Tryz.prog 54 #[.string s] w fun e w' => e = .returned (vGet s.data.toList) ∧ Below w.heap.size w w')
    (h0 : 0 < n₀) (h1 : 1 < n₀) (hn₀ : n₀ ≤ w.heap.size) (hbx : Boxed w Bn 9 (.string s)) (hT : Tabs w) :
    SeqStopsK F n Tryz.prog 53 #[.pointer (some ⟨Bn, 0, none⟩)] (fun x : Int => #[Value.int .i64 x]) (Kept n₀ Bn s) (fun ys => ys = allL s.data.toList) (fun pre => pre <+: allL s.data.toList) (allL s.data.toList).length w := fun l J Jx W hW hJ _ hY hJ0 =>
  codes1_in F n hf hf2 hro hn l Bn n₀ s hs h0 h1 J Jx W.heap.size hJ hget hY W (Nat.le_trans hn₀ hW.size) ((hW.block Bn hbx.lt).trans hbx) (tabs_next hT hW) hJ0

theorem box_kept {A B : World} {row : Option Nat} {b : Nat} {t : TypeId} {v : Value} (h : Boxed A b t v) (hg : A.grownBy B row) (hr : ∀ r, row = some r → ∃ o : Obj, A.heap[r]? = some o ∧ o.isCells = false) : Boxed B b t v :=
  h.kept hg fun e => by
    obtain ⟨o, ho, hc⟩ := hr b e.symm
    rw [show A.heap[b]? = _ from h] at ho; cases ho; cases hc

theorem valid_not {l : List UInt8} {xs : List Int} {x : Int} (h : xs <+: allL l) (hx : x ∈ xs) (hn : x < 0) : validL l = false := by
  unfold validL
  rw [Bool.eq_false_iff]
  intro ha
  rw [List.all_eq_true] at ha
  have := ha x (h.subset hx)
  simp only [decide_eq_true_eq] at this
  omega
theorem valid_yes {l : List UInt8} (h : ∀ y ∈ allL l, 0 ≤ y) : validL l = true := by
  unfold validL
  rw [List.all_eq_true]
  intro y hy
  simpa using h y hy

set_option maxRecDepth 100000 in
set_option maxHeartbeats 2000000 in
theorem valid_in (F : Fence) (n : Nat) (h2 : F.fn 18) (h3 : F.fn 37) (h4 : F.fn 53) (h5 : F.fn 54) (hro : F.round = none) (hn : 3 ≤ n) (s : ByteArray) (hs : s.size ≤ maxLen) (w : World) (hT : Tabs w)
    (hget : ∀ (n : Nat) (s : ByteArray) (w : World), Tabs w → CallsIn F n Tryz.prog 54 #[.string s] w fun e w' => e = .returned (vGet s.data.toList) ∧ Below w.heap.size w w') :
    CallsIn F n Tryz.prog 18 #[.string s] w fun e W' => e = .returned (.bool (validL s.data.toList)) ∧ Below w.heap.size w W' := by
  have h1 : 1 ≤ n := by omega
  have hlt := tabs_lt hT
  have HT := Lib.hid hT
  have HG := Lib.hid hget
  clear hT hget
  refine callsIn_of_wp_marks Tryz.func18 rfl h2 ?_ hro
  simp only [Tryz.ntmps18, List.size_toArray, List.length_cons, List.length_nil, Nat.reduceAdd, Nat.reduceSub, Array.replicate_succ, Array.replicate_zero, List.push_toArray, List.append_toArray, List.nil_append, List.cons_append]
  gi_wp2_with (gi_at_call 37; refine (codes_in F (n - 1) h3 hro _ _).mono ?_; rintro e w' ⟨rfl, rfl⟩)
  have c0 := Boxed.new w 4 (.bool false)
  have bS := Boxed.new (w.alloc (.cells #[.bool false] 4)) 9 (.string s)
  simp only [World.size_alloc] at bS
  have hB0 : Below w.heap.size w ((w.alloc (.cells #[.bool false] 4)).alloc (.cells #[.string s] 9)) := ((Below.refl _ w).alloc (Nat.le_refl _) _).alloc (by simp) _
  refine wpIn_rangeFunc_ownF hro h1 (gf := 53) (lb := #[.pointer (some ⟨w.heap.size + 1, 0, none⟩)]) rfl h4 (enters_of Tryz.func53 (by kernel_rfl) rfl)
    (codes_stops F (n - 1) h4 h5 hro (by omega) (w.heap.size + 1) w.heap.size s hs _ (fun s w h => HG.out _ s w h) hlt.1 hlt.2 (by simp; omega) bS (tabs_next HT.out hB0)) kept_t (kept_b (by simp; omega)) (Below.refl _ _) (fun _ => rfl)
    (fun pre W => ((∀ y ∈ pre, 0 ≤ y) ∧ Boxed W w.heap.size 4 (.bool false)) ∧ Below w.heap.size w W)
    (fun c pre W => (c = .ret ∧ (∃ y ∈ pre, y < 0) ∧ W.cell? ⟨w.heap.size, 0, none⟩ = some (.bool false)) ∧ Below w.heap.size w W)
    (OwnFrom.and (Own.from (fun s A B row hs hg hr => ⟨hs.1, box_kept hs.2 hg hr⟩) _) (ownFrom_below (Nat.le_refl _) (by simp; omega)))
    (fun c => OwnFrom.and (Own.from (fun s A B row hs hg hr => ⟨hs.1, hs.2.1, cell_kept hs.2.2 hg hr⟩) _) (ownFrom_below (Nat.le_refl _) (by simp; omega)))
    ⟨⟨by simp, c0.alloc _⟩, hB0⟩
    (fun x => { tmps := #[.string s, undef, .pointer (some ⟨w.heap.size, 0, none⟩), .int .i64 x, .string s, .func (.func 53) #[] #[.pointer (some ⟨w.heap.size + 1, 0, none⟩)], .int .i64 x, undef, undef], defers := [] }) ?assign ?body ?done ?stop
  case assign =>
    intro l x W K hK
    gi_wp2
    exact hK
  case body =>
    rintro l pre x W ⟨⟨hp, hbr⟩, hB⟩ _
    have hcr := hbr.cell
    have hfr := hbr.frozen
    gi_wp2
    · have hx : x < 0 := by assumption
      exact ⟨KeepsOthers.setCell _ _ _, ⟨rfl, ⟨x, by simp, hx⟩, World.cell?_setCell_same' _ _ _ (by rw [hcr]; rfl)⟩, hB.setCell (p := ⟨w.heap.size, 0, none⟩) (Nat.le_refl _) _⟩
    · have hx : 0 ≤ x := by assumption
      exact ⟨KeepsOthers.refl _, ⟨Below.refl _ _, fun h => h⟩, ⟨fun y hy => (List.mem_append.1 hy).elim (hp y) (fun e => by simp at e; subst e; exact hx), hbr⟩, hB⟩
  case done =>
    rintro D ys W hD rfl ⟨⟨hne, hbr⟩, hB⟩ hK
    have hcr := hbr.cell
    have hfr := hbr.frozen
    gi_wp2
    have hK' := (KeepsOthers.setCell W ⟨w.heap.size, 0, none⟩ (.bool true)).same D _ hK rfl
    refine ⟨by simp, .inl ⟨_, _, rfl, run_takeDeferred hK', ?_⟩⟩
    have hc5 := cell_kept (World.cell?_setCell_same' W ⟨w.heap.size, 0, none⟩ (.bool true) (by rw [hcr]; rfl)) (grownBy_putObj' _ D (.deferred none)) (fun r e => by cases e; exact ⟨_, hK', rfl⟩)
    refine ⟨.bool true, ?_, by rw [valid_yes hne], (hB.setCell (p := ⟨w.heap.size, 0, none⟩) (Nat.le_refl _) _).trans (belowK_b (w := w) (Nat.le_refl _) _ D _ _ (by simp at hD; omega) hK' rfl rfl)⟩
    simp [results, Tryz.f18, go_sem, hc5]
  case stop =>
    rintro D c pre W hD hpre ⟨⟨rfl, hin, hcr⟩, hB⟩ hK
    gi_wp2
    refine ⟨by simp, .inl ⟨_, _, rfl, run_takeDeferred hK, ?_⟩⟩
    have hc5 := cell_kept hcr (grownBy_putObj' _ D (.deferred none)) (fun r e => by cases e; exact ⟨_, hK, rfl⟩)
    obtain ⟨y, hy, hy0⟩ := hin
    refine ⟨.bool false, ?_, by rw [valid_not hpre hy hy0], hB.trans (belowK_b (w := w) (Nat.le_refl _) W D _ _ (by simp at hD; omega) hK rfl rfl)⟩
    simp [results, Tryz.f18, go_sem, hc5]

theorem get_wide (n : Nat) (s : ByteArray) (w : World) (h : Tabs w) : CallsIn Fence.wide n Tryz.prog 54 #[.string s] w fun e w' => e = .returned (vGet s.data.toList) ∧ Below w.heap.size w w' :=
  callsIn_wide.2 (get_any s w h)

theorem valid_any (s : ByteArray) (w : World) (hs : s.size ≤ maxLen) (hT : Tabs w) :
    Calls Tryz.prog 18 #[.string s] w fun e W' => e = .returned (.bool (validL s.data.toList)) ∧ Below w.heap.size w W' :=
  (callsIn_wide (n := 5)).1 (valid_in Fence.wide 5 trivial trivial trivial trivial rfl (by omega) s hs w hT get_wide)

end Go.Proofs.YtbkafoaoddajoaaGreatDoor.Ut

namespace Go.Proofs.YtbkafoaoddajoaaGreatDoor.Ut
open Go.RowKit Go.Shelf

theorem iter_grown {w : World} {k : Nat} {s : ByteArray} (pos' : Nat) : w.grownBy (w.iterAt k s pos') (some k) :=
  ⟨rfl, rfl, rfl, by rw [Lib.iterAt_size]; exact Nat.le_refl _, fun j _ hj => Lib.iterAt_other w k j s pos' (fun e => hj (by rw [e]))⟩

/-- the rune at a place of a right text -/
theorem right_at {s : ByteArray} {pos : Nat} {pre : List Int} (hp : pos < s.size) (hv : validL s.data.toList = true) (ha : allL s.data.toList = pre ++ allL (s.data.toList.drop pos)) :
    1 ≤ (Utf8.decode s pos).2 ∧ pos + (Utf8.decode s pos).2 ≤ s.size ∧ (Utf8.decode s pos).1 ≤ 1114111 ∧ allL s.data.toList = (pre ++ [((Utf8.decode s pos).1 : Int)]) ++ allL (s.data.toList.drop (pos + (Utf8.decode s pos).2)) := by
  have hsz := Lib.size_eq s
  have hl : pos < s.data.toList.length := by omega
  have hst := all_step hl
  have hne : s.data.toList.drop pos ≠ [] := by
    intro e
    have := congrArg List.length e
    simp only [List.length_drop, List.length_nil] at this; omega
  have hd : Utf8.decode s pos = dN (s.data.toList.drop pos) := by
    rw [Lib.decode_N]
    unfold dN
    rw [Lib.getD_dropU, Lib.getD_dropU, Lib.getD_dropU, Lib.getD_dropU, List.length_drop]
    rfl
  rcases getL_cases hne with h | h
  · exfalso
    rw [hst, h] at ha
    unfold validL at hv
    rw [ha, List.all_append] at hv
    simp at hv
  · have h1 := dN_of h
    have h2 := h.len
    have h3 := h.scalar
    rw [scalar_iff] at h3
    rw [List.length_drop] at h2
    rw [hd, h1]
    refine ⟨by simp only; omega, by simp only; omega, by simp only; omega, ?_⟩
    rw [ha, hst]
    have e : (((getL (s.data.toList.drop pos)).1.toNat : Nat) : Int) = (getL (s.data.toList.drop pos)).1 := by omega
    simp [e]

end Go.Proofs.YtbkafoaoddajoaaGreatDoor.Ut

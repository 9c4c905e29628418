/- The second law: as many places are taken as there are sets. -/
import Derived.Test.YtemmaoapicaloaaSbAlive
namespace Go.Proofs.Ytemmaoapicaloaa.Sb
open Go Go.RowKit Go.Proofs.Ytemmaoapicaloaa.At
open Go.Proofs.Ytemmaoapicaloaa.Bt (SetAt setV memL nums roomF of_any OfOut ofB)

theorem idx_ex (l : List (List Int)) (N : List Int) : ∃ r, IdxOut l N r := by
  have key : ∀ n, n ≤ l.length → (∀ i, i < n → l.getD i [] ≠ N) ∨ ∃ i : Nat, i < n ∧ l.getD i [] = N ∧ ∀ j, j < i → l.getD j [] ≠ N := by
    intro n
    induction n with
    | zero => exact fun _ => .inl fun i hi => by omega
    | succ n ih =>
      intro hn
      rcases ih (by omega) with h | ⟨i, h1, h2, h3⟩
      · by_cases he : l.getD n [] = N
        · exact .inr ⟨n, by omega, he, h⟩
        · refine .inl fun i hi => ?_
          by_cases hin : i = n
          · rw [hin]; exact he
          · exact h i (by omega)
      · exact .inr ⟨i, by omega, h2, h3⟩
  rcases key l.length (Nat.le_refl _) with h | ⟨i, h1, h2, h3⟩
  · exact ⟨-1, .inl ⟨rfl, h⟩⟩
  · exact ⟨i, .inr ⟨i, rfl, h1, h2, h3⟩⟩
theorem idx_mem {l : List (List Int)} {N : List Int} {r : Int} (h : IdxOut l N r) (h0 : 0 ≤ r) : N ∈ l := by
  rcases h with ⟨rfl, _⟩ | ⟨i, rfl, hi, he, _⟩
  · omega
  · rw [← he]
    have : l.getD i [] = l[i] := by simp [List.getD, hi]
    rw [this]; exact List.getElem_mem hi
/-- what Put tells of any set, where there is room -/
def PutGen (W : World) (B tb m : Nat) (ks : List (List Int)) (N : List Int) (e : Ending) (W' : World) : Prop :=
  ∃ (k : Int) (f : Bool) (T' : Tb) (ks' : List (List Int)), e = .returned (.tuple #[.int .i64 k, .bool f]) ∧ 0 ≤ k ∧ TK W' B tb ks' m T' ∧ N ∈ ks' ∧ (∀ x, x ∈ ks → x ∈ ks') ∧ ks'.length ≤ ks.length + 1 ∧ Below B W W'
theorem put_gen {W : World} {B tb m room Bs : Nat} {ks : List (List Int)} {T : Tb} {v : Value} {L : List Nat} (h : TK W B tb ks m T) (hs : SetAt W Bs room v L) (hm : ks.length < m) :
    Calls Try.prog 5 #[ptr tb, setV room v] W fun e W' => PutGen W B tb m ks (nums L) e W' := by
  obtain ⟨r, hr⟩ := idx_ex ks (nums L)
  by_cases h0 : 0 ≤ r
  · refine (put_there r h hs rfl hr h0).mono ?_
    rintro e W' ⟨rfl, hb⟩
    exact ⟨r, false, T, ks, rfl, h0, h.next hb, idx_mem hr h0, fun _ hx => hx, by omega, hb.mono h.inn.size⟩
  · have hr1 : r = -1 := by have := (idx_lt hr).1; omega
    rw [hr1] at hr
    refine (put_fresh h hs rfl hr hm).mono ?_
    rintro e W' ⟨T', rfl, h', st⟩
    exact ⟨_, true, T', _, rfl, by omega, h', by simp, fun x hx => List.mem_append_left _ hx, by simp, st.base h.inn⟩

theorem len_ge : ∀ (n : Nat) (l : List (List Int)), (∀ j, j < n → [(j : Int)] ∈ l) → n ≤ l.length
  | 0, _, _ => by omega
  | n + 1, l, h => by
    have hm := h n (by omega)
    have ih := len_ge n (l.erase [(n : Int)]) fun j hj => (List.mem_erase_of_ne (by
      intro e
      have : (j : Int) = n := by simpa using e
      omega)).2 (h j (by omega))
    rw [List.length_erase_of_mem hm] at ih
    have := List.length_pos_of_mem hm
    omega

theorem three_int (W : World) (x y z : Int) : IntsAt (W.alloc (.cells #[.int .i64 x, .int .i64 y, .int .i64 z] 3)) (.slice (some ⟨W.heap.size, 0, none⟩) 3 3) [x, y, z] := by
  refine .inr ⟨_, 3, rfl, by unfold maxLen; simp, fun i hi => ?_⟩
  have : i = 0 ∨ i = 1 ∨ i = 2 := by simp at hi; omega
  rcases this with rfl | rfl | rfl
  · rw [show (⟨W.heap.size, 0, none⟩ : Addr).add 0 = ⟨W.heap.size, 0, none⟩ from rfl, World.cell?_alloc_new]; rfl
  · rw [show (⟨W.heap.size, 0, none⟩ : Addr).add 1 = ⟨W.heap.size, 1, none⟩ from rfl, World.cell?_alloc_new]; rfl
  · rw [show (⟨W.heap.size, 0, none⟩ : Addr).add 2 = ⟨W.heap.size, 2, none⟩ from rfl, World.cell?_alloc_new]; rfl
theorem of_three (W : World) (r : Nat) (x y z : Int) (hr : r ≤ 65536) : Calls Try.prog 6 #[.int .i64 (r : Nat), .slice (some ⟨W.heap.size, 0, none⟩) 3 3] (W.alloc (.cells #[.int .i64 x, .int .i64 y, .int .i64 z] 3)) fun e w' => ∃ ao n c L, e = .returned (setV r (.slice ao n c)) ∧ SetAt w' W.heap.size r (.slice ao n c) L ∧ Below W.heap.size W w' := by
  have o := of_any (r : Int) _ [x, y, z] _ (three_int W x y z)
  rw [Bt.roomF_nat hr] at o
  refine o.mono ?_
  rintro e w' ⟨v, L, rfl, hs, hm, hb⟩
  obtain ⟨ao, n, c, rfl⟩ := hs.val
  have hal := (Below.refl W.heap.size W).alloc (Nat.le_refl _) (.cells #[.int .i64 x, .int .i64 y, .int .i64 z] 3)
  exact ⟨ao, n, c, L, rfl, hs.base hal.size, hal.trans (hb.mono hal.size)⟩

/-- what stands between two rounds -/
def LoadRel (w : World) (tb k : Nat) (wr : World) : Prop :=
  ∃ T ks, TK wr w.heap.size tb ks 2000 T ∧ (∀ j : Nat, j < k → [(j : Int)] ∈ ks) ∧ ks.length ≤ 2 * k ∧ Below w.heap.size w wr

theorem load_step {w w6 : World} {tb k : Nat} {T6 : Tb} {ks3 ks6 : List (List Int)} (hT : TK w6 w.heap.size tb ks6 2000 T6) (h3 : ∀ j : Nat, j < k → [(j : Int)] ∈ ks3) (hN : [(k : Int)] ∈ ks6) (hsub : ∀ x, x ∈ ks3 → x ∈ ks6) (hl : ks6.length ≤ 2 * (k + 1)) (hb : Below w.heap.size w w6) : LoadRel w tb (k + 1) w6 :=
  ⟨T6, ks6, hT, fun j hj => by
    by_cases hjk : j = k
    · rw [hjk]; exact hN
    · exact hsub _ (h3 j (by omega)), hl, hb⟩
theorem load_as {W : World} {B tb m : Nat} {ks : List (List Int)} {T : Tb} (h : TK W B tb ks m T) : Calls Try.prog 8 #[ptr tb] W fun e W' => (∃ p : Nat, e = .returned (.tuple #[.int .i64 (p : Nat), .int .i64 (ks.length : Nat)]) ∧ 3 * (ks.length + 1) ≤ 2 * p ∧ p ≤ 200000) ∧ Below W.heap.size W W' := by
  have hg := h.good
  refine (load_any W h.inn).mono ?_
  rintro e W' ⟨rfl, hb⟩
  exact ⟨⟨T.P.length, by rw [h.len], by have := hg.ld; rw [h.len] at this; exact this, hg.pl⟩, hb⟩

set_option maxRecDepth 100000 in
set_option maxHeartbeats 4000000 in
theorem loads_any (n : Nat) (hn : n < 65536) (w : World) : Calls Try.prog 3 #[.int .u16 (n : Nat)] w fun e w' => e = .returned (.bool true) ∧ Below w.heap.size w w' := by
  have NW := Lib.hid (new_any 2000 w)
  have O3 := Lib.hid (fun W x y z => of_three W 20 x y z (by omega))
  have O1 := Lib.hid (fun W k (hk : k < 1000) => of_one W 1000 k hk (by omega))
  have AL := Lib.hid (fun W => alive_any W)
  unfold setV at O3 O1
  simp only [Int.cast_ofNat_Int] at O3 O1
  go_enter Try.func3, Try.ntmps3
  go_wp2_with (go_at_call 4; (with_reducible refine NW.out.mono ?_); rintro e w1 ⟨tb, pv, rfl, ht, hb⟩; unfold ptr; go_must (have K1 := Lib.hid (show LoadRel w tb 0 w1 from ⟨_, [], TK.new ht, fun j hj => by omega, by simp, hb⟩); clear ht hb NW))
  have hM : n % 700 < 700 := by omega
  try rw [show ((n : Int) % 700) = ((n % 700 : Nat) : Int) by omega]
  generalize n % 700 = M at *
  clear hn
  go_loopw [15] (fun i wr => ∃ k : Nat, k ≤ M ∧ i = .int .i64 k ∧ LoadRel w tb k wr) (fun i _ => M - (intOf i).toNat)
  case atStart => exact ⟨0, by omega, rfl, K1.out⟩
  case round =>
    obtain ⟨k, hk, rfl, T, ks, hT, hks, hlen, hb⟩ := hrel
    by_cases hlt : k < M
    · have HK := Lib.hid (show _ ∧ _ ∧ _ ∧ _ from ⟨hT, hks, hlen, hb⟩)
      have O3' := Lib.hid (fun x y z => O3.out wr x y z)
      clear hT hks hlen hb
      go_wp2_with (first
        | (go_at_call 6; (with_reducible refine (O3.out wr _ _ _).mono ?_); rintro e w2 ⟨ao, an, ac, L, rfl, hs, hb⟩; go_must (have P2 := Lib.hid (put_gen (HK.out.1.next hb) hs (by have := HK.out.2.2.1; omega)); have B2 := Lib.hid (HK.out.2.2.2.trans (hb.mono HK.out.2.2.2.size)); unfold setV ptr at P2; simp only [Int.cast_ofNat_Int] at P2; clear hs hb))
        | (go_at_call 5; (with_reducible refine P2.out.mono ?_); rintro e w3 ⟨kk, f, T3, ks3, rfl, h0, hT3, hN, hsub, hl3, hb3⟩; go_must (have HK3 := Lib.hid (show TK w3 w.heap.size tb ks3 2000 T3 ∧ (∀ j : Nat, j < k → [(j : Int)] ∈ ks3) ∧ ks3.length ≤ 2 * k + 1 ∧ Below w.heap.size w w3 from ⟨hT3, fun j hj => hsub _ (HK.out.2.1 j hj), by have := HK.out.2.2.1; omega, B2.out.trans hb3⟩); have LN := Lib.hid (len_as hT3); unfold ptr at LN; have hkk : decide (kk < 0) = false := decide_eq_false (by omega); have l3 : ks3.length ≤ 1500 := (by have := HK.out.2.2.1; omega); have O1' := Lib.hid (O1.out w3 k (by omega)); clear hT3 hN hsub hl3 hb3))
        | (go_at_call 7; (with_reducible refine LN.out.mono ?_); rintro e w4 ⟨rfl, hw⟩; subst hw)
        | (go_at_call 6; (with_reducible refine O1'.out.mono ?_); rintro e w5 ⟨ao2, an2, ac2, L2, rfl, hs, hN2, hb⟩; go_must (have P5 := Lib.hid (put_gen (HK3.out.1.next hb) hs (by have := HK3.out.2.2.1; omega)); have B5 := Lib.hid (HK3.out.2.2.2.trans (hb.mono HK3.out.2.2.2.size)); unfold setV ptr at P5; rw [hN2] at P5; simp only [Int.cast_ofNat_Int] at P5; clear hs hb hN2))
        | (go_at_call 5; (with_reducible refine P5.out.mono ?_); rintro e w6 ⟨k6, f6, T6, ks6, rfl, h06, hT6, hN6, hsub6, hl6, hb6⟩; go_must (have HK6 := Lib.hid (load_step hT6 HK3.out.2.1 hN6 hsub6 (by have := HK3.out.2.2.1; omega) (B5.out.trans hb6)); clear hT6 hN6 hsub6 hl6 hb6 h06))
        | fail)
      all_goals (
        go_roundw
        (case rel => exact ⟨k + 1, by omega, by go_num, HK6.out⟩)
        (case measure => simp [intOf]; omega))
    · obtain rfl : k = M := by omega
      have hge := len_ge k ks hks
      have LD := Lib.hid (load_as hT)
      have HT := Lib.hid (And.intro hT hb)
      unfold ptr at LD
      clear hT hks hb
      go_wp2_with (first
        | (go_at_call 8; (with_reducible refine LD.out.mono ?_); rintro e w2 ⟨⟨p, rfl, hp, hp2⟩, hb2⟩; go_must (have LN := Lib.hid (len_as (HT.out.1.next hb2)); unfold ptr at LN; have B2 := Lib.hid (HT.out.2.trans (hb2.mono HT.out.2.size)); clear hb2))
        | (go_at_call 7; (with_reducible refine LN.out.mono ?_); rintro e w4 ⟨rfl, hw⟩; subst hw)
        | (go_at_call 9; (with_reducible refine (AL.out _).mono ?_); rintro e w5 ⟨rfl, hb5⟩)
        | fail)
      go_ret
      exact ⟨rfl, B2.out.trans (hb5.mono B2.out.size)⟩

end Go.Proofs.Ytemmaoapicaloaa.Sb

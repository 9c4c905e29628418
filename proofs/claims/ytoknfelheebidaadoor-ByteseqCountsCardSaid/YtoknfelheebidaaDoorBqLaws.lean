/- The law ByteseqMatches. -/
import Derived.Test.YtoknfelheebidaaDoorBqAlive
namespace Go.Proofs.YtoknfelheebidaaDoor.Bq
open Go Go.RowKit Go.Shelf Go.Proofs.YtoknfelheebidaaDoor.Ut Go.Proofs.YtoknfelheebidaaDoor.Rg

/-- the three texts -/
def tx (s p : ByteArray) (k : Nat) : ByteArray := if k = 0 then s else if k = 1 then p else ⟨#[97]⟩
theorem tx_size {s p : ByteArray} (hs : s.size ≤ 50) (hp : p.size ≤ 4) (k : Nat) : (tx s p k).size ≤ 100 := by
  unfold tx; repeat' split
  · omega
  · omega
  · decide
theorem tx_cell (W : World) (N : Nat) (hN : W.heap.size = N) (s p : ByteArray) (t : TypeId) {k : Nat} (hk : k < 3) : (W.alloc (.cells #[.string s, .string p, .string ⟨#[97]⟩] t)).cell? ⟨N, k, none⟩ = some (.string (tx s p k)) := by
  subst hN
  rw [World.cell?_alloc_new]
  rcases (show k = 0 ∨ k = 1 ∨ k = 2 by omega) with rfl | rfl | rfl <;> rfl
theorem putL_le (c : Int) : (putL c).length ≤ 4 := by
  unfold putL
  split
  · rename_i h
    rw [← Lib.runeCells_length]
    unfold Lib.runeCells
    rw [List.length_map]
    rw [scalar_iff] at h
    by_cases a : c ≤ 127
    · rw [Lib.encodeRuneZ_one (by omega) a]; simp
    · by_cases b : c ≤ 2047
      · rw [Lib.encodeRuneZ_two (by omega) b]; simp
      · by_cases d : c ≤ 65535
        · rw [Lib.encodeRuneZ_three (by omega)]; simp
        · rw [Lib.encodeRuneZ_four (by omega) (by omega)]; simp
  · simp

set_option maxRecDepth 100000 in
set_option maxHeartbeats 4000000 in
theorem lawMatches_any (l : List R) (v : Value) (s : ByteArray) (c : Int) (w : World) (hv : RngsAt w v l) (hs : s.size ≤ maxLen) (hT : Tab w) :
    Calls Tryd.prog 3 #[v, .string s, .int .i64 c] w fun e w' => e = .returned (.bool true) ∧ Below w.heap.size w w' := by
  obtain ⟨vo, vc, rfl, hm, _⟩ := hv.shape
  have HV := Lib.hid hv
  have HT := Lib.hid hT
  have ca := Lib.hid (fun W (h : Below w.heap.size w W) => alive_any W (hT.next h))
  unfold maxLen at hs
  clear hv hT
  by_cases hl : l.length ≤ 20
  · by_cases hz : s.size ≤ 50
    · have c1 := Lib.hid (of_all l _ w HV.out HT.out (by omega))
      have c2 := Lib.hid (fun W => rput_any c W)
      have hpz : (⟨(putL c).toArray⟩ : ByteArray).size ≤ 4 := by
        show (putL c).toArray.size ≤ 4
        simpa using putL_le c
      have n1 : ¬ (20 : Int) < (l.length : Int) := by omega
      have n2 : ¬ (50 : Int) < (s.size : Int) := by omega
      have n3 : (l.length : Int) ≤ 20 := by omega
      have n4 : (s.size : Int) ≤ 50 := by omega
      have TS := Lib.hid (fun k => tx_size hz hpz k)
      generalize (⟨(putL c).toArray⟩ : ByteArray) = p at *
      clear hpz
      go_enter Tryd.func3, Tryd.ntmps3
      go_wp2_with (first
        | (go_at_call 6; (with_reducible refine c1.out.mono ?_); rintro e w1 ⟨v1, C, xs, rfl, hp, hr, hb⟩; go_must (have HP := Lib.hid hp; have HR := Lib.hid hr.at'; have B1 := Lib.hid hb; clear hp hr hb))
        | (go_at_call 7; (with_reducible refine (c2.out _).mono ?_); rintro e w2 ⟨rfl, h2⟩; go_must (have B2 := Lib.hid (B1.out.trans (h2.mono B1.out.size)); have R2 := Lib.hid (HR.out.next h2); clear h2))
        | fail)
      have TC := Lib.hid (fun k (h : k < 3) => tx_cell w2 w2.heap.size rfl s p 9 h)
      have hb3 := (Below.refl w2.heap.size w2).alloc (Nat.le_refl _) (.cells #[.string s, .string p, .string ⟨#[97]⟩] 9)
      have R3 := Lib.hid (R2.out.next hb3)
      have B3 := Lib.hid (B2.out.trans (hb3.mono B2.out.size))
      clear hb3
      generalize w2.alloc (.cells #[.string s, .string p, .string ⟨#[97]⟩] 9) = w3 at *
      generalize w2.heap.size = N at *
      go_loopw [27] (fun i wr => ∃ k : Nat, i = .int .i64 k ∧ k ≤ 3 ∧ Below w3.heap.size w3 wr) (fun i _ => 3 - (intOf i).toNat)
      case atStart => exact ⟨0, rfl, by omega, Below.refl _ _⟩
      case round =>
        obtain ⟨k, rfl, hk, hb⟩ := hrel
        by_cases hlt : k < 3
        · have d1 := cell_next (TC.out k hlt) hb
          have hts := TS.out k
          have n5 : (k : Int) < 3 := by omega
          generalize tx s p k = t at *
          have hbw := B3.out.trans (hb.mono B3.out.size)
          have ci := is_any l t _ wr (HV.out.next hbw) (by unfold maxLen; omega)
          have cm := Lib.hid (fun W (h : Below wr.heap.size wr W) => many_any (rowsL C) t v1 W ((R3.out.next hb).next h) (by unfold maxLen; omega))
          have cn := Lib.hid (fun W (h : Below wr.heap.size wr W) => any_any (rowsL C) t v1 W ((R3.out.next hb).next h) (by unfold maxLen; omega))
          have hmy := HP.out.many t.data.toList
          have HB := Lib.hid hb
          clear hbw hb hts
          cases hib : isB l t.data.toList
          · rw [hib] at ci hmy
            rw [hmy] at cm cn
            have CI := Lib.hid ci
            clear ci hmy hib
            go_wp2_with (first
              | (go_at_call 8; (with_reducible refine CI.out.mono ?_); rintro e w4 ⟨rfl, h4⟩; go_must (have B4 := Lib.hid h4; clear h4))
              | (go_at_call 9; (with_reducible refine (cm.out _ B4.out).mono ?_); rintro e w5 ⟨rfl, h5⟩; go_must (have B5 := Lib.hid (B4.out.trans (h5.mono B4.out.size)); clear h5))
              | (go_at_call 10; (with_reducible refine (cn.out _ B5.out).mono ?_); rintro e w6 ⟨rfl, h6⟩; go_must (have B6 := Lib.hid (B5.out.trans (h6.mono B5.out.size)); clear h6))
              | fail)
            go_roundw
            case rel => exact ⟨k + 1, by go_num, by omega, HB.out.trans (B6.out.mono HB.out.size)⟩
            case measure => simp [intOf]; omega
          · rw [hib] at ci hmy
            rw [hmy] at cm cn
            have CI := Lib.hid ci
            clear ci hmy hib
            go_wp2_with (first
              | (go_at_call 8; (with_reducible refine CI.out.mono ?_); rintro e w4 ⟨rfl, h4⟩; go_must (have B4 := Lib.hid h4; clear h4))
              | (go_at_call 9; (with_reducible refine (cm.out _ B4.out).mono ?_); rintro e w5 ⟨rfl, h5⟩; go_must (have B5 := Lib.hid (B4.out.trans (h5.mono B4.out.size)); clear h5))
              | (go_at_call 10; (with_reducible refine (cn.out _ B5.out).mono ?_); rintro e w6 ⟨rfl, h6⟩; go_must (have B6 := Lib.hid (B5.out.trans (h6.mono B5.out.size)); clear h6))
              | fail)
            go_roundw
            case rel => exact ⟨k + 1, by go_num, by omega, HB.out.trans (B6.out.mono HB.out.size)⟩
            case measure => simp [intOf]; omega
        · obtain rfl : k = 3 := by omega
          have HB := Lib.hid (B3.out.trans (hb.mono B3.out.size))
          clear hb
          go_wp2_with (first
            | (go_at_call 5; (with_reducible refine (ca.out _ HB.out).mono ?_); rintro e w7 ⟨rfl, h7⟩; go_must (have B7 := Lib.hid (HB.out.trans (h7.mono HB.out.size)); clear h7))
            | fail)
          go_ret
          exact ⟨rfl, B7.out⟩
    · have n1 : ¬ (20 : Int) < (l.length : Int) := by omega
      have n2 : (50 : Int) < (s.size : Int) := by omega
      go_enter Tryd.func3, Tryd.ntmps3
      go_wp2_with (first
        | (go_at_call 5; (with_reducible refine (ca.out _ (Below.refl _ _)).mono ?_); rintro e w7 ⟨rfl, h7⟩; go_must (have B7 := Lib.hid h7; clear h7))
        | fail)
      go_ret
      exact ⟨rfl, B7.out⟩
  · have n1 : (20 : Int) < (l.length : Int) := by omega
    go_enter Tryd.func3, Tryd.ntmps3
    go_wp2_with (first
      | (go_at_call 5; (with_reducible refine (ca.out _ (Below.refl _ _)).mono ?_); rintro e w7 ⟨rfl, h7⟩; go_must (have B7 := Lib.hid h7; clear h7))
      | fail)
    go_ret
    exact ⟨rfl, B7.out⟩

end Go.Proofs.YtoknfelheebidaaDoor.Bq

/- Short, the program's; the document's Names and Is. -/
import Derived.Test.YtenmjnopbbingaaDoorNmShortR
import Derived.Test.YtenmjnopbbingaaDoorNmOf
import Derived.Test.YtenmjnopbbingaaDoorRgNot
namespace Go.Proofs.YtenmjnopbbingaaDoor.Nm
open Go.RowKit Go.Shelf Go.Proofs.YtenmjnopbbingaaDoor.Rg

def letCells : List Value := [.int .u8 100, .int .u8 68, .string ⟨#[68, 105, 103, 105, 116]⟩, .int .u8 119, .int .u8 87, .string ⟨#[87, 111, 114, 100]⟩, .int .u8 115, .int .u8 83, .string ⟨#[83, 112, 97, 99, 101]⟩, .int .u8 104, .int .u8 72, .string ⟨#[72, 101, 120]⟩]
/-- the letters for short, as the program's text lays them -/
def Lets (w : World) : Prop := w.rangeAt 0 0 letCells
theorem Lets.next {w w' : World} (h : Lets w) (hb : Below w.heap.size w w') : Lets w' := fun j v hj => cell_next (h j v hj) hb
theorem index_0 (w : World) : (Instr.index 48 (.agg letCells.toArray) (.int .i64 0)).run Tryd.prog w = .ok (.agg #[.int .u8 100, .int .u8 68, .string (nthW 3).1]) w := by kernel_rfl
theorem index_1 (w : World) : (Instr.index 48 (.agg letCells.toArray) (.int .i64 1)).run Tryd.prog w = .ok (.agg #[.int .u8 119, .int .u8 87, .string (nthW 9).1]) w := by kernel_rfl
theorem index_2 (w : World) : (Instr.index 48 (.agg letCells.toArray) (.int .i64 2)).run Tryd.prog w = .ok (.agg #[.int .u8 115, .int .u8 83, .string (nthW 10).1]) w := by kernel_rfl
theorem index_3 (w : World) : (Instr.index 48 (.agg letCells.toArray) (.int .i64 3)).run Tryd.prog w = .ok (.agg #[.int .u8 104, .int .u8 72, .string (nthW 4).1]) w := by kernel_rfl
theorem made_of {w W w' : World} {nm : ByteArray} {v : Value} {L : List R} (hr : w'.ownsRow W.heap.size 40 2 v L.length (flatR L)) (h1 : setFrom 0 L) (h2 : ∀ c, hasB L c = hasN nm c) (h3 : L.length ≤ 30) (h4 : Below W.heap.size W w') (hb : Below w.heap.size w W) : MadeAt w w' v L (hasN nm) 30 :=
  ⟨rngs_of_row hr, h1, h2, h3, hb.trans (h4.mono hb.size)⟩
theorem not_of2 {w W : World} {v : Value} {L : List R} {nm : ByteArray} (h : MadeAt w W v L (hasN nm) 30) (x : Int) : (isC x && !inB L x) = (isC x && !hasN nm x) := by
  rw [← h.has x, ← inB_set h.set x]

def Passed (c : Int) (k : Nat) : Prop := (0 < k → c ≠ 100 ∧ c ≠ 68) ∧ (1 < k → c ≠ 119 ∧ c ≠ 87) ∧ (2 < k → c ≠ 115 ∧ c ≠ 83) ∧ (3 < k → c ≠ 104 ∧ c ≠ 72)
theorem Passed.none {c : Int} (h : Passed c 4) : shortK c = none := by
  obtain ⟨h1, h2, h3, h4⟩ := h
  obtain ⟨a1, a2⟩ := h1 (by omega)
  obtain ⟨b1, b2⟩ := h2 (by omega)
  obtain ⟨c1, c2⟩ := h3 (by omega)
  obtain ⟨d1, d2⟩ := h4 (by omega)
  unfold shortK
  rw [beq_eq_false_iff_ne.2 a1, beq_eq_false_iff_ne.2 a2, beq_eq_false_iff_ne.2 b1, beq_eq_false_iff_ne.2 b2, beq_eq_false_iff_ne.2 c1, beq_eq_false_iff_ne.2 c2, beq_eq_false_iff_ne.2 d1, beq_eq_false_iff_ne.2 d2]
  rfl

set_option maxRecDepth 100000 in
set_option maxHeartbeats 8000000 in
theorem short_any (c : Int) (w : World) (hT : Tab w) (hL : Lets w) : Calls Tryd.prog 8 #[.int .u8 c] w fun e w' => ShortOut w c e w' := by
  have HL := Lib.hid hL
  have cO := Lib.hid (fun nm W (h : Below w.heap.size w W) => of_name nm W (hT.next h))
  have cN := Lib.hid (fun nm v L W (h : MadeAt w W v L (hasN nm) 30) => not_any L v W h.at' (by have := h.len; omega))
  have NO := Lib.hid (fun nm v L W (h : MadeAt w W v L (hasN nm) 30) (x : Int) => not_of2 h x)
  have P3 := Lib.hid (eachN_pos (k := 3) (by omega))
  have P9 := Lib.hid (eachN_pos (k := 9) (by omega))
  have P10 := Lib.hid (eachN_pos (k := 10) (by omega))
  have P4 := Lib.hid (eachN_pos (k := 4) (by omega))
  clear hT hL
  go_enter Tryd.func8, Tryd.ntmps8
  go_wp2_with (refine wpList_load_mid rfl 48 (.global 0) rfl 0 0 rfl letCells _ HL.out Tryd.underlying48 rfl (by kernel_rfl) ?_)
  go_loopw [9] (fun i wr => ∃ k : Nat, i = .int .i64 (k : Nat) ∧ k ≤ 4 ∧ Passed c k ∧ Below w.heap.size w wr) (fun i _ => 4 - (intOf i).toNat)
  case atStart => exact ⟨0, rfl, Nat.zero_le _, ⟨by omega, by omega, by omega, by omega⟩, Below.refl _ _⟩
  case round =>
    obtain ⟨k, rfl, hk, hp, hbw⟩ := hrel
    have hsz := hbw.size
    have HP := Lib.hid hp
    have HBW := Lib.hid hbw
    have hal : ∀ o, Below w.heap.size w (wr.alloc o) := fun o => hbw.alloc hsz o
    have HAL := Lib.hid hal
    clear hp hbw hal
    rcases (show k = 0 ∨ k = 1 ∨ k = 2 ∨ k = 3 ∨ k = 4 by omega) with rfl | rfl | rfl | rfl | rfl
    · have IX := index_0
      by_cases g1 : c = 100
      · subst g1
        go_wp2_with (go_at_call 7; (refine (cO.out _ _ (HAL.out _)).mono ?_); rintro e w2 ⟨v2, L2, rfl, hr, h1, h2, h3, h4⟩; go_must (have cg : w2.cell? ⟨wr.heap.size, 1, none⟩ = some (.int .u8 68) := (h4.cell (p := ⟨wr.heap.size, 1, none⟩) (by simp)).trans (by simp); have M2 := Lib.hid (made_of hr h1 h2 h3 h4 (HAL.out _)); have pt := decide_eq_true P3.out; clear hr h1 h2 h3 h4))
        go_ret2
        unfold ShortOut shortK
        exact ⟨v2, L2, rfl, made_conv M2.out (fun x => rfl) (by omega)⟩
      · by_cases g2 : c = 68
        · subst g2
          go_wp2_with (first
            | (go_at_call 7; (refine (cO.out _ _ (HAL.out _)).mono ?_); rintro e w2 ⟨v2, L2, rfl, hr, h1, h2, h3, h4⟩; go_must (have cg : w2.cell? ⟨wr.heap.size, 1, none⟩ = some (.int .u8 68) := (h4.cell (p := ⟨wr.heap.size, 1, none⟩) (by simp)).trans (by simp); have M2 := Lib.hid (made_of hr h1 h2 h3 h4 (HAL.out _)); have pt := decide_eq_true P3.out; clear hr h1 h2 h3 h4))
            | (go_at_call 22; (refine (cN.out _ _ _ _ M2.out).mono ?_); intro e w3 ho; go_must (obtain ⟨v3, L3, rfl, m3, _⟩ := ho.made M2.out.below; have M3 := Lib.hid (made_conv m3 (NO.out _ _ _ _ M2.out) (by have := M2.out.len; omega : _ ≤ 100000)); clear m3)))
          go_ret2
          unfold ShortOut shortK
          exact ⟨v3, L3, rfl, made_conv M3.out (fun x => rfl) (Nat.le_refl _)⟩
        · have t1 : (c != 100) = true := by simpa using g1
          have t2 : (c != 68) = true := by simpa using g2
          go_wp2
          go_roundw
          case rel => exact ⟨1, by go_num, by omega, ⟨fun _ => ⟨g1, g2⟩, by omega, by omega, by omega⟩, HAL.out _⟩
          case measure => simp [intOf]
    · have IX := index_1
      by_cases g1 : c = 119
      · subst g1
        go_wp2_with (go_at_call 7; (refine (cO.out _ _ (HAL.out _)).mono ?_); rintro e w2 ⟨v2, L2, rfl, hr, h1, h2, h3, h4⟩; go_must (have cg : w2.cell? ⟨wr.heap.size, 1, none⟩ = some (.int .u8 87) := (h4.cell (p := ⟨wr.heap.size, 1, none⟩) (by simp)).trans (by simp); have M2 := Lib.hid (made_of hr h1 h2 h3 h4 (HAL.out _)); have pt := decide_eq_true P9.out; clear hr h1 h2 h3 h4))
        go_ret2
        unfold ShortOut shortK
        exact ⟨v2, L2, rfl, made_conv M2.out (fun x => rfl) (by omega)⟩
      · by_cases g2 : c = 87
        · subst g2
          go_wp2_with (first
            | (go_at_call 7; (refine (cO.out _ _ (HAL.out _)).mono ?_); rintro e w2 ⟨v2, L2, rfl, hr, h1, h2, h3, h4⟩; go_must (have cg : w2.cell? ⟨wr.heap.size, 1, none⟩ = some (.int .u8 87) := (h4.cell (p := ⟨wr.heap.size, 1, none⟩) (by simp)).trans (by simp); have M2 := Lib.hid (made_of hr h1 h2 h3 h4 (HAL.out _)); have pt := decide_eq_true P9.out; clear hr h1 h2 h3 h4))
            | (go_at_call 22; (refine (cN.out _ _ _ _ M2.out).mono ?_); intro e w3 ho; go_must (obtain ⟨v3, L3, rfl, m3, _⟩ := ho.made M2.out.below; have M3 := Lib.hid (made_conv m3 (NO.out _ _ _ _ M2.out) (by have := M2.out.len; omega : _ ≤ 100000)); clear m3)))
          go_ret2
          unfold ShortOut shortK
          exact ⟨v3, L3, rfl, made_conv M3.out (fun x => rfl) (Nat.le_refl _)⟩
        · have t1 : (c != 119) = true := by simpa using g1
          have t2 : (c != 87) = true := by simpa using g2
          go_wp2
          go_roundw
          case rel => exact ⟨2, by go_num, by omega, ⟨HP.out.1 ∘ (fun _ => by omega), fun _ => ⟨g1, g2⟩, by omega, by omega⟩, HAL.out _⟩
          case measure => simp [intOf]
    · have IX := index_2
      by_cases g1 : c = 115
      · subst g1
        go_wp2_with (go_at_call 7; (refine (cO.out _ _ (HAL.out _)).mono ?_); rintro e w2 ⟨v2, L2, rfl, hr, h1, h2, h3, h4⟩; go_must (have cg : w2.cell? ⟨wr.heap.size, 1, none⟩ = some (.int .u8 83) := (h4.cell (p := ⟨wr.heap.size, 1, none⟩) (by simp)).trans (by simp); have M2 := Lib.hid (made_of hr h1 h2 h3 h4 (HAL.out _)); have pt := decide_eq_true P10.out; clear hr h1 h2 h3 h4))
        go_ret2
        unfold ShortOut shortK
        exact ⟨v2, L2, rfl, made_conv M2.out (fun x => rfl) (by omega)⟩
      · by_cases g2 : c = 83
        · subst g2
          go_wp2_with (first
            | (go_at_call 7; (refine (cO.out _ _ (HAL.out _)).mono ?_); rintro e w2 ⟨v2, L2, rfl, hr, h1, h2, h3, h4⟩; go_must (have cg : w2.cell? ⟨wr.heap.size, 1, none⟩ = some (.int .u8 83) := (h4.cell (p := ⟨wr.heap.size, 1, none⟩) (by simp)).trans (by simp); have M2 := Lib.hid (made_of hr h1 h2 h3 h4 (HAL.out _)); have pt := decide_eq_true P10.out; clear hr h1 h2 h3 h4))
            | (go_at_call 22; (refine (cN.out _ _ _ _ M2.out).mono ?_); intro e w3 ho; go_must (obtain ⟨v3, L3, rfl, m3, _⟩ := ho.made M2.out.below; have M3 := Lib.hid (made_conv m3 (NO.out _ _ _ _ M2.out) (by have := M2.out.len; omega : _ ≤ 100000)); clear m3)))
          go_ret2
          unfold ShortOut shortK
          exact ⟨v3, L3, rfl, made_conv M3.out (fun x => rfl) (Nat.le_refl _)⟩
        · have t1 : (c != 115) = true := by simpa using g1
          have t2 : (c != 83) = true := by simpa using g2
          go_wp2
          go_roundw
          case rel => exact ⟨3, by go_num, by omega, ⟨HP.out.1 ∘ (fun _ => by omega), HP.out.2.1 ∘ (fun _ => by omega), fun _ => ⟨g1, g2⟩, by omega⟩, HAL.out _⟩
          case measure => simp [intOf]
    · have IX := index_3
      by_cases g1 : c = 104
      · subst g1
        go_wp2_with (go_at_call 7; (refine (cO.out _ _ (HAL.out _)).mono ?_); rintro e w2 ⟨v2, L2, rfl, hr, h1, h2, h3, h4⟩; go_must (have cg : w2.cell? ⟨wr.heap.size, 1, none⟩ = some (.int .u8 72) := (h4.cell (p := ⟨wr.heap.size, 1, none⟩) (by simp)).trans (by simp); have M2 := Lib.hid (made_of hr h1 h2 h3 h4 (HAL.out _)); have pt := decide_eq_true P4.out; clear hr h1 h2 h3 h4))
        go_ret2
        unfold ShortOut shortK
        exact ⟨v2, L2, rfl, made_conv M2.out (fun x => rfl) (by omega)⟩
      · by_cases g2 : c = 72
        · subst g2
          go_wp2_with (first
            | (go_at_call 7; (refine (cO.out _ _ (HAL.out _)).mono ?_); rintro e w2 ⟨v2, L2, rfl, hr, h1, h2, h3, h4⟩; go_must (have cg : w2.cell? ⟨wr.heap.size, 1, none⟩ = some (.int .u8 72) := (h4.cell (p := ⟨wr.heap.size, 1, none⟩) (by simp)).trans (by simp); have M2 := Lib.hid (made_of hr h1 h2 h3 h4 (HAL.out _)); have pt := decide_eq_true P4.out; clear hr h1 h2 h3 h4))
            | (go_at_call 22; (refine (cN.out _ _ _ _ M2.out).mono ?_); intro e w3 ho; go_must (obtain ⟨v3, L3, rfl, m3, _⟩ := ho.made M2.out.below; have M3 := Lib.hid (made_conv m3 (NO.out _ _ _ _ M2.out) (by have := M2.out.len; omega : _ ≤ 100000)); clear m3)))
          go_ret2
          unfold ShortOut shortK
          exact ⟨v3, L3, rfl, made_conv M3.out (fun x => rfl) (Nat.le_refl _)⟩
        · have t1 : (c != 104) = true := by simpa using g1
          have t2 : (c != 72) = true := by simpa using g2
          go_wp2
          go_roundw
          case rel => exact ⟨4, by go_num, by omega, ⟨HP.out.1 ∘ (fun _ => by omega), HP.out.2.1 ∘ (fun _ => by omega), HP.out.2.2.1 ∘ (fun _ => by omega), fun _ => ⟨g1, g2⟩⟩, HAL.out _⟩
          case measure => simp [intOf]
    · have hno := Lib.hid HP.out.none
      go_wp2
      go_ret2
      unfold ShortOut
      rw [hno.out]
      exact ⟨rfl, HBW.out⟩

/-- what the document calls a name -/
def isB (nm : ByteArray) : Bool := decide (0 < (eachN nm).length)
theorem isB_yes {k : Nat} (hk : k < 16) : isB (nthW k).1 = true := decide_eq_true (eachN_pos hk)
theorem isB_no {nm : ByteArray} (h : ∀ k, k < 16 → (nthW k).1 ≠ nm) : isB nm = false := by unfold isB; rw [eachN_none h]; rfl
theorem rnames_any (w : World) : Calls Tryd.prog 14 #[] w fun e w' => ∃ v, e = .returned v ∧ StrsAt w' v namesL ∧ Below w.heap.size w w' := by
  go_enter Tryd.func14, Tryd.ntmps14
  go_wp2
  go_ret
  refine ⟨_, rfl, .inr ⟨⟨w.heap.size, 0, none⟩, 16, rfl, by unfold maxLen; decide, fun i hi => ?_⟩, (Below.refl _ _).alloc (Nat.le_refl _) _⟩
  rw [add_zero, World.cell?_alloc_new]
  rcases is_k (show i < 16 from hi) with rfl | rfl | rfl | rfl | rfl | rfl | rfl | rfl | rfl | rfl | rfl | rfl | rfl | rfl | rfl | rfl <;> rfl

set_option maxRecDepth 100000 in
set_option maxHeartbeats 4000000 in
theorem ris_any (nm : ByteArray) (w : World) : Calls Tryd.prog 10 #[.string nm] w fun e w' => e = .returned (.bool (isB nm)) ∧ Below w.heap.size w w' := by
  have cR := Lib.hid (rnames_any w)
  go_enter Tryd.func10, Tryd.ntmps10
  go_wp2_with (go_at_call 14; (with_reducible refine cR.out.mono ?_); rintro e w1 ⟨v, rfl, hs, hb⟩; go_must (obtain ⟨ao, cap, rfl, _, hc⟩ := hs.shape; have HC := Lib.hid hc; have HB := Lib.hid hb; clear hs hc hb))
  have hn16 : namesL.length = 16 := rfl
  rw [hn16]
  go_loop [4] (fun i => ∃ k : Nat, i = .int .i64 (k : Nat) ∧ k ≤ 16 ∧ ∀ j, j < k → (nthW j).1 ≠ nm) (fun i => 16 - (intOf i).toNat)
  case atStart => exact ⟨0, rfl, by omega, fun j hj => by omega⟩
  case round =>
    obtain ⟨k, rfl, hk, hne⟩ := hrel
    have HN := Lib.hid hne
    clear hne
    by_cases hlt : k < 16
    · obtain ⟨ad, rfl, c0⟩ := HC.out k hlt
      rw [List.getD_eq_getElem?_getD, names_get hlt, Option.getD_some] at c0
      have n1 : (k : Int) < 16 := by omega
      by_cases hnm : (nthW k).1 = nm
      · have hy := Lib.hid (isB_yes hlt)
        rw [hnm] at c0 hy
        go_wp2
        go_ret
        exact ⟨retB hy.out.symm, HB.out⟩
      · go_wp2
        · exact absurd (bytes_eq (by assumption)) hnm
        · go_round
          case rel => exact ⟨k + 1, by go_num, by omega, fun j hj => by
            rcases Nat.lt_or_ge j k with h | h
            · exact HN.out j h
            · obtain rfl : j = k := by omega
              exact hnm⟩
          case measure => simp [intOf]; omega
    · obtain rfl : k = 16 := by omega
      have hy := Lib.hid (isB_no HN.out)
      go_wp2
      go_ret
      exact ⟨retB hy.out.symm, HB.out⟩

end Go.Proofs.YtenmjnopbbingaaDoor.Nm

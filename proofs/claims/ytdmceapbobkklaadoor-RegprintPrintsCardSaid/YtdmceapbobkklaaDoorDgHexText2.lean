/- The walk of the program's HexText. -/
import Derived.Test.YtdmceapbobkklaaDoorDgHexText
namespace Go.Proofs.YtdmceapbobkklaaDoor.Dg
open Go.RowKit

theorem tab_lt {w : World} (h : Tab w) : 0 < w.heap.size := by
  have := h 0 (by omega)
  apply Classical.byContradiction
  intro hn
  unfold World.cell? at this
  rw [Array.getElem?_eq_none (by omega)] at this
  simp at this

theorem run_cut (q : Nat) (hq : q < 16) (b : Nat) (w : World) :
    (Instr.sliceAt 105 (.pointer (some ⟨b, 0, none⟩)) (some (.int .i64 (q : Int))) none none).run Tryd.prog w = .ok (.slice (some ⟨b, q, none⟩) (16 - q) (16 - q)) w := by
  have hl : Tryd.prog.arrayLen 105 = 16 := by kernel_rfl
  have he : Tryd.prog.elem 105 = 5 := by kernel_rfl
  have hu : Tryd.prog.underlying 105 = some (.array (Tryd.prog.arrayLen 105) (Tryd.prog.elem 105)) := by rw [hl, he]; exact Tryd.underlying105
  rw [run_sliceAt_array_l w _ _ hu .i64 q (by omega) (by rw [hl]; omega), hl, he, Tryd.sizeOf5]
  have e : ¬ 16 = q := by omega
  by_cases h0 : q = 0
  · subst h0; simp [slicedAt, Result.andThen, Addr.add]
  · simp [slicedAt, Result.andThen, Addr.add, e, h0]

theorem run_bytes {w : World} {X : Array Value} {acc : List UInt8} {q : Nat} (hq : q + acc.length = 16)
    (h : ∀ j, j < acc.length → X[q + j]? = some (.int .u8 ((acc.getD j 0).toNat : Int))) :
    (convert 38 9 (.slice (some ⟨w.heap.size, q, none⟩) (16 - q) (16 - q))).run Tryd.prog (w.alloc (.cells X 105)) = .ok (.string ⟨acc.toArray⟩) (w.alloc (.cells X 105)) := by
  rw [show 16 - q = acc.length by omega]
  refine run_convert_bytes_back _ _ _ 5 _ _ acc Tryd.underlying38 Tryd.underlying5 Tryd.underlying9 fun j hj => ?_
  have hh := h j hj
  rw [List.getD_eq_getElem?_getD, List.getElem?_eq_getElem hj] at hh
  have e : (⟨w.heap.size, q, none⟩ : Addr).add j = ⟨w.heap.size, q + j, none⟩ := by
    unfold Addr.add; split
    · rename_i h0; subst h0; rfl
    · rfl
  rw [e, World.cell?_alloc_new, hh]; rfl
theorem row_next {X : Array Value} {acc : List UInt8} {p : Nat} {v : UInt8} (hX : X.size = 16)
    (h : ∀ j, j < acc.length → X[p + 1 + j]? = some (.int .u8 ((acc.getD j 0).toNat : Int))) (hp : p ≤ 15) :
    ∀ j, j < (v :: acc).length → (X.setIfInBounds p (.int .u8 (v.toNat : Int)))[p + j]? = some (.int .u8 (((v :: acc).getD j 0).toNat : Int)) := by
  intro j hj
  rw [Array.getElem?_setIfInBounds]
  cases j with
  | zero => rw [Nat.add_zero, if_pos rfl, if_pos (by omega)]; rfl
  | succ j =>
    rw [if_neg (by omega)]
    have := h j (by simpa using hj)
    rw [show p + (j + 1) = p + 1 + j by omega, this]; rfl

set_option maxRecDepth 100000 in
set_option maxHeartbeats 400000 in
theorem hextext_any (n least : Int) (w : World) (h0 : -9223372036854775808 ≤ n) (h1 : n ≤ 9223372036854775807) (h2 : -9223372036854775808 ≤ least) (h3 : least ≤ 9223372036854775807) (ht : Tab w) :
    Calls Tryd.prog 68 #[.int .i64 n, .int .i64 least] w fun e w' => e = .returned (.string ⟨(hexText n least).toArray⟩) ∧ Below w.heap.size w w' := by
  have hlt := tab_lt ht
  have HT := Lib.hid ht
  clear ht
  have hx : ∀ m : Int, (n < 0 ∧ m = 0) ∨ (¬ n < 0 ∧ m = n) → goHexText 16 0 m.toNat (min least 8) [] = hexText n least := by
    intro m h
    unfold hexText
    rw [show n.toNat = m.toNat by omega]
  have HX := Lib.hid hx
  clear hx
  by_cases hn : n < 0 <;> by_cases hle : 8 < least
  all_goals
    go_enter Tryd.func68, Tryd.ntmps68
    go_wp2_with fail
    go_loopw [6, 7, 13] (fun a p i wr => ∃ (m : Int) (q : Nat) (acc : List UInt8) (X : Array Value), q + acc.length = 16 ∧ 0 ≤ m ∧ m ≤ 9223372036854775807 ∧ goHexText (16 - acc.length) acc.length m.toNat (min least 8) acc = hexText n least ∧ X.size = 16 ∧ (∀ j, j < acc.length → X[q + j]? = some (.int .u8 ((acc.getD j 0).toNat : Int))) ∧ wr = w.alloc (.cells X 105) ∧ a = .int .i64 m ∧ p = .int .i64 q ∧ i = .int .i64 acc.length) (fun _ _ i _ => 16 - (intOf i).toNat)
    case atStart =>
      first
        | exact ⟨0, 16, [], _, by simp, by omega, by omega, HX.out 0 (by omega), rfl, by simp, rfl, rfl, rfl, rfl⟩
        | exact ⟨n, 16, [], _, by simp, by omega, by omega, HX.out n (by omega), rfl, by simp, rfl, rfl, rfl, rfl⟩
    case round =>
      obtain ⟨m, q, acc, X, hq, hm0, hm, hg, hX, hXa, rfl, rfl, rfl, rfl⟩ := hrel
      have hcut := Lib.hid (fun h wx => run_cut q h w.heap.size wx)
      have hcv := Lib.hid (run_bytes (w := w) hq hXa)
      by_cases hs : stops acc.length m least ∨ 16 ≤ acc.length
      · have hend : goHexText (16 - acc.length) acc.length m.toNat (min least 8) acc = acc := by
          rcases hs with hs | hs
          · exact hx_stop hm0 hs
          · exact hx_end hs
        have HE := Lib.hid (hg.symm.trans hend)
        have hs1 : 1 ≤ (acc.length : Int) := by unfold stops at hs; omega
        have hs2 : (16 ≤ (acc.length : Int)) ∨ (m ≤ 0 ∧ min least 8 ≤ (acc.length : Int)) := by unfold stops at hs; omega
        have hsl := hcut.out (by omega)
        have hcv' := hcv.out
        clear hg hX hXa hs hcv hcut
        clear hq
        go_wp2_with fail
        all_goals go_ret
        all_goals exact ⟨rets' (by rw [HE.out]), (Below.refl _ _).alloc (Nat.le_refl _) _⟩
      · obtain ⟨j, hj⟩ := Int.eq_ofNat_of_zero_le (show 0 ≤ m % 16 by omega)
        have hj16 : j < 16 := by omega
        have hs' : ¬ stops acc.length m least := fun h => hs (Or.inl h)
        have hgo := Lib.hid (hx_go (acc := acc) (least := least) hm0 (by omega) hj hs')
        have HG := Lib.hid hg
        have hc := HT.out j (by omega)
        have hns : ¬ (1 ≤ (acc.length : Int) ∧ m ≤ 0 ∧ min least 8 ≤ (acc.length : Int)) := by unfold stops at hs'; omega
        obtain ⟨p, hp⟩ : ∃ p, q = p + 1 := ⟨q - 1, by omega⟩
        subst hp
        have hp15 : p ≤ 15 := by omega
        have hl16 : (acc.length : Int) < 16 := by omega
        have HXs := Lib.hid (row_next (v := tab.getD j 0) hX hXa hp15)
        obtain ⟨xv, hxv⟩ : ∃ v, X[p]? = some v := ⟨X[p]'(by omega), Array.getElem?_eq_getElem _⟩
        have HQ := Lib.hid hq
        have hX16 := Lib.hid hX
        clear hg hX hXa hs hs' hcv hcut hq
        by_cases hm1 : 0 < m
        · have hm2 : (m == 0) = false := beq_eq_false_iff_ne.2 (by omega)
          go_wp2_with fail
          all_goals
            go_roundw
            case rel => exact ⟨m / 16, p, tab.getD j 0 :: acc, _, by have := HQ.out; simp only [List.length_cons]; omega, by omega, by omega, hgo.out ▸ HG.out, by rw [Array.size_setIfInBounds]; exact hX16.out, HXs.out, rfl, rfl, by go_num, by simp⟩
            case measure => simp [intOf]; omega
        · have hm2 : (m == 0) = true := beq_iff_eq.2 (by omega)
          go_wp2_with fail
          all_goals
            go_roundw
            case rel => exact ⟨m / 16, p, tab.getD j 0 :: acc, _, by have := HQ.out; simp only [List.length_cons]; omega, by omega, by omega, hgo.out ▸ HG.out, by rw [Array.size_setIfInBounds]; exact hX16.out, HXs.out, rfl, rfl, by go_num, by simp⟩
            case measure => simp [intOf]; omega

end Go.Proofs.YtdmceapbobkklaaDoor.Dg

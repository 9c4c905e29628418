/- Where a range is parted. -/
import Derived.Test.YtoknfelheebidaaDoorBqRow
import Derived.Test.YtoknfelheebidaaDoorUtSc
import Derived.Deep.DeepMust
import Derived.BigQuiet
import Derived.Deep.QuietTactic
namespace Go.Proofs.YtoknfelheebidaaDoor.Bq
open Go Go.RowKit Go.Shelf Go.Proofs.YtoknfelheebidaaDoor.Ut Go.Proofs.YtoknfelheebidaaDoor.Rg

theorem bdN (w : World) (k : Nat) : Below w.heap.size w (w.drewN k) := ⟨rfl, rfl, rfl, Nat.le_refl _, fun _ _ => rfl⟩
/-- what cut tells -/
def ovC : Option Int → Value
  | none => .tuple #[.int .i64 0, .bool false]
  | some x => .tuple #[.int .i64 x, .bool true]
theorem ovC_none {V : Value} {o : Option Int} (h : V = ovC o) (ho : o = none) : Ending.returned (.tuple #[.int .i64 0, .bool false]) = .returned V := by rw [h, ho]; rfl
theorem ovC_some {V : Value} {o : Option Int} {x y : Int} (h : V = ovC o) (ho : o = some x) (hy : y = x) : Ending.returned (.tuple #[.int .i64 y, .bool true]) = .returned V := by rw [h, ho, hy]; rfl

theorem cutG_end {L : Nat} {lo hi : Int} {f k : Nat} (h : ¬ k < L) : cutG L lo hi (f + 1) k = none := by rw [cutG, if_neg h]
theorem cutG_ask {L : Nat} {lo hi : Int} {f k : Nat} (h : k < L) : cutG L lo hi (f + 1) k = ask (blk k) lo hi (cutG L lo hi f (k + 1)) := by rw [cutG, if_pos h]; rfl

theorem ask_p1 {B lo hi : Int} {o : Option Int} (hB : B = 64 ∨ B = 4096 ∨ B = 262144) (h : (lo / B * B == hi / B * B) = true) : ask B lo hi o = none := ask_one (by rw [beq_iff_eq] at h; rcases hB with rfl | rfl | rfl <;> omega)
theorem ask_p2 {B lo hi : Int} {o : Option Int} (h : (lo / B * B == hi / B * B) = false) (h2 : lo / B * B < lo) : ask B lo hi o = some (lo / B * B + B) := by
  unfold ask; rw [beq_eq_false_iff_ne] at h; rw [if_neg (fun e => h (by rw [e])), if_pos h2]
theorem ask_p3 {B lo hi : Int} {o : Option Int} (h : (lo / B * B == hi / B * B) = false) (h2 : ¬ lo / B * B < lo) (h3 : hi < hi / B * B + B - 1) : ask B lo hi o = some (hi / B * B) := by
  unfold ask; rw [beq_eq_false_iff_ne] at h; rw [if_neg (fun e => h (by rw [e])), if_neg h2, if_pos h3]
theorem ask_p4 {B lo hi : Int} {o : Option Int} (h : (lo / B * B == hi / B * B) = false) (h2 : ¬ lo / B * B < lo) (h3 : ¬ hi < hi / B * B + B - 1) : ask B lo hi o = o := by
  unfold ask; rw [beq_eq_false_iff_ne] at h; rw [if_neg (fun e => h (by rw [e])), if_neg h2, if_neg h3]

structure CutW (lo hi : Int) (w wr : World) : Prop where
  lo : wr.cell? ⟨w.heap.size, 0, none⟩ = some (.int .i64 lo)
  hi : wr.cell? ⟨w.heap.size, 1, none⟩ = some (.int .i64 hi)
  below : Below w.heap.size w wr
theorem CutW.next {lo hi : Int} {w wr w' : World} (h : CutW lo hi w wr) (hb : Below wr.heap.size wr w') : CutW lo hi w w' := ⟨cell_next h.lo hb, cell_next h.hi hb, h.below.trans (hb.mono h.below.size)⟩

set_option maxRecDepth 100000 in
set_option maxHeartbeats 2000000 in
theorem cut_any (lo hi : Int) (w : World) (hs : Span lo hi) (hl : lo ≤ hi) :
    Calls Tryd.prog 16 #[.agg #[.int .i64 lo, .int .i64 hi]] w fun e w' => e = .returned (ovC (cutF lo hi)) ∧ Below w.heap.size w w' := by
  have hlen := length_any lo
  rw [putL_len hs hl] at hlen
  have h0 : 0 ≤ lo ∧ hi ≤ 1114111 := by unfold Span at hs; omega
  obtain ⟨h0, h1⟩ := h0
  have hL : 1 ≤ wid lo ∧ wid lo ≤ 4 := by rcases wid_span hs hl with h | h | h | h <;> omega
  obtain ⟨V, hV⟩ : ∃ V, V = ovC (cutF lo hi) := ⟨_, rfl⟩
  rw [← hV]
  have hc : cutG (wid lo) lo hi 4 1 = cutF lo hi := rfl
  generalize cutF lo hi = o at *
  generalize wid lo = L at *
  have HL := Lib.hid hlen
  have HV := Lib.hid hV
  have HC := Lib.hid hc
  obtain ⟨L1, L2⟩ := hL
  clear hlen hV hs hc
  go_enter Tryd.func16, Tryd.ntmps16
  go_wp2
  go_loopw [4] (fun i wr => ∃ k : Nat, i = .int .i64 k ∧ 1 ≤ k ∧ k ≤ L ∧ cutG L lo hi (5 - k) k = o ∧ CutW lo hi w wr) (fun i _ => 5 - (intOf i).toNat)
  case atStart => exact ⟨1, rfl, Nat.le_refl _, L1, HC.out, by simp [World.cell?_alloc_new], by simp [World.cell?_alloc_new], (Below.refl _ _).alloc (Nat.le_refl _) _⟩
  case round =>
    obtain ⟨k, rfl, hk1, hk2, hg, hw⟩ := hrel
    have HW := Lib.hid hw
    have k1 := hw.lo
    have k2 := hw.hi
    clear hw
    by_cases hlt : k < L
    · have hk : k = 1 ∨ k = 2 ∨ k = 3 := by omega
      rcases hk with rfl | rfl | rfl
      · have hg2 : ask 64 lo hi (cutG L lo hi 3 2) = o := by rw [← hg]; exact (cutG_ask (f := 3) hlt).symm
        have HG := Lib.hid hg2
        clear hg hg2
        go_wp2_with (go_at_call 26; refine (HL.out _).mono ?_; rintro e w' ⟨rfl, rfl⟩)
        go_quiet (fail)
        go_wp2
        all_goals first
          | (go_ret2; exact ⟨ovC_none HV.out (HG.out.symm.trans (ask_p1 (by omega) (by assumption))), (HW.out.next (bdN _ _)).below⟩)
          | (go_ret2; exact ⟨ovC_some HV.out (HG.out.symm.trans (ask_p2 (by assumption) (by omega))) rfl, (HW.out.next (bdN _ _)).below⟩)
          | (go_ret2; exact ⟨ovC_some HV.out (HG.out.symm.trans (ask_p3 (by assumption) (by omega) (by omega))) rfl, (HW.out.next (bdN _ _)).below⟩)
          | (go_roundw
             case rel => exact ⟨2, rfl, by omega, by omega, by rw [← HG.out]; exact (ask_p4 (by assumption) (by omega) (by omega)).symm, HW.out.next (bdN _ _)⟩
             case measure => simp [intOf])
      · have hg2 : ask 4096 lo hi (cutG L lo hi 2 3) = o := by rw [← hg]; exact (cutG_ask (f := 2) hlt).symm
        have HG := Lib.hid hg2
        clear hg hg2
        go_wp2_with (go_at_call 26; refine (HL.out _).mono ?_; rintro e w' ⟨rfl, rfl⟩)
        go_quiet (fail)
        go_wp2
        all_goals first
          | (go_ret2; exact ⟨ovC_none HV.out (HG.out.symm.trans (ask_p1 (by omega) (by assumption))), (HW.out.next (bdN _ _)).below⟩)
          | (go_ret2; exact ⟨ovC_some HV.out (HG.out.symm.trans (ask_p2 (by assumption) (by omega))) rfl, (HW.out.next (bdN _ _)).below⟩)
          | (go_ret2; exact ⟨ovC_some HV.out (HG.out.symm.trans (ask_p3 (by assumption) (by omega) (by omega))) rfl, (HW.out.next (bdN _ _)).below⟩)
          | (go_roundw
             case rel => exact ⟨3, rfl, by omega, by omega, by rw [← HG.out]; exact (ask_p4 (by assumption) (by omega) (by omega)).symm, HW.out.next (bdN _ _)⟩
             case measure => simp [intOf])
      · have hg2 : ask 262144 lo hi (cutG L lo hi 1 4) = o := by rw [← hg]; exact (cutG_ask (f := 1) hlt).symm
        have HG := Lib.hid hg2
        clear hg hg2
        go_wp2_with (go_at_call 26; refine (HL.out _).mono ?_; rintro e w' ⟨rfl, rfl⟩)
        go_quiet (fail)
        go_wp2
        all_goals first
          | (go_ret2; exact ⟨ovC_none HV.out (HG.out.symm.trans (ask_p1 (by omega) (by assumption))), (HW.out.next (bdN _ _)).below⟩)
          | (go_ret2; exact ⟨ovC_some HV.out (HG.out.symm.trans (ask_p2 (by assumption) (by omega))) rfl, (HW.out.next (bdN _ _)).below⟩)
          | (go_ret2; exact ⟨ovC_some HV.out (HG.out.symm.trans (ask_p3 (by assumption) (by omega) (by omega))) rfl, (HW.out.next (bdN _ _)).below⟩)
          | (go_roundw
             case rel => exact ⟨4, rfl, by omega, by omega, by rw [← HG.out]; exact (ask_p4 (by assumption) (by omega) (by omega)).symm, HW.out.next (bdN _ _)⟩
             case measure => simp [intOf])
    · have hg2 : o = none := by rw [← hg, show 5 - k = (4 - k) + 1 by omega]; exact cutG_end hlt
      have HG := Lib.hid hg2
      clear hg hg2
      go_wp2_with (go_at_call 26; refine (HL.out _).mono ?_; rintro e w' ⟨rfl, rfl⟩)
      go_ret2
      exact ⟨ovC_none HV.out HG.out, HW.out.below⟩

end Go.Proofs.YtoknfelheebidaaDoor.Bq

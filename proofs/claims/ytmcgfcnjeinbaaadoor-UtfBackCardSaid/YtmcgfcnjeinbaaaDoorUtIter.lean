/- The iterator over a text's code points: codes, and what it hands its caller. -/
import Derived.Test.YtmcgfcnjeinbaaaDoorUtGuess
import Derived.Test.YtmcgfcnjeinbaaaDoorInts
import Derived.RangeFuncNested
import Derived.RangeFuncBound
import Derived.RangeFuncCalls
import Derived.RangeFuncLeaves
import Derived.RangeFuncBox
import Derived.Shelf.Abstract
import Derived.Shelf.RegionOpen
import Derived.OwnWalkIn
import Derived.TacticsInMore
import Derived.LoopNIn
import Derived.LoopIn
import Derived.Maps.AppendAt
namespace Go.Proofs.YtmcgfcnjeinbaaaDoor.Ut
open Go.RowKit Go.Shelf

attribute [local go_sem] Oper.semAt_some

/-- the tables of the library's decoding, as the program's text lays them -/
abbrev Tabs (w : World) : Prop := Lib.Utf8Tabs 0 1 w
theorem tabs_lt {w : World} (h : Tabs w) : 0 < w.heap.size ∧ 1 < w.heap.size := by
  constructor
  · have := h.1 0 (by omega)
    rcases Nat.lt_or_ge 0 w.heap.size with h' | h'
    · exact h'
    · simp [World.cell?, Array.getElem?_eq_none h'] at this
  · have := (h.2 0 (by omega)).1
    rcases Nat.lt_or_ge 1 w.heap.size with h' | h'
    · exact h'
    · simp [World.cell?, Array.getElem?_eq_none h'] at this
theorem tabs_below {w w' : World} {n₀ : Nat} (h : Tabs w) (h0 : 0 < n₀) (h1 : 1 < n₀) (hb : Below n₀ w w') : Tabs w' :=
  ⟨fun c hc => (hb.cell (p := ⟨0, c, none⟩) h0).trans (h.1 c hc),
   fun i hi => ⟨(hb.cell (p := ⟨1, 2 * i, none⟩) h1).trans (h.2 i hi).1, (hb.cell (p := ⟨1, 2 * i + 1, none⟩) h1).trans (h.2 i hi).2⟩⟩
theorem tabs_next {w w' : World} (h : Tabs w) (hb : Below w.heap.size w w') : Tabs w' :=
  tabs_below h (tabs_lt h).1 (tabs_lt h).2 hb

/-- what a round keeps: all below n₀, and the text's box -/
def Kept (n₀ Bn : Nat) (s : ByteArray) (W W' : World) : Prop := Below n₀ W W' ∧ (Boxed W Bn 9 (.string s) → Boxed W' Bn 9 (.string s))
theorem kept_t {n₀ Bn : Nat} {s : ByteArray} {A B C : World} (h : Kept n₀ Bn s A B) (k : Kept n₀ Bn s B C) : Kept n₀ Bn s A C := ⟨h.1.trans k.1, fun x => k.2 (h.2 x)⟩
theorem kept_b {n₀ Bn : Nat} {s : ByteArray} {w : World} (hn : n₀ ≤ w.heap.size) (W : World) (l : Nat) (o o' : Obj) (hl : w.heap.size ≤ l) (h : W.heap[l]? = some o) (hc : o.isCells = false) (hw : o.isWalk = false) : Kept n₀ Bn s W (W.putObj l o') :=
  ⟨belowK_b hn W l o o' hl h hc hw, fun x => x.kept (grownBy_putObj' W l o') (fun e => by
    obtain rfl : Bn = l := by simpa using e
    rw [show W.heap[Bn]? = _ from x] at h; cases h; cases hc)⟩

theorem drop_extract (s : ByteArray) (k : Nat) : (s.extract k s.size).data.toList = s.data.toList.drop k := by
  rw [Lib.extract_eq, List.take_of_length_le]
  rw [List.length_drop, ← Lib.size_eq]
  omega
theorem all_step {l : List UInt8} {k : Nat} (hk : k < l.length) : allL (l.drop k) = (getL (l.drop k)).1 :: allL (l.drop (k + (getL (l.drop k)).2)) := by
  have hne : l.drop k ≠ [] := by
    intro e
    have := congrArg List.length e
    simp at this; omega
  rw [allL_cons hne, List.drop_drop]
theorem get_at {l : List UInt8} {k : Nat} (hk : k < l.length) : 1 ≤ (getL (l.drop k)).2 ∧ k + (getL (l.drop k)).2 ≤ l.length := by
  have hne : l.drop k ≠ [] := by
    intro e
    have := congrArg List.length e
    simp at this; omega
  have := getL_width hne
  simp only [List.length_drop] at this
  omega

set_option maxRecDepth 100000 in
set_option maxHeartbeats 1000000 in
theorem codes1_in (F : Fence) (n : Nat) (hf : F.fn 28) (hf2 : F.fn 12) (hro : F.round = none) (hn : 1 ≤ n) (l Bn n₀ : Nat) (s : ByteArray) (hs : s.size ≤ maxLen) (h0 : 0 < n₀) (h1 : 1 < n₀)
    (J Jx : List Int → World → Prop) (B0 : Nat) (hJ : AbidesFrom B0 J)
    (hget : ∀ (s : ByteArray) (w : World), Tabs w → CallsIn F (n - 1) Tryd.prog 12 #[.string s] w fun e w' => e = .returned (vGet s.data.toList) ∧ Below w.heap.size w w')
    (hY : ∀ pre x W, J pre W → pre.length < (allL s.data.toList).length → YieldAt F (n - 1) Tryd.prog l #[.int .i64 x] W fun e W' =>
      (e = .returned (.bool true) ∧ J (pre ++ [x]) W' ∧ Kept n₀ Bn s W W') ∨ (e = .returned (.bool false) ∧ Jx (pre ++ [x]) W'))
    (W : World) (hn0 : n₀ ≤ W.heap.size) (hBn : Boxed W Bn 9 (.string s)) (hT : Tabs W) (hJ0 : J [] W) :
    CallsIn F n Tryd.prog 28 #[.func (.yield l) #[] #[], .pointer (some ⟨Bn, 0, none⟩)] W fun e W' => (∃ v, e = .returned v) ∧
      ((∃ ys, ys = allL s.data.toList ∧ J ys W') ∨ (∃ pre, pre <+: allL s.data.toList ∧ Jx pre W')) := by
  unfold maxLen at hs
  have HL := Lib.hid (Lib.size_eq s)
  refine callsIn_of_wp Tryd.func28 rfl hf ?_ hro
  simp only [Tryd.ntmps28, List.size_toArray, List.length_cons, List.length_nil, Nat.reduceAdd, Nat.reduceSub, Array.replicate_succ, Array.replicate_zero, List.push_toArray, List.append_toArray, List.nil_append, List.cons_append]
  gi_wp2
  gi_loopw [3] (fun i wr => ∃ (k : Nat) (pre : List Int), i = .int .i64 k ∧ k ≤ s.size ∧ allL s.data.toList = pre ++ allL (s.data.toList.drop k) ∧ n₀ ≤ wr.heap.size ∧ Boxed wr Bn 9 (.string s) ∧ Tabs wr ∧ J pre wr) (fun i _ => s.size - (intOf i).toNat)
  case atStart => exact ⟨0, [], rfl, by omega, rfl, hn0, hBn, hT, hJ0⟩
  case round =>
    obtain ⟨k, pre, rfl, hk, hx, hsz, hbx, hTr, hJs⟩ := hrel
    have hcell := hbx.cell
    by_cases hlt : k < s.size
    · have hst := all_step (l := s.data.toList) (k := k) (by rw [← HL.out]; exact hlt)
      have hw := get_at (l := s.data.toList) (k := k) (by rw [← HL.out]; exact hlt)
      rw [← HL.out] at hw
      have hg := Lib.hid (fun w h => hget (s.extract k s.size) w h)
      simp only [drop_extract, vGet] at hg
      rw [hst] at hx
      clear hst
      generalize (getL (s.data.toList.drop k)).1 = c at *
      generalize (getL (s.data.toList.drop k)).2 = m at *
      have hlen : pre.length < (allL s.data.toList).length := by rw [hx]; simp
      have HY := Lib.hid (fun W h => hY pre c W h hlen)
      have HX := Lib.hid hx
      clear hx hY hlen
      obtain ⟨hm1, hmk⟩ := hw
      gi_wp2_with (gi_at_call 12; refine (hg.out _ hTr).mono ?_; rintro e w' ⟨rfl, hb⟩; obtain ⟨fn, tmps, assign, body, hy, hR⟩ := HY.out w' (hJ pre wr w' none hJs (grown_below hb) (fun r e => by cases e)))
      refine hR.mono ?_
      have hbx2 : Boxed w' Bn 9 (.string s) := (hb.block Bn hbx.lt).trans hbx
      rintro e W3 (⟨rfl, hJ3, hk3⟩ | ⟨rfl, hJx3⟩)
      · have hbx3 := hk3.2 hbx2
        have hT3 : Tabs W3 := tabs_below (tabs_next hTr hb) h0 h1 hk3.1
        gi_wp2
        go_roundw
        case rel => exact ⟨k + m, pre ++ [c], by go_num, by omega, by rw [HX.out]; simp, Nat.le_trans (Nat.le_trans hsz hb.size) hk3.1.size, hbx3, hT3, hJ3⟩
        case measure => simp [intOf]; omega
      · gi_wp2
        refine bodyPost_ret (results_none rfl _ _ _) rfl ?_
        exact ⟨⟨_, rfl⟩, .inr ⟨pre ++ [c], ⟨allL (s.data.toList.drop (k + m)), by rw [HX.out]; simp⟩, hJx3⟩⟩
    · have hX := Lib.hid hx
      clear hx
      have he : s.data.toList.drop k = [] := List.drop_eq_nil_of_le (by rw [← HL.out]; omega)
      have HE := Lib.hid he
      clear he
      gi_wp2
      go_end0
      exact ⟨⟨_, rfl⟩, .inl ⟨pre, by rw [hX.out, HE.out, allL_nil, List.append_nil], hJs⟩⟩

end Go.Proofs.YtmcgfcnjeinbaaaDoor.Ut

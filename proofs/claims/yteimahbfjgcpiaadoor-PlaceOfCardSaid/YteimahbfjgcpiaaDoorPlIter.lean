/- The iterator over a text's lines. -/
import Derived.Test.YteimahbfjgcpiaaDoorPlOf
import Derived.RangeFuncNested
import Derived.RangeFuncBound
import Derived.RangeFuncCalls
import Derived.RangeFuncLeaves
import Derived.RangeFuncBox
import Derived.Shelf.Abstract
import Derived.Shelf.RegionOpen
import Derived.OwnWalkIn
import Derived.TacticsInMore
import Derived.LoopNIn
import Derived.LoopIn
import Derived.Maps.AppendAt
namespace Go.Proofs.YteimahbfjgcpiaaDoor.Pl
open Go.RowKit Go.Shelf

attribute [local go_sem] Oper.semAt_some

/-- what a round keeps: all below n₀, and the text's box -/
def Kept (n₀ Bn : Nat) (s : ByteArray) (W W' : World) : Prop := Below n₀ W W' ∧ (Boxed W Bn 9 (.string s) → Boxed W' Bn 9 (.string s))
theorem kept_t {n₀ Bn : Nat} {s : ByteArray} {A B C : World} (h : Kept n₀ Bn s A B) (k : Kept n₀ Bn s B C) : Kept n₀ Bn s A C := ⟨h.1.trans k.1, fun x => k.2 (h.2 x)⟩
theorem kept_b {n₀ Bn : Nat} {s : ByteArray} {w : World} (hn : n₀ ≤ w.heap.size) (W : World) (l : Nat) (o o' : Obj) (hl : w.heap.size ≤ l) (h : W.heap[l]? = some o) (hc : o.isCells = false) (hw : o.isWalk = false) : Kept n₀ Bn s W (W.putObj l o') :=
  ⟨belowK_b hn W l o o' hl h hc hw, fun x => x.kept (grownBy_putObj' W l o') (fun e => by
    obtain rfl : Bn = l := by simpa using e
    rw [show W.heap[Bn]? = _ from x] at h; cases h; cases hc)⟩

theorem drop_extract (s : ByteArray) (k : Nat) : (s.extract k s.size).data.toList = s.data.toList.drop k := by
  rw [Lib.extract_eq, List.take_of_length_le]
  rw [List.length_drop, len_size]
  omega

def vP (x : Nat × Nat) : Value := .agg #[.int .i64 (x.1 : Nat), .int .i64 (x.2 : Nat)]

set_option maxRecDepth 100000 in
set_option maxHeartbeats 1000000 in
theorem lines1_in (F : Fence) (n : Nat) (hf : F.fn 26) (hf2 : F.fn 27) (hro : F.round = none) (hn : 1 ≤ n) (l Bn n₀ : Nat) (s : ByteArray) (hs : s.size ≤ 1000000)
    (J Jx : List (Nat × Nat) → World → Prop)
    (hidx : ∀ (s : ByteArray) (w : World), CallsIn F (n - 1) Tryd.prog 27 #[.string s, .int .u8 10] w fun e w' => e = .returned (.int .i64 (Lib.indexByte s.data.toList 10)) ∧ w' = w)
    (hY : ∀ pre x W, J pre W → pre.length < (linesL s.data.toList).length → x.1 ≤ x.2 → x.2 ≤ s.size → YieldAt F (n - 1) Tryd.prog l #[vP x] W fun e W' =>
      (e = .returned (.bool true) ∧ J (pre ++ [x]) W' ∧ Kept n₀ Bn s W W') ∨ (e = .returned (.bool false) ∧ Jx (pre ++ [x]) W'))
    (W : World) (hn0 : n₀ ≤ W.heap.size) (hBn : Boxed W Bn 9 (.string s)) (hJ0 : J [] W) :
    CallsIn F n Tryd.prog 26 #[.func (.yield l) #[] #[], .pointer (some ⟨Bn, 0, none⟩)] W fun e W' => (∃ v, e = .returned v) ∧
      ((∃ ys, ys = linesL s.data.toList ∧ J ys W') ∨ (∃ pre, pre <+: linesL s.data.toList ∧ Jx pre W')) := by
  have HL := Lib.hid (len_size s)
  refine callsIn_of_wp Tryd.func26 rfl hf ?_ hro
  simp only [Tryd.ntmps26, List.size_toArray, List.length_cons, List.length_nil, Nat.reduceAdd, Nat.reduceSub, Array.replicate_succ, Array.replicate_zero, List.push_toArray, List.append_toArray, List.nil_append, List.cons_append]
  gi_wp2
  gi_loopw [3] (fun i wr => ∃ (k : Nat) (pre : List (Nat × Nat)), i = .int .i64 k ∧ k ≤ s.size ∧ linesL s.data.toList = pre ++ lnL k k (s.data.toList.drop k) ∧ n₀ ≤ wr.heap.size ∧ Boxed wr Bn 9 (.string s) ∧ J pre wr) (fun i _ => s.size - (intOf i).toNat)
  case atStart => exact ⟨0, [], rfl, by omega, rfl, hn0, hBn, hJ0⟩
  case round =>
    obtain ⟨k, pre, rfl, hk, hx, hsz, hbx, hJs⟩ := hrel
    have hcell := hbx.cell
    have hdl : (s.data.toList.drop k).length = s.size - k := by rw [List.length_drop, HL.out]
    have hg := Lib.hid (hidx (s.extract k s.size))
    rw [drop_extract] at hg
    rcases idx_cases (s.data.toList.drop k) with hi | ⟨m, hi⟩
    · rw [lnL_none hi, hdl] at hx
      rw [hi] at hg
      have hlen : pre.length < (linesL s.data.toList).length := by rw [hx]; simp
      have hke : k + (s.size - k) = s.size := by omega
      rw [hke] at hx
      have hy0 := fun W h => hY pre (k, s.size) W h hlen hk (Nat.le_refl _)
      simp only [vP] at hy0
      have HY := Lib.hid hy0
      have HX := Lib.hid hx
      clear hx hY hy0 hlen hi hdl hke hidx
      gi_wp2_with (gi_at_call 27; refine (hg.out _).mono ?_; rintro e w' ⟨rfl, rfl⟩; obtain ⟨fn, tmps, assign, body, hy, hR⟩ := HY.out _ hJs)
      refine hR.mono ?_
      rintro e W3 (⟨rfl, hJ3, hk3⟩ | ⟨rfl, hJx3⟩)
      · gi_wp2
        refine bodyPost_ret (results_none rfl _ _ _) rfl ?_
        exact ⟨⟨_, rfl⟩, .inl ⟨_, HX.out.symm, hJ3⟩⟩
      · gi_wp2
        refine bodyPost_ret (results_none rfl _ _ _) rfl ?_
        exact ⟨⟨_, rfl⟩, .inr ⟨_, ⟨[], by rw [List.append_nil, HX.out]⟩, hJx3⟩⟩
    · obtain ⟨hml, hm⟩ := lnL_some (f := k) (i := k) hi
      rw [hdl] at hml
      rw [hm] at hx
      rw [hi] at hg
      have hlen : pre.length < (linesL s.data.toList).length := by rw [hx]; simp
      rw [List.drop_drop, show k + (m + 1) = k + m + 1 by omega] at hx
      have hy0 := fun W h => hY pre (k, k + m) W h hlen (Nat.le_add_right _ _) (by omega)
      simp only [vP, Int.natCast_add] at hy0
      have HY := Lib.hid hy0
      have HX := Lib.hid hx
      clear hx hY hy0 hlen hi hdl hidx hm
      gi_wp2_with (gi_at_call 27; refine (hg.out _).mono ?_; rintro e w' ⟨rfl, rfl⟩; obtain ⟨fn, tmps, assign, body, hy, hR⟩ := HY.out _ hJs)
      refine hR.mono ?_
      rintro e W3 (⟨rfl, hJ3, hk3⟩ | ⟨rfl, hJx3⟩)
      · have hbx3 := hk3.2 hbx
        gi_wp2
        go_roundw
        case rel => exact ⟨k + m + 1, pre ++ [(k, k + m)], by go_num, by omega, by rw [HX.out]; simp, Nat.le_trans hsz hk3.1.size, hbx3, hJ3⟩
        case measure => simp [intOf]; omega
      · gi_wp2
        refine bodyPost_ret (results_none rfl _ _ _) rfl ?_
        exact ⟨⟨_, rfl⟩, .inr ⟨pre ++ [(k, k + m)], ⟨_, by rw [HX.out, List.append_assoc]; rfl⟩, hJx3⟩⟩

end Go.Proofs.YteimahbfjgcpiaaDoor.Pl

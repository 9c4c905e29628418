/- The iterator over a text's words. -/
import Derived.Test.YtleejfkononjgaaDoorWdBase
import Derived.Test.YtleejfkononjgaaDoorInts
import Derived.RangeFuncNested
import Derived.RangeFuncBound
import Derived.RangeFuncCalls
import Derived.RangeFuncLeaves
import Derived.RangeFuncBox
import Derived.Shelf.Abstract
import Derived.Shelf.RegionOpen
import Derived.OwnWalkIn
import Derived.TacticsInMore
import Derived.LoopNIn
import Derived.LoopIn
import Derived.Maps.AppendAt
import Derived.Lib.IndexLaws
namespace Go.Proofs.YtleejfkononjgaaDoor.Wd
open Go.RowKit Go.Shelf

attribute [local go_sem] Oper.semAt_some

/-- what a round keeps: all below n₀, and the text's box -/
def Kept (n₀ Bn : Nat) (s : ByteArray) (W W' : World) : Prop := Below n₀ W W' ∧ (Boxed W Bn 9 (.string s) → Boxed W' Bn 9 (.string s))
theorem kept_t {n₀ Bn : Nat} {s : ByteArray} {A B C : World} (h : Kept n₀ Bn s A B) (k : Kept n₀ Bn s B C) : Kept n₀ Bn s A C := ⟨h.1.trans k.1, fun x => k.2 (h.2 x)⟩
theorem kept_b {n₀ Bn : Nat} {s : ByteArray} {w : World} (hn : n₀ ≤ w.heap.size) (W : World) (l : Nat) (o o' : Obj) (hl : w.heap.size ≤ l) (h : W.heap[l]? = some o) (hc : o.isCells = false) (hw : o.isWalk = false) : Kept n₀ Bn s W (W.putObj l o') :=
  ⟨belowK_b hn W l o o' hl h hc hw, fun x => x.kept (grownBy_putObj' W l o') (fun e => by
    obtain rfl : Bn = l := by simpa using e
    rw [show W.heap[Bn]? = _ from x] at h; cases h; cases hc)⟩

theorem drop_extract (s : ByteArray) (k : Nat) : (s.extract k s.size).data.toList = s.data.toList.drop k := by
  rw [Lib.extract_eq, List.take_of_length_le]
  rw [List.length_drop, len_size]
  omega
theorem size_extract (s : ByteArray) (k : Nat) : (s.extract k s.size).size ≤ s.size := by rw [ByteArray.size_extract]; omega

def vP (x : Nat × Nat) : Value := .agg #[.int .i64 (x.1 : Nat), .int .i64 (x.2 : Nat)]
theorem retV {a b : Int} (h : a = b) : Value.int .i64 a = .int .i64 b := by rw [h]
/-- the words from a byte on -/
def eachL (l : List UInt8) (K : Nat) : List (Nat × Nat) := wdL none K (l.drop K)

theorem each_in (F : Fence) (n : Nat) (hf : F.fn 32) (hro : F.round = none) (s : ByteArray) (at_ : Int) (w : World) :
    CallsIn F n Tryd.prog 32 #[.string s, .int .i64 at_] w fun e w' => e = .returned (.func (.func 40) #[] #[.pointer (some ⟨w.heap.size + 1, 0, none⟩), .pointer (some ⟨w.heap.size, 0, none⟩)]) ∧ w' = (w.alloc (.cells #[.string s] 9)).alloc (.cells #[.int .i64 at_] 3) := by
  refine callsIn_of_wp Tryd.func32 rfl hf ?_ hro
  simp only [Tryd.ntmps32, List.size_toArray, List.length_cons, List.length_nil, Nat.reduceAdd, Nat.reduceSub, Array.replicate_succ, Array.replicate_zero, List.push_toArray, List.append_toArray, List.nil_append, List.cons_append]
  gi_wp2
  go_ret
  exact ⟨by simp, rfl⟩

set_option maxRecDepth 100000 in
set_option maxHeartbeats 2000000 in
theorem each1_low (F : Fence) (n : Nat) (hf : F.fn 40) (hf2 : F.fn 36) (hro : F.round = none) (hn : 1 ≤ n) (l Ba Bn n₀ K : Nat) (s : ByteArray) (at_ : Int) (hK : min (max at_ 0) (s.size : Int) = K) (hs : s.size ≤ 1000000) (hlow : at_ < 0)
    (J Jx : List (Nat × Nat) → World → Prop)
    (hb : ∀ (s : ByteArray) (w : World), s.size ≤ maxLen → CallsIn F (n - 1) Tryd.prog 36 #[.string s, .func (.func 41) #[] #[]] w fun e w' => e = .returned (.int .i64 (spanL blk s.data.toList : Nat)) ∧ w = w')
    (hg : ∀ (s : ByteArray) (w : World), s.size ≤ maxLen → CallsIn F (n - 1) Tryd.prog 36 #[.string s, .func (.func 42) #[] #[]] w fun e w' => e = .returned (.int .i64 (spanL flb s.data.toList : Nat)) ∧ w = w')
    (hY : ∀ pre x W, J pre W → pre.length < (eachL s.data.toList K).length → x.1 < x.2 → x.2 ≤ s.size → YieldAt F (n - 1) Tryd.prog l #[vP x] W fun e W' =>
      (e = .returned (.bool true) ∧ J (pre ++ [x]) W' ∧ Kept n₀ Bn s W W') ∨ (e = .returned (.bool false) ∧ Jx (pre ++ [x]) W'))
    (W : World) (hn0 : n₀ ≤ W.heap.size) (hBa : Boxed W Ba 3 (.int .i64 at_)) (hBn : Boxed W Bn 9 (.string s)) (hJ0 : J [] W) :
    CallsIn F n Tryd.prog 40 #[.func (.yield l) #[] #[], .pointer (some ⟨Ba, 0, none⟩), .pointer (some ⟨Bn, 0, none⟩)] W fun e W' => (∃ v, e = .returned v) ∧
      ((∃ ys, ys = eachL s.data.toList K ∧ J ys W') ∨ (∃ pre, pre <+: eachL s.data.toList K ∧ Jx pre W')) := by
  have HL := Lib.hid (len_size s)
  have hKs : K ≤ s.size := by omega
  have ha := hBa.cell
  have hbn := hBn.cell
  have HKK := Lib.hid hK
  refine callsIn_of_wp Tryd.func40 rfl hf ?_ hro
  simp only [Tryd.ntmps40, List.size_toArray, List.length_cons, List.length_nil, Nat.reduceAdd, Nat.reduceSub, Array.replicate_succ, Array.replicate_zero, List.push_toArray, List.append_toArray, List.nil_append, List.cons_append]
  clear hK
  have d9 : ¬ ((s.size : Int) < 0) := by omega
  gi_wp2
  all_goals
    gi_loopw [4] (fun i wr => ∃ (k : Nat) (pre : List (Nat × Nat)), i = .int .i64 k ∧ k ≤ s.size ∧ eachL s.data.toList K = pre ++ wdL none k (s.data.toList.drop k) ∧ n₀ ≤ wr.heap.size ∧ Boxed wr Bn 9 (.string s) ∧ J pre wr) (fun i _ => s.size - (intOf i).toNat)
    case atStart =>
      have hk := HKK.out
      exact ⟨K, [], retV (by first | omega | (simp_all; omega)), by omega, rfl, hn0, hBn, hJ0⟩
    case round =>
      obtain ⟨k, pre, rfl, hk, hx, hsz, hbx, hJs⟩ := hrel
      have hcell := hbx.cell
      have h1 := Lib.hid (fun w => hb (s.extract k s.size) w (by have := size_extract s k; unfold maxLen; omega))
      rw [drop_extract] at h1
      obtain ⟨b, hbb⟩ : ∃ b, spanL blk (s.data.toList.drop k) = b := ⟨_, rfl⟩
      rw [hbb] at h1
      have h2 := Lib.hid (fun w => hg (s.extract (k + b) s.size) w (by have := size_extract s (k + b); unfold maxLen; omega))
      rw [drop_extract, ← List.drop_drop] at h2
      obtain ⟨m, hmm⟩ : ∃ m, spanL flb ((s.data.toList.drop k).drop b) = m := ⟨_, rfl⟩
      rw [hmm] at h2
      have hle := span_drop_le hbb hmm
      rw [List.length_drop, HL.out] at hle
      have hbm : k + b + m ≤ s.size := by omega
      by_cases hm : m = 0
      · subst hm
        subst hbb
        obtain ⟨e1, e2⟩ := wdL_none_left (i := k) hmm
        rw [e1, List.append_nil] at hx
        have HX := Lib.hid hx
        generalize spanL blk (s.data.toList.drop k) = b at *
        clear hx e1 e2 hmm hle hY hb hg
        gi_wp2_with (gi_at_call 36; first | ((with_reducible refine (h1.out _).mono ?_); rintro e w' ⟨rfl, rfl⟩) | ((with_reducible refine (h2.out _).mono ?_); rintro e w' ⟨rfl, rfl⟩))
        refine ⟨(fun f h => by cases h), ?_⟩
        gi_wp2
        refine bodyPost_ret (results_none rfl _ _ _) rfl ?_
        exact ⟨⟨_, rfl⟩, .inl ⟨_, HX.out.symm, hJs⟩⟩
      · rw [wdL_word hbb hmm (by omega), List.drop_drop, show k + (b + m) = k + b + m by omega] at hx
        have hlen : pre.length < (eachL s.data.toList K).length := by rw [hx]; simp
        have hy0 := fun W h => hY pre (k + b, k + b + m) W h hlen (by simp only; omega) hbm
        simp only [vP, Int.natCast_add] at hy0
        have HY := Lib.hid hy0
        have HX := Lib.hid hx
        have d0 : (((k : Int) + b) == ((k : Int) + b + m)) = false := by simp; omega
        clear hx hY hy0 hlen hbb hmm hb hg
        gi_wp2_with (gi_at_call 36; first | ((with_reducible refine (h1.out _).mono ?_); rintro e w' ⟨rfl, rfl⟩) | ((with_reducible refine (h2.out _).mono ?_); rintro e w' ⟨rfl, rfl⟩; obtain ⟨fn, tmps, assign, body, hy, hR⟩ := HY.out _ hJs))
        refine hR.mono ?_
        rintro e W3 (⟨rfl, hJ3, hk3⟩ | ⟨rfl, hJx3⟩)
        · have hbx3 := hk3.2 hbx
          gi_wp2
          go_roundw
          case rel => exact ⟨k + b + m, pre ++ [(k + b, k + b + m)], by go_num, by omega, by rw [HX.out]; simp, Nat.le_trans hsz hk3.1.size, hbx3, hJ3⟩
          case measure => simp [intOf]; omega
        · gi_wp2
          refine bodyPost_ret (results_none rfl _ _ _) rfl ?_
          exact ⟨⟨_, rfl⟩, .inr ⟨pre ++ [(k + b, k + b + m)], ⟨_, by rw [HX.out, List.append_assoc]; rfl⟩, hJx3⟩⟩

set_option maxRecDepth 100000 in
set_option maxHeartbeats 2000000 in
theorem each1_far (F : Fence) (n : Nat) (hf : F.fn 40) (hf2 : F.fn 36) (hro : F.round = none) (hn : 1 ≤ n) (l Ba Bn n₀ K : Nat) (s : ByteArray) (at_ : Int) (hK : min (max at_ 0) (s.size : Int) = K) (hs : s.size ≤ 1000000) (hfar : (s.size : Int) < at_)
    (J Jx : List (Nat × Nat) → World → Prop)
    (hb : ∀ (s : ByteArray) (w : World), s.size ≤ maxLen → CallsIn F (n - 1) Tryd.prog 36 #[.string s, .func (.func 41) #[] #[]] w fun e w' => e = .returned (.int .i64 (spanL blk s.data.toList : Nat)) ∧ w = w')
    (hg : ∀ (s : ByteArray) (w : World), s.size ≤ maxLen → CallsIn F (n - 1) Tryd.prog 36 #[.string s, .func (.func 42) #[] #[]] w fun e w' => e = .returned (.int .i64 (spanL flb s.data.toList : Nat)) ∧ w = w')
    (hY : ∀ pre x W, J pre W → pre.length < (eachL s.data.toList K).length → x.1 < x.2 → x.2 ≤ s.size → YieldAt F (n - 1) Tryd.prog l #[vP x] W fun e W' =>
      (e = .returned (.bool true) ∧ J (pre ++ [x]) W' ∧ Kept n₀ Bn s W W') ∨ (e = .returned (.bool false) ∧ Jx (pre ++ [x]) W'))
    (W : World) (hn0 : n₀ ≤ W.heap.size) (hBa : Boxed W Ba 3 (.int .i64 at_)) (hBn : Boxed W Bn 9 (.string s)) (hJ0 : J [] W) :
    CallsIn F n Tryd.prog 40 #[.func (.yield l) #[] #[], .pointer (some ⟨Ba, 0, none⟩), .pointer (some ⟨Bn, 0, none⟩)] W fun e W' => (∃ v, e = .returned v) ∧
      ((∃ ys, ys = eachL s.data.toList K ∧ J ys W') ∨ (∃ pre, pre <+: eachL s.data.toList K ∧ Jx pre W')) := by
  have HL := Lib.hid (len_size s)
  have hKs : K ≤ s.size := by omega
  have ha := hBa.cell
  have hbn := hBn.cell
  have HKK := Lib.hid hK
  refine callsIn_of_wp Tryd.func40 rfl hf ?_ hro
  simp only [Tryd.ntmps40, List.size_toArray, List.length_cons, List.length_nil, Nat.reduceAdd, Nat.reduceSub, Array.replicate_succ, Array.replicate_zero, List.push_toArray, List.append_toArray, List.nil_append, List.cons_append]
  clear hK
  have d9 : ¬ (at_ < 0) := by omega
  gi_wp2
  all_goals
    gi_loopw [4] (fun i wr => ∃ (k : Nat) (pre : List (Nat × Nat)), i = .int .i64 k ∧ k ≤ s.size ∧ eachL s.data.toList K = pre ++ wdL none k (s.data.toList.drop k) ∧ n₀ ≤ wr.heap.size ∧ Boxed wr Bn 9 (.string s) ∧ J pre wr) (fun i _ => s.size - (intOf i).toNat)
    case atStart =>
      have hk := HKK.out
      exact ⟨K, [], retV (by first | omega | (simp_all; omega)), by omega, rfl, hn0, hBn, hJ0⟩
    case round =>
      obtain ⟨k, pre, rfl, hk, hx, hsz, hbx, hJs⟩ := hrel
      have hcell := hbx.cell
      have h1 := Lib.hid (fun w => hb (s.extract k s.size) w (by have := size_extract s k; unfold maxLen; omega))
      rw [drop_extract] at h1
      obtain ⟨b, hbb⟩ : ∃ b, spanL blk (s.data.toList.drop k) = b := ⟨_, rfl⟩
      rw [hbb] at h1
      have h2 := Lib.hid (fun w => hg (s.extract (k + b) s.size) w (by have := size_extract s (k + b); unfold maxLen; omega))
      rw [drop_extract, ← List.drop_drop] at h2
      obtain ⟨m, hmm⟩ : ∃ m, spanL flb ((s.data.toList.drop k).drop b) = m := ⟨_, rfl⟩
      rw [hmm] at h2
      have hle := span_drop_le hbb hmm
      rw [List.length_drop, HL.out] at hle
      have hbm : k + b + m ≤ s.size := by omega
      by_cases hm : m = 0
      · subst hm
        subst hbb
        obtain ⟨e1, e2⟩ := wdL_none_left (i := k) hmm
        rw [e1, List.append_nil] at hx
        have HX := Lib.hid hx
        generalize spanL blk (s.data.toList.drop k) = b at *
        clear hx e1 e2 hmm hle hY hb hg
        gi_wp2_with (gi_at_call 36; first | ((with_reducible refine (h1.out _).mono ?_); rintro e w' ⟨rfl, rfl⟩) | ((with_reducible refine (h2.out _).mono ?_); rintro e w' ⟨rfl, rfl⟩))
        refine ⟨(fun f h => by cases h), ?_⟩
        gi_wp2
        refine bodyPost_ret (results_none rfl _ _ _) rfl ?_
        exact ⟨⟨_, rfl⟩, .inl ⟨_, HX.out.symm, hJs⟩⟩
      · rw [wdL_word hbb hmm (by omega), List.drop_drop, show k + (b + m) = k + b + m by omega] at hx
        have hlen : pre.length < (eachL s.data.toList K).length := by rw [hx]; simp
        have hy0 := fun W h => hY pre (k + b, k + b + m) W h hlen (by simp only; omega) hbm
        simp only [vP, Int.natCast_add] at hy0
        have HY := Lib.hid hy0
        have HX := Lib.hid hx
        have d0 : (((k : Int) + b) == ((k : Int) + b + m)) = false := by simp; omega
        clear hx hY hy0 hlen hbb hmm hb hg
        gi_wp2_with (gi_at_call 36; first | ((with_reducible refine (h1.out _).mono ?_); rintro e w' ⟨rfl, rfl⟩) | ((with_reducible refine (h2.out _).mono ?_); rintro e w' ⟨rfl, rfl⟩; obtain ⟨fn, tmps, assign, body, hy, hR⟩ := HY.out _ hJs))
        refine hR.mono ?_
        rintro e W3 (⟨rfl, hJ3, hk3⟩ | ⟨rfl, hJx3⟩)
        · have hbx3 := hk3.2 hbx
          gi_wp2
          go_roundw
          case rel => exact ⟨k + b + m, pre ++ [(k + b, k + b + m)], by go_num, by omega, by rw [HX.out]; simp, Nat.le_trans hsz hk3.1.size, hbx3, hJ3⟩
          case measure => simp [intOf]; omega
        · gi_wp2
          refine bodyPost_ret (results_none rfl _ _ _) rfl ?_
          exact ⟨⟨_, rfl⟩, .inr ⟨pre ++ [(k + b, k + b + m)], ⟨_, by rw [HX.out, List.append_assoc]; rfl⟩, hJx3⟩⟩

set_option maxRecDepth 100000 in
set_option maxHeartbeats 2000000 in
theorem each1_at (F : Fence) (n : Nat) (hf : F.fn 40) (hf2 : F.fn 36) (hro : F.round = none) (hn : 1 ≤ n) (l Ba Bn n₀ K : Nat) (s : ByteArray) (at_ : Int) (hK : min (max at_ 0) (s.size : Int) = K) (hs : s.size ≤ 1000000) (hin : at_ = (K : Int))
    (J Jx : List (Nat × Nat) → World → Prop)
    (hb : ∀ (s : ByteArray) (w : World), s.size ≤ maxLen → CallsIn F (n - 1) Tryd.prog 36 #[.string s, .func (.func 41) #[] #[]] w fun e w' => e = .returned (.int .i64 (spanL blk s.data.toList : Nat)) ∧ w = w')
    (hg : ∀ (s : ByteArray) (w : World), s.size ≤ maxLen → CallsIn F (n - 1) Tryd.prog 36 #[.string s, .func (.func 42) #[] #[]] w fun e w' => e = .returned (.int .i64 (spanL flb s.data.toList : Nat)) ∧ w = w')
    (hY : ∀ pre x W, J pre W → pre.length < (eachL s.data.toList K).length → x.1 < x.2 → x.2 ≤ s.size → YieldAt F (n - 1) Tryd.prog l #[vP x] W fun e W' =>
      (e = .returned (.bool true) ∧ J (pre ++ [x]) W' ∧ Kept n₀ Bn s W W') ∨ (e = .returned (.bool false) ∧ Jx (pre ++ [x]) W'))
    (W : World) (hn0 : n₀ ≤ W.heap.size) (hBa : Boxed W Ba 3 (.int .i64 at_)) (hBn : Boxed W Bn 9 (.string s)) (hJ0 : J [] W) :
    CallsIn F n Tryd.prog 40 #[.func (.yield l) #[] #[], .pointer (some ⟨Ba, 0, none⟩), .pointer (some ⟨Bn, 0, none⟩)] W fun e W' => (∃ v, e = .returned v) ∧
      ((∃ ys, ys = eachL s.data.toList K ∧ J ys W') ∨ (∃ pre, pre <+: eachL s.data.toList K ∧ Jx pre W')) := by
  have HL := Lib.hid (len_size s)
  have hKs : K ≤ s.size := by omega
  have ha := hBa.cell
  have hbn := hBn.cell
  have HKK := Lib.hid hK
  refine callsIn_of_wp Tryd.func40 rfl hf ?_ hro
  simp only [Tryd.ntmps40, List.size_toArray, List.length_cons, List.length_nil, Nat.reduceAdd, Nat.reduceSub, Array.replicate_succ, Array.replicate_zero, List.push_toArray, List.append_toArray, List.nil_append, List.cons_append]
  clear hK
  subst hin
  have d9 : ¬ ((s.size : Int) < K) := by omega
  gi_wp2
  all_goals
    gi_loopw [4] (fun i wr => ∃ (k : Nat) (pre : List (Nat × Nat)), i = .int .i64 k ∧ k ≤ s.size ∧ eachL s.data.toList K = pre ++ wdL none k (s.data.toList.drop k) ∧ n₀ ≤ wr.heap.size ∧ Boxed wr Bn 9 (.string s) ∧ J pre wr) (fun i _ => s.size - (intOf i).toNat)
    case atStart =>
      have hk := HKK.out
      exact ⟨K, [], retV (by first | omega | (simp_all; omega)), by omega, rfl, hn0, hBn, hJ0⟩
    case round =>
      obtain ⟨k, pre, rfl, hk, hx, hsz, hbx, hJs⟩ := hrel
      have hcell := hbx.cell
      have h1 := Lib.hid (fun w => hb (s.extract k s.size) w (by have := size_extract s k; unfold maxLen; omega))
      rw [drop_extract] at h1
      obtain ⟨b, hbb⟩ : ∃ b, spanL blk (s.data.toList.drop k) = b := ⟨_, rfl⟩
      rw [hbb] at h1
      have h2 := Lib.hid (fun w => hg (s.extract (k + b) s.size) w (by have := size_extract s (k + b); unfold maxLen; omega))
      rw [drop_extract, ← List.drop_drop] at h2
      obtain ⟨m, hmm⟩ : ∃ m, spanL flb ((s.data.toList.drop k).drop b) = m := ⟨_, rfl⟩
      rw [hmm] at h2
      have hle := span_drop_le hbb hmm
      rw [List.length_drop, HL.out] at hle
      have hbm : k + b + m ≤ s.size := by omega
      by_cases hm : m = 0
      · subst hm
        subst hbb
        obtain ⟨e1, e2⟩ := wdL_none_left (i := k) hmm
        rw [e1, List.append_nil] at hx
        have HX := Lib.hid hx
        generalize spanL blk (s.data.toList.drop k) = b at *
        clear hx e1 e2 hmm hle hY hb hg
        gi_wp2_with (gi_at_call 36; first | ((with_reducible refine (h1.out _).mono ?_); rintro e w' ⟨rfl, rfl⟩) | ((with_reducible refine (h2.out _).mono ?_); rintro e w' ⟨rfl, rfl⟩))
        refine ⟨(fun f h => by cases h), ?_⟩
        gi_wp2
        refine bodyPost_ret (results_none rfl _ _ _) rfl ?_
        exact ⟨⟨_, rfl⟩, .inl ⟨_, HX.out.symm, hJs⟩⟩
      · rw [wdL_word hbb hmm (by omega), List.drop_drop, show k + (b + m) = k + b + m by omega] at hx
        have hlen : pre.length < (eachL s.data.toList K).length := by rw [hx]; simp
        have hy0 := fun W h => hY pre (k + b, k + b + m) W h hlen (by simp only; omega) hbm
        simp only [vP, Int.natCast_add] at hy0
        have HY := Lib.hid hy0
        have HX := Lib.hid hx
        have d0 : (((k : Int) + b) == ((k : Int) + b + m)) = false := by simp; omega
        clear hx hY hy0 hlen hbb hmm hb hg
        gi_wp2_with (gi_at_call 36; first | ((with_reducible refine (h1.out _).mono ?_); rintro e w' ⟨rfl, rfl⟩) | ((with_reducible refine (h2.out _).mono ?_); rintro e w' ⟨rfl, rfl⟩; obtain ⟨fn, tmps, assign, body, hy, hR⟩ := HY.out _ hJs))
        refine hR.mono ?_
        rintro e W3 (⟨rfl, hJ3, hk3⟩ | ⟨rfl, hJx3⟩)
        · have hbx3 := hk3.2 hbx
          gi_wp2
          go_roundw
          case rel => exact ⟨k + b + m, pre ++ [(k + b, k + b + m)], by go_num, by omega, by rw [HX.out]; simp, Nat.le_trans hsz hk3.1.size, hbx3, hJ3⟩
          case measure => simp [intOf]; omega
        · gi_wp2
          refine bodyPost_ret (results_none rfl _ _ _) rfl ?_
          exact ⟨⟨_, rfl⟩, .inr ⟨pre ++ [(k + b, k + b + m)], ⟨_, by rw [HX.out, List.append_assoc]; rfl⟩, hJx3⟩⟩

set_option maxRecDepth 100000 in
set_option maxHeartbeats 2000000 in
theorem each1_in (F : Fence) (n : Nat) (hf : F.fn 40) (hf2 : F.fn 36) (hro : F.round = none) (hn : 1 ≤ n) (l Ba Bn n₀ K : Nat) (s : ByteArray) (at_ : Int) (hK : min (max at_ 0) (s.size : Int) = K) (hs : s.size ≤ 1000000)
    (J Jx : List (Nat × Nat) → World → Prop)
    (hb : ∀ (s : ByteArray) (w : World), s.size ≤ maxLen → CallsIn F (n - 1) Tryd.prog 36 #[.string s, .func (.func 41) #[] #[]] w fun e w' => e = .returned (.int .i64 (spanL blk s.data.toList : Nat)) ∧ w = w')
    (hg : ∀ (s : ByteArray) (w : World), s.size ≤ maxLen → CallsIn F (n - 1) Tryd.prog 36 #[.string s, .func (.func 42) #[] #[]] w fun e w' => e = .returned (.int .i64 (spanL flb s.data.toList : Nat)) ∧ w = w')
    (hY : ∀ pre x W, J pre W → pre.length < (eachL s.data.toList K).length → x.1 < x.2 → x.2 ≤ s.size → YieldAt F (n - 1) Tryd.prog l #[vP x] W fun e W' =>
      (e = .returned (.bool true) ∧ J (pre ++ [x]) W' ∧ Kept n₀ Bn s W W') ∨ (e = .returned (.bool false) ∧ Jx (pre ++ [x]) W'))
    (W : World) (hn0 : n₀ ≤ W.heap.size) (hBa : Boxed W Ba 3 (.int .i64 at_)) (hBn : Boxed W Bn 9 (.string s)) (hJ0 : J [] W) :
    CallsIn F n Tryd.prog 40 #[.func (.yield l) #[] #[], .pointer (some ⟨Ba, 0, none⟩), .pointer (some ⟨Bn, 0, none⟩)] W fun e W' => (∃ v, e = .returned v) ∧
      ((∃ ys, ys = eachL s.data.toList K ∧ J ys W') ∨ (∃ pre, pre <+: eachL s.data.toList K ∧ Jx pre W')) := by
  have hat : at_ < 0 ∨ (s.size : Int) < at_ ∨ at_ = (K : Int) := by omega
  rcases hat with h | h | h
  · exact each1_low F n hf hf2 hro hn l Ba Bn n₀ K s at_ hK hs h J Jx hb hg hY W hn0 hBa hBn hJ0
  · exact each1_far F n hf hf2 hro hn l Ba Bn n₀ K s at_ hK hs h J Jx hb hg hY W hn0 hBa hBn hJ0
  · exact each1_at F n hf hf2 hro hn l Ba Bn n₀ K s at_ hK hs h J Jx hb hg hY W hn0 hBa hBn hJ0

end Go.Proofs.YtleejfkononjgaaDoor.Wd

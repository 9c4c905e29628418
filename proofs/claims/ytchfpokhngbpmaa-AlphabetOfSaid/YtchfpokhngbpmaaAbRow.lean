/- A row's number at a byte; the bytes of a class. -/
import Derived.Test.YtchfpokhngbpmaaAbPlain
import Derived.Test.YtchfpokhngbpmaaInts
import Derived.Lib.Hide
import Derived.Maps.AppendAt
import Derived.Laws.OwnMore
namespace Go.Proofs.Ytchfpokhngbpmaa.Ab
open Go.RowKit

theorem num_in {l : List Int} {i : Nat} (h : i < l.length) : num l i = l.getD i 0 := by simp [num, List.getD, h]
theorem num_out {l : List Int} {i : Nat} (h : l.length ≤ i) : num l i = -1 := by simp [num, List.getD, h]

set_option maxRecDepth 100000 in
theorem at_any (v : Value) (l : List Int) (i : Nat) (w : World) (h : IntsAt w v l) :
    Calls Try.prog 20 #[v, .int .i64 i] w fun e w' => e = .returned (.int .i64 (num l i)) ∧ w' = w := by
  obtain ⟨ao, cap, rfl, hm, hc⟩ := h.shape
  by_cases hlt : i < l.length
  · obtain ⟨ad, rfl, hcell⟩ := hc i hlt
    rw [num_in hlt]
    clear hc h
    generalize l.getD i 0 = x at *
    go_enter Try.func20, Try.ntmps20
    go_wp2
    go_ret
    exact ⟨rfl, rfl⟩
  · rw [num_out (by omega)]
    clear hc h
    go_enter Try.func20, Try.ntmps20
    go_wp2
    go_ret
    exact ⟨rfl, rfl⟩

set_option maxRecDepth 100000 in
theorem number_any (v : Value) (l : List Int) (i : Nat) (w : World) (h : IntsAt w v l) :
    Calls Try.prog 21 #[v, .int .i64 i] w fun e w' => e = .returned (.int .i64 (num l i)) ∧ w' = w := by
  obtain ⟨ao, cap, rfl, hm, hc⟩ := h.shape
  by_cases hlt : i < l.length
  · obtain ⟨ad, rfl, hcell⟩ := hc i hlt
    rw [num_in hlt]
    clear hc h
    generalize l.getD i 0 = x at *
    go_enter Try.func21, Try.ntmps21
    go_wp2
    go_ret
    exact ⟨rfl, rfl⟩
  · rw [num_out (by omega)]
    clear hc h
    go_enter Try.func21, Try.ntmps21
    go_wp2
    go_ret
    exact ⟨rfl, rfl⟩

/-- a row of numbers that the call owns -/
abbrev Row (w : World) (B : Nat) (v : Value) (l : List Int) : Prop := w.ownsRow B 3 1 v l.length (l.map (Value.int .i64))
/-- one number more -/
theorem Row.app {w0 wr w2 : World} {v v2 : Value} {l : List Int} {c : Int} {o : Obj} (hrow : Row wr w0.heap.size v l) (hb : Below w0.heap.size w0 wr) (hown : w2.ownsRow w0.heap.size 3 1 v2 (l.length + 1) (l.map (Value.int .i64) ++ [.int .i64 c])) (hg : (wr.alloc o).grownBy w2 v.ownBlock) :
    Row w2 w0.heap.size v2 (l ++ [c]) ∧ Below w0.heap.size w0 w2 := by
  refine ⟨by simpa [Row] using hown, ?_⟩
  have hsz := hb.size
  exact (hb.alloc hsz o).grown hg (by simp; omega) fun k hk => (World.ownsRow.lt hrow k hk).1

set_option maxRecDepth 100000 in
set_option maxHeartbeats 1000000 in
theorem bytes_any (v : Value) (l : List Int) (c : Int) (w : World) (h : IntsAt w v l) :
    Calls Try.prog 15 #[v, .int .i64 c] w fun e w' => ∃ v', e = .returned v' ∧ IntsAt w' v' (bytesA l c) ∧ Below w.heap.size w w' := by
  obtain ⟨i0, hi, hz0, hz1, hz2⟩ := info_parts infoI
  obtain ⟨ao, cap, rfl, hm, hc⟩ := h.shape
  have HC := Lib.hid hc
  clear hc h
  obtain ⟨m, hmm⟩ : ∃ m, m = min l.length 256 := ⟨_, rfl⟩
  have hA : bytesA l c = bytesL l c m := by rw [hmm]; rfl
  have hm1 : m ≤ 256 := by omega
  have hm2 : m ≤ l.length := by omega
  have HM := Lib.hid hmm
  have HA := Lib.hid hA
  clear hmm hA
  have hend : (256 < (l.length : Int) ∧ 256 ≤ m) ∨ (¬ 256 < (l.length : Int) ∧ l.length ≤ m) := by have := HM.out; omega
  rcases hend with ⟨hb, hm3⟩ | ⟨hb, hm3⟩
  all_goals (
    go_enter Try.func15, Try.ntmps15
    go_wp2
    go_loopw [5, 10] (fun x i wr => ∃ k : Nat, k ≤ m ∧ i = .int .i64 k ∧ Row wr w.heap.size x (bytesL l c k) ∧ Below w.heap.size w wr) (fun _ i _ => m - (intOf i).toNat)
    case atStart => exact ⟨0, by omega, rfl, World.ownsRow_nil _ _ _ _, Below.refl _ _⟩
    case round =>
      obtain ⟨k, hk, rfl, hrow, hbw⟩ := hrel
      by_cases hlt : k < m
      · have hbl := bytesL_len l c k
        have HS := Lib.hid (bytesL_succ l c k)
        obtain ⟨ad, rfl, hcell0⟩ := HC.out k (by omega)
        have hcell := cell_next hcell0 hbw
        clear hcell0
        have hsz := hbw.size
        generalize l.getD k 0 = x at *
        generalize bytesL l c k = pre at *
        go_wp2_with (at_builtin; refine wpList_append_own _ rfl _ _ 24 rfl w.heap.size 3 i0 (.int .i64 0) 1 8 Try.underlying24 hi hz0 hz1 hz2 rfl (by decide) _ _ _ rfl (hrow.alloc _) ⟨wr.heap.size, 0, none⟩ 1 1 [.int .i64 (k : Int)] rfl rfl (cell_one_new _ _ _) (by simp [Value.oneCell']) (by unfold maxLen; omega) (by omega) (by simp; omega) ?_; intro v' w2 hown' hgrow _)
        · have he : (x == c) = true := by assumption
          have hz := HS.out
          rw [if_pos (by simpa using he)] at hz
          have hr := Row.app hrow hbw hown' hgrow
          rw [← hz] at hr
          clear hown' hgrow hrow hz
          have HR := Lib.hid hr
          clear hr
          go_wp2
          go_roundw
          case rel => exact ⟨k + 1, by omega, by go_num, HR.out.1, HR.out.2⟩
          case measure => simp [intOf]; omega
        · have he : (x == c) = false := by assumption
          have hz := HS.out
          rw [if_neg (by simpa using he)] at hz
          rw [← hz] at hrow
          clear hz
          have HR := Lib.hid hrow
          clear hrow
          go_wp2
          go_roundw
          case rel => exact ⟨k + 1, by omega, by go_num, HR.out, hbw⟩
          case measure => simp [intOf]; omega
      · obtain rfl : k = m := by omega
        rw [← HA.out] at hrow
        have HR := Lib.hid hrow
        clear hrow
        go_wp2
        go_ret
        exact ⟨_, rfl, ints_of_row HR.out, hbw⟩)

set_option maxRecDepth 100000 in
set_option maxHeartbeats 1000000 in
theorem rbytes_any (v : Value) (l : List Int) (c : Int) (w : World) (h : IntsAt w v l) :
    Calls Try.prog 16 #[v, .int .i64 c] w fun e w' => ∃ v', e = .returned v' ∧ IntsAt w' v' (bytesA l c) ∧ Below w.heap.size w w' := by
  obtain ⟨i0, hi, hz0, hz1, hz2⟩ := info_parts infoI
  obtain ⟨ao, cap, rfl, hm, hc⟩ := h.shape
  have HC := Lib.hid hc
  clear hc h
  obtain ⟨m, hmm⟩ : ∃ m, m = min l.length 256 := ⟨_, rfl⟩
  have hA : bytesA l c = bytesL l c m := by rw [hmm]; rfl
  have hm1 : m ≤ 256 := by omega
  have hm2 : m ≤ l.length := by omega
  have hm3 : l.length ≤ m ∨ 256 ≤ m := by omega
  have HM := Lib.hid hmm
  have HA := Lib.hid hA
  clear hmm hA
  go_enter Try.func16, Try.ntmps16
  go_wp2
  go_loopw [5, 6] (fun x i wr => ∃ k : Nat, k ≤ m ∧ i = .int .i64 k ∧ Row wr w.heap.size x (bytesL l c k) ∧ Below w.heap.size w wr) (fun _ i _ => m - (intOf i).toNat)
  case atStart => exact ⟨0, by omega, rfl, World.ownsRow_nil _ _ _ _, Below.refl _ _⟩
  case round =>
    obtain ⟨k, hk, rfl, hrow, hbw⟩ := hrel
    by_cases hlt : k < m
    · have hbl := bytesL_len l c k
      have HS := Lib.hid (bytesL_succ l c k)
      obtain ⟨ad, rfl, hcell0⟩ := HC.out k (by omega)
      have hcell := cell_next hcell0 hbw
      clear hcell0
      have hsz := hbw.size
      generalize l.getD k 0 = x at *
      generalize bytesL l c k = pre at *
      go_wp2_with (at_builtin; refine wpList_append_own _ rfl _ _ 24 rfl w.heap.size 3 i0 (.int .i64 0) 1 8 Try.underlying24 hi hz0 hz1 hz2 rfl (by decide) _ _ _ rfl (hrow.alloc _) ⟨wr.heap.size, 0, none⟩ 1 1 [.int .i64 (k : Int)] rfl rfl (cell_one_new _ _ _) (by simp [Value.oneCell']) (by unfold maxLen; omega) (by omega) (by simp; omega) ?_; intro v' w2 hown' hgrow _)
      · have he : (x == c) = true := by assumption
        have hz := HS.out
        rw [if_pos (by simpa using he)] at hz
        have hr := Row.app hrow hbw hown' hgrow
        rw [← hz] at hr
        clear hown' hgrow hrow hz
        have HR := Lib.hid hr
        clear hr
        go_wp2
        go_roundw
        case rel => exact ⟨k + 1, by omega, by go_num, HR.out.1, HR.out.2⟩
        case measure => simp [intOf]; omega
      · have he : (x == c) = false := by assumption
        have hz := HS.out
        rw [if_neg (by simpa using he)] at hz
        rw [← hz] at hrow
        clear hz
        have HR := Lib.hid hrow
        clear hrow
        go_wp2
        go_roundw
        case rel => exact ⟨k + 1, by omega, by go_num, HR.out, hbw⟩
        case measure => simp [intOf]; omega
    · obtain rfl : k = m := by omega
      rw [← HA.out] at hrow
      have HR := Lib.hid hrow
      clear hrow
      by_cases hll : l.length ≤ k
      · go_wp2
        go_ret
        exact ⟨_, rfl, ints_of_row HR.out, hbw⟩
      · have h256 : 256 ≤ k := by omega
        go_wp2
        go_ret
        exact ⟨_, rfl, ints_of_row HR.out, hbw⟩

end Go.Proofs.Ytchfpokhngbpmaa.Ab

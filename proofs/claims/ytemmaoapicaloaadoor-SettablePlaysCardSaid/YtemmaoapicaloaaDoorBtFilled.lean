/- The words in which something is, each with its place. -/
import Derived.Test.YtemmaoapicaloaaDoorBtRange
import Derived.Test.YtemmaoapicaloaaDoorBtMem
import Derived.RangeFuncCalls
import Derived.RangeFuncBox
import Derived.Shelf.RegionOpen
import Derived.OwnWalkIn
import Derived.TacticsInMore
import Derived.LoopNIn
import Derived.LoopIn
namespace Go.Proofs.YtemmaoapicaloaaDoor.Bt
open Go.RowKit Go.Shelf

attribute [local go_sem] Oper.semAt_some

/-- the words that are not 0, each with its place -/
def fromL : Nat → List Nat → List (Nat × Nat)
  | _, [] => []
  | k, x :: t => if x = 0 then fromL (k + 1) t else (k, x) :: fromL (k + 1) t
def encP (x : Nat × Nat) : Array Value := #[.int .i64 (x.1 : Nat), .int .u64 (x.2 : Nat)]
/-- the words lie where the slice says -/
def Rd (ao : Option Addr) (L : List Nat) (W : World) : Prop := ∀ i, i < L.length → ∃ g, ao = some ⟨g, 0, none⟩ ∧ W.cell? ⟨g, i, none⟩ = some (.int .u64 (L.getD i 0 : Nat))

theorem from_step {L : List Nat} {k : Nat} (h : k < L.length) : fromL k (L.drop k) = if L.getD k 0 = 0 then fromL (k + 1) (L.drop (k + 1)) else (k, L.getD k 0) :: fromL (k + 1) (L.drop (k + 1)) := by
  rw [List.drop_eq_getElem_cons h]
  have e : L.getD k 0 = L[k] := by simp [List.getD, h]
  rw [e]
  rfl

set_option maxRecDepth 100000 in
set_option maxHeartbeats 2000000 in
theorem filled_seq (room : Nat) (v : Value) (L : List Nat) (ao : Option Addr) (cap : Nat) (hv : v = .slice ao L.length cap) (hL : L.length ≤ 1024) (W : World) :
    Seq Tryd.prog 28 (setV room v) encP (fromL 0 L) (Rd ao L) W := by
  intro l J Jx hl hJ hJx hR hY hJ0
  subst hv
  unfold setV
  have HY := Lib.hid hY
  have HR := Lib.hid hR
  have J0 := Lib.hid (hJ.alloc (.cells #[.int .i64 (room : Nat), .slice ao L.length cap] 34) hJ0)
  clear hY hR hJ0
  refine (callsIn_wide (n := 5)).1 (callsIn_of_wp Tryd.func28 rfl trivial ?_ rfl)
  simp only [Tryd.ntmps28, List.size_toArray, List.length_cons, List.length_nil, Nat.reduceAdd, Nat.reduceSub, Array.replicate_succ, Array.replicate_zero, List.push_toArray, List.append_toArray, List.nil_append, List.cons_append]
  gi_wp2
  gi_loopw [9] (fun i wr => ∃ (k : Nat) (pre : List (Nat × Nat)), i = .int .i64 k ∧ k ≤ L.length ∧ fromL 0 L = pre ++ fromL k (L.drop k) ∧ J pre wr) (fun i _ => L.length - (intOf i).toNat)
  case atStart => exact ⟨0, [], rfl, by omega, rfl, J0.out⟩
  case round =>
    obtain ⟨k, pre, rfl, hk, hx, hJs⟩ := hrel
    by_cases hlt : k < L.length
    · obtain ⟨g, rfl, hcell⟩ := HR.out pre _ hJs k hlt
      rw [from_step hlt] at hx
      by_cases h0 : L.getD k 0 = 0
      · rw [if_pos h0] at hx
        rw [h0] at hcell
        have HX := Lib.hid hx
        clear hx h0
        gi_wp2
        refine ⟨(fun f h => by cases h), ?_⟩
        gi_wp2
        go_roundw
        case rel => exact ⟨k + 1, pre, by go_num, by omega, HX.out, hJs⟩
        case measure => simp [intOf]; omega
      · rw [if_neg h0] at hx
        generalize L.getD k 0 = x at *
        have d0 : ((x : Int) == 0) = false := by simp; omega
        obtain ⟨fn, tmps, assign, body, hy, hRR⟩ := yield_any (m' := 5 - 1) (HY.out pre (k, x) _ hJs ⟨fromL (k + 1) (L.drop (k + 1)), by rw [hx]; simp⟩)
        simp only [encP] at hy
        have HX := Lib.hid hx
        clear hx
        gi_wp2
        refine hRR.mono ?_
        rintro e W3 (⟨rfl, hJ3⟩ | ⟨rfl, hJx3⟩)
        · gi_wp2
          go_roundw
          case rel => exact ⟨k + 1, pre ++ [(k, x)], by go_num, by omega, by rw [HX.out]; simp, hJ3⟩
          case measure => simp [intOf]; omega
        · gi_wp2
          refine bodyPost_ret (results_none rfl _ _ _) rfl ?_
          exact ⟨⟨_, rfl⟩, .inr ⟨pre ++ [(k, x)], ⟨_, by rw [HX.out, List.append_assoc]; rfl⟩, hJx3⟩⟩
    · obtain rfl : k = L.length := by omega
      rw [List.drop_length] at hx
      have e : pre = fromL 0 L := by rw [hx]; simp [fromL]
      clear hx
      subst e
      gi_wp2
      refine bodyPost_end (results_none rfl _ _ _) rfl ?_
      exact ⟨⟨_, rfl⟩, .inl hJs⟩

end Go.Proofs.YtemmaoapicaloaaDoor.Bt

/- Slices cloned: nodes, ranges. -/
import Derived.Test.YtdgpanofehfjdaaArKx
import Derived.Laws.AppendOwn
import Derived.Lib.SliceRun
import Derived.OwnWalk
namespace Go.Proofs.Ytdgpanofehfjdaa.Ar
open Go Go.RowKit Go.Shelf
open Go.Proofs.Ytdgpanofehfjdaa.Rg (R RngsAt RowsAt nthL add_zero own_next RowsOwn flatR flatR_len flatR_one flatR_cells add_pair infoR)

theorem add_next (a : Addr) (m o : Nat) : a.add (m + (o + 1)) = ⟨(a.add m).block, (a.add m).off + (o + 1), none⟩ := by
  unfold Addr.add
  by_cases h : m = 0
  · simp [h]
  · simp [h]; omega
/-- the cells of nodes that are read somewhere -/
theorem nodes_cells {w : World} {a : Addr} {l : List Nd} (h : ∀ i, i < l.length → NodeAt w (a.add (i * 6)) (nd l i)) : ∀ j u, (flatN l)[j]? = some u → w.cell? (a.add j) = some u := by
  intro j u hu
  have hj : j < (flatN l).length := by
    rcases Nat.lt_or_ge j (flatN l).length with h' | h'
    · exact h'
    · rw [List.getElem?_eq_none h'] at hu; cases hu
  rw [flatN_len] at hj
  have hi : j / 6 < l.length := by omega
  obtain ⟨i, hi'⟩ : ∃ i, i = j / 6 := ⟨_, rfl⟩
  obtain ⟨o, ho'⟩ : ∃ o, o = j % 6 := ⟨_, rfl⟩
  have ho : o < 6 := by omega
  have e : j = i * 6 + o := by omega
  rw [← hi'] at hi
  clear hi' ho'
  subst e
  obtain ⟨h0, h1, h2, h3, h4, h5⟩ := flatN_at l i hi
  have hn := h i hi
  have hc : o = 0 ∨ o = 1 ∨ o = 2 ∨ o = 3 ∨ o = 4 ∨ o = 5 := by omega
  rcases hc with rfl | rfl | rfl | rfl | rfl | rfl
  · rw [Nat.add_zero] at hu ⊢; rw [h0] at hu; cases hu; exact hn.c0
  · rw [h1] at hu; cases hu; rw [add_next]; exact hn.c1
  · rw [h2] at hu; cases hu; rw [add_next]; exact hn.c2
  · rw [h3] at hu; cases hu; rw [add_next]; exact hn.c3
  · rw [h4] at hu; cases hu; rw [add_next]; exact hn.c4
  · rw [h5] at hu; cases hu; rw [add_next]; exact hn.c5
theorem rngs_cells {w : World} {a : Addr} {l : List R} (hc : ∀ i, i < l.length → w.cell? (a.add (i * 2)) = some (.int .i64 (Rg.nth l i).1) ∧ w.cell? ⟨(a.add (i * 2)).block, (a.add (i * 2)).off + 1, none⟩ = some (.int .i64 (Rg.nth l i).2)) : ∀ j u, (flatR l)[j]? = some u → w.cell? (a.add j) = some u := by
  intro j u hj
  obtain ⟨i, hil, ⟨rfl, rfl⟩ | ⟨rfl, rfl⟩⟩ := flatR_cells hj
  · exact (hc i hil).1
  · rw [add_pair]; exact (hc i hil).2

/-- a clone: a slice of the call's own -/
def ClonedN (l : List Nd) (w : World) (e : Ending) (w' : World) : Prop := ∃ v, e = .returned v ∧ NRow w' w.heap.size v l ∧ Below w.heap.size w w'
def ClonedR (l : List R) (w : World) (e : Ending) (w' : World) : Prop := ∃ v, e = .returned v ∧ w'.ownsRow w.heap.size 55 2 v l.length (flatR l) ∧ Below w.heap.size w w'

set_option maxRecDepth 100000 in
set_option maxHeartbeats 2000000 in
theorem clone_nodes (l : List Nd) (v : Value) (w : World) (h : NodesAt w v l) (hl : l.length ≤ 1000000) : Calls Try.prog 48 #[v] w (ClonedN l w) := by
  obtain ⟨i0, hi, hz0, hz1, hz2⟩ := info_parts infoN
  have q : ∀ (w : World) (a : Option Addr) (n c n' c' : Nat), (binOp .eql 22 (.slice a n c) (.slice none n' c')).run Try.prog w = .ok (.bool a.isNone) w := fun w a n c n' c' => Lib.run_eql_slice_nil w _ _ a n c n' c' Try.underlying22
  rcases h with ⟨rfl, rfl⟩ | ⟨a, cap, rfl, hm, hc⟩
  · go_enter Try.func48, Try.ntmps48
    go_wp2
    go_ret
    exact ⟨_, rfl, World.ownsRow_nil _ _ _ _, Below.refl _ _⟩
  · have HC := Lib.hid (nodes_cells hc)
    clear hc
    have hlen := flatN_len l
    have HLEN := Lib.hid hlen
    clear hlen
    generalize hnl : l.length = n at *
    have HN := Lib.hid hnl
    clear hnl
    go_enter Try.func48, Try.ntmps48
    go_wp2_with (at_builtin; refine wpList_append_own _ rfl _ _ 22 rfl w.heap.size 41 i0 (.agg #[.int .i64 0, .int .i64 0, .int .i64 0, .int .i64 0, .int .i64 0, .int .i64 0]) 6 48 Try.underlying22 hi hz0 hz1 hz2 rfl (by decide) (.slice (some ⟨w.heap.size, 0, none⟩) 0 0) 0 [] rfl (World.ownsRow_made w #[] 0 (Nat.le_refl _) (Nat.zero_le _) (by simp)) a n cap (flatN l) rfl HLEN.out (fun j u hj => cell_next (HC.out j u hj) ((Below.refl _ _).alloc (Nat.le_refl _) _)) flatN_one (by unfold maxLen; omega) (by omega) (by simp) ?_; intro v' w1 hown hgrow _)
    go_wp2
    go_ret
    refine ⟨v', rfl, ?_, ((Below.refl _ w).alloc (Nat.le_refl _) _).grown hgrow (by simp) (by intro k hk; simp [Value.ownBlock] at hk; omega)⟩
    rw [show NRow w1 w.heap.size v' l = w1.ownsRow w.heap.size 41 6 v' n (flatN l) by unfold NRow; rw [HN.out]]
    simpa using hown

set_option maxRecDepth 100000 in
set_option maxHeartbeats 2000000 in
theorem clone_rngs (l : List R) (v : Value) (w : World) (h : RngsAt w v l) (hl : l.length ≤ 1000000) : Calls Try.prog 49 #[v] w (ClonedR l w) := by
  obtain ⟨i0, hi, hz0, hz1, hz2⟩ := info_parts infoR
  have q : ∀ (w : World) (a : Option Addr) (n c n' c' : Nat), (binOp .eql 37 (.slice a n c) (.slice none n' c')).run Try.prog w = .ok (.bool a.isNone) w := fun w a n c n' c' => Lib.run_eql_slice_nil w _ _ a n c n' c' Try.underlying37
  rcases h with ⟨rfl, rfl⟩ | ⟨a, cap, rfl, hm, hc⟩
  · go_enter Try.func49, Try.ntmps49
    go_wp2
    go_ret
    exact ⟨_, rfl, World.ownsRow_nil _ _ _ _, Below.refl _ _⟩
  · have HC := Lib.hid (rngs_cells hc)
    clear hc
    have hlen := flatR_len l
    have HLEN := Lib.hid hlen
    clear hlen
    generalize hnl : l.length = n at *
    have HN := Lib.hid hnl
    clear hnl
    go_enter Try.func49, Try.ntmps49
    go_wp2_with (at_builtin; refine wpList_append_own _ rfl _ _ 37 rfl w.heap.size 55 i0 (.agg #[.int .i64 0, .int .i64 0]) 2 16 Try.underlying37 hi hz0 hz1 hz2 rfl (by decide) (.slice (some ⟨w.heap.size, 0, none⟩) 0 0) 0 [] rfl (World.ownsRow_made w #[] 0 (Nat.le_refl _) (Nat.zero_le _) (by simp)) a n cap (flatR l) rfl HLEN.out (fun j u hj => cell_next (HC.out j u hj) ((Below.refl _ _).alloc (Nat.le_refl _) _)) flatR_one (by unfold maxLen; omega) (by omega) (by simp) ?_; intro v' w1 hown hgrow _)
    go_wp2
    go_ret
    refine ⟨v', rfl, ?_, ((Below.refl _ w).alloc (Nat.le_refl _) _).grown hgrow (by simp) (by intro k hk; simp [Value.ownBlock] at hk; omega)⟩
    rw [HN.out]
    simpa using hown

end Go.Proofs.Ytdgpanofehfjdaa.Ar

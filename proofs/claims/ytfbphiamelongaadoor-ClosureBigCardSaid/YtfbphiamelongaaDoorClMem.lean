/- Automata in memory; thompson's looks at one state. -/
import Derived.Test.YtfbphiamelongaaDoorClPlain
import Derived.Lib.Hide
namespace Go.Proofs.YtfbphiamelongaaDoor.Cl
open Go Go.RowKit

/-- five cells from an address on -/
structure StIn (w : World) (g : Addr) (s : St) (eo : Option Addr) (ec : Nat) : Prop where
  c0 : w.cell? g = some (.int .i64 s.lo)
  c1 : w.cell? ⟨g.block, g.off + 1, none⟩ = some (.int .i64 s.hi)
  c2 : w.cell? ⟨g.block, g.off + 2, none⟩ = some (.int .i64 s.to)
  c3 : w.cell? ⟨g.block, g.off + 3, none⟩ = some (.slice eo s.eps.length ec)
  c4 : w.cell? ⟨g.block, g.off + 4, none⟩ = some (.int .i64 s.tag)
  ep : IntsAt w (.slice eo s.eps.length ec) s.eps
theorem StIn.next {w w' : World} {g : Addr} {s : St} {eo : Option Addr} {ec : Nat} (h : StIn w g s eo ec) (hb : Below w.heap.size w w') : StIn w' g s eo ec :=
  ⟨cell_next h.c0 hb, cell_next h.c1 hb, cell_next h.c2 hb, cell_next h.c3 hb, cell_next h.c4 hb, h.ep.next hb⟩
/-- a state as a value -/
def stV (s : St) (eo : Option Addr) (ec : Nat) : Value := .agg #[.int .i64 s.lo, .int .i64 s.hi, .int .i64 s.to, .slice eo s.eps.length ec, .int .i64 s.tag]
/-- a slice that reads as these states -/
def StsAt (w : World) (v : Value) (l : List St) : Prop :=
  (v = .slice none 0 0 ∧ l = []) ∨ ∃ (a : Addr) (cap : Nat), v = .slice (some a) l.length cap ∧ l.length ≤ maxLen ∧ ∀ i, i < l.length → ∃ eo ec, StIn w (a.add (i * 5)) (st l i) eo ec
theorem StsAt.next {w w' : World} {v : Value} {l : List St} (h : StsAt w v l) (hb : Below w.heap.size w w') : StsAt w' v l := by
  rcases h with h | ⟨a, cap, hv, hm, hc⟩
  · exact .inl h
  · exact .inr ⟨a, cap, hv, hm, fun i hi => by obtain ⟨eo, ec, h⟩ := hc i hi; exact ⟨eo, ec, h.next hb⟩⟩
theorem StsAt.shape {w : World} {v : Value} {l : List St} (h : StsAt w v l) :
    ∃ (ao : Option Addr) (cap : Nat), v = .slice ao l.length cap ∧ l.length ≤ 9223372036854775807 ∧ ∀ i, i < l.length → ∃ g, ao = some g ∧ ∃ eo ec, StIn w (g.add (i * 5)) (st l i) eo ec := by
  rcases h with ⟨rfl, rfl⟩ | ⟨a, cap, hv, hm, hc⟩
  · exact ⟨none, 0, rfl, by simp, fun i hi => by simp at hi⟩
  · exact ⟨some a, cap, hv, by unfold maxLen at hm; omega, fun i hi => ⟨a, rfl, hc i hi⟩⟩
/-- an automaton as a value -/
def nfaV (a : Int) (sv : Value) : Value := .agg #[.int .i64 a, sv]
def NfaAt (w : World) (v : Value) (a : Int) (l : List St) : Prop := ∃ sv, v = nfaV a sv ∧ StsAt w sv l
theorem NfaAt.next {w w' : World} {v : Value} {a : Int} {l : List St} (h : NfaAt w v a l) (hb : Below w.heap.size w w') : NfaAt w' v a l := by
  obtain ⟨sv, e, h⟩ := h
  exact ⟨sv, e, h.next hb⟩
/-- a box that holds these cells -/
structure BoxC (W : World) (b : Nat) (c : Array Value) : Prop where
  cell : ∀ j v, c[j]? = some v → W.cell? ⟨b, j, none⟩ = some v
theorem BoxC.new (w : World) (c : Array Value) (t : TypeId) : BoxC (w.alloc (.cells c t)) w.heap.size c := ⟨fun j v h => by rw [World.cell?_alloc_new]; exact h⟩
theorem BoxC.next {W W' : World} {b : Nat} {c : Array Value} (h : BoxC W b c) (hb : Below W.heap.size W W') : BoxC W' b c := ⟨fun j v hj => cell_next (h.cell j v hj) hb⟩
theorem add_zero (g : Nat) (i : Nat) : (⟨g, 0, none⟩ : Addr).add i = ⟨g, i, none⟩ := by
  unfold Addr.add; split
  · rename_i h0; subst h0; rfl
  · simp

theorem at_kept {w w' : World} {b : Nat} {o : Obj} {row : Option Nat} (h : w.heap[b]? = some o) (hg : w.grownBy w' row) (hne : row = none ∨ row ≠ some b) : w'.heap[b]? = some o :=
  (hg.block b (Array.getElem?_eq_some_iff.1 h).1 (fun e => by
    rcases hne with h4 | h4
    · rw [h4] at e; cases e
    · exact h4 e.symm)).trans h
theorem at_next {w w' : World} {b : Nat} {o : Obj} (h : w.heap[b]? = some o) (hb : Below w.heap.size w w') : w'.heap[b]? = some o := (hb.block b (Array.getElem?_eq_some_iff.1 h).1).trans h
theorem at_cell {w : World} {b : Nat} {cs : Array Value} {t : TypeId} (h : w.heap[b]? = some (.cells cs t (0, 0))) (j : Nat) : w.cell? ⟨b, j, none⟩ = cs[j]? := by simp [World.cell?, h]
theorem at_froz {w : World} {b : Nat} {cs : Array Value} {t : TypeId} (h : w.heap[b]? = some (.cells cs t (0, 0))) (j : Nat) : w.frozen? ⟨b, j, none⟩ = false := by simp [World.frozen?, h]
theorem at_new (w : World) (o : Obj) : (w.alloc o).heap[w.heap.size]? = some o := World.alloc_heap_new w o

theorem retB {a b : Bool} (h : a = b) : Ending.returned (.bool a) = .returned (.bool b) := by rw [h]
theorem retI {a b : Int} (h : a = b) : Ending.returned (.int .i64 a) = .returned (.int .i64 b) := by rw [h]

theorem has_any (a : Int) (ao : Option Addr) (n cap : Nat) (i : Int) (w : World) : Calls Tryd.prog 54 #[.agg #[.int .i64 a, .slice ao n cap], .int .i64 i] w fun e w' => e = .returned (.bool (hasB n i)) ∧ w' = w.alloc (.cells #[.int .i64 a, .slice ao n cap] 24) := by
  by_cases h0 : 0 ≤ i
  · by_cases h1 : i < n
    · have HZ : Hid (hasB n i = true) := Lib.hid (hasB_iff.2 ⟨h0, h1⟩)
      go_enter Tryd.func54, Tryd.ntmps54
      go_wp2
      go_ret
      exact ⟨retB HZ.out.symm, rfl⟩
    · have HZ : Hid (hasB n i = false) := Lib.hid (Bool.eq_false_iff.2 fun h => h1 (hasB_iff.1 h).2)
      go_enter Tryd.func54, Tryd.ntmps54
      go_wp2
      go_ret
      exact ⟨retB HZ.out.symm, rfl⟩
  · have HZ : Hid (hasB n i = false) := Lib.hid (Bool.eq_false_iff.2 fun h => h0 (hasB_iff.1 h).1)
    go_enter Tryd.func54, Tryd.ntmps54
    go_wp2
    go_ret
    exact ⟨retB HZ.out.symm, rfl⟩

theorem goes_any (a : Int) (ao : Option Addr) (n cap : Nat) (s : St) (eo : Option Addr) (ec : Nat) (w : World) : Calls Tryd.prog 53 #[.agg #[.int .i64 a, .slice ao n cap], stV s eo ec] w fun e w' => e = .returned (.bool (goesB n s)) ∧ Below w.heap.size w w' := by
  have H := Lib.hid (fun W => has_any a ao n cap s.to W)
  have G : Hid (∀ b, (if s.lo = -1 then decide (s.hi = -1) && decide (s.to = -1) else decide (0 ≤ s.lo) && decide (s.lo ≤ s.hi) && decide (s.hi ≤ 255) && hasB n s.to) = b → Ending.returned (.bool b) = .returned (.bool (goesB n s))) := Lib.hid (fun b h => by rw [← h]; rfl)
  generalize hasB n s.to = q at *
  generalize goesB n s = R at *
  have hB1 := (Below.refl w.heap.size w).alloc (Nat.le_refl _) (.cells #[.int .i64 a, .slice ao n cap] 24)
  have hB2 := Lib.hid (hB1.alloc hB1.size (.cells #[.int .i64 s.lo, .int .i64 s.hi, .int .i64 s.to, .slice eo s.eps.length ec, .int .i64 s.tag] 56))
  clear hB1
  unfold stV
  generalize s.lo = x0 at *
  generalize s.hi = x1 at *
  generalize s.to = x2 at *
  generalize s.tag = x4 at *
  generalize s.eps.length = en at *
  by_cases h : x0 = -1
  · subst h
    by_cases h1 : x1 = -1
    · subst h1
      go_enter Tryd.func53, Tryd.ntmps53
      go_wp2
      go_ret
      exact ⟨G.out _ (by rw [Bool.eq_iff_iff]; simp), hB2.out⟩
    · go_enter Tryd.func53, Tryd.ntmps53
      go_wp2
      go_ret
      exact ⟨G.out _ (by simp [h1]), hB2.out⟩
  · by_cases h1 : 0 ≤ x0
    · by_cases h2 : x0 ≤ x1
      · by_cases h3 : x1 ≤ 255
        · go_enter Tryd.func53, Tryd.ntmps53
          go_wp2_with (go_at_call 54; (with_reducible refine (H.out _).mono ?_); rintro e w' ⟨rfl, hw⟩; subst hw)
          go_ret
          exact ⟨G.out _ (by simp [h, h1, h2, h3]), hB2.out.alloc hB2.out.size _⟩
        · go_enter Tryd.func53, Tryd.ntmps53
          go_wp2
          go_ret
          exact ⟨G.out _ (by simp [h, h1, h2]; (intros; omega)), hB2.out⟩
      · go_enter Tryd.func53, Tryd.ntmps53
        go_wp2
        go_ret
        exact ⟨G.out _ (by simp [h, h1]; (intros; omega)), hB2.out⟩
    · go_enter Tryd.func53, Tryd.ntmps53
      go_wp2
      go_ret
      exact ⟨G.out _ (by simp [h]; (intros; omega)), hB2.out⟩

end Go.Proofs.YtfbphiamelongaaDoor.Cl

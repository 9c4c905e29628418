/- Rows of marks in memory: made, copied, a mark set. -/
import Derived.Test.YtfbphiamelongaaDoorClMem
import Derived.Test.YtfbphiamelongaaDoorClMark
import Derived.Laws.AppendOwn
import Derived.Laws.AppendOwnNone
import Derived.Laws.OwnMore
import Derived.Test.YtfbphiamelongaaDoorClWalk
namespace Go.Proofs.YtfbphiamelongaaDoor.Cl
open Go Go.RowKit
open Go.Proofs.YtfbphiamelongaaDoor.Bt (grown_cell grown_trans grown_row)

/-- marks, as values -/
def bV (L : List Bool) : List Value := L.map Value.bool
/-- a row of marks, from a block on -/
def BolAt (W : World) (B : Nat) (v : Value) (L : List Bool) : Prop := W.ownsRow B 4 1 v L.length (bV L)
theorem BolAt.next {W W' : World} {B : Nat} {v : Value} {L : List Bool} (h : BolAt W B v L) (hb : Below W.heap.size W W') : BolAt W' B v L := row_next h hb
theorem BolAt.base {W : World} {B B' : Nat} {v : Value} {L : List Bool} (h : BolAt W B v L) (hb : B' ≤ B) : BolAt W B' v L := by
  refine ⟨h.1, ?_⟩
  rcases h.2 with h | ⟨g, cap, cur, h1, h2, h3⟩
  · exact .inl h
  · exact .inr ⟨g, cap, cur, h1, by omega, h3⟩
theorem BolAt.shape {W : World} {B : Nat} {v : Value} {L : List Bool} (h : BolAt W B v L) :
    ∃ (ao : Option Addr) (cap : Nat), v = .slice ao L.length cap ∧ L.length ≤ 9223372036854775807 ∧ ∀ i, i < L.length → ∃ g, ao = some ⟨g, 0, none⟩ ∧ W.cell? ⟨g, i, none⟩ = some (.bool (mq L i)) ∧ W.frozen? ⟨g, i, none⟩ = false := by
  rcases h.2 with ⟨rfl, h0⟩ | ⟨g, cap, cur, rfl, hb, hg, hn, hm, hcs, ht⟩
  · exact ⟨none, 0, by rw [h0], by omega, fun i hi => by omega⟩
  · refine ⟨some ⟨g, 0, none⟩, cap, rfl, by unfold maxLen at hm; omega, fun i hi => ⟨g, rfl, ?_, ?_⟩⟩
    · rw [World.ownsRow.cellAt h i (by omega)]
      simp [bV, mq, List.getD, hi]
    · simp [World.frozen?, hg]
theorem bV_set (L : List Bool) (i : Nat) (b : Bool) : bV (L.set i b) = (bV L).set i (.bool b) := by simp [bV, List.map_set]
/-- one mark is set -/
theorem BolAt.store {W : World} {B g cap : Nat} {L : List Bool} (h : BolAt W B (.slice (some ⟨g, 0, none⟩) L.length cap) L) (i : Nat) (b : Bool) :
    BolAt (W.setCell ⟨g, i, none⟩ (.bool b)) B (.slice (some ⟨g, 0, none⟩) L.length cap) (L.set i b) ∧ W.grownBy (W.setCell ⟨g, i, none⟩ (.bool b)) (some g) := by
  obtain ⟨h1, h2⟩ := World.ownsRow.stored h i (.bool b)
  refine ⟨?_, h2⟩
  unfold BolAt
  rw [List.length_set, bV_set]
  exact h1
theorem infoB : (Tryd.prog.info? 4).map (fun i => (i.zero, i.size, i.bytes)) = some (some (.bool false), 1, 1) := by kernel_rfl
/-- marks that are none are made -/
theorem make_marks (k : Nat) (hk : k ≤ 100000) (B : Nat) (w : World) (hB : B ≤ w.heap.size) : ∃ w', (Instr.makeSlice 40 (.int .i64 (k : Nat)) (.int .i64 (k : Nat))).run Tryd.prog w = .ok (.slice (some ⟨w.heap.size, 0, none⟩) k k) w' ∧
    BolAt w' B (.slice (some ⟨w.heap.size, 0, none⟩) k k) (List.replicate k false) ∧ w.grownBy w' none := by
  obtain ⟨i0, hi, hz0, hz1, hz2⟩ := info_parts infoB
  obtain ⟨w', h1, h2, h3⟩ := run_makeSlice_full (P := Tryd.prog) w B 40 4 i0 (.bool false) 1 Tryd.underlying40 hi hz0 hz1 .i64 .i64 k (by omega) (by rw [hz2]; omega) (by unfold maxLen; omega) hB
  refine ⟨w', h1, ?_, h3⟩
  have e : (madeCells (Value.bool false).cells (k * 1)).toList = bV (List.replicate k false) := by
    rw [show (Value.bool false).cells = #[.bool false] from rfl, toList_madeCells_one]
    simp [bV]
  rw [e] at h2
  unfold BolAt
  rw [List.length_replicate]
  exact h2
/-- 'append' of marks -/
theorem wpList_appB {W : World} {ops : Array Oper} {rest : List Oper} {o : Oper} {a : Act} {Q : Exit → Act → World → Prop} (hgd : o.guard = none) (s x : Operand)
    (ho : o.op = .call { callee := .builtin .append, args := #[s, x], argTypes := #[40, 40] }) (B : Nat) (v : Value) (hs : a.eval s = v) (hown : W.ownsRow B 4 1 v 0 [])
    (B1 : Nat) (src : Value) (L : List Bool) (hx : a.eval x = src) (hsrc : BolAt W B1 src L) (hM : L.length ≤ 1000000) (hB : B ≤ W.heap.size)
    (h : ∀ v' w', BolAt w' B v' L → W.grownBy w' v.ownBlock → wpList Tryd.prog ops Q rest (a.put o.dst v') w') : wpList Tryd.prog ops Q (o :: rest) a W := by
  obtain ⟨i0, hi, hz0, hz1, hz2⟩ := info_parts infoB
  rcases hsrc.2 with ⟨rfl, h0⟩ | ⟨g, cap, cur, rfl, hb, hg, hn, hm, hcs, ht⟩
  · have e := List.eq_nil_of_length_eq_zero h0
    subst e
    exact wpList_append_own_none hgd s x 40 ho B 4 i0 1 Tryd.underlying40 hi v 0 [] hs hown hx (h v W hown ⟨rfl, rfl, rfl, Nat.le_refl _, fun _ _ _ => rfl⟩)
  · refine wpList_append_own _ hgd s x 40 ho B 4 i0 (.bool false) 1 1 Tryd.underlying40 hi hz0 hz1 hz2 rfl (by decide) v 0 [] hs hown ⟨g, 0, none⟩ L.length cap (bV L) hx (by simp [bV]) (fun j u hj => ?_) (fun u hu => by
      obtain ⟨y, _, rfl⟩ := List.mem_map.1 hu
      rfl) (by unfold maxLen; omega) (by omega) hB fun v' w' h1 h2 _ => h v' w' (by simpa [BolAt] using h1) h2
    have hjl : j < L.length := by
      have := (List.getElem?_eq_some_iff.1 hj).1
      simpa [bV] using this
    rw [add_zero, World.ownsRow.cellAt hsrc j (by omega)]
    exact hj

end Go.Proofs.YtfbphiamelongaaDoor.Cl

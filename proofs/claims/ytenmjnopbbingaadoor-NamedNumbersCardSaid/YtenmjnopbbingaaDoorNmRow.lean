/- The table in memory; a name's row. -/
import Derived.Test.YtenmjnopbbingaaDoorNmPlain
import Derived.Deep.DeepMust
namespace Go.Proofs.YtenmjnopbbingaaDoor.Nm
open Go.RowKit Go.Shelf Go.Proofs.YtenmjnopbbingaaDoor.Rg

/-- a slice that reads as these texts -/
def StrsAt (w : World) (v : Value) (l : List ByteArray) : Prop :=
  (v = .slice none 0 0 ∧ l = []) ∨ ∃ (a : Addr) (cap : Nat), v = .slice (some a) l.length cap ∧ l.length ≤ maxLen ∧ ∀ i, i < l.length → w.cell? (a.add i) = some (.string (l.getD i ⟨#[]⟩))
theorem StrsAt.next {w w' : World} {v : Value} {l : List ByteArray} (h : StrsAt w v l) (hb : Below w.heap.size w w') : StrsAt w' v l := by
  rcases h with h | ⟨a, cap, hv, hm, hc⟩
  · exact .inl h
  · exact .inr ⟨a, cap, hv, hm, fun i hi => cell_next (hc i hi) hb⟩
theorem StrsAt.shape {w : World} {v : Value} {l : List ByteArray} (h : StrsAt w v l) :
    ∃ (ao : Option Addr) (cap : Nat), v = .slice ao l.length cap ∧ l.length ≤ 9223372036854775807 ∧ ∀ i, i < l.length → ∃ ad, ao = some ad ∧ w.cell? (ad.add i) = some (.string (l.getD i ⟨#[]⟩)) := by
  rcases h with ⟨rfl, rfl⟩ | ⟨a, cap, hv, hm, hc⟩
  · exact ⟨none, 0, rfl, by simp, fun i hi => by simp at hi⟩
  · exact ⟨some a, cap, hv, by unfold maxLen at hm; omega, fun i hi => ⟨a, rfl, hc i hi⟩⟩
theorem strs_nil (w : World) : StrsAt w (.slice none 0 0) [] := .inl ⟨rfl, rfl⟩

/-- the k-th row of the table lies in memory, with its two slices -/
structure RowAt (w : World) (k : Nat) (pv nv : Value) : Prop where
  name : w.cell? ⟨1, k * 3, none⟩ = some (.string (nthW k).1)
  part : w.cell? ⟨1, k * 3 + 1, none⟩ = some pv
  num : w.cell? ⟨1, k * 3 + 2, none⟩ = some nv
  strs : StrsAt w pv (nthW k).2.1
  ints : IntsAt w nv (nthW k).2.2
/-- the table of names, as the program's text lays it -/
def Tab (w : World) : Prop := ∀ k, k < 16 → ∃ pv nv, RowAt w k pv nv
theorem RowAt.next {w w' : World} {k : Nat} {pv nv : Value} (h : RowAt w k pv nv) (hb : Below w.heap.size w w') : RowAt w' k pv nv :=
  ⟨cell_next h.name hb, cell_next h.part hb, cell_next h.num hb, h.strs.next hb, h.ints.next hb⟩
theorem Tab.next {w w' : World} (h : Tab w) (hb : Below w.heap.size w w') : Tab w' := fun k hk => by
  obtain ⟨pv, nv, h⟩ := h k hk
  exact ⟨pv, nv, h.next hb⟩

theorem bytes_eq {a b : ByteArray} (h : (a.toList == b.toList) = true) : a = b := by
  have h2 : a.toList = b.toList := by simpa using h
  rw [ByteArray.toList_eq, ByteArray.toList_eq] at h2
  exact ByteArray.ext (Array.toList_inj.1 h2)
/-- what rowOf tells -/
def RowOut (w0 : World) (nm : ByteArray) (w : World) (e : Ending) (w' : World) : Prop :=
  ∃ pv nv, e = .returned (.agg #[.string (rowN nm).1, pv, nv]) ∧ StrsAt w0 pv (rowN nm).2.1 ∧ IntsAt w0 nv (rowN nm).2.2 ∧ Below w.heap.size w w'

set_option maxRecDepth 100000 in
set_option maxHeartbeats 1600000 in
theorem rowOf_any (nm : ByteArray) (w0 w : World) (hT : Tab w0) (hb : Below w0.heap.size w0 w) : Calls Tryd.prog 31 #[.string nm] w fun e w' => RowOut w0 nm w e w' := by
  have HT := Lib.hid (fun k hk => (hT k hk))
  have HB := Lib.hid hb
  clear hT hb
  go_enter Tryd.func31, Tryd.ntmps31
  go_wp2
  go_loop [4] (fun i => ∃ k : Nat, i = .int .i64 k ∧ k ≤ 16 ∧ ∀ j, j < k → (nthW j).1 ≠ nm) (fun i => 16 - (intOf i).toNat)
  case atStart => exact ⟨0, rfl, by omega, fun j hj => by omega⟩
  case round =>
    obtain ⟨k, rfl, hk, hne⟩ := hrel
    have HN := Lib.hid hne
    clear hne
    by_cases hlt : k < 16
    · obtain ⟨pv, nv, hr⟩ := HT.out k hlt
      obtain ⟨ao, ac, rfl, _, _⟩ := hr.strs.shape
      obtain ⟨bo, bc, rfl, _, _⟩ := hr.ints.shape
      have hx := hr.next (HB.out.alloc HB.out.size (.cells #[.string ⟨#[]⟩, .slice none 0 0, .slice none 0 0] 52))
      have c0 := hx.name
      have c1 := hx.part
      have c2 := hx.num
      have e0 : ∀ A B C : Value, (w.alloc (.cells #[A, B, C] 52)).heap[w.heap.size]? = some (.cells #[A, B, C] 52) := fun _ _ _ => World.alloc_heap_new w _
      have E0 := Lib.hid e0
      have S1 := Lib.hid hr.strs
      have S2 := Lib.hid hr.ints
      clear e0 hr hx
      by_cases hnm : (nthW k).1 = nm
      · have hrow := rowN_at hlt
        rw [hnm] at c0 hrow
        have HR := Lib.hid hrow
        clear hrow
        go_wp2
        (try simp only [Exit.inBlock, Exit.then])
        refine bodyPost_ret (results_cell_row rfl _ _ w.heap.size 52 #[.string nm, .slice ao (nthW k).2.1.length ac, .slice bo (nthW k).2.2.length bc] (0, 0) _ rfl (E0.out _ _ _) Tryd.underlying52 rfl (by kernel_rfl)) rfl ?_
        exact ⟨_, _, by rw [HR.out, hnm], by rw [HR.out]; exact S1.out, by rw [HR.out]; exact S2.out, (Below.refl _ _).alloc (Nat.le_refl _) _⟩
      · go_wp2
        · exact absurd (bytes_eq (by assumption)) hnm
        · go_round
          case rel => exact ⟨k + 1, by go_num, by omega, fun j hj => by
            rcases Nat.lt_or_ge j k with h | h
            · exact HN.out j h
            · obtain rfl : j = k := by omega
              exact hnm⟩
          case measure => simp [intOf]; omega
    · obtain rfl : k = 16 := by omega
      have e0 := World.alloc_heap_new w (.cells #[.string ⟨#[]⟩, .slice none 0 0, .slice none 0 0] 52)
      have E0 := Lib.hid e0
      have HR := Lib.hid (rowN_none HN.out)
      clear e0
      go_wp2
      (try simp only [Exit.inBlock, Exit.then])
      refine bodyPost_ret (results_cell_row rfl _ _ w.heap.size 52 #[.string ⟨#[]⟩, .slice none 0 0, .slice none 0 0] (0, 0) _ rfl E0.out Tryd.underlying52 rfl (by kernel_rfl)) rfl ?_
      exact ⟨_, _, by rw [HR.out]; rfl, by rw [HR.out]; exact .inl ⟨rfl, rfl⟩, by rw [HR.out]; exact .inl ⟨rfl, rfl⟩, (Below.refl _ _).alloc (Nat.le_refl _) _⟩

end Go.Proofs.YtenmjnopbbingaaDoor.Nm

/- Slices of texts, as the call that made them meets them. -/
import Derived.Test.YtleejfkononjgaaDoorInts
import Derived.Deep.DeepMust
namespace Go.Proofs.YtleejfkononjgaaDoor
open Go.RowKit

/-- a slice that reads as these texts -/
def StrsAt (w : World) (v : Value) (l : List ByteArray) : Prop :=
  (v = .slice none 0 0 ∧ l = []) ∨ ∃ (a : Addr) (cap : Nat), v = .slice (some a) l.length cap ∧ l.length ≤ maxLen ∧ ∀ i, i < l.length → w.cell? (a.add i) = some (.string (l.getD i ⟨#[]⟩))
theorem StrsAt.next {w w' : World} {v : Value} {l : List ByteArray} (h : StrsAt w v l) (hb : Below w.heap.size w w') : StrsAt w' v l := by
  rcases h with h | ⟨a, cap, hv, hm, hc⟩
  · exact .inl h
  · exact .inr ⟨a, cap, hv, hm, fun i hi => cell_next (hc i hi) hb⟩
theorem StrsAt.shape {w : World} {v : Value} {l : List ByteArray} (h : StrsAt w v l) :
    ∃ (ao : Option Addr) (cap : Nat), v = .slice ao l.length cap ∧ l.length ≤ 9223372036854775807 ∧ ∀ i, i < l.length → ∃ ad, ao = some ad ∧ w.cell? (ad.add i) = some (.string (l.getD i ⟨#[]⟩)) := by
  rcases h with ⟨rfl, rfl⟩ | ⟨a, cap, hv, hm, hc⟩
  · exact ⟨none, 0, rfl, by simp, fun i hi => by simp at hi⟩
  · exact ⟨some a, cap, hv, by unfold maxLen at hm; omega, fun i hi => ⟨a, rfl, hc i hi⟩⟩
theorem strs_nil (w : World) : StrsAt w (.slice none 0 0) [] := .inl ⟨rfl, rfl⟩

theorem bytes_eq {a b : ByteArray} (h : (a.toList == b.toList) = true) : a = b := by
  have h2 : a.toList = b.toList := by simpa using h
  rw [ByteArray.toList_eq, ByteArray.toList_eq] at h2
  exact ByteArray.ext (Array.toList_inj.1 h2)
end Go.Proofs.YtleejfkononjgaaDoor

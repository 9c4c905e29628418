/- The words that are not empty, counted; what a step leaves alone. -/
import Derived.Test.YtemmaoapicaloaaDoorBtFilled
import Derived.Test.YtemmaoapicaloaaDoorBtAdd
namespace Go.Proofs.YtemmaoapicaloaaDoor.Bt
open Go.RowKit Go.Shelf

attribute [local go_sem] Oper.semAt_some

/-- how many numbers are in these words -/
def cntX (X : List (Nat × Nat)) : Nat := (X.map fun x => (bitsOf x.2).length).sum
theorem cntX_snoc (X : List (Nat × Nat)) (x : Nat × Nat) : cntX (X ++ [x]) = cntX X + (bitsOf x.2).length := by simp [cntX]
theorem from_len : ∀ (k : Nat) (L : List Nat), (fromL k L).length ≤ L.length
  | _, [] => by simp [fromL]
  | k, x :: t => by
    have := from_len (k + 1) t
    unfold fromL
    split <;> simp <;> omega
theorem from_word : ∀ (k : Nat) (L : List Nat) (x : Nat × Nat), x ∈ fromL k L → k ≤ x.1 ∧ x.1 < k + L.length ∧ x.2 = L.getD (x.1 - k) 0 ∧ x.2 ≠ 0
  | _, [], x, h => by simp [fromL] at h
  | k, y :: t, x, h => by
    unfold fromL at h
    have rest : x ∈ fromL (k + 1) t → k ≤ x.1 ∧ x.1 < k + (y :: t).length ∧ x.2 = (y :: t).getD (x.1 - k) 0 ∧ x.2 ≠ 0 := fun h => by
      obtain ⟨h1, h2, h3, h4⟩ := from_word (k + 1) t x h
      refine ⟨by omega, by simp; omega, ?_, h4⟩
      rw [show x.1 - k = (x.1 - (k + 1)) + 1 by omega]
      simpa using h3
    split at h
    · exact rest h
    · rename_i hy
      rcases List.mem_cons.1 h with e | h
      · subst e
        exact ⟨by simp, by simp, by simp, hy⟩
      · exact rest h
theorem cntX_le : ∀ (X : List (Nat × Nat)), cntX X ≤ 64 * X.length
  | [] => by simp [cntX]
  | x :: X => by
    have h1 := cntX_le X
    have h2 := ones_le x.2
    have e : cntX (x :: X) = (bitsOf x.2).length + cntX X := by simp [cntX]
    rw [e]
    simp only [List.length_cons]
    omega

theorem keeps_set (m : Nat) (W : World) (B : Nat) (v : Value) : KeepsFrom m W (W.setCell ⟨B, 0, none⟩ v).drew :=
  ((KeepsOthers.setCell W _ v).from m).trans (KeepsFrom.of_grownBy (row := none) (grown_row ((Below.refl _ _).drew)) (fun j e => by cases e))
theorem boxed_drew {W : World} {B : Nat} {t : TypeId} {v : Value} (h : Boxed W B t v) : Boxed W.drew B t v := (((Below.refl _ W).drew).block B h.lt).trans h

theorem own_heap {β : Type} (B k : Nat) {cs : Array Value} {t : TypeId} {fz : Nat × Nat} : OwnFrom B (fun (_ : β) W => W.heap[k]? = some (Obj.cells cs t fz)) := fun _ A C row hs hg hr =>
  (hg.block k (Array.getElem?_eq_some_iff.1 hs).1 (fun e => by
    obtain ⟨_, o, ho, hc⟩ := hr k e.symm
    rw [hs] at ho; cases ho; cases hc)).trans hs

end Go.Proofs.YtemmaoapicaloaaDoor.Bt

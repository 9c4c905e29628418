/- The numbers of words. -/
import Derived.Test.YtemmaoapicaloaaDoorBtCnt0
namespace Go.Proofs.YtemmaoapicaloaaDoor.Bt
open Go Go.RowKit

/-- the numbers of these words, rising -/
def allX (X : List (Nat × Nat)) : List Int := X.flatMap fun x => (bitsOf x.2).map fun j : Nat => (x.1 : Int) * 64 + (j : Int)
theorem allX_snoc (X : List (Nat × Nat)) (x : Nat × Nat) : allX (X ++ [x]) = allX X ++ (bitsOf x.2).map fun j : Nat => (x.1 : Int) * 64 + (j : Int) := by simp [allX]
theorem allX_len : ∀ X : List (Nat × Nat), (allX X).length = cntX X
  | [] => rfl
  | x :: X => by
    have h := allX_len X
    have e : allX (x :: X) = ((bitsOf x.2).map fun j : Nat => (x.1 : Int) * 64 + (j : Int)) ++ allX X := by simp [allX]
    have e2 : cntX (x :: X) = (bitsOf x.2).length + cntX X := by simp [cntX]
    rw [e, e2, List.length_append, List.length_map, h]

end Go.Proofs.YtemmaoapicaloaaDoor.Bt

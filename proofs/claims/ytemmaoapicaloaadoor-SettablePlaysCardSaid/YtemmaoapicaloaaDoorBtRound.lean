/- A region that draws its order, in a round: as if there were no round (of any program). -/
import Derived.Test.YtemmaoapicaloaaDoorBtRange
import Derived.OwnWalkIn
import Derived.TacticsInMore
namespace Go.Proofs.YtemmaoapicaloaaDoor.Bt
open Go.RowKit

variable {P : Program} {md : Region.Mode} {ops : Array Oper} {Q : Exit → Act → World → Prop} {l n : Nat}

theorem op_round (hd : ∀ (i : Nat) (o : Oper), ops[i]? = some o → ∀ c, o.op ≠ .defer c) {i : Nat} {K : Act → World → Prop} {a : Act} {w : World} (h : wpOpIn Fence.wide n P ops Q i K a w) : wpOpIn (Fence.wide.inRound l) n P ops Q i K a w := by
  unfold wpOpIn at *
  cases ho : ops[i]? with
  | none => rw [ho] at h; exact h
  | some o =>
    rw [ho] at h
    simp only at h ⊢
    split
    · rename_i hw
      rw [if_pos hw] at h
      unfold Oper.wpIn at *
      rw [Oper.semAt_plain _ _ _ (hd i o ho)] at h ⊢
      exact h
    · rename_i hw
      rw [if_neg hw] at h
      exact h
theorem any_round (hd : ∀ (i : Nat) (o : Oper), ops[i]? = some o → ∀ c, o.op ≠ .defer c) : ∀ (fuel : Nat) (listed : Array Bool) (a : Act) (w : World), wpAnyIn Fence.wide n P md ops Q fuel listed a w → wpAnyIn (Fence.wide.inRound l) n P md ops Q fuel listed a w
  | 0, _, _, _, h => h
  | fuel + 1, _, _, _, h => ⟨h.1, fun i hi => op_round hd (wpOpIn_mono (fun a' w' h' => any_round hd fuel _ a' w' h') (h.2 i hi))⟩

/-- does no operation defer a call -/
def noDefer (ops : Array Oper) : Bool := ops.toList.all fun o => match o.op with | .defer _ => false | _ => true
theorem no_defer (h : noDefer ops = true) : ∀ (i : Nat) (o : Oper), ops[i]? = some o → ∀ c, o.op ≠ .defer c := fun i o ho c e => by
  have hm : o ∈ ops.toList := by
    rw [← Array.getElem?_toList] at ho
    exact List.mem_of_getElem? ho
  have := List.all_eq_true.1 h o hm
  rw [e] at this
  cases this
theorem in_round (h : noDefer ops = true) {fuel : Nat} {listed : Array Bool} {a : Act} {w : World} (k : wpAnyIn Fence.wide n P md ops Q fuel listed a w) : wpAnyIn (Fence.wide.inRound l) n P md ops Q fuel listed a w :=
  any_round (no_defer h) fuel listed a w k

end Go.Proofs.YtemmaoapicaloaaDoor.Bt

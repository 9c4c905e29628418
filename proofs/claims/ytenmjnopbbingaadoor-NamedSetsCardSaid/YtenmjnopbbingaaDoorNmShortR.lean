/- The document's Short, Names, Is. -/
import Derived.Test.YtenmjnopbbingaaDoorNmSet
import Derived.Test.YtenmjnopbbingaaDoorNmNames
import Derived.Test.YtenmjnopbbingaaDoorRgSet2
namespace Go.Proofs.YtenmjnopbbingaaDoor.Nm
open Go.RowKit Go.Shelf Go.Proofs.YtenmjnopbbingaaDoor.Rg

/-- a letter for short: the row of its name, and whether it is a great one -/
def shortK (c : Int) : Option (Nat × Bool) :=
  cond (c == 100) (some (3, false)) <| cond (c == 119) (some (9, false)) <| cond (c == 115) (some (10, false)) <| cond (c == 104) (some (4, false)) <|
  cond (c == 68) (some (3, true)) <| cond (c == 87) (some (9, true)) <| cond (c == 83) (some (10, true)) <| cond (c == 72) (some (4, true)) none
/-- the numbers of a letter for short -/
def shortB (k : Nat × Bool) (c : Int) : Bool := if k.2 then isC c && !hasN (nthW k.1).1 c else hasN (nthW k.1).1 c
theorem hasN_isC (nm : ByteArray) (c : Int) : (isC c && hasN nm c) = hasN nm c := inB_isC _ _
/-- what Short tells -/
def ShortOut (w : World) (c : Int) (e : Ending) (w' : World) : Prop :=
  match shortK c with
  | none => e = .returned (.tuple #[.slice none 0 0, .bool false]) ∧ Below w.heap.size w w'
  | some k => ∃ v L, e = .returned (.tuple #[v, .bool true]) ∧ MadeAt w w' v L (shortB k) 100000

theorem not_of {w W : World} {v : Value} {L : List R} {nm : ByteArray} (h : MadeAt w W v L (hasN nm) 20500) (x : Int) : (isC x && holdB 1 L [] x) = (isC x && !hasN nm x) := by
  rw [← h.has x, ← inB_set h.set x]; rfl
theorem made_conv {w W : World} {v : Value} {L : List R} {P P' : Int → Bool} {n n' : Nat} (h : MadeAt w W v L P n) (hp : ∀ x, P x = P' x) (hn : n ≤ n') : MadeAt w W v L P' n' := ⟨h.at', h.set, fun c => by rw [h.has, hp], Nat.le_trans h.len hn, h.below⟩
set_option maxRecDepth 100000 in
set_option maxHeartbeats 4000000 in
theorem rshort_any (c : Int) (w : World) : Calls Tryd.prog 9 #[.int .u8 c] w fun e w' => ShortOut w c e w' := by
  have cS := Lib.hid (fun nm W => rset_name nm W)
  have cA := Lib.hid (fun nm L v W (h : MadeAt w W v L (hasN nm) 20500) => set_any 1 (by omega) L [] v (.slice none 0 0) W h.at' (none_at W) (by have := h.len; simp; omega))
  have NO := Lib.hid (fun nm L v W (h : MadeAt w W v L (hasN nm) 20500) (x : Int) => not_of h x)
  go_enter Tryd.func9, Tryd.ntmps9
  go_wp2_with (first
    | (go_at_call 12; (with_reducible refine (cS.out _ _).mono ?_); rintro e w1 ⟨v1, L1, rfl, m1⟩; go_must (have M1 := Lib.hid m1; clear m1))
    | (go_at_call 18; (refine (cA.out _ _ _ _ M1.out).mono ?_); intro e w2 ho; go_must (obtain ⟨v2, L2, rfl, m2, _⟩ := ho.made M1.out.below; have M2 := Lib.hid (made_conv m2 (NO.out _ _ _ _ M1.out) (by have := M1.out.len; simp; omega : _ ≤ 100000)); clear m2)))
  all_goals
    go_ret2
    unfold ShortOut shortK
    simp only [*, cond_true, cond_false]
  all_goals first
    | exact ⟨rfl, Below.refl _ _⟩
    | exact ⟨_, _, rfl, made_conv M2.out (fun x => rfl) (Nat.le_refl _)⟩
    | exact ⟨_, _, rfl, made_conv M1.out (fun x => rfl) (by omega)⟩

end Go.Proofs.YtenmjnopbbingaaDoor.Nm

/- Of. -/
import Derived.Test.YtdmceapbobkklaaDoorRgJoin
namespace Go.Proofs.YtdmceapbobkklaaDoor.Rg
open Go.RowKit Go.Shelf

theorem joined_nil (B pb : Nat) (v : Value) (w : World) (hp : Pile B pb v [] w) :
    Calls Tryd.prog 63 #[ifc pb] w fun e w' => e = .returned (.slice none 0 0) ∧ w' = w := by
  have e1 := eLen
  have e2 := fun N => byVal w pb _ hp.cell _ _ N fLen
  obtain ⟨ao, cap, rfl, _, _⟩ := hp.rngs.shape
  simp only [List.length_nil] at *
  clear hp
  go_enter Tryd.func63, Tryd.ntmps63
  go_wp2
  go_loopw [3] (fun s wr => s = .slice none 0 0 ∧ wr = w) (fun _ _ => 0)
  case atStart => exact ⟨rfl, rfl⟩
  case round =>
    obtain ⟨rfl, rfl⟩ := hrel
    go_wp2_with (go_at_fn 101; refine (len_any _ _ _ _).mono ?_; rintro e w2 ⟨rfl, hw⟩; subst hw)
    go_ret
    exact ⟨rfl, rfl⟩

/-- joined, whatever lies on the pile -/
theorem joined_all (B pb : Nat) (v : Value) (xs : List R) (w : World) (hp : Pile B pb v xs w) (hh : Heap (key xs) xs.length) (ho : okL xs) (hM : xs.length ≤ 1000000) :
    Calls Tryd.prog 63 #[ifc pb] w fun e w' => ∃ v l, e = .returned v ∧ w'.ownsRow w.heap.size 75 2 v l.length (flatR l) ∧ setFrom 0 l ∧ (∀ c, hasB l c = hasB xs c) ∧ l.length ≤ xs.length ∧ Below B w w' := by
  rcases Nat.eq_zero_or_pos xs.length with h0 | h0
  · obtain rfl := List.eq_nil_of_length_eq_zero h0
    refine (joined_nil B pb v w hp).mono ?_
    rintro e w' ⟨rfl, rfl⟩
    exact ⟨_, [], rfl, World.ownsRow_nil _ _ _ _, trivial, fun _ => rfl, by simp, Below.refl _ _⟩
  · obtain ⟨g, cap, rfl, _, hg⟩ := hp.row.form h0
    exact joined_any B pb g cap xs w hp hg hh ho hM

theorem row_base {w : World} {B B' : Nat} {e : TypeId} {s n : Nat} {v : Value} {xs : List Value} (h : w.ownsRow B e s v n xs) (hb : B' ≤ B) : w.ownsRow B' e s v n xs := by
  refine ⟨h.1, ?_⟩
  rcases h.2 with h | ⟨g, cap, cur, h1, h2, h3⟩
  · exact .inl h
  · exact .inr ⟨g, cap, cur, h1, by omega, h3⟩
/-- a pile that has just been made -/
theorem pile_new (w : World) : Pile w.heap.size w.heap.size (.slice none 0 0) [] (w.alloc (.cells #[.slice none 0 0] 92)) := ⟨Nat.le_refl _, heap_alloc_new _ _, World.ownsRow_nil _ _ _ _⟩
/-- what Of and the like tell: a set of the call's own -/
def SetOut (w : World) (P : Int → Bool) (n : Nat) (e : Ending) (w' : World) : Prop :=
  ∃ v l, e = .returned v ∧ w'.ownsRow w.heap.size 75 2 v l.length (flatR l) ∧ setFrom 0 l ∧ (∀ c, hasB l c = P c) ∧ l.length ≤ n ∧ Below w.heap.size w w'

set_option maxHeartbeats 800000 in
theorem of_any (l : List R) (vl : Value) (w : World) (hl : RngsAt w vl l) (hM : l.length < 1000000) :
    Calls Tryd.prog 56 #[vl] w fun e w' => SetOut w (inB l) l.length e w' := by
  have c1 := put_any w.heap.size (.slice none 0 0) vl [] l w (w.alloc (.cells #[.slice none 0 0] 92)) hl ((Below.refl _ _).alloc (Nat.le_refl _) _) (pile_new w) (fun i h0 hi => absurd hi (by simp)) (fun r hr => absurd hr (by simp)) (by simpa using hM)
  have C1 := Lib.hid c1
  have HW := Lib.hid (rfl : w.heap.size = w.heap.size)
  clear c1
  go_enter Tryd.func56, Tryd.ntmps56
  go_wp2_with (first
    | (go_at_call 62; refine C1.out.mono ?_; rintro e w1 ⟨rfl, v', ys, h1, h2, h3, h4, h5, h6⟩; simp only [List.length_nil, Nat.zero_add] at h3; have C2 := Lib.hid (joined_all _ _ v' ys w1 h1 h2 h4 (by omega)); have hsz := h1.lt; have H5 := Lib.hid h5; have H6 := Lib.hid h6; clear h1 h2 h4 h5 h6)
    | (go_at_call 63; refine C2.out.mono ?_; rintro e w2 ⟨v, L, rfl, k1, k2, k3, k4, k5⟩))
  go_ret
  refine ⟨_, L, rfl, row_base k1 (by omega), k2, fun c => ?_, by omega, (((Below.refl _ _).alloc (Nat.le_refl _) _).trans H6.out).trans k5⟩
  rw [k3, H5.out]; simp [hasB]

end Go.Proofs.YtdmceapbobkklaaDoor.Rg

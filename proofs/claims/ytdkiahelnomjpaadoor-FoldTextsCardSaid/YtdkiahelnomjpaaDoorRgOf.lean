/- Of and Union. -/
import Derived.Test.YtdkiahelnomjpaaDoorRgJoin
namespace Go.Proofs.YtdkiahelnomjpaaDoor.Rg
open Go.RowKit Go.Shelf

theorem joined_nil (B pb : Nat) (v : Value) (w : World) (hp : Pile B pb v [] w) :
    Calls Tryd.prog 30 #[ifc pb] w fun e w' => e = .returned (.slice none 0 0) ∧ w' = w := by
  have e1 := eLen
  have e2 := fun N => byVal w pb _ hp.cell _ _ N fLen
  obtain ⟨ao, cap, rfl, _, _⟩ := hp.rngs.shape
  simp only [List.length_nil] at *
  clear hp
  go_enter Tryd.func30, Tryd.ntmps30
  go_wp2
  go_loopw [3] (fun s wr => s = .slice none 0 0 ∧ wr = w) (fun _ _ => 0)
  case atStart => exact ⟨rfl, rfl⟩
  case round =>
    obtain ⟨rfl, rfl⟩ := hrel
    go_wp2_with (go_at_fn 54; refine (len_any _ _ _ _).mono ?_; rintro e w2 ⟨rfl, hw⟩; subst hw)
    go_ret
    exact ⟨rfl, rfl⟩

/-- joined, whatever lies on the pile -/
theorem joined_all (B pb : Nat) (v : Value) (xs : List R) (w : World) (hp : Pile B pb v xs w) (hh : Heap (key xs) xs.length) (ho : okL xs) (hM : xs.length ≤ 1000000) :
    Calls Tryd.prog 30 #[ifc pb] w fun e w' => ∃ v l, e = .returned v ∧ w'.ownsRow w.heap.size 33 2 v l.length (flatR l) ∧ setFrom 0 l ∧ (∀ c, hasB l c = hasB xs c) ∧ l.length ≤ xs.length ∧ Below B w w' := by
  rcases Nat.eq_zero_or_pos xs.length with h0 | h0
  · obtain rfl := List.eq_nil_of_length_eq_zero h0
    refine (joined_nil B pb v w hp).mono ?_
    rintro e w' ⟨rfl, rfl⟩
    exact ⟨_, [], rfl, World.ownsRow_nil _ _ _ _, trivial, fun _ => rfl, by simp, Below.refl _ _⟩
  · obtain ⟨g, cap, rfl, _, hg⟩ := hp.row.form h0
    exact joined_any B pb g cap xs w hp hg hh ho hM

theorem row_base {w : World} {B B' : Nat} {e : TypeId} {s n : Nat} {v : Value} {xs : List Value} (h : w.ownsRow B e s v n xs) (hb : B' ≤ B) : w.ownsRow B' e s v n xs := by
  refine ⟨h.1, ?_⟩
  rcases h.2 with h | ⟨g, cap, cur, h1, h2, h3⟩
  · exact .inl h
  · exact .inr ⟨g, cap, cur, h1, by omega, h3⟩
/-- a pile that has just been made -/
theorem pile_new (w : World) : Pile w.heap.size w.heap.size (.slice none 0 0) [] (w.alloc (.cells #[.slice none 0 0] 43)) := ⟨Nat.le_refl _, heap_alloc_new _ _, World.ownsRow_nil _ _ _ _⟩
/-- what Of and the like tell: a set of the call's own -/
def SetOut (w : World) (P : Int → Bool) (n : Nat) (e : Ending) (w' : World) : Prop :=
  ∃ v l, e = .returned v ∧ w'.ownsRow w.heap.size 33 2 v l.length (flatR l) ∧ setFrom 0 l ∧ (∀ c, hasB l c = P c) ∧ l.length ≤ n ∧ Below w.heap.size w w'

set_option maxHeartbeats 800000 in
theorem of_any (l : List R) (vl : Value) (w : World) (hl : RngsAt w vl l) (hM : l.length < 1000000) :
    Calls Tryd.prog 19 #[vl] w fun e w' => SetOut w (inB l) l.length e w' := by
  have c1 := put_any w.heap.size (.slice none 0 0) vl [] l w (w.alloc (.cells #[.slice none 0 0] 43)) hl ((Below.refl _ _).alloc (Nat.le_refl _) _) (pile_new w) (fun i h0 hi => absurd hi (by simp)) (fun r hr => absurd hr (by simp)) (by simpa using hM)
  have C1 := Lib.hid c1
  have HW := Lib.hid (rfl : w.heap.size = w.heap.size)
  clear c1
  go_enter Tryd.func19, Tryd.ntmps19
  go_wp2_with (first
    | (go_at_call 29; refine C1.out.mono ?_; rintro e w1 ⟨rfl, v', ys, h1, h2, h3, h4, h5, h6⟩; simp only [List.length_nil, Nat.zero_add] at h3; have C2 := Lib.hid (joined_all _ _ v' ys w1 h1 h2 h4 (by omega)); have hsz := h1.lt; have H5 := Lib.hid h5; have H6 := Lib.hid h6; clear h1 h2 h4 h5 h6)
    | (go_at_call 30; refine C2.out.mono ?_; rintro e w2 ⟨v, L, rfl, k1, k2, k3, k4, k5⟩))
  go_ret
  refine ⟨_, L, rfl, row_base k1 (by omega), k2, fun c => ?_, by omega, (((Below.refl _ _).alloc (Nat.le_refl _) _).trans H6.out).trans k5⟩
  rw [k3, H5.out]; simp [hasB]

def UniRel (a b : List R) (w : World) (i : Value) (wr : World) : Prop :=
  ∃ (k : Nat) (v : Value) (ys : List R), i = .int .i64 k ∧ k ≤ 2 ∧ Pile w.heap.size w.heap.size v ys wr ∧ Heap (key ys) ys.length ∧ ys.length ≤ k * (a.length + b.length) ∧ okL ys ∧ (∀ c, hasB ys c = ((decide (1 ≤ k) && inB a c) || (decide (2 ≤ k) && inB b c))) ∧ Below w.heap.size w wr

set_option maxHeartbeats 1600000 in
theorem union_any (a b : List R) (va vb : Value) (N : Nat) (w : World) (ha : RngsAt w va a) (hb : RngsAt w vb b) (c0 : w.cell? ⟨N, 0, none⟩ = some va) (c1 : w.cell? ⟨N, 1, none⟩ = some vb) (hM : 2 * (a.length + b.length) < 1000000) :
    Calls Tryd.prog 20 #[.slice (some ⟨N, 0, none⟩) 2 2] w fun e w' => SetOut w (fun c => inB a c || inB b c) (2 * (a.length + b.length)) e w' := by
  have hlt : N < w.heap.size := cell_lt c0
  go_enter Tryd.func20, Tryd.ntmps20
  go_wp2
  go_loopw [8] (fun i wr => UniRel a b w i wr) (fun i _ => 2 - (intOf i).toNat)
  case atStart => exact ⟨0, _, [], rfl, Nat.zero_le _, pile_new w, (fun i h0 hi => absurd hi (by simp)), by simp, (fun r hr => absurd hr (by simp)), fun c => by simp [hasB], (Below.refl _ _).alloc (Nat.le_refl _) _⟩
  case round =>
    obtain ⟨k, v, ys, rfl, hk, hp, hh, hlen, ho, hhas, hbw⟩ := hrel
    have d0 := cell_next c0 hbw
    have d1 := cell_next c1 hbw
    have hpl := hp.lt
    rcases (show k = 0 ∨ k = 1 ∨ k = 2 by omega) with rfl | rfl | rfl
    · have p := put_any _ v va ys a w wr ha hbw hp hh ho (by omega)
      have nxt : ∀ v' zs W, Pile w.heap.size w.heap.size v' zs W → Heap (key zs) zs.length → zs.length ≤ ys.length + a.length → okL zs → (∀ c, hasB zs c = (hasB ys c || inB a c)) → Below w.heap.size wr W → UniRel a b w (.int .i64 1) W := fun v' zs W h1 h2 h3 h4 h5 h6 =>
        ⟨1, v', zs, rfl, by omega, h1, h2, by omega, h4, fun c => by rw [h5, hhas]; simp, hbw.trans h6⟩
      have PP := Lib.hid p
      have NX := Lib.hid nxt
      clear hp hh hlen ho hhas hbw p nxt c0 c1 ha hb
      go_wp2_with (go_at_call 29; refine PP.out.mono ?_; rintro e w1 ⟨rfl, v', zs, h1, h2, h3, h4, h5, h6⟩; have Z := Lib.hid (NX.out v' zs w1 h1 h2 h3 h4 h5 h6); clear h1 h2 h3 h4 h5 h6)
      go_roundw
      case rel => exact Z.out
      case measure => simp [intOf]
    · have p := put_any _ v vb ys b w wr hb hbw hp hh ho (by omega)
      have nxt : ∀ v' zs W, Pile w.heap.size w.heap.size v' zs W → Heap (key zs) zs.length → zs.length ≤ ys.length + b.length → okL zs → (∀ c, hasB zs c = (hasB ys c || inB b c)) → Below w.heap.size wr W → UniRel a b w (.int .i64 2) W := fun v' zs W h1 h2 h3 h4 h5 h6 =>
        ⟨2, v', zs, rfl, by omega, h1, h2, by omega, h4, fun c => by rw [h5, hhas]; simp, hbw.trans h6⟩
      have PP := Lib.hid p
      have NX := Lib.hid nxt
      clear hp hh hlen ho hhas hbw p nxt c0 c1 ha hb
      go_wp2_with (go_at_call 29; refine PP.out.mono ?_; rintro e w1 ⟨rfl, v', zs, h1, h2, h3, h4, h5, h6⟩; have Z := Lib.hid (NX.out v' zs w1 h1 h2 h3 h4 h5 h6); clear h1 h2 h3 h4 h5 h6)
      go_roundw
      case rel => exact Z.out
      case measure => simp [intOf]
    · have hl2 : ys.length ≤ 2 * (a.length + b.length) := hlen
      have j := joined_all _ _ v ys wr hp hh ho (by omega)
      have J := Lib.hid j
      have fin : ∀ c, hasB ys c = (inB a c || inB b c) := fun c => by rw [hhas]; simp
      have FI := Lib.hid fin
      have HB := Lib.hid hbw
      clear hp hh hlen ho hhas hbw j fin c0 c1 ha hb
      go_wp2_with (go_at_call 30; refine J.out.mono ?_; rintro e w2 ⟨v, L, rfl, k1, k2, k3, k4, k5⟩)
      go_ret
      exact ⟨_, L, rfl, row_base k1 (by omega), k2, fun c => by rw [k3, FI.out], by omega, HB.out.trans k5⟩

end Go.Proofs.YtdkiahelnomjpaaDoor.Rg

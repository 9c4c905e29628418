/- The document's Add and Drop. -/
import Derived.Test.YtemmaoapicaloaaDoorBtRHas
import Derived.Test.YtemmaoapicaloaaDoorBtOwn
import Derived.Laws.AppendOwnNone
namespace Go.Proofs.YtemmaoapicaloaaDoor.Bt
open Go Go.RowKit

/-- rising numbers with one more, if there is room -/
def addF (l : List Int) (n room : Int) : List Int := if n < 0 ∨ room ≤ n ∨ n ∈ l then l else l.takeWhile (· < n) ++ n :: l.dropWhile (· < n)

theorem split_at (n : Int) : ∀ l : List Int, ∃ K, K ≤ l.length ∧ l.takeWhile (· < n) = l.take K ∧ l.dropWhile (· < n) = l.drop K ∧ (∀ j, j < K → l.getD j 0 < n) ∧ (K < l.length → ¬ l.getD K 0 < n)
  | [] => ⟨0, by simp, rfl, rfl, fun j hj => by omega, fun h => by simp at h⟩
  | a :: l => by
    by_cases h : a < n
    · obtain ⟨K, h1, h2, h3, h4, h5⟩ := split_at n l
      refine ⟨K + 1, by simp; omega, by simp [h, h2], by simp [h, h3], fun j hj => ?_, fun hK => ?_⟩
      · cases j with
        | zero => simpa using h
        | succ j => simpa using h4 j (by omega)
      · simpa using h5 (by simpa using hK)
    · exact ⟨0, by simp, by simp [h], by simp [h], fun j hj => by omega, fun _ => by simpa using h⟩

/-- what Add and Drop tell of numbers -/
def ListOut (w : World) (B : Nat) (l : List Int) (e : Ending) (w' : World) : Prop :=
  ∃ v', e = .returned v' ∧ w'.ownsRow B 3 1 v' l.length (iV l) ∧ Below w.heap.size w w'

set_option maxHeartbeats 1000000 in
theorem radd_out (v : Value) (l : List Int) (n room : Int) (B : Nat) (w : World) (h : w.ownsRow B 3 1 v l.length (iV l)) (hf : n < 0 ∨ room ≤ n) :
    Calls Tryd.prog 22 #[v, .int .i64 n, .int .i64 room] w fun e w' => ListOut w B l e w' := by
  have H := Lib.hid h
  obtain ⟨a, c, rfl⟩ := own_slice h
  clear h
  by_cases h0 : n < 0
  · go_enter Tryd.func22, Tryd.ntmps22
    go_wp2
    go_ret
    exact ⟨_, rfl, H.out, Below.refl _ _⟩
  · have h1 : room ≤ n := by omega
    have h2 : 0 ≤ n := by omega
    clear hf h0
    go_enter Tryd.func22, Tryd.ntmps22
    go_wp2
    go_ret
    exact ⟨_, rfl, H.out, Below.refl _ _⟩

set_option maxHeartbeats 1000000 in
theorem radd_old (v : Value) (l : List Int) (n room : Int) (B : Nat) (w : World) (h : w.ownsRow B 3 1 v l.length (iV l)) (h0 : 0 ≤ n) (h1 : n < room) (hin : n ∈ l) :
    Calls Tryd.prog 22 #[v, .int .i64 n, .int .i64 room] w fun e w' => ListOut w B l e w' := by
  have H := Lib.hid h
  have C := Lib.hid (rhas_any v l n w (ints_of_row h))
  rw [show decide (n ∈ l) = true by simpa using hin] at C
  obtain ⟨a, c, rfl⟩ := own_slice h
  clear h hin
  go_enter Tryd.func22, Tryd.ntmps22
  go_wp2_with (go_at_call 33; (with_reducible refine C.out.mono ?_); rintro e w' ⟨rfl, hw⟩; subst hw)
  go_ret
  exact ⟨_, rfl, H.out, Below.refl _ _⟩

theorem row_base {w : World} {B B' : Nat} {e : TypeId} {s n : Nat} {v : Value} {xs : List Value} (h : w.ownsRow B e s v n xs) (hb : B' ≤ B) : w.ownsRow B' e s v n xs := by
  refine ⟨h.1, ?_⟩
  rcases h.2 with h | ⟨g, cap, cur, h1, h2, h3⟩
  · exact .inl h
  · exact .inr ⟨g, cap, cur, h1, by omega, h3⟩
/-- the parts of a row lie as they lay -/
theorem part_cells {w W : World} {B g cap : Nat} {l : List Int} (h : w.ownsRow B 3 1 (.slice (some ⟨g, 0, none⟩) l.length cap) l.length (iV l)) (hb : Below w.heap.size w W) (i : Nat) (hi : i < l.length) : W.cell? ⟨g, i, none⟩ = some (.int .i64 (l.getD i 0)) := by
  refine cell_next ?_ hb
  rw [h.cellAt i (by omega)]
  simp [iV, List.getD, hi]
theorem step_below {w W w1 : World} {v : Value} {n : Nat} {xs : List Value} (hb : Below w.heap.size w W) (ho : W.ownsRow w.heap.size 3 1 v n xs) (hg : W.grownBy w1 v.ownBlock) : Below w.heap.size w w1 :=
  hb.grown hg hb.size (fun k e => (ho.lt k e).1)

theorem size2 {w w1 w2 : World} {o o2 : Obj} {r r2 : Option Nat} (h1 : (w.alloc o).grownBy w1 r) (h2 : (w1.alloc o2).grownBy w2 r2) : w.heap.size ≤ w2.heap.size := by
  have a := h1.size
  have b := h2.size
  simp only [World.size_alloc] at a b
  omega
theorem below_again {w W w1 : World} {v : Value} {n : Nat} {xs : List Value} (o : Obj) (hb : Below w.heap.size w W) (ho : W.ownsRow w.heap.size 3 1 v n xs) (hg : (W.alloc o).grownBy w1 v.ownBlock) : Below w.heap.size w w1 :=
  step_below (hb.alloc hb.size o) (ho.alloc o) hg

set_option maxRecDepth 100000 in
set_option maxHeartbeats 4000000 in
theorem radd_nil (n room : Int) (B : Nat) (w : World) (hB : B ≤ w.heap.size) (h0 : 0 ≤ n) (h1 : n < room) :
    Calls Tryd.prog 22 #[.slice none 0 0, .int .i64 n, .int .i64 room] w fun e w' => ListOut w B [n] e w' := by
  have C := Lib.hid (rhas_any (.slice none 0 0) [] n w (.inl ⟨rfl, rfl⟩))
  rw [show decide (n ∈ ([] : List Int)) = false by simp] at C
  go_enter Tryd.func22, Tryd.ntmps22
  go_wp2_with (go_at_call 33; (with_reducible refine C.out.mono ?_); rintro e w' ⟨rfl, hw⟩; subst hw)
  go_loop [7] (fun i => i = .int .i64 0) (fun i => 1 - (intOf i).toNat)
  case atStart => exact rfl
  case round =>
    subst hrel
    go_wp2_with (at_builtin; first
      | (refine wpList_appI rfl _ _ rfl w'.heap.size _ 0 0 [] rfl (World.ownsRow_lit w' #[] 0 (Nat.le_refl _) (by decide) rfl) _ [] rfl (.inl ⟨rfl, rfl⟩) rfl (by decide) (by simp) ?_; intro v1 w1 ho1 hg1; obtain ⟨a1, c1, rfl⟩ := own_slice ho1)
      | (refine wpList_appI rfl _ _ rfl w'.heap.size _ 0 1 _ rfl (ho1.alloc _) _ [n] rfl (.inr ⟨w1.heap.size, 0, 1, 1, rfl, rfl, one_new w1 n⟩) rfl (by omega) (by have := hg1.size; simp only [World.size_alloc] at this ⊢; omega) ?_; intro v2 w2 ho2 hg2; obtain ⟨a2, c2, rfl⟩ := own_slice ho2)
      | (refine wpList_appI rfl _ _ rfl w'.heap.size _ 1 1 _ rfl ho2 _ [] rfl (.inl ⟨rfl, rfl⟩) rfl (by decide) (size2 hg1 hg2) ?_; intro v3 w3 ho3 hg3; obtain ⟨a3, c3, rfl⟩ := own_slice ho3))
    go_ret
    have b1 := step_below ((Below.refl w'.heap.size w').alloc (Nat.le_refl _) _) (World.ownsRow_lit w' #[] 0 (Nat.le_refl _) (by decide) rfl) hg1
    have b2 := below_again _ b1 ho1 hg2
    exact ⟨_, rfl, row_base ho3 hB, step_below b2 ho2 hg3⟩

theorem fin_row {w : World} {B : Nat} {v : Value} {l : List Int} (k : Nat) (n : Int) (hk : k ≤ l.length) (h : w.ownsRow B 3 1 v (l.length + 1) (iV ([] ++ l.take k ++ [n] ++ l.drop k))) :
    w.ownsRow B 3 1 v (l.take k ++ n :: l.drop k).length (iV (l.take k ++ n :: l.drop k)) := by
  have e : [] ++ l.take k ++ [n] ++ l.drop k = l.take k ++ n :: l.drop k := by simp
  have e2 : (l.take k ++ n :: l.drop k).length = l.length + 1 := by simp; omega
  rw [e2, ← e]
  exact h
set_option maxRecDepth 100000 in
set_option maxHeartbeats 4000000 in
theorem radd_some (g cap : Nat) (l : List Int) (n room : Int) (B : Nat) (w : World) (hB : B ≤ w.heap.size) (hl : l.length ≤ 10000) (h : w.ownsRow B 3 1 (.slice (some ⟨g, 0, none⟩) l.length cap) l.length (iV l)) (hcap : l.length ≤ cap) (h0 : 0 ≤ n) (h1 : n < room) (hin : ¬ n ∈ l) :
    Calls Tryd.prog 22 #[.slice (some ⟨g, 0, none⟩) l.length cap, .int .i64 n, .int .i64 room] w fun e w' => ListOut w B (l.takeWhile (· < n) ++ n :: l.dropWhile (· < n)) e w' := by
  have C := Lib.hid (rhas_any _ l n w (ints_of_row h))
  rw [show decide (n ∈ l) = false by simpa using hin] at C
  obtain ⟨K, k1, k2, k3, k4, k5⟩ := split_at n l
  rw [k2, k3]
  have K4 := Lib.hid (And.intro k4 k5)
  have HC := Lib.hid (fun W hb i hi => part_cells (W := W) h hb i hi)
  clear hin h k2 k3 k4 k5
  have hT : (l.take K).length = K := by rw [List.length_take]; omega
  have hD : (l.drop K).length = l.length - K := by simp
  have S1 := Lib.hid (fun W (hb : Below w.heap.size w W) => show (Value.slice (some ⟨g, 0, none⟩) K cap = .slice none 0 0 ∧ l.take K = []) ∨ ∃ g' i c m, Value.slice (some ⟨g, 0, none⟩) K cap = .slice (some ⟨g', i, none⟩) m c ∧ m = (l.take K).length ∧ ∀ j, j < (l.take K).length → W.cell? ⟨g', i + j, none⟩ = some (.int .i64 ((l.take K).getD j 0)) from
    .inr ⟨g, 0, cap, K, rfl, hT.symm, fun j hj => by
      rw [hT] at hj
      rw [Nat.zero_add, HC.out W hb j (by omega)]
      simp [List.getD, hj]⟩)
  have S3 := Lib.hid (fun W (hb : Below w.heap.size w W) => show ∀ j, j < (l.drop K).length → W.cell? ⟨g, K + j, none⟩ = some (.int .i64 ((l.drop K).getD j 0)) from fun j hj => by
      rw [hD] at hj
      rw [HC.out W hb (K + j) (by omega)]
      simp [List.getD])
  have HT := Lib.hid (And.intro hT hD)
  clear hT hD
  go_enter Tryd.func22, Tryd.ntmps22
  go_wp2_with (go_at_call 33; (with_reducible refine C.out.mono ?_); rintro e w' ⟨rfl, hw⟩; subst hw)
  go_loop [7] (fun i => ∃ k : Nat, k ≤ K ∧ i = .int .i64 k) (fun i => l.length - (intOf i).toNat)
  case atStart => exact ⟨0, by omega, rfl⟩
  case round =>
    obtain ⟨k, hk, rfl⟩ := hrel
    by_cases hkK : k < K
    · have hcn := K4.out.1 k hkK
      have c1 := HC.out _ (Below.refl _ _) k (by omega)
      have hlt : k < l.length := by omega
      generalize l.getD k 0 = c at *
      go_wp2
      go_round
      case rel => exact ⟨k + 1, by omega, by go_num⟩
      case measure => simp [intOf]; omega
    · obtain rfl : k = K := by omega
      by_cases hlt : k < l.length
      · have hcn := K4.out.2 hlt
        have c1 := HC.out _ (Below.refl _ _) k hlt
        generalize l.getD k 0 = c at *
        go_wp2_with (at_builtin; first
      | (refine wpList_appI rfl _ _ rfl w'.heap.size _ 0 k [] rfl (World.ownsRow_lit w' #[] 0 (Nat.le_refl _) (by decide) rfl) _ (l.take k) rfl (S1.out _ ((Below.refl _ w').alloc (Nat.le_refl _) _)) (by rw [HT.out.1]; omega) (by omega) (by simp) ?_; intro v1 w1 ho1 hg1; obtain ⟨a1, c1, rfl⟩ := own_slice ho1)
      | (refine wpList_appI rfl _ _ rfl w'.heap.size _ k (k + 1) _ rfl (ho1.alloc _) _ [n] rfl (.inr ⟨w1.heap.size, 0, 1, 1, rfl, rfl, one_new w1 n⟩) rfl (by omega) (by have := hg1.size; simp only [World.size_alloc] at this ⊢; omega) ?_; intro v2 w2 ho2 hg2; obtain ⟨a2, c2, rfl⟩ := own_slice ho2)
      | (refine wpList_appI rfl _ _ rfl w'.heap.size _ (k + 1) (l.length + 1) _ rfl ho2 _ (l.drop k) rfl (.inr ⟨g, k, cap - k, l.length - k, rfl, HT.out.2.symm, S3.out _ (below_again _ (step_below ((Below.refl w'.heap.size w').alloc (Nat.le_refl _) _) (World.ownsRow_lit w' #[] 0 (Nat.le_refl _) (by decide) rfl) hg1) ho1 hg2)⟩) (by rw [HT.out.2]; omega) (by omega) (size2 hg1 hg2) ?_; intro v3 w3 ho3 hg3; obtain ⟨a3, c3, rfl⟩ := own_slice ho3))
        go_ret
        have b1 := step_below ((Below.refl w'.heap.size w').alloc (Nat.le_refl _) _) (World.ownsRow_lit w' #[] 0 (Nat.le_refl _) (by decide) rfl) hg1
        have b2 := below_again _ b1 ho1 hg2
        exact ⟨_, rfl, fin_row _ _ k1 (row_base ho3 hB), step_below b2 ho2 hg3⟩
      · have hke : k = l.length := by omega
        have hlt2 : ¬ (k : Int) < (l.length : Int) := by omega
        have HKE := Lib.hid hke
        clear hke
        by_cases hcc : cap = k
        · obtain rfl : k = cap := hcc.symm
          clear hcc
          go_wp2_with (at_builtin; first
        | (refine wpList_appI rfl _ _ rfl w'.heap.size _ 0 k [] rfl (World.ownsRow_lit w' #[] 0 (Nat.le_refl _) (by decide) rfl) _ (l.take k) rfl (S1.out _ ((Below.refl _ w').alloc (Nat.le_refl _) _)) (by rw [HT.out.1]; omega) (by omega) (by simp) ?_; intro v1 w1 ho1 hg1; obtain ⟨a1, c1, rfl⟩ := own_slice ho1)
        | (refine wpList_appI rfl _ _ rfl w'.heap.size _ k (k + 1) _ rfl (ho1.alloc _) _ [n] rfl (.inr ⟨w1.heap.size, 0, 1, 1, rfl, rfl, one_new w1 n⟩) rfl (by omega) (by have := hg1.size; simp only [World.size_alloc] at this ⊢; omega) ?_; intro v2 w2 ho2 hg2; obtain ⟨a2, c2, rfl⟩ := own_slice ho2)
        | (refine wpList_appI rfl _ _ rfl w'.heap.size _ (k + 1) (l.length + 1) _ rfl ho2 _ (l.drop k) rfl (.inr ⟨g, 0, 0, 0, rfl, (by rw [HT.out.2]; have := HKE.out; omega), fun j hj => absurd hj (by rw [HT.out.2]; have := HKE.out; omega)⟩) (by rw [HT.out.2]; have := HKE.out; omega) (by omega) (size2 hg1 hg2) ?_; intro v3 w3 ho3 hg3; obtain ⟨a3, c3, rfl⟩ := own_slice ho3))
          all_goals
           go_ret
           have b1 := step_below ((Below.refl w'.heap.size w').alloc (Nat.le_refl _) _) (World.ownsRow_lit w' #[] 0 (Nat.le_refl _) (by decide) rfl) hg1
           have b2 := below_again _ b1 ho1 hg2
           exact ⟨_, rfl, fin_row _ _ k1 (row_base ho3 hB), step_below b2 ho2 hg3⟩
        · have hcc2 : ¬ k = cap := fun e => hcc e.symm
          go_wp2_with (at_builtin; first
        | (refine wpList_appI rfl _ _ rfl w'.heap.size _ 0 k [] rfl (World.ownsRow_lit w' #[] 0 (Nat.le_refl _) (by decide) rfl) _ (l.take k) rfl (S1.out _ ((Below.refl _ w').alloc (Nat.le_refl _) _)) (by rw [HT.out.1]; omega) (by omega) (by simp) ?_; intro v1 w1 ho1 hg1; obtain ⟨a1, c1, rfl⟩ := own_slice ho1)
        | (refine wpList_appI rfl _ _ rfl w'.heap.size _ k (k + 1) _ rfl (ho1.alloc _) _ [n] rfl (.inr ⟨w1.heap.size, 0, 1, 1, rfl, rfl, one_new w1 n⟩) rfl (by omega) (by have := hg1.size; simp only [World.size_alloc] at this ⊢; omega) ?_; intro v2 w2 ho2 hg2; obtain ⟨a2, c2, rfl⟩ := own_slice ho2)
        | (refine wpList_appI rfl _ _ rfl w'.heap.size _ (k + 1) (l.length + 1) _ rfl ho2 _ (l.drop k) rfl (.inr ⟨g, k, cap - k, l.length - k, rfl, HT.out.2.symm, S3.out _ (below_again _ (step_below ((Below.refl w'.heap.size w').alloc (Nat.le_refl _) _) (World.ownsRow_lit w' #[] 0 (Nat.le_refl _) (by decide) rfl) hg1) ho1 hg2)⟩) (by rw [HT.out.2]; have := HKE.out; omega) (by omega) (size2 hg1 hg2) ?_; intro v3 w3 ho3 hg3; obtain ⟨a3, c3, rfl⟩ := own_slice ho3))
          all_goals
           go_ret
           have b1 := step_below ((Below.refl w'.heap.size w').alloc (Nat.le_refl _) _) (World.ownsRow_lit w' #[] 0 (Nat.le_refl _) (by decide) rfl) hg1
           have b2 := below_again _ b1 ho1 hg2
           exact ⟨_, rfl, fin_row _ _ k1 (row_base ho3 hB), step_below b2 ho2 hg3⟩

set_option maxHeartbeats 1000000 in
theorem radd_any (v : Value) (l : List Int) (n room : Int) (B : Nat) (w : World) (hB : B ≤ w.heap.size) (hl : l.length ≤ 10000) (h : w.ownsRow B 3 1 v l.length (iV l)) :
    Calls Tryd.prog 22 #[v, .int .i64 n, .int .i64 room] w fun e w' => ListOut w B (addF l n room) e w' := by
  unfold addF
  by_cases hf : n < 0 ∨ room ≤ n
  · rw [if_pos (by rcases hf with h | h; exact .inl h; exact .inr (.inl h))]
    exact radd_out v l n room B w h hf
  · by_cases hin : n ∈ l
    · rw [if_pos (.inr (.inr hin))]
      exact radd_old v l n room B w h (by omega) (by omega) hin
    · rw [if_neg (by rintro (h | h | h); exact hf (.inl h); exact hf (.inr h); exact hin h)]
      rcases h.2 with ⟨rfl, h0⟩ | ⟨g, cap, cur, rfl, _, _, hcap, _⟩
      · have e : l = [] := List.eq_nil_of_length_eq_zero h0
        subst e
        exact radd_nil n room B w hB (by omega) (by omega)
      · exact radd_some g cap l n room B w hB hl h hcap (by omega) (by omega) hin

end Go.Proofs.YtemmaoapicaloaaDoor.Bt

/- What a tree tells by its parts, in numbers; trees that are near. -/
import Derived.Test.YtdmceapbobkklaaDoorArBox
namespace Go.Proofs.YtdmceapbobkklaaDoor.Ar
open Go Go.RowKit Go.Shelf
open Go.Proofs.YtdmceapbobkklaaDoor.Rg (R RngsAt RowsAt nthL add_zero own_next)

theorem gD_two (a b : Int) (ha : 0 ≤ a) (hb : 0 ≤ b) : gD [a, b] = max a b + 1 := by simp [gD]; omega
theorem gD_one (a : Int) (ha : 0 ≤ a) : gD [a] = a + 1 := by simp [gD]; omega
theorem gD_none : gD [] = 1 := rfl
theorem gZ_two (a b : Int) : gZ [a, b] = 1 + a + b := by simp [gZ]
theorem gZ_one (a : Int) : gZ [a] = 1 + a := by simp [gZ]
theorem gZ_none : gZ [] = 1 := rfl
/-- what a tree tells lies between -/
def Bnd (g : List Int → Int) (l : List Nd) : Prop := ∀ i, i < l.length → 1 ≤ reck g l i ∧ reck g l i ≤ 1048576

theorem ret_int {a b : Int} (h : a = b) : Ending.returned (.int .i64 a) = .returned (.int .i64 b) := by rw [h]

theorem bnd_gD {t : Tr} (ht : Ok t) (hl : t.ns.length ≤ 4096) : Bnd gD t.ns := by
  have h : ∀ i, i < t.ns.length → 1 ≤ reck gD t.ns i ∧ reck gD t.ns i ≤ (i : Int) + 1 := by
    intro i
    induction i using Nat.strongRecOn with
    | ind i ih =>
      intro hi
      rcases nodeB_ways (ht.node i hi) with ⟨h1, _⟩ | ⟨h1, _⟩ | ⟨h1, h2⟩ | ⟨h1, h2⟩
      · rw [reck_none (by omega) (by omega), gD_none]; omega
      · rw [reck_none (by omega) (by omega), gD_none]; omega
      · have e1 := ih (nd t.ns i).a.toNat (by omega) (by omega)
        have e2 := ih (nd t.ns i).b.toNat (by omega) (by omega)
        rw [reck_two h1 (by omega) (by omega), gD_two _ _ (by omega) (by omega)]; omega
      · have e1 := ih (nd t.ns i).a.toNat (by omega) (by omega)
        rw [reck_one h1 (by omega), gD_one _ (by omega)]; omega
  exact fun i hi => by have := h i hi; omega
theorem gS_two (a b : Int) : gS [a, b] = min (1 + a + b) 1048576 := by simp [gS]
theorem gS_one (a : Int) : gS [a] = min (1 + a) 1048576 := by simp [gS]
theorem gS_none : gS [] = 1 := rfl
theorem bnd_gS {t : Tr} (ht : Ok t) : Bnd gS t.ns := by
  intro i
  induction i using Nat.strongRecOn with
  | ind i ih =>
    intro hi
    rcases nodeB_ways (ht.node i hi) with ⟨h1, _⟩ | ⟨h1, _⟩ | ⟨h1, h2⟩ | ⟨h1, h2⟩
    · rw [reck_none (by omega) (by omega), gS_none]; omega
    · rw [reck_none (by omega) (by omega), gS_none]; omega
    · have e1 := ih (nd t.ns i).a.toNat (by omega) (by omega)
      have e2 := ih (nd t.ns i).b.toNat (by omega) (by omega)
      rw [reck_two h1 (by omega) (by omega), gS_two]; omega
    · have e1 := ih (nd t.ns i).a.toNat (by omega) (by omega)
      rw [reck_one h1 (by omega), gS_one]; omega

/-- how many nodes are counted, whatever the kinds -/
def farK (l : List Nd) (i : Nat) : Int :=
  1 + (if 0 ≤ (nd l i).a then (if (nd l i).a.toNat < i then farK l (nd l i).a.toNat else 0) else 0) + (if 0 ≤ (nd l i).b then (if (nd l i).b.toNat < i then farK l (nd l i).b.toNat else 0) else 0)
  termination_by i
  decreasing_by all_goals omega
theorem farK_pos (l : List Nd) (i : Nat) : 1 ≤ farK l i := by
  induction i using Nat.strongRecOn with
  | ind i ih =>
    rw [farK]
    have e1 : ∀ x : Nat, 0 ≤ (if x < i then farK l x else 0) := fun x => by
      split
      · have := ih x (by omega); omega
      · omega
    have a1 := e1 (nd l i).a.toNat
    have a2 := e1 (nd l i).b.toNat
    split <;> split <;> omega
/-- no tree is far: what the document's Far tells apart -/
structure Near (t : Tr) : Prop where
  ns : t.ns.length ≤ 60
  sets : t.sets.length ≤ 60
  size : ∀ i, i < t.ns.length → farK t.ns i ≤ 3000
  each : ∀ k, k < t.sets.length → (Rg.nthL t.sets k).length ≤ 30
theorem gZ_far {t : Tr} (ht : Ok t) : ∀ i, i < t.ns.length → 1 ≤ reck gZ t.ns i ∧ reck gZ t.ns i ≤ farK t.ns i := by
  intro i
  induction i using Nat.strongRecOn with
  | ind i ih =>
    intro hi
    have hp := farK_pos t.ns
    have h0 := hp i
    rcases nodeB_ways (ht.node i hi) with ⟨h1, _⟩ | ⟨h1, _⟩ | ⟨h1, h2⟩ | ⟨h1, h2⟩
    · rw [reck_none (by omega) (by omega), gZ_none]; omega
    · rw [reck_none (by omega) (by omega), gZ_none]; omega
    · have e1 := ih (nd t.ns i).a.toNat (by omega) (by omega)
      have e2 := ih (nd t.ns i).b.toNat (by omega) (by omega)
      rw [reck_two h1 (by omega) (by omega), gZ_two, farK, if_pos (by omega), if_pos (by omega), if_pos (by omega), if_pos (by omega)]; omega
    · have e1 := ih (nd t.ns i).a.toNat (by omega) (by omega)
      rw [reck_one h1 (by omega), gZ_one, farK, if_pos (by omega), if_pos (by omega)]
      have hq := hp (nd t.ns i).b.toNat
      split
      · split <;> omega
      · omega
theorem bnd_gZ {t : Tr} (ht : Ok t) (hn : Near t) : Bnd gZ t.ns := fun i hi => by
  have h1 := gZ_far ht i hi
  have h2 := hn.size i hi
  omega
theorem gS_gZ {t : Tr} (ht : Ok t) (hn : Near t) : ∀ i, i < t.ns.length → reck gS t.ns i = reck gZ t.ns i := by
  intro i
  induction i using Nat.strongRecOn with
  | ind i ih =>
    intro hi
    have hb := bnd_gZ ht hn
    have h0 := hb i hi
    have h00 := gZ_far ht i hi
    have h01 := hn.size i hi
    rcases nodeB_ways (ht.node i hi) with ⟨h1, _⟩ | ⟨h1, _⟩ | ⟨h1, h2⟩ | ⟨h1, h2⟩
    · rw [reck_none (by omega) (by omega), reck_none (by omega) (by omega)]; rfl
    · rw [reck_none (by omega) (by omega), reck_none (by omega) (by omega)]; rfl
    · rw [reck_two h1 (by omega) (by omega), gZ_two] at h00
      rw [reck_two h1 (by omega) (by omega), reck_two h1 (by omega) (by omega), gS_two, gZ_two, ih _ (by omega) (by omega), ih _ (by omega) (by omega)]; omega
    · rw [reck_one h1 (by omega), gZ_one] at h00
      rw [reck_one h1 (by omega), reck_one h1 (by omega), gS_one, gZ_one, ih _ (by omega) (by omega)]; omega

end Go.Proofs.YtdmceapbobkklaaDoor.Ar

/- Depth and Size of the program. -/
import Derived.Test.YtdgpanofehfjdaaArReck
namespace Go.Proofs.Ytdgpanofehfjdaa.Ar
open Go Go.RowKit Go.Shelf
open Go.Proofs.Ytdgpanofehfjdaa.Rg (R RngsAt RowsAt nthL add_zero own_next)

theorem bnd_gD {t : Tr} (ht : Ok t) (hl : t.ns.length ≤ 4096) : Bnd gD t.ns := by
  have h : ∀ i, i < t.ns.length → 1 ≤ reck gD t.ns i ∧ reck gD t.ns i ≤ (i : Int) + 1 := by
    intro i
    induction i using Nat.strongRecOn with
    | ind i ih =>
      intro hi
      rcases nodeB_ways (ht.node i hi) with ⟨h1, _⟩ | ⟨h1, _⟩ | ⟨h1, h2⟩ | ⟨h1, h2⟩
      · rw [reck_none (by omega) (by omega), gD_none]; omega
      · rw [reck_none (by omega) (by omega), gD_none]; omega
      · have e1 := ih (nd t.ns i).a.toNat (by omega) (by omega)
        have e2 := ih (nd t.ns i).b.toNat (by omega) (by omega)
        rw [reck_two h1 (by omega) (by omega), gD_two _ _ (by omega) (by omega)]; omega
      · have e1 := ih (nd t.ns i).a.toNat (by omega) (by omega)
        rw [reck_one h1 (by omega), gD_one _ (by omega)]; omega
  exact fun i hi => by have := h i hi; omega
theorem gS_two (a b : Int) : gS [a, b] = min (1 + a + b) 1048576 := by simp [gS]
theorem gS_one (a : Int) : gS [a] = min (1 + a) 1048576 := by simp [gS]
theorem gS_none : gS [] = 1 := rfl
theorem bnd_gS {t : Tr} (ht : Ok t) : Bnd gS t.ns := by
  intro i
  induction i using Nat.strongRecOn with
  | ind i ih =>
    intro hi
    rcases nodeB_ways (ht.node i hi) with ⟨h1, _⟩ | ⟨h1, _⟩ | ⟨h1, h2⟩ | ⟨h1, h2⟩
    · rw [reck_none (by omega) (by omega), gS_none]; omega
    · rw [reck_none (by omega) (by omega), gS_none]; omega
    · have e1 := ih (nd t.ns i).a.toNat (by omega) (by omega)
      have e2 := ih (nd t.ns i).b.toNat (by omega) (by omega)
      rw [reck_two h1 (by omega) (by omega), gS_two]; omega
    · have e1 := ih (nd t.ns i).a.toNat (by omega) (by omega)
      rw [reck_one h1 (by omega), gS_one]; omega

/-- how many nodes are counted, whatever the kinds -/
def farK (l : List Nd) (i : Nat) : Int :=
  1 + (if 0 ≤ (nd l i).a then (if (nd l i).a.toNat < i then farK l (nd l i).a.toNat else 0) else 0) + (if 0 ≤ (nd l i).b then (if (nd l i).b.toNat < i then farK l (nd l i).b.toNat else 0) else 0)
  termination_by i
  decreasing_by all_goals omega
theorem farK_pos (l : List Nd) (i : Nat) : 1 ≤ farK l i := by
  induction i using Nat.strongRecOn with
  | ind i ih =>
    rw [farK]
    have e1 : ∀ x : Nat, 0 ≤ (if x < i then farK l x else 0) := fun x => by
      split
      · have := ih x (by omega); omega
      · omega
    have a1 := e1 (nd l i).a.toNat
    have a2 := e1 (nd l i).b.toNat
    split <;> split <;> omega
/-- no tree is far: what the document's Far tells apart -/
structure Near (t : Tr) : Prop where
  ns : t.ns.length ≤ 60
  sets : t.sets.length ≤ 60
  size : ∀ i, i < t.ns.length → farK t.ns i ≤ 3000
  each : ∀ k, k < t.sets.length → (Rg.nthL t.sets k).length ≤ 30
theorem gZ_far {t : Tr} (ht : Ok t) : ∀ i, i < t.ns.length → 1 ≤ reck gZ t.ns i ∧ reck gZ t.ns i ≤ farK t.ns i := by
  intro i
  induction i using Nat.strongRecOn with
  | ind i ih =>
    intro hi
    have hp := farK_pos t.ns
    have h0 := hp i
    rcases nodeB_ways (ht.node i hi) with ⟨h1, _⟩ | ⟨h1, _⟩ | ⟨h1, h2⟩ | ⟨h1, h2⟩
    · rw [reck_none (by omega) (by omega), gZ_none]; omega
    · rw [reck_none (by omega) (by omega), gZ_none]; omega
    · have e1 := ih (nd t.ns i).a.toNat (by omega) (by omega)
      have e2 := ih (nd t.ns i).b.toNat (by omega) (by omega)
      rw [reck_two h1 (by omega) (by omega), gZ_two, farK, if_pos (by omega), if_pos (by omega), if_pos (by omega), if_pos (by omega)]; omega
    · have e1 := ih (nd t.ns i).a.toNat (by omega) (by omega)
      rw [reck_one h1 (by omega), gZ_one, farK, if_pos (by omega), if_pos (by omega)]
      have hq := hp (nd t.ns i).b.toNat
      split
      · split <;> omega
      · omega
theorem bnd_gZ {t : Tr} (ht : Ok t) (hn : Near t) : Bnd gZ t.ns := fun i hi => by
  have h1 := gZ_far ht i hi
  have h2 := hn.size i hi
  omega
theorem gS_gZ {t : Tr} (ht : Ok t) (hn : Near t) : ∀ i, i < t.ns.length → reck gS t.ns i = reck gZ t.ns i := by
  intro i
  induction i using Nat.strongRecOn with
  | ind i ih =>
    intro hi
    have hb := bnd_gZ ht hn
    have h0 := hb i hi
    have h00 := gZ_far ht i hi
    have h01 := hn.size i hi
    rcases nodeB_ways (ht.node i hi) with ⟨h1, _⟩ | ⟨h1, _⟩ | ⟨h1, h2⟩ | ⟨h1, h2⟩
    · rw [reck_none (by omega) (by omega), reck_none (by omega) (by omega)]; rfl
    · rw [reck_none (by omega) (by omega), reck_none (by omega) (by omega)]; rfl
    · rw [reck_two h1 (by omega) (by omega), gZ_two] at h00
      rw [reck_two h1 (by omega) (by omega), reck_two h1 (by omega) (by omega), gS_two, gZ_two, ih _ (by omega) (by omega), ih _ (by omega) (by omega)]; omega
    · rw [reck_one h1 (by omega), gZ_one] at h00
      rw [reck_one h1 (by omega), reck_one h1 (by omega), gS_one, gZ_one, ih _ (by omega) (by omega)]; omega

set_option maxRecDepth 100000 in
set_option maxHeartbeats 2000000 in
theorem depth_any (t : Tr) (v : Value) (w : World) (h : TreeAt w v t) :
    Calls Try.prog 10 #[v] w fun e w' => e = .returned (.int .i64 (if checkE t = 0 then reck gD t.ns t.root.toNat else 0)) ∧ Below w.heap.size w w' := by
  have hE : Enters Try.prog 34 := enters_of Try.func34 (by kernel_rfl) rfl
  have C := Lib.hid (fun W (hW : TreeAt W v t) => reckoned_any gD 34 hE (fun l v W hl _ hv => deeper_any l hl v W hv) t (fun hc => bnd_gD (check_ok hc).1 (check_ok hc).2.1) v W hW)
  generalize (if checkE t = 0 then reck gD t.ns t.root.toNat else 0) = r at *
  have HV := Lib.hid h
  obtain ⟨ao, cap, so, scap, rfl, _, _, _, _⟩ := h.shape
  have B1 := Lib.hid (fun o => (Below.refl w.heap.size w).alloc (Nat.le_refl _) o)
  clear h hE
  go_enter Try.func10, Try.ntmps10
  go_wp2_with (go_at_call 33; (with_reducible refine (C.out _ (HV.out.next (B1.out _))).mono ?_); rintro e w1 ⟨rfl, hb1⟩)
  go_ret
  exact ⟨rfl, (B1.out _).trans (hb1.mono (by simp))⟩
set_option maxRecDepth 100000 in
set_option maxHeartbeats 2000000 in
theorem size_any (t : Tr) (v : Value) (w : World) (h : TreeAt w v t) :
    Calls Try.prog 11 #[v] w fun e w' => e = .returned (.int .i64 (if checkE t = 0 then reck gS t.ns t.root.toNat else 0)) ∧ Below w.heap.size w w' := by
  have hE : Enters Try.prog 35 := enters_of Try.func35 (by kernel_rfl) rfl
  have C := Lib.hid (fun W (hW : TreeAt W v t) => reckoned_any gS 35 hE (fun l v W hl h2 hv => greater_any l hl h2 v W hv) t (fun hc => bnd_gS (check_ok hc).1) v W hW)
  generalize (if checkE t = 0 then reck gS t.ns t.root.toNat else 0) = r at *
  have HV := Lib.hid h
  obtain ⟨ao, cap, so, scap, rfl, _, _, _, _⟩ := h.shape
  have B1 := Lib.hid (fun o => (Below.refl w.heap.size w).alloc (Nat.le_refl _) o)
  clear h hE
  go_enter Try.func11, Try.ntmps11
  go_wp2_with (go_at_call 33; (with_reducible refine (C.out _ (HV.out.next (B1.out _))).mono ?_); rintro e w1 ⟨rfl, hb1⟩)
  go_ret
  exact ⟨rfl, (B1.out _).trans (hb1.mono (by simp))⟩

end Go.Proofs.Ytdgpanofehfjdaa.Ar

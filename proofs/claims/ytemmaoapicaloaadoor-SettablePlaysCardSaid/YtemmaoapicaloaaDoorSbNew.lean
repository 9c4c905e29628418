/- New. -/
import Derived.Test.YtemmaoapicaloaaDoorSbTop
namespace Go.Proofs.YtemmaoapicaloaaDoor.Sb
open Go Go.RowKit Go.Proofs.YtemmaoapicaloaaDoor.At
open Go.Proofs.YtemmaoapicaloaaDoor.Bt (SetAt setV memL nums roomF)

/-- for how many sets a table has room -/
def roomT (n : Int) : Nat := if n < 1 then 1 else if 65536 < n then 65536 else n.toNat
/-- an empty table -/
def tb0 (n : Int) (pv : Value) : Tb := ⟨roomT n, 64, [], List.replicate 8 0, .slice none 0 0, pv, 0⟩
theorem good0 (n : Int) (pv : Value) : Good (tb0 n pv) := by
  have h1 : 1 ≤ roomT n ∧ roomT n ≤ 65536 := by
    unfold roomT; split; omega; split <;> omega
  refine ⟨h1.1, h1.2, by show 1 ≤ 64; omega, by show 64 ≤ 131072; omega, fun i hi => ?_, fun i j hi => ?_, stood_new 8 [], by show 3 * (0 + 1) ≤ 2 * (List.replicate 8 0).length; simp, by show (List.replicate 8 0).length ≤ 200000; simp, by show 0 ≤ _; omega⟩
  · exact absurd hi (by show ¬ i < 0; omega)
  · exact absurd hi (by show ¬ i < 0; omega)
/-- what New tells -/
def NewTb (w : World) (n : Int) (e : Ending) (w' : World) : Prop :=
  ∃ tb pv, e = .returned (ptr tb) ∧ TbIn w' w.heap.size tb (tb0 n pv) ∧ Below w.heap.size w w'

theorem made8 (w : World) : ∃ w', (Instr.makeSlice 27 (.int .i64 8) (.int .i64 8)).run Tryd.prog w = .ok (.slice (some ⟨w.heap.size, 0, none⟩) 8 8) w' ∧
    w'.ownsRow w.heap.size 3 1 (.slice (some ⟨w.heap.size, 0, none⟩) 8 8) 8 (pV (List.replicate 8 0)) ∧ w.grownBy w' none := by
  obtain ⟨i0, hi, hz0, hz1, hz2⟩ := info_parts infoI2
  obtain ⟨w', h1, h2, h3⟩ := run_makeSlice_full (P := Tryd.prog) w w.heap.size 27 3 i0 (.int .i64 0) 1 Tryd.underlying27 hi hz0 hz1 .i64 .i64 8 (by omega) (by rw [hz2]; omega) (by unfold maxLen; omega) (Nat.le_refl _)
  have e : (madeCells (Value.int .i64 0).cells (8 * 1)).toList = pV (List.replicate 8 0) := by
    rw [show (Value.int .i64 0).cells = #[.int .i64 0] from rfl, toList_madeCells_one]
    simp [pV]
  rw [e] at h2
  exact ⟨w', h1, h2, h3⟩

theorem new_fin {w w1 : World} (n : Int) (h2 : w1.ownsRow w.heap.size 3 1 (.slice (some ⟨w.heap.size, 0, none⟩) 8 8) 8 (pV (List.replicate 8 0))) (h3 : w.grownBy w1 none) :
    TbIn (w1.alloc (.cells #[.int .i64 (roomT n : Nat), .int .i64 64, .slice none 0 0, .slice (some ⟨w.heap.size, 0, none⟩) 8 8, .func (.func 21) #[] #[]] 47)) w.heap.size w1.heap.size (tb0 n (.slice (some ⟨w.heap.size, 0, none⟩) 8 8)) ∧
    Below w.heap.size w (w1.alloc (.cells #[.int .i64 (roomT n : Nat), .int .i64 64, .slice none 0 0, .slice (some ⟨w.heap.size, 0, none⟩) 8 8, .func (.func 21) #[] #[]] 47)) := by
  have hb := (Below.refl w.heap.size w).grown h3 (Nat.le_refl _) (fun k e => by cases e)
  exact ⟨⟨h3.size, at_new w1 _, World.ownsRow_nil _ _ _ _, fun i hi => absurd hi (by show ¬ i < 0; omega), h2.alloc _⟩, hb.alloc hb.size _⟩

set_option maxRecDepth 100000 in
set_option maxHeartbeats 1000000 in
theorem new_any (n : Int) (w : World) : Calls Tryd.prog 6 #[.int .i64 n] w fun e w' => NewTb w n e w' := by
  obtain ⟨w1, h1, h2, h3⟩ := made8 w
  have FIN := Lib.hid (new_fin n h2 h3)
  have R := Lib.hid h1
  clear h1 h2 h3
  unfold roomT at FIN
  by_cases a1 : n < 1
  · rw [if_pos a1] at FIN
    go_enter Tryd.func6, Tryd.ntmps6
    go_wp2
    rw [R.out]
    go_wp2
    go_ret
    exact ⟨w1.heap.size, _, rfl, FIN.out.1, FIN.out.2⟩
  · by_cases a2 : 65536 < n
    · rw [if_neg a1, if_pos a2] at FIN
      go_enter Tryd.func6, Tryd.ntmps6
      go_wp2
      rw [R.out]
      go_wp2
      go_ret
      exact ⟨w1.heap.size, _, rfl, FIN.out.1, FIN.out.2⟩
    · rw [if_neg a1, if_neg a2] at FIN
      obtain ⟨m, rfl⟩ : ∃ m : Nat, n = m := ⟨n.toNat, by omega⟩
      rw [Int.toNat_natCast] at FIN
      by_cases a3 : m = 65536
      · subst a3
        go_enter Tryd.func6, Tryd.ntmps6
        go_wp2
        rw [R.out]
        go_wp2
        go_ret
        exact ⟨w1.heap.size, _, rfl, FIN.out.1, FIN.out.2⟩
      · have a4 : (m : Int) < 65536 := by omega
        go_enter Tryd.func6, Tryd.ntmps6
        go_wp2
        rw [R.out]
        go_wp2
        go_ret
        exact ⟨w1.heap.size, _, rfl, FIN.out.1, FIN.out.2⟩

end Go.Proofs.YtemmaoapicaloaaDoor.Sb

/- What the row's listed variable gives to the walks of the laws of action; a slice of texts, an action among a row's arguments. -/
import Derived.Test.YtleejfkononjgaaDoorAcBack
import Derived.Test.YtleejfkononjgaaDoorRows
import Derived.Test.YtleejfkononjgaaDoorCardKit
import Derived.ChangeSlices
import Derived.Deep.Strs
import Derived.WideShapes
import Derived.OpenShut
import Derived.Carry
import Derived.Lib.SmallJoins
import Derived.Stop.LaidErr
namespace Go.Proofs.YtleejfkononjgaaDoor.Ac
open Go Go.RowKit Go.Deep Go.ChangeShapes Go.WideShapes Go.Joins

def stpD {H : Type} (r : Int × ByteArray × Int) : DataW H := .agg [.lit (.int .i64 r.1), .lit (.string r.2.1.data.toList), .lit (.int .i64 r.2.2)]
theorem steps_is {H : Type} : (Rows.laid_spool_action_steps : DataW H) = .agg (stp.map stpD) := rfl
theorem gSteps : Tryd.prog.globalNamed "spool/action.steps" = some 0 := by kernel_rfl
theorem gStepsType : (Tryd.prog.globals[0]?).map (·.type) = some 69 := by kernel_rfl
theorem cellsStep : Tryd.prog.cellsOf 50 = 3 := by kernel_rfl
theorem cellsStr : Tryd.prog.cellsOf 9 = 1 := by kernel_rfl
theorem cellsInt : Tryd.prog.cellsOf 3 = 1 := by kernel_rfl
theorem part_one {cs : List Value} {j k o : Nat} {v : Value} (hk : o < k) (h : (((cs.drop j).take k).drop o).take 1 = [v]) : cs[j + o]? = some v := by
  have := congrArg (·[0]?) h
  simp only [List.getElem?_cons_zero] at this
  rw [List.getElem?_take, if_pos (by omega), List.getElem?_drop, List.getElem?_take, if_pos (by omega), List.getElem?_drop] at this
  simpa using this

section
variable {H : Type} {enc : TypeId × Value → H} {w : World} {base : Nat} {sp : Nat → Bool} {held : Bool} {fuel : Nat}

theorem row_of {i : Nat} {cs : List Value} {r : Int × ByteArray × Int} {p : List MemPlace} (h : DataW.trod enc Tryd.prog w base sp held fuel 50 ((cs.drop (i * 3)).take 3) = some (stpD r, p)) :
    cs[i * 3]? = some (.int .i64 r.1) ∧ cs[i * 3 + 1]? = some (.string r.2.1) ∧ cs[i * 3 + 2]? = some (.int .i64 r.2.2) := by
  obtain ⟨y0, y1, y2, n, hx, hl, h0, h1, h2⟩ := trod_struct3 Tryd.underlying50 h
  simp only [stpD, Prod.mk.injEq, DataW.agg.injEq, List.cons.injEq, and_true] at hx
  obtain ⟨⟨q0, q1, q2⟩, _⟩ := hx
  obtain ⟨y0, z0⟩ := y0
  obtain ⟨y1, z1⟩ := y1
  obtain ⟨y2, z2⟩ := y2
  simp only at q0 q1 q2
  subst q0 q1 q2
  obtain ⟨a0, e0, d0, _⟩ := DataW.trod_int Tryd.underlying3 h0
  obtain ⟨s, e1, d1, _⟩ := DataW.trod_string Tryd.underlying9 h1
  obtain ⟨a2, e2, d2, _⟩ := DataW.trod_int Tryd.underlying3 h2
  simp only [Prod.mk.injEq, DataW.lit.injEq, Lit.int.injEq, Lit.string.injEq, true_and] at d0 d1 d2
  obtain rfl : r.2.1 = s := ByteArray.ext (Array.toList_inj.1 d1.1)
  rw [cellsInt] at e0 e2
  rw [cellsStr] at e1
  rw [← d0.1] at e0
  rw [← d2.1] at e2
  exact ⟨by simpa using part_one (o := 0) (by omega) e0, part_one (o := 1) (by omega) e1, part_one (o := 2) (by omega) e2⟩
end

theorem st_of_laid {W : World} (h : laidMet Tryd.prog [("spool/action.steps", Rows.laid_spool_action_steps)] W) : Tab W := by
  rw [steps_is] at h
  obtain ⟨ps, ⟨g', t', cs, fuel, p, q, hg', ht', hvar, hd, _, _⟩, _⟩ := h
  obtain rfl := Option.some.inj (gSteps.symm.trans hg')
  obtain rfl := Option.some.inj (gStepsType.symm.trans ht')
  obtain ⟨xs, m, _, hx, hl, hxl, hg⟩ := DataW.trod_array Tryd.underlying69 hd
  simp only [Prod.mk.injEq, DataW.agg.injEq] at hx
  rw [cellsStep] at hg
  have key : ∀ k (r : Int × ByteArray × Int), k < 5 → stp[k]? = some r → W.cell? ⟨0, k * 3, none⟩ = some (.int .i64 r.1) ∧ W.cell? ⟨0, k * 3 + 1, none⟩ = some (.string r.2.1) ∧ W.cell? ⟨0, k * 3 + 2, none⟩ = some (.int .i64 r.2.2) := fun k r hk hr => by
    have h1 := hg k hk
    have h2 : (xs.map (·.1))[k]? = some (stpD r) := by rw [← hx.1, List.getElem?_map, hr]; rfl
    rw [List.getElem?_map] at h2
    obtain ⟨⟨z, zp⟩, hz, hz2⟩ := Option.map_eq_some_iff.1 h2
    simp only at hz2
    subst hz2
    rw [hz] at h1
    obtain ⟨c0, c1, c2⟩ := row_of h1
    refine ⟨?_, ?_, ?_⟩
    · rw [World.var?_cell gSteps hvar]; simpa using c0
    · rw [World.var?_cell gSteps hvar]; simpa using c1
    · rw [World.var?_cell gSteps hvar]; simpa using c2
  have k0 := key 0 _ (by omega) rfl
  have k1 := key 1 _ (by omega) rfl
  have k2 := key 2 _ (by omega) rfl
  have k3 := key 3 _ (by omega) rfl
  have k4 := key 4 _ (by omega) rfl
  intro j v hj
  rw [Nat.zero_add]
  have hj15 : j < 15 := (List.getElem?_eq_some_iff.1 hj).1
  obtain rfl | rfl | rfl | rfl | rfl | rfl | rfl | rfl | rfl | rfl | rfl | rfl | rfl | rfl | rfl : j = 0 ∨ j = 1 ∨ j = 2 ∨ j = 3 ∨ j = 4 ∨ j = 5 ∨ j = 6 ∨ j = 7 ∨ j = 8 ∨ j = 9 ∨ j = 10 ∨ j = 11 ∨ j = 12 ∨ j = 13 ∨ j = 14 := by omega
  all_goals (cases hj; first | exact k0.1 | exact k0.2.1 | exact k0.2.2 | exact k1.1 | exact k1.2.1 | exact k1.2.2 | exact k2.1 | exact k2.2.1 | exact k2.2.2 | exact k3.1 | exact k3.2.1 | exact k3.2.2 | exact k4.1 | exact k4.2.1 | exact k4.2.2)

section
variable {H : Type} {enc : TypeId × Value → H} {W : World} {v : Value} {d : DataW H} {ps : List MemPlace} {base b2 : Nat} {sp : Nat → Bool} {held : Bool}
theorem strs_of_trod (ho : Value.okWide Tryd.prog W .any b2 22 v) (h : DataW.Trod enc Tryd.prog W base sp held 22 v d ps) : ∃ l : List ByteArray, StrsAt W v l := by
  obtain ⟨a0, len, cap, rfl⟩ := okWide_slice Tryd.underlying22 ho
  obtain ⟨fuel, hf⟩ := h
  rcases open_strs Tryd.underlying22 Tryd.underlying9 cellsStr hf with ⟨hcs, _⟩ | ⟨a, len', cap', m, Sx, hcs, _, hl, hm, hmm, _, hc⟩
  · exact ⟨[], .inl ⟨by simpa [Value.cells] using hcs, rfl⟩⟩
  · have hv : Value.slice a0 len cap = .slice (some a) len' cap' := by simpa [Value.cells] using hcs
    have hlm : len' ≤ m := by rw [hmm]; split <;> omega
    refine ⟨(List.range len').map Sx, .inr ⟨a, cap', by rw [hv]; simp, by simp; omega, fun i hi => ?_⟩⟩
    have hi' : i < len' := by simpa using hi
    rw [(hc i (by omega)).1]
    simp [List.getD, hi']
theorem act_of_trod (ho : Value.okWide Tryd.prog W .any b2 26 v) (h : DataW.Trod enc Tryd.prog W base sp held 26 v d ps) :
    ∃ (em : ByteArray) (g : Int), v = .agg #[.string em, .int .i64 g] ∧ em.size ≤ maxLen := by
  obtain ⟨v0, v1, y0, y1, n, rfl, _, _, h0, h1⟩ := open_agg2 Tryd.underlying26 (by kernel_rfl) (by kernel_rfl) ho h
  obtain ⟨x, hx, _, wx⟩ := DataW.trod_string Tryd.underlying9 h0
  obtain ⟨y, hy, _, wy⟩ := DataW.trod_int Tryd.underlying3 h1
  have ex : v0 = .string x := by simpa using hx
  have ey : v1 = .int .i64 y := by simpa using hy
  exact ⟨x, y, by rw [ex, ey], wx⟩
end

theorem walkParses (s : ByteArray) (M : List ByteArray) (v : Value) (W : World) (hs : s.size ≤ maxLen) (hv : StrsAt W v M) (h : Tab W) : Calls Tryd.prog 3 #[.string s, v] W fun e W' => e = .returned (.bool true) ∧ Below W.heap.size W W' := law_parses s M v W hs hv h
theorem walkBack (em : ByteArray) (g : Int) (M : List ByteArray) (v : Value) (s : ByteArray) (W : World) (hem : em.size ≤ maxLen) (hv : StrsAt W v M) (hs : s.size ≤ maxLen) (h : Tab W) : Calls Tryd.prog 4 #[.agg #[.string em, .int .i64 g], v, .string s] W fun e W' => e = .returned (.bool true) ∧ Below W.heap.size W W' := law_back em g M v s W hem hs hv h

end Go.Proofs.YtleejfkononjgaaDoor.Ac

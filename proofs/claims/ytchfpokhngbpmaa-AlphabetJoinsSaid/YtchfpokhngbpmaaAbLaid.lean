/- An array of two slices of ranges among a row's arguments: what it gives to a walk; the laws in the cards' words. -/
import Derived.Test.YtchfpokhngbpmaaAbLaws3
import Derived.Test.YtchfpokhngbpmaaRgTrod
import Derived.Test.YtchfpokhngbpmaaIntsCard
namespace Go.Proofs.Ytchfpokhngbpmaa.Ab
open Go.RowKit Go.ChangeShapes Go.WideShapes Go.Deep
open Go.Proofs.Ytchfpokhngbpmaa.Rg (RngsAt nth add_pair)

theorem rngs_of_cells {H : Type} {enc : TypeId × Value → H} {W : World} {base fuel : Nat} {sp : Nat → Bool} {held : Bool} {cs : List Value} {x : DataW H × List MemPlace} (hf : DataW.trod enc Try.prog W base sp held fuel 22 cs = some x) :
    ∃ (v : Value) (l : List R), cs = [v] ∧ RngsAt W v l := by
  rcases open_slice_pairs Try.underlying22 Try.underlying39 (by kernel_rfl) rfl rfl (by kernel_rfl) (by kernel_rfl) hf with ⟨hcs, _⟩ | ⟨a, len', cap', m, n, V0, V1, D0, D1, P0, P1, hcs, _, hl, hm, hmm, _, hi⟩
  · exact ⟨_, [], hcs, .inl ⟨rfl, rfl⟩⟩
  · have hlm : len' ≤ m := by rw [hmm]; split <;> omega
    refine ⟨_, (List.range len').map fun i => (intOf (V0 i), intOf (V1 i)), hcs, .inr ⟨a, cap', by simp, by simp; omega, fun i hil => ?_⟩⟩
    have hil' : i < len' := by simpa using hil
    obtain ⟨h1, h2, h3, h4⟩ := hi i (by omega)
    obtain ⟨x, hx, _, _⟩ := DataW.trod_int Try.underlying3 h3
    obtain ⟨y, hy, _, _⟩ := DataW.trod_int Try.underlying3 h4
    have ex : V0 i = .int .i64 x := by simpa using hx
    have ey : V1 i = .int .i64 y := by simpa using hy
    have hn : nth ((List.range len').map fun i => (intOf (V0 i), intOf (V1 i))) i = (x, y) := by
      simp [nth, List.getD, hil', ex, ey, intOf]
    rw [hn]
    refine ⟨by rw [h1, ex], ?_⟩
    rw [add_pair] at h2
    rw [h2, ey]

theorem two_rngs_of_trod {H : Type} {enc : TypeId × Value → H} {W : World} {v : Value} {d : DataW H} {ps : List MemPlace} {base b2 : Nat} {sp : Nat → Bool} {held : Bool} (ho : Value.okWide Try.prog W .any b2 35 v) (h : DataW.Trod enc Try.prog W base sp held 35 v d ps) :
    ∃ (v0 v1 : Value) (l0 l1 : List R), v = .agg #[v0, v1] ∧ RngsAt W v0 l0 ∧ RngsAt W v1 l1 := by
  obtain ⟨⟨cs⟩, rfl, hsz⟩ : ∃ cs, v = .agg cs ∧ cs.size = Try.prog.cellsOf 35 := by
    simp only [Value.okWide, Try.underlying35] at ho
    obtain ⟨cs, h1, h2, _⟩ := ho
    exact ⟨cs, h1, h2⟩
  rw [show Try.prog.cellsOf 35 = 2 by kernel_rfl] at hsz
  match cs, hsz with
  | [c0, c1], _ =>
    obtain ⟨fuel, hf⟩ := h
    obtain ⟨xs, m, _, _, _, hxl, hg⟩ := DataW.trod_array Try.underlying35 hf
    have h0 := hg 0 (by omega)
    have h1 := hg 1 (by omega)
    rw [show Try.prog.cellsOf 22 = 1 by kernel_rfl, List.getElem?_eq_getElem (by omega)] at h0 h1
    obtain ⟨v0, l0, e0, r0⟩ := rngs_of_cells h0
    obtain ⟨v1, l1, e1, r1⟩ := rngs_of_cells h1
    have ex : c0 = v0 := by simpa [Value.cells] using e0
    have ey : c1 = v1 := by simpa [Value.cells] using e1
    exact ⟨c0, c1, l0, l1, rfl, ex ▸ r0, ey ▸ r1⟩

theorem rngs_of_trod {H : Type} {enc : TypeId × Value → H} {W : World} {v : Value} {d : DataW H} {ps : List MemPlace} {base b2 : Nat} (ho : Value.okWide Try.prog W .any b2 22 v)
    (h : DataW.Trod enc Try.prog W base (fun _ => true) true 22 v d ps) : ∃ l : List R, RngsAt W v l := Rg.rngs_of_trod ho h

theorem wfL_of {l : List Int} (h : ∀ x ∈ l, -9223372036854775808 ≤ x ∧ x ≤ 9223372036854775807) : WfL l := fun i => by
  by_cases hi : i < l.length
  · refine WalkArith.wf_i64 (h _ ?_)
    rw [num_in hi, List.getD_eq_getElem?_getD, List.getElem?_eq_getElem hi]
    exact List.getElem_mem hi
  · rw [num_out (by omega)]
    exact WalkArith.wf_i64 (by omega)

theorem walkOf (l : List R) (v : Value) (a b : Int) (W : World) (h : RngsAt W v l) (ha : 0 ≤ a) (ha2 : a ≤ 255) (hb : 0 ≤ b) (hb2 : b ≤ 255) : Calls Try.prog 3 #[v, .int .u8 a, .int .u8 b] W fun e W' => e = .returned (.bool true) ∧ Below W.heap.size W W' := by
  obtain ⟨i, rfl⟩ := Int.eq_ofNat_of_zero_le ha
  obtain ⟨j, rfl⟩ := Int.eq_ofNat_of_zero_le hb
  exact lawOf_any l v i j W h (by omega) (by omega)
theorem walkRows (v : Value) (l : List Int) (c : Int) (W : World) (h : IntsAt W v l) (wl : ∀ x ∈ l, -9223372036854775808 ≤ x ∧ x ≤ 9223372036854775807) (_ : -9223372036854775808 ≤ c) (_ : c ≤ 9223372036854775807) : Calls Try.prog 4 #[v, .int .i64 c] W fun e W' => e = .returned (.bool true) ∧ Below W.heap.size W W' := lawRows_any v l c W h (wfL_of wl)
theorem walkJoins (va : Value) (a : List Int) (vb : Value) (b : List Int) (v0 v1 : Value) (l0 l1 : List R) (W : World) (ha : IntsAt W va a) (wa : ∀ x ∈ a, -9223372036854775808 ≤ x ∧ x ≤ 9223372036854775807) (hb : IntsAt W vb b) (wb : ∀ x ∈ b, -9223372036854775808 ≤ x ∧ x ≤ 9223372036854775807) (h0 : RngsAt W v0 l0) (h1 : RngsAt W v1 l1) : Calls Try.prog 5 #[va, vb, .agg #[v0, v1]] W fun e W' => e = .returned (.bool true) ∧ Below W.heap.size W W' := lawJoins_any a b l0 l1 va vb v0 v1 W ha hb h0 h1 (wfL_of wa) (wfL_of wb)

end Go.Proofs.Ytchfpokhngbpmaa.Ab

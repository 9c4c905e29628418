/- The second law's arguments, and its walk, as its card asks it. -/
import Derived.Test.YtcjpelmcofeknaaDoorBtSame2
import Derived.Test.YtcjpelmcofeknaaDoorBtTabL
import Derived.Test.YtcjpelmcofeknaaDoorCardKit
import Derived.Test.YtcjpelmcofeknaaDoorIntsCard
import Derived.ChangeSlices
import Derived.Carry
import Derived.OpenShut
import Derived.ChangeArms
import Derived.Deep.Slices
import Derived.DataReads
import Derived.WideShapes
namespace Go.Proofs.YtcjpelmcofeknaaDoor.Bt
open Go Go.RowKit Go.ChangeShapes Go.WideShapes Go.Deep Go.Shelf

set_option maxRecDepth 4000
theorem nat_u16 {x : Int} (h : (Lit.int .u16 x).wf = true) : ∃ n : Nat, x = (n : Int) ∧ n ≤ 65535 := by
  have := bounds_u16 h
  exact ⟨x.toNat, by omega, by omega⟩
theorem two16_of_trod {H : Type} {enc : TypeId × Value → H} {W : World} {v : Value} {d : DataW H} {ps : List MemPlace} {base b2 : Nat} {sp : Nat → Bool} {held : Bool} (ho : Value.okWide Tryd.prog W .any b2 43 v) (h : DataW.Trod enc Tryd.prog W base sp held 43 v d ps) :
    ∃ x y : Nat, v = .agg #[.int .u16 (x : Nat), .int .u16 (y : Nat)] ∧ x ≤ 65535 ∧ y ≤ 65535 := by
  obtain ⟨⟨cs⟩, rfl, hsz⟩ : ∃ cs, v = .agg cs ∧ cs.size = Tryd.prog.cellsOf 43 := by
    simp only [Value.okWide, Tryd.underlying43] at ho
    obtain ⟨cs, h1, h2, _⟩ := ho
    exact ⟨cs, h1, h2⟩
  rw [show Tryd.prog.cellsOf 43 = 2 by kernel_rfl] at hsz
  match cs, hsz with
  | [c0, c1], _ =>
    obtain ⟨fuel, hf⟩ := h
    obtain ⟨xs, m, _, _, _, hxl, hg⟩ := DataW.trod_array Tryd.underlying43 hf
    have h0 := hg 0 (by omega)
    have h1 := hg 1 (by omega)
    rw [show Tryd.prog.cellsOf 42 = 1 by kernel_rfl, List.getElem?_eq_getElem (by omega)] at h0 h1
    obtain ⟨x, hx, _, wx⟩ := DataW.trod_int Tryd.underlying42 h0
    obtain ⟨y, hy, _, wy⟩ := DataW.trod_int Tryd.underlying42 h1
    have ex : c0 = .int .u16 x := by simpa [Value.cells] using hx
    have ey : c1 = .int .u16 y := by simpa [Value.cells] using hy
    obtain ⟨n, rfl, hn⟩ := nat_u16 wx
    obtain ⟨k, rfl, hk⟩ := nat_u16 wy
    exact ⟨n, k, by rw [ex, ey], hn, hk⟩

theorem walkSame (x y : Nat) (va : Value) (la : List Int) (vb : Value) (lb : List Int) (W : World) (hx : x ≤ 65535) (hy : y ≤ 65535) (ha : IntsAt W va la) (hb : IntsAt W vb lb) (h : Tab W) : Calls Tryd.prog 4 #[.agg #[.int .u16 (x : Nat), .int .u16 (y : Nat)], va, vb] W fun e W' => e = .returned (.bool true) ∧ Below W.heap.size W W' := by
  by_cases hl : 60 < la.length ∨ 60 < lb.length
  · exact same_far x y va vb la lb W h ha hb hl
  · exact same_near x y hx hy va vb la lb W h ha hb (by omega) (by omega)

end Go.Proofs.YtcjpelmcofeknaaDoor.Bt

/- The document's Right. -/
import Derived.Test.YtdmceapbobkklaaDoorRgCmp
import Derived.Test.YtdmceapbobkklaaDoorRgSet2
namespace Go.Proofs.YtdmceapbobkklaaDoor.Rg
open Go.RowKit Go.Shelf

/-- is it a set -/
noncomputable def rightB (l : List R) : Bool := @decide (setFrom 0 l) (Classical.propDecidable _)
theorem rightB_iff (l : List R) : rightB l = true ↔ setFrom 0 l := by unfold rightB; exact @decide_eq_true_iff _ (Classical.propDecidable _)
theorem rightB_of {l : List R} {b : Bool} (h : b = true ↔ setFrom 0 l) : b = rightB l := by
  rw [Bool.eq_iff_iff, rightB_iff]; exact h
set_option maxHeartbeats 800000 in
theorem rright_all (l : List R) (v : Value) (w : World) (hv : RngsAt w v l) (hM : l.length ≤ 40000) : Calls Tryd.prog 20 #[v] w fun e w' => e = .returned (.bool (rightB l)) ∧ Below w.heap.size w w' := by
  have c1 := Lib.hid (set_any 0 (by omega) l [] v (.slice none 0 0) w hv (none_at w) (by simpa using hM))
  have c2 := Lib.hid (fun L v2 w1 (h : RngsAt w1 v2 L) (hb : Below w.heap.size w w1) => rsame_any l L v v2 w1 (hv.next hb) h)
  clear hv
  go_enter Tryd.func20, Tryd.ntmps20
  go_wp2_with (first
    | (go_at_call 36; refine c1.out.mono ?_; rintro e w1 ⟨v1, L, rfl, hr, h1, h2, h3, h4⟩; have C2 := Lib.hid (c2.out L v1 w1 (rngs_of_row hr) h4); have H1 := Lib.hid h1; have H2 := Lib.hid h2; have H4 := Lib.hid h4; clear h1 h2 h4 hr)
    | (go_at_call 35; refine C2.out.mono ?_; rintro e w2 ⟨rfl, hb2⟩))
  go_ret
  refine ⟨retB ?_, H4.out.trans (hb2.mono H4.out.size)⟩
  refine rightB_of ?_
  rw [decide_eq_true_iff]
  constructor
  · rintro rfl; exact H1.out
  · intro h
    refine uniq h H1.out fun c => ?_
    rw [H2.out]
    show hasB l c = (isC c && inB l c)
    rw [inB_isC, inB_set h]

end Go.Proofs.YtdmceapbobkklaaDoor.Rg

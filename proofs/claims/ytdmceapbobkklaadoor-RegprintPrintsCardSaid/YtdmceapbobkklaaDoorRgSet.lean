/- The document's Set. -/
import Derived.Test.YtdmceapbobkklaaDoorRgHolds
import Derived.Test.YtdmceapbobkklaaDoorRgApp
namespace Go.Proofs.YtdmceapbobkklaaDoor.Rg
open Go.RowKit Go.Shelf

theorem inB_const {all l : List R} {E : List Int} (h : EndsOk all E) (hl : ∀ r ∈ l, r ∈ all) {x y c : Int} (hx : x ∈ E) (hy : y ∈ E) (hgap : ∀ z ∈ E, z ≤ x ∨ y ≤ z) (h1 : x ≤ c) (h2 : c < y) : inB l c = inB l x := by
  have bx := h.bnd x hx
  have by' := h.bnd y hy
  unfold inB
  rw [show decide (0 ≤ c) = true by simp; omega, show decide (0 ≤ x) = true by simp; omega, show decide (c ≤ 1114111) = true by simp; omega, show decide (x ≤ 1114111) = true by simp; omega]
  congr 1
  unfold hasB
  rw [Bool.eq_iff_iff]
  simp only [List.any_eq_true, Bool.and_eq_true, decide_eq_true_eq]
  constructor
  · rintro ⟨r, hr, a1, a2⟩
    refine ⟨r, hr, ?_, by omega⟩
    rcases Int.lt_or_le 0 r.1 with h0 | h0
    · rcases hgap r.1 (h.los r (hl r hr) h0 (by omega)) with g | g <;> omega
    · omega
  · rintro ⟨r, hr, a1, a2⟩
    refine ⟨r, hr, by omega, ?_⟩
    rcases Int.lt_or_le r.2 c with h0 | h0
    · rcases hgap (r.2 + 1) (h.his r (hl r hr) (by omega) (by omega)) with g | g <;> omega
    · exact h0
theorem nthI_mem {E : List Int} {i : Nat} (h : i < E.length) : nthI E i ∈ E := by rw [nthI_eq h]; exact List.getElem_mem h
theorem nthI_lt {E : List Int} (h : E.Pairwise (· < ·)) {i j : Nat} (hij : i < j) (hj : j < E.length) : nthI E i < nthI E j := by
  rw [nthI_eq hj, nthI_eq (by omega)]
  exact List.pairwise_iff_getElem.1 h i j (by omega) hj hij
theorem gap_of {E : List Int} (h : E.Pairwise (· < ·)) {i : Nat} (hi : i + 1 < E.length) : ∀ z ∈ E, z ≤ nthI E i ∨ nthI E (i + 1) ≤ z := by
  intro z hz
  obtain ⟨j, hj, rfl⟩ := List.mem_iff_getElem.1 hz
  rw [← nthI_eq hj]
  rcases Nat.lt_trichotomy j i with h1 | h1 | h1
  · exact .inl (Int.le_of_lt (nthI_lt h h1 (by omega)))
  · subst h1; exact .inl (Int.le_refl _)
  · rcases Nat.lt_or_ge (i + 1) j with h2 | h2
    · exact .inr (Int.le_of_lt (nthI_lt h h2 hj))
    · rw [show j = i + 1 by omega]; exact .inr (Int.le_refl _)
theorem hold_const {a b : List R} {E : List Int} (h : EndsOk (a ++ b) E) (kind : Nat) {i : Nat} (hi : i + 1 < E.length) {c : Int} (h1 : nthI E i ≤ c) (h2 : c < nthI E (i + 1)) : holdB kind a b c = holdB kind a b (nthI E i) := by
  have ea := inB_const (l := a) h (fun r hr => List.mem_append_left _ hr) (nthI_mem (i := i) (by omega)) (nthI_mem hi) (gap_of h.sorted hi) h1 h2
  have eb := inB_const (l := b) h (fun r hr => List.mem_append_right _ hr) (nthI_mem (i := i) (by omega)) (nthI_mem hi) (gap_of h.sorted hi) h1 h2
  unfold holdB
  rw [ea, eb]
theorem EndsOk.first {l : List R} {E : List Int} (h : EndsOk l E) : 0 < E.length ∧ nthI E 0 = 0 := by
  obtain ⟨j, hj, he⟩ := List.mem_iff_getElem.1 h.zero
  have h0 : 0 < E.length := by omega
  refine ⟨h0, ?_⟩
  have hb := h.bnd _ (nthI_mem h0)
  rcases Nat.eq_zero_or_pos j with rfl | hp
  · rw [nthI_eq hj, he]
  · have := nthI_lt h.sorted hp hj
    rw [nthI_eq hj, he] at this
    omega
theorem EndsOk.last {l : List R} {E : List Int} (h : EndsOk l E) {i : Nat} (hi : i < E.length) (hl : ¬ i + 1 < E.length) : nthI E i = 1114112 := by
  obtain ⟨j, hj, he⟩ := List.mem_iff_getElem.1 h.top
  have hb := h.bnd _ (nthI_mem hi)
  rcases Nat.lt_or_ge j i with hp | hp
  · have := nthI_lt h.sorted hp hi
    rw [nthI_eq hj, he] at this
    omega
  · rw [show i = j by omega, nthI_eq hj, he]

structure SetR (H : Int → Bool) (E : List Int) (i : Nat) (out : List R) : Prop where
  set : setFrom 0 out
  below : ∀ r ∈ out, r.2 < nthI E i
  has : ∀ c, hasB out c = (decide (0 ≤ c) && decide (c < nthI E i) && H c)
  len : out.length ≤ i
/-- what is known of a step from one end to the next -/
structure Stp (H : Int → Bool) (E : List Int) (i : Nat) : Prop where
  lo : 0 ≤ nthI E i
  lt : nthI E i < nthI E (i + 1)
  hi : nthI E (i + 1) ≤ 1114112
  const : ∀ c, nthI E i ≤ c → c < nthI E (i + 1) → H c = H (nthI E i)
theorem SetR.no {H : Int → Bool} {E : List Int} {i : Nat} {out : List R} (h : SetR H E i out) (s : Stp H E i) (hn : H (nthI E i) = false) : SetR H E (i + 1) out := by
  refine ⟨h.set, fun r hr => by have := h.below r hr; have := s.lt; omega, fun c => ?_, by have := h.len; omega⟩
  have s1 := s.lo
  have s2 := s.lt
  rw [h.has]
  rcases Int.lt_or_le c (nthI E i) with hc | hc
  · rw [show decide (c < nthI E i) = true by simpa using hc, show decide (c < nthI E (i + 1)) = true by simp; omega]
  · rw [show decide (c < nthI E i) = false by simp; omega]
    rcases Int.lt_or_le c (nthI E (i + 1)) with hd | hd
    · rw [s.const c hc hd, hn]; simp
    · rw [show decide (c < nthI E (i + 1)) = false by simp; omega]
theorem step_has {H : Int → Bool} {E : List Int} {i : Nat} (s : Stp H E i) (hy : H (nthI E i) = true) (c : Int) : (decide (0 ≤ c) && decide (c < nthI E (i + 1)) && H c) = ((decide (0 ≤ c) && decide (c < nthI E i) && H c) || (decide (nthI E i ≤ c) && decide (c ≤ nthI E (i + 1) - 1))) := by
  have s1 := s.lo
  have s2 := s.lt
  rcases Int.lt_or_le c (nthI E i) with hc | hc
  · rw [show decide (c < nthI E i) = true by simpa using hc, show decide (c < nthI E (i + 1)) = true by simp; omega, show decide (nthI E i ≤ c) = false by simp; omega]; simp
  · rw [show decide (c < nthI E i) = false by simp; omega, show decide (nthI E i ≤ c) = true by simpa using hc, show decide (0 ≤ c) = true by simp; omega]
    rcases Int.lt_or_le c (nthI E (i + 1)) with hd | hd
    · rw [s.const c hc hd, hy, show decide (c < nthI E (i + 1)) = true by simpa using hd, show decide (c ≤ nthI E (i + 1) - 1) = true by simp; omega]; simp
    · rw [show decide (c < nthI E (i + 1)) = false by simp; omega, show decide (c ≤ nthI E (i + 1) - 1) = false by simp; omega]; simp
theorem SetR.ext {H : Int → Bool} {E : List Int} {i : Nat} {c : List R} {a b : Int} (h : SetR H E i (c ++ [(a, b)])) (s : Stp H E i) (hy : H (nthI E i) = true) (hb : b = nthI E i - 1) : SetR H E (i + 1) (c ++ [(a, nthI E (i + 1) - 1)]) := by
  have s1 := s.lo
  have s2 := s.lt
  have s3 := s.hi
  obtain ⟨p1, p2, p3, p4, p5⟩ := set_parts h.set
  simp only at p3 p4 p5
  refine ⟨set_last h.set (by omega) (by omega), fun r hr => ?_, fun x => ?_, by have := h.len; simp at this ⊢; omega⟩
  · rcases List.mem_append.1 hr with hr | hr
    · have := h.below r (List.mem_append_left _ hr); omega
    · simp at hr; subst hr; simp only; omega
  · rw [step_has s hy, ← h.has x, hasB_snoc, hasB_snoc, Bool.or_assoc]
    congr 1
    rw [Bool.eq_iff_iff]
    simp
    omega
theorem SetR.app {H : Int → Bool} {E : List Int} {i : Nat} {out : List R} (h : SetR H E i out) (s : Stp H E i) (hy : H (nthI E i) = true) (hn : ∀ c a b, out = c ++ [(a, b)] → b ≠ nthI E i - 1) : SetR H E (i + 1) (out ++ [(nthI E i, nthI E (i + 1) - 1)]) := by
  have s1 := s.lo
  have s2 := s.lt
  have s3 := s.hi
  refine ⟨set_snoc h.set (fun r hr => ?_) s1 (by simp only; omega) (by simp only; omega), fun r hr => ?_, fun x => ?_, by have := h.len; simp; omega⟩
  · rcases snoc_cases out with rfl | ⟨c, ⟨a, b⟩, rfl⟩
    · simp at hr
    · have hb := hn c a b rfl
      have hl := h.below (a, b) (by simp)
      simp only at hl ⊢
      obtain ⟨p1, p2, p3, p4, p5⟩ := set_parts h.set
      rcases List.mem_append.1 hr with hr | hr
      · have := p2 r hr; simp only at this p4; omega
      · simp at hr; subst hr; simp only; omega
  · rcases List.mem_append.1 hr with hr | hr
    · have := h.below r hr; omega
    · simp at hr; subst hr; simp only; omega
  · rw [step_has s hy, ← h.has x, hasB_snoc]

end Go.Proofs.YtdmceapbobkklaaDoor.Rg

/- A map whose keys are arrays of two numbers: what a key reads as; the map that knows the classes of the first bytes. -/
import Derived.Test.YtchfpokhngbpmaaAbPlain
import Derived.Test.YtchfpokhngbpmaaChecked
import Derived.Test.YtchfpokhngbpmaaCardKit
import Derived.WalkKit
import Derived.Maps.OwnSet
import Derived.Maps.OwnOps
import Derived.DeepKeys4
import Derived.Laws.MakeOwn
import Derived.Laws.OwnMore
namespace Go.Proofs.Ytchfpokhngbpmaa.Ab
open Go.RowKit Go.Maps

theorem law2 : Keyed Try.prog 43 := Keyed.of_law (deep_law_laid laidOut (m := 2) (by omega) (of_decide_eq_true (by kernel_rfl)) (by kernel_rfl) (by rw [Try.underlying43]))
theorem zeroI (w : World) : (zeroValue 3).run Try.prog w = .ok (.int .i64 0) w := by kernel_rfl
theorem ktypes : ∃ n, Try.prog.types.size + 1 = n + 1 + 1 := ⟨Try.prog.types.size - 1, by have : 1 ≤ Try.prog.types.size := of_decide_eq_true (by kernel_rfl); omega⟩
theorem kt2 : Try.prog.keyType 43 = true := by kernel_rfl
theorem kc2 : Try.prog.cellsOf 43 = 2 := by kernel_rfl
theorem kc1 : Try.prog.cellsOf 3 = 1 := by kernel_rfl
/-- what a key reads as -/
def kl (x y : Int) : Lit := .string (keyBytes [.int .i64 x, .int .i64 y])
abbrev Wf (x : Int) : Prop := (Lit.int .i64 x).wf = true
theorem lits2 (d : Nat) {x y : Int} (hx : Wf x) (hy : Wf y) : Try.prog.keyLits (d + 1 + 1) 43 [.int .i64 x, .int .i64 y] = some [.int .i64 x, .int .i64 y] := by
  simp [Program.keyLits, Try.underlying43, Try.underlying3, kc2, kc1, List.range_succ, hx, hy]
theorem key_mk {x y : Int} (hx : Wf x) (hy : Wf y) : keyOf Try.prog 43 (.agg #[.int .i64 x, .int .i64 y]) = some (kl x y) := by
  have h1 : (Value.agg #[.int .i64 x, .int .i64 y]).formed Try.prog 43 = true := by simp [Value.formed, Try.underlying43, kc2]
  obtain ⟨n, hn⟩ := ktypes
  have h2 := lits2 n hx hy
  unfold keyOf
  rw [Try.underlying43]
  simp only [kt2, hn, h1, Bool.and_self, if_true]
  show Option.map _ (Try.prog.keyLits (n + 1 + 1) 43 [.int .i64 x, .int .i64 y]) = _
  rw [h2]; rfl
theorem kl_inj {x y x' y' : Int} (hx : Wf x) (hy : Wf y) (hx' : Wf x') (hy' : Wf y') (h : kl x y = kl x' y') : (x, y) = (x', y') := by
  have := law2.inj (key_mk hx hy) (h ▸ key_mk hx' hy')
  simp at this
  rw [this.1, this.2]

/-- the map that knows the classes of the first k bytes -/
structure InD (a b : List Int) (k : Nat) (D : DataW Unit) : Prop where
  has : ∀ x y, Wf x → Wf y → (Maps.has D (kl x y) = true ↔ ∃ d, d < k ∧ keyJ a b d = (x, y))
  look : ∀ d, d < k → D.atKey (kl (num a d) (num b d)) (.lit (.int .i64 0)) = .lit (.int .i64 (cls (eJ a b) d))
  size : Maps.size D = cnt (eJ a b) k
/-- all numbers of a row are numbers of their kind -/
def WfL (l : List Int) : Prop := ∀ i, Wf (num l i)

theorem InD.start (a b : List Int) : InD a b 0 (.map []) := ⟨fun x y _ _ => ⟨fun h => by simp [Maps.has] at h, fun ⟨d, h, _⟩ => by omega⟩, fun d h => by omega, rfl⟩
theorem InD.old {a b : List Int} {k : Nat} {D : DataW Unit} (h : InD a b k D) (ha : WfL a) (hb : WfL b) (hh : Maps.has D (kl (num a k) (num b k)) = true) :
    InD a b (k + 1) D ∧ D.atKey (kl (num a k) (num b k)) (.lit (.int .i64 0)) = .lit (.int .i64 (cls (eJ a b) k)) := by
  obtain ⟨d, hd, he⟩ := (h.has _ _ (ha k) (hb k)).1 hh
  have hE : eJ a b d k = true := eJ_iff.2 he
  have hc : cls (eJ a b) k = cls (eJ a b) d := (cls_old (eqJ a b) hE).symm
  have hk : num a d = num a k ∧ num b d = num b k := by simpa [keyJ] using he
  have hl : D.atKey (kl (num a k) (num b k)) (.lit (.int .i64 0)) = .lit (.int .i64 (cls (eJ a b) k)) := by
    rw [hc, ← h.look d hd, hk.1, hk.2]
  have hf : fresh (eJ a b) k = false := by
    cases hf : fresh (eJ a b) k
    · rfl
    · rw [fresh_iff.1 hf d hd] at hE; cases hE
  refine ⟨⟨fun x y hx hy => ?_, fun d' hd' => ?_, by rw [h.size, cnt_succ, hf]; rfl⟩, hl⟩
  · rw [h.has x y hx hy]
    constructor
    · rintro ⟨d', h1, h2⟩; exact ⟨d', by omega, h2⟩
    · rintro ⟨d', h1, h2⟩
      by_cases hdk : d' = k
      · subst hdk
        exact ⟨d, hd, he.trans h2⟩
      · exact ⟨d', by omega, h2⟩
  · by_cases hdk : d' = k
    · subst hdk; exact hl
    · exact h.look d' (by omega)
theorem InD.new {a b : List Int} {k : Nat} {D : DataW Unit} (h : InD a b k D) (ha : WfL a) (hb : WfL b) (hT : Tidy D) (hh : Maps.has D (kl (num a k) (num b k)) = false) :
    InD a b (k + 1) (D.put (kl (num a k) (num b k)) (.lit (.int .i64 (cnt (eJ a b) k)))) ∧ cls (eJ a b) k = cnt (eJ a b) k := by
  have hK : WideAt.IsKeyLit (kl (num a k) (num b k)) := law2.key (key_mk (ha k) (hb k))
  have hf : fresh (eJ a b) k = true := by
    refine fresh_iff.2 fun d hd => ?_
    cases hE : eJ a b d k
    · rfl
    · have := (h.has _ _ (ha k) (hb k)).2 ⟨d, hd, eJ_iff.1 hE⟩
      rw [hh] at this; cases this
  have hc := cls_new (eqJ a b) hf
  have hne : ∀ d, d < k → kl (num a d) (num b d) ≠ kl (num a k) (num b k) := fun d hd he => by
    have h1 := (h.has _ _ (ha d) (hb d)).2 ⟨d, hd, rfl⟩
    rw [he, hh] at h1; cases h1
  refine ⟨⟨fun x y hx hy => ?_, fun d hd => ?_, by rw [size_put hT, hh, h.size, cnt_succ, hf]; rfl⟩, hc⟩
  · by_cases hxy : kl x y = kl (num a k) (num b k)
    · rw [hxy, has_put_same hT.isMap hK]
      refine ⟨fun _ => ⟨k, by omega, (kl_inj hx hy (ha k) (hb k) hxy).symm⟩, fun _ => rfl⟩
    · rw [has_put_other hxy, h.has x y hx hy]
      constructor
      · rintro ⟨d, h1, h2⟩; exact ⟨d, by omega, h2⟩
      · rintro ⟨d, h1, h2⟩
        by_cases hdk : d = k
        · subst hdk
          simp only [keyJ, Prod.mk.injEq] at h2
          exact absurd (by rw [h2.1, h2.2]) hxy
        · exact ⟨d, by omega, h2⟩
  · by_cases hdk : d = k
    · subst hdk
      rw [atKey_put_same hT.isMap hK, hc]
    · rw [atKey_put_other (hne d (by omega))]
      exact h.look d (by omega)

/-- the row of classes when the first k are told -/
def partL (e : Nat → Nat → Bool) (k : Nat) : List Value := (clsL e k).map (.int .i64) ++ List.replicate (256 - k) (.int .i64 0)
theorem partL_len (e : Nat → Nat → Bool) {k : Nat} (h : k ≤ 256) : (partL e k).length = 256 := by
  unfold partL; rw [List.length_append, List.length_map, clsL_len, List.length_replicate]; omega
theorem partL_start (e : Nat → Nat → Bool) : (madeCells (Value.int .i64 0).cells (256 * 1)).toList = partL e 0 := by
  have h : (madeCells (Value.int .i64 0).cells (256 * 1)).toList = List.replicate 256 (.int .i64 0) := by kernel_rfl
  rw [h]; rfl
theorem partL_at (e : Nat → Nat → Bool) {k : Nat} (h : k < 256) : (partL e k)[k]? = some (.int .i64 0) := by
  unfold partL
  rw [List.getElem?_append_right (by rw [List.length_map, clsL_len]; exact Nat.le_refl _), List.length_map, clsL_len, Nat.sub_self, List.getElem?_replicate, if_pos (by omega)]
theorem partL_set (e : Nat → Nat → Bool) {k : Nat} (h : k < 256) : (partL e k).set k (.int .i64 (cls e k)) = partL e (k + 1) := by
  unfold partL
  rw [List.set_append_right _ _ (by rw [List.length_map, clsL_len]; exact Nat.le_refl _), List.length_map, clsL_len, Nat.sub_self, show 256 - k = (256 - (k + 1)) + 1 by omega, List.replicate_succ, List.set_cons_zero, clsL_succ, List.map_append, List.append_assoc]
  rfl
theorem partL_end (e : Nat → Nat → Bool) : partL e 256 = (clsL e 256).map (.int .i64) := by simp [partL]

end Go.Proofs.Ytchfpokhngbpmaa.Ab

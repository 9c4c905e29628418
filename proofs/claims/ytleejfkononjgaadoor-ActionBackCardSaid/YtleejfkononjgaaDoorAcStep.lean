/- The step that a word is at a place; what it notes. -/
import Derived.Test.YtleejfkononjgaaDoorAcMem
namespace Go.Proofs.YtleejfkononjgaaDoor.Ac
open Go Go.RowKit Go.Shelf Go.Proofs.YtleejfkononjgaaDoor.Wd

/-- is a row of the table the step of this word at this place -/
def isS (place : Int) (text : ByteArray) (r : Int × ByteArray × Int) : Prop := r.1 = place ∧ text ≠ bE ∧ (r.2.1 = text ∨ r.2.1 = bE)
def vS (r : Int × ByteArray × Int) : Value := .agg #[.int .i64 r.1, .string r.2.1, .int .i64 r.2.2]
/-- the first row that is, else the zero one -/
def StepIs (place : Int) (text : ByteArray) (r : Int × ByteArray × Int) : Prop :=
  (∃ k, k < 5 ∧ r = nthS k ∧ isS place text r ∧ ∀ j, j < k → ¬ isS place text (nthS j)) ∨ (r = (0, bE, 0) ∧ ∀ j, j < 5 → ¬ isS place text (nthS j))

theorem bytes_no {a b : ByteArray} (h : a ≠ b) : (a.toList == b.toList) = false := by
  rw [← Bool.not_eq_true]
  exact fun e => h (bytes_eq e)
theorem empty_no {a : ByteArray} (h : a ≠ bE) : (a.toList == ([] : List UInt8)) = false := by
  rw [beq_eq_false_iff_ne]
  intro e
  exact h (bytes_eq (b := bE) (by rw [e, ByteArray.toList_eq]; rfl))

theorem cells_three {w : World} {b : Nat} {x y z : Value} {t : TypeId} (h : w.heap[b]? = some (.cells #[x, y, z] t (0, 0))) : w.cell? ⟨b, 0, none⟩ = some x ∧ w.cell? ⟨b, 1, none⟩ = some y ∧ w.cell? ⟨b, 2, none⟩ = some z := by
  unfold World.cell?; simp [h]
theorem set_three {w : World} {b : Nat} {x y z : Value} {t : TypeId} (h : w.heap[b]? = some (.cells #[x, y, z] t (0, 0))) (x' y' z' : Value) :
    (((w.setCell ⟨b, 0, none⟩ x').setCell ⟨b, 1, none⟩ y').setCell ⟨b, 2, none⟩ z').heap[b]? = some (.cells #[x', y', z'] t (0, 0)) := by
  have h0 := heap_setCell_same w b 0 _ t x' h
  have h1 := heap_setCell_same _ b 1 _ t y' h0
  rw [heap_setCell_same _ b 2 _ t z' h1]; rfl

set_option maxRecDepth 100000 in
set_option maxHeartbeats 4000000 in
theorem stepOf_any (place : Int) (text : ByteArray) (w : World) (hT : Tab w) :
    Calls Tryd.prog 21 #[.int .i64 place, .string text] w fun e w' => (∃ r, e = .returned (vS r) ∧ StepIs place text r) ∧ Below w.heap.size w w' := by
  have HT := Lib.hid hT
  clear hT
  go_enter Tryd.func21, Tryd.ntmps21
  go_upto_region 1 with fail
  have hb1 := (Below.refl w.heap.size w).alloc (Nat.le_refl _) (.cells #[.int .i64 0, .string ⟨#[]⟩, .int .i64 0] 50)
  have hr1 : (w.alloc (.cells #[.int .i64 0, .string ⟨#[]⟩, .int .i64 0] 50)).heap[w.heap.size]? = some (.cells #[.int .i64 0, .string ⟨#[]⟩, .int .i64 0] 50 (0, 0)) := World.alloc_heap_new w _
  generalize w.alloc (.cells #[.int .i64 0, .string ⟨#[]⟩, .int .i64 0] 50) = w1 at *
  have T1 := Lib.hid (HT.out.next hb1)
  have B1 := Lib.hid hb1
  have H1 := Lib.hid hr1
  clear hb1 hr1
  go_wp2_with (refine wpList_load_mid rfl 69 (.global 0) rfl 0 0 rfl stpCells _ T1.out Tryd.underlying69 rfl (by kernel_rfl) ?_)
  go_loopw [8] (fun i wr => ∃ k : Nat, i = .int .i64 k ∧ k ≤ 5 ∧ (∀ j, j < k → ¬ isS place text (nthS j)) ∧ Below w.heap.size w wr ∧ wr.heap[w.heap.size]? = some (.cells #[.int .i64 0, .string ⟨#[]⟩, .int .i64 0] 50 (0, 0))) (fun i _ => 5 - (intOf i).toNat)
  case atStart => exact ⟨0, rfl, Nat.zero_le _, fun j hj => by omega, B1.out, H1.out⟩
  case round =>
    obtain ⟨k, rfl, hk, hno, hbw, hbx⟩ := hrel
    have HN := Lib.hid hno
    have HB := Lib.hid hbw
    have HX := Lib.hid hbx
    have hsz := hbw.size
    have hlt0 := (Array.getElem?_eq_some_iff.1 hbx).1
    clear hno hbw hbx
    by_cases hlt : k < 5
    · have IX := index_stp k hlt
      obtain ⟨⟨p, t, n⟩, hr⟩ : ∃ r, nthS k = r := ⟨_, rfl⟩
      have HR := Lib.hid hr
      rw [hr] at IX
      simp only at IX
      clear hr
      have step : ¬ isS place text (p, t, n) → ∀ j, j < k + 1 → ¬ isS place text (nthS j) := fun h j hj => by
        rcases Nat.lt_or_ge j k with h' | h'
        · exact HN.out j h'
        · obtain rfl : j = k := by omega
          rw [HR.out]; exact h
      have HS := Lib.hid step
      clear step
      go_upto_region 4 with fail
      have hb2 := HB.out.alloc hsz (.cells #[.int .i64 p, .string t, .int .i64 n] 50)
      have hx2 := (heap_alloc_old wr (.cells #[.int .i64 p, .string t, .int .i64 n] 50) hlt0).trans HX.out
      have hn2 : (wr.alloc (.cells #[.int .i64 p, .string t, .int .i64 n] 50)).heap[wr.heap.size]? = some (.cells #[.int .i64 p, .string t, .int .i64 n] 50 (0, 0)) := World.alloc_heap_new wr _
      generalize wr.alloc (.cells #[.int .i64 p, .string t, .int .i64 n] 50) = w2 at *
      have HB2 := Lib.hid hb2
      have HX2 := Lib.hid hx2
      have hls := (Array.getElem?_eq_some_iff.1 hn2).1
      obtain ⟨e0, e1, e2⟩ := cells_three hn2
      obtain ⟨g0, g1, g2⟩ := cells_three hx2
      have f0 := frozen_of_row w2 w.heap.size 0 _ _ hx2
      have f1 := frozen_of_row w2 w.heap.size 1 _ _ hx2
      have f2 := frozen_of_row w2 w.heap.size 2 _ _ hx2
      have L1 := Lib.hid (fun (x y z : Value) => set_three HX2.out x y z)
      have L2 := Lib.hid (fun (x y z : Value) => ((HB2.out.setCell (p := ⟨w.heap.size, 0, none⟩) (Nat.le_refl _) x).setCell (p := ⟨w.heap.size, 1, none⟩) (Nat.le_refl _) y).setCell (p := ⟨w.heap.size, 2, none⟩) (Nat.le_refl _) z)
      clear hb2 hx2 hn2 IX
      by_cases c1 : p = place
      · subst c1
        by_cases c2 : text = bE
        · have HZ := Lib.hid (HS.out (fun h => h.2.1 c2))
          have c2' : text = ⟨#[]⟩ := c2
          subst c2'
          go_wp2
          go_roundw
          case rel => exact ⟨k + 1, by go_num, hlt, HZ.out, HB2.out, HX2.out⟩
          case measure => simp [intOf]; omega
        · have d1 := empty_no c2
          by_cases c3 : t = text
          · subst c3
            have HZ := Lib.hid (show StepIs p t (p, t, n) from .inl ⟨k, hlt, HR.out.symm, ⟨rfl, c2, .inl rfl⟩, HN.out⟩)
            go_wp2
            (try simp only [Exit.inBlock, Exit.then])
            refine bodyPost_ret (results_cell_row rfl _ _ w.heap.size 50 #[.int .i64 p, .string t, .int .i64 n] (0, 0) _ rfl (L1.out _ _ _) Tryd.underlying50 rfl (by kernel_rfl)) rfl ?_
            exact ⟨⟨_, rfl, HZ.out⟩, L2.out _ _ _⟩
          · have d3 := bytes_no c3
            by_cases c4 : t = bE
            · have HZ := Lib.hid (show StepIs p text (p, t, n) from .inl ⟨k, hlt, HR.out.symm, ⟨rfl, c2, .inr c4⟩, HN.out⟩)
              have c4' : t = ⟨#[]⟩ := c4
              subst c4'
              clear c4
              have d4 : (([] : List UInt8) == text.toList) = false := by
                rw [beq_eq_false_iff_ne] at d1 ⊢
                exact fun e => d1 e.symm
              go_wp2
              (try simp only [Exit.inBlock, Exit.then])
              refine bodyPost_ret (results_cell_row rfl _ _ w.heap.size 50 #[.int .i64 p, .string ⟨#[]⟩, .int .i64 n] (0, 0) _ rfl (L1.out _ _ _) Tryd.underlying50 rfl (by kernel_rfl)) rfl ?_
              exact ⟨⟨_, rfl, HZ.out⟩, L2.out _ _ _⟩
            · have HZ := Lib.hid (HS.out (fun h => h.2.2.elim c3 c4))
              have d2 := empty_no c4
              go_wp2
              go_roundw
              case rel => exact ⟨k + 1, by go_num, hlt, HZ.out, HB2.out, HX2.out⟩
              case measure => simp [intOf]; omega
      · have HZ := Lib.hid (HS.out (fun h => c1 h.1))
        have d0 : (p == place) = false := by simpa using c1
        go_wp2
        go_roundw
        case rel => exact ⟨k + 1, by go_num, hlt, HZ.out, HB2.out, HX2.out⟩
        case measure => simp [intOf]; omega
    · obtain rfl : k = 5 := by omega
      obtain ⟨g0, g1, g2⟩ := cells_three HX.out
      have f0 := frozen_of_row wr w.heap.size 0 _ _ HX.out
      have f1 := frozen_of_row wr w.heap.size 1 _ _ HX.out
      have f2 := frozen_of_row wr w.heap.size 2 _ _ HX.out
      have HZ := Lib.hid (show StepIs place text (0, bE, 0) from .inr ⟨rfl, HN.out⟩)
      have L1 := Lib.hid (fun (x y z : Value) => set_three HX.out x y z)
      have L2 := Lib.hid (fun (x y z : Value) => ((HB.out.setCell (p := ⟨w.heap.size, 0, none⟩) (Nat.le_refl _) x).setCell (p := ⟨w.heap.size, 1, none⟩) (Nat.le_refl _) y).setCell (p := ⟨w.heap.size, 2, none⟩) (Nat.le_refl _) z)
      go_wp2
      (try simp only [Exit.inBlock, Exit.then])
      refine bodyPost_ret (results_cell_row rfl _ _ w.heap.size 50 #[.int .i64 0, .string ⟨#[]⟩, .int .i64 0] (0, 0) _ rfl (L1.out _ _ _) Tryd.underlying50 rfl (by kernel_rfl)) rfl ?_
      exact ⟨⟨_, rfl, HZ.out⟩, L2.out _ _ _⟩

/-- which step it is, place by place -/
theorem no_row {place : Int} {text : ByteArray} {r : Int × ByteArray × Int} (h : StepIs place text r) (h0 : ∀ j, j < 5 → ¬ isS place text (nthS j)) : r = (0, bE, 0) := by
  rcases h with ⟨k, hk, rfl, hi, _⟩ | ⟨e, _⟩
  · exact absurd hi (h0 k hk)
  · exact e
theorem the_row {place : Int} {text : ByteArray} {r : Int × ByteArray × Int} (k : Nat) (hk : k < 5) (h : StepIs place text r) (hi : isS place text (nthS k)) (ho : ∀ j, j < 5 → j ≠ k → ¬ isS place text (nthS j)) : r = nthS k := by
  rcases h with ⟨j, hj, rfl, hs, _⟩ | ⟨_, hn⟩
  · by_cases e : j = k
    · rw [e]
    · exact absurd hs (ho j hj e)
  · exact absurd hi (hn k hk)
theorem five {P : Nat → Prop} (h0 : P 0) (h1 : P 1) (h2 : P 2) (h3 : P 3) (h4 : P 4) : ∀ j, j < 5 → P j := by
  intro j hj
  obtain rfl | rfl | rfl | rfl | rfl : j = 0 ∨ j = 1 ∨ j = 2 ∨ j = 3 ∨ j = 4 := by omega
  · exact h0
  · exact h1
  · exact h2
  · exact h3
  · exact h4
theorem n0 : nthS 0 = (1, bSkip, 3) := rfl
theorem n1 : nthS 1 = (1, bEmit, 2) := rfl
theorem n2 : nthS 2 = (2, bE, 3) := rfl
theorem n3 : nthS 3 = (3, bGoto, 4) := rfl
theorem n4 : nthS 4 = (4, bE, 5) := rfl
theorem step1 {text : ByteArray} {r : Int × ByteArray × Int} (h : StepIs 1 text r) : r = if text = bSkip then (1, bSkip, 3) else if text = bEmit then (1, bEmit, 2) else (0, bE, 0) := by
  by_cases c1 : text = bSkip
  · rw [if_pos c1]
    exact the_row 0 (by omega) h ⟨rfl, by rw [c1]; exact skip_ne, .inl c1.symm⟩ (five (fun e => absurd rfl e) (fun _ hs => by
      rcases hs.2.2 with e | e
      · rw [c1] at e; exact emit_skip e
      · exact emit_ne e) (fun _ hs => by cases hs.1) (fun _ hs => by cases hs.1) (fun _ hs => by cases hs.1))
  · rw [if_neg c1]
    by_cases c2 : text = bEmit
    · rw [if_pos c2]
      exact the_row 1 (by omega) h ⟨rfl, by rw [c2]; exact emit_ne, .inl c2.symm⟩ (five (fun _ hs => by
        rcases hs.2.2 with e | e
        · exact c1 e.symm
        · exact skip_ne e) (fun e => absurd rfl e) (fun _ hs => by cases hs.1) (fun _ hs => by cases hs.1) (fun _ hs => by cases hs.1))
    · rw [if_neg c2]
      exact no_row h (five (fun hs => by
        rcases hs.2.2 with e | e
        · exact c1 e.symm
        · exact skip_ne e) (fun hs => by
        rcases hs.2.2 with e | e
        · exact c2 e.symm
        · exact emit_ne e) (fun hs => by cases hs.1) (fun hs => by cases hs.1) (fun hs => by cases hs.1))
theorem step2 {text : ByteArray} {r : Int × ByteArray × Int} (h : StepIs 2 text r) : r = if text = bE then (0, bE, 0) else (2, bE, 3) := by
  by_cases c1 : text = bE
  · rw [if_pos c1]
    exact no_row h (fun j _ hs => hs.2.1 c1)
  · rw [if_neg c1]
    exact the_row 2 (by omega) h ⟨rfl, c1, .inr rfl⟩ (five (fun _ hs => by cases hs.1) (fun _ hs => by cases hs.1) (fun e => absurd rfl e) (fun _ hs => by cases hs.1) (fun _ hs => by cases hs.1))
theorem step3 {text : ByteArray} {r : Int × ByteArray × Int} (h : StepIs 3 text r) : r = if text = bGoto then (3, bGoto, 4) else (0, bE, 0) := by
  by_cases c1 : text = bGoto
  · rw [if_pos c1]
    exact the_row 3 (by omega) h ⟨rfl, by rw [c1]; exact goto_ne, .inl c1.symm⟩ (five (fun _ hs => by cases hs.1) (fun _ hs => by cases hs.1) (fun _ hs => by cases hs.1) (fun e => absurd rfl e) (fun _ hs => by cases hs.1))
  · rw [if_neg c1]
    exact no_row h (five (fun hs => by cases hs.1) (fun hs => by cases hs.1) (fun hs => by cases hs.1) (fun hs => by
        rcases hs.2.2 with e | e
        · exact c1 e.symm
        · exact goto_ne e) (fun hs => by cases hs.1))
theorem step4 {text : ByteArray} {r : Int × ByteArray × Int} (h : StepIs 4 text r) : r = if text = bE then (0, bE, 0) else (4, bE, 5) := by
  by_cases c1 : text = bE
  · rw [if_pos c1]
    exact no_row h (fun j _ hs => hs.2.1 c1)
  · rw [if_neg c1]
    exact the_row 4 (by omega) h ⟨rfl, c1, .inr rfl⟩ (five (fun _ hs => by cases hs.1) (fun _ hs => by cases hs.1) (fun _ hs => by cases hs.1) (fun _ hs => by cases hs.1) (fun e => absurd rfl e))
theorem step5 {text : ByteArray} {r : Int × ByteArray × Int} (h : StepIs 5 text r) : r = (0, bE, 0) :=
  no_row h (five (fun hs => by cases hs.1) (fun hs => by cases hs.1) (fun hs => by cases hs.1) (fun hs => by cases hs.1) (fun hs => by cases hs.1))

/-- the zero step: another word ought to stand here -/
theorem note_zero (a v : Value) (text : ByteArray) (w : World) :
    Calls Tryd.prog 22 #[a, .agg #[.int .i64 0, .string ⟨#[]⟩, .int .i64 0], .string text, v] w fun e w' => e = .returned (.int .i64 3) ∧ Below w.heap.size w w' := by
  go_enter Tryd.func22, Tryd.ntmps22
  go_wp2
  go_ret
  exact ⟨rfl, (Below.refl _ _).alloc (Nat.le_refl _) _⟩
theorem note_0 (a v : Value) (text : ByteArray) (w : World) :
    Calls Tryd.prog 22 #[a, .agg #[.int .i64 1, .string ⟨#[115, 107, 105, 112]⟩, .int .i64 3], .string text, v] w fun e w' => e = .returned (.int .i64 0) ∧ Below w.heap.size w w' := by
  go_enter Tryd.func22, Tryd.ntmps22
  go_wp2
  go_ret
  exact ⟨rfl, (Below.refl _ _).alloc (Nat.le_refl _) _⟩
theorem note_1 (a v : Value) (text : ByteArray) (w : World) :
    Calls Tryd.prog 22 #[a, .agg #[.int .i64 1, .string ⟨#[101, 109, 105, 116]⟩, .int .i64 2], .string text, v] w fun e w' => e = .returned (.int .i64 0) ∧ Below w.heap.size w w' := by
  go_enter Tryd.func22, Tryd.ntmps22
  go_wp2
  go_ret
  exact ⟨rfl, (Below.refl _ _).alloc (Nat.le_refl _) _⟩
theorem note_2 (a v : Value) (text : ByteArray) (w : World) :
    Calls Tryd.prog 22 #[a, .agg #[.int .i64 3, .string ⟨#[103, 111, 116, 111]⟩, .int .i64 4], .string text, v] w fun e w' => e = .returned (.int .i64 0) ∧ Below w.heap.size w w' := by
  go_enter Tryd.func22, Tryd.ntmps22
  go_wp2
  go_ret
  exact ⟨rfl, (Below.refl _ _).alloc (Nat.le_refl _) _⟩
theorem note_bad_a (a v : Value) (text : ByteArray) (w : World) (hs : text.size ≤ maxLen) (hn : nameL text.data.toList = false) :
    Calls Tryd.prog 22 #[a, .agg #[.int .i64 2, .string ⟨#[]⟩, .int .i64 3], .string text, v] w fun e w' => e = .returned (.int .i64 4) ∧ Below w.heap.size w w' := by
  have C := Lib.hid (fun W => (name_both text hs W).1)
  rw [hn] at C
  clear hn
  go_enter Tryd.func22, Tryd.ntmps22
  go_wp2_with (go_at_call 19; refine (C.out _).mono ?_; rintro e w' ⟨rfl, rfl⟩)
  go_ret
  exact ⟨rfl, (Below.refl _ _).alloc (Nat.le_refl _) _⟩
theorem note_bad_b (a v : Value) (text : ByteArray) (w : World) (hs : text.size ≤ maxLen) (hn : nameL text.data.toList = false) :
    Calls Tryd.prog 22 #[a, .agg #[.int .i64 4, .string ⟨#[]⟩, .int .i64 5], .string text, v] w fun e w' => e = .returned (.int .i64 4) ∧ Below w.heap.size w w' := by
  have C := Lib.hid (fun W => (name_both text hs W).1)
  rw [hn] at C
  clear hn
  go_enter Tryd.func22, Tryd.ntmps22
  go_wp2_with (go_at_call 19; refine (C.out _).mono ?_; rintro e w' ⟨rfl, rfl⟩)
  go_ret
  exact ⟨rfl, (Below.refl _ _).alloc (Nat.le_refl _) _⟩

end Go.Proofs.YtleejfkononjgaaDoor.Ac

/- What the document says of a name is what its ranges say. -/
import Derived.Test.YtenmjnopbbingaaDoorNmHasR
import Derived.Test.YtenmjnopbbingaaDoorNmRow
namespace Go.Proofs.YtenmjnopbbingaaDoor.Nm
open Go.RowKit Go.Shelf Go.Proofs.YtenmjnopbbingaaDoor.Rg

theorem hasB_in (r : R) (t : List R) (c : Int) : hasB (r :: t) c = (inR r.1 r.2 c || hasB t c) := rfl
theorem inR_iff (a b c : Int) : inR a b c = true ↔ a ≤ c ∧ c ≤ b := by simp [inR]
theorem hasN_at {k : Nat} (hk : k < 16) {c : Int} (h0 : 0 ≤ c) (h1 : c ≤ 1114111) : hasN (nthW k).1 c = hasB (fullL.getD k []) c := by
  unfold hasN inB
  rw [eachN_at hk, decide_eq_true h0, decide_eq_true h1]; rfl
theorem up_eq (c : Int) : hasB (fullL.getD 5 []) c = upB c := by
  rw [Bool.eq_iff_iff]
  simp only [fullL, List.getD_cons_succ, List.getD_cons_zero, hasB_in, hasB_nil, Bool.or_false, upB, Bool.or_eq_true, Bool.and_eq_true, inR_iff, bne_iff_ne]
  omega
theorem lo_eq (c : Int) : hasB (fullL.getD 6 []) c = loB c := by
  rw [Bool.eq_iff_iff]
  simp only [fullL, List.getD_cons_succ, List.getD_cons_zero, hasB_in, hasB_nil, Bool.or_false, loB, Bool.or_eq_true, Bool.and_eq_true, inR_iff, bne_iff_ne]
  omega
theorem full7 : fullL.getD 7 [] = fullL.getD 5 [] ++ fullL.getD 6 [] := rfl
theorem full8 : fullL.getD 8 [] = fullL.getD 7 [] ++ fullL.getD 3 [] := rfl
theorem full9 : fullL.getD 9 [] = fullL.getD 8 [] ++ [(95, 95)] := rfl
theorem di_eq (c : Int) : hasB (fullL.getD 3 []) c = inR 48 57 c := by simp [fullL, hasB_in, hasB_nil]
theorem doc_0 (c : Int) (h0 : 0 ≤ c) (h1 : c ≤ 1114111) : hasB (fullL.getD 0 []) c = true := by
  simp only [fullL, List.getD_cons_zero, hasB_in, hasB_nil, Bool.or_false]; rw [inR_iff]; omega
theorem doc_1 (c : Int) (h0 : 0 ≤ c) (h1 : c ≤ 1114111) : hasB (fullL.getD 1 []) c = decide (c < 128) := by
  rw [Bool.eq_iff_iff]
  simp only [fullL, List.getD_cons_succ, List.getD_cons_zero, hasB_in, hasB_nil, Bool.or_false, inR_iff, decide_eq_true_eq]
  omega
theorem doc_2 (c : Int) (h0 : 0 ≤ c) (h1 : c ≤ 1114111) : hasB (fullL.getD 2 []) c = (decide (c < 32) || inR 127 159 c) := by
  rw [Bool.eq_iff_iff]
  simp only [fullL, List.getD_cons_succ, List.getD_cons_zero, hasB_in, hasB_nil, Bool.or_false, Bool.or_eq_true, inR_iff, decide_eq_true_eq]
  omega
theorem doc_3 (c : Int) (_ : 0 ≤ c) (_ : c ≤ 1114111) : hasB (fullL.getD 3 []) c = inR 48 57 c := by
  exact di_eq c
theorem doc_4 (c : Int) (h0 : 0 ≤ c) (h1 : c ≤ 1114111) : hasB (fullL.getD 4 []) c = (inR 48 57 c || inR 65 70 c || inR 97 102 c) := by
  rw [Bool.eq_iff_iff]
  simp only [fullL, List.getD_cons_succ, List.getD_cons_zero, hasB_in, hasB_nil, Bool.or_false, Bool.or_eq_true, inR_iff]
  omega
theorem doc_5 (c : Int) (_ : 0 ≤ c) (_ : c ≤ 1114111) : hasB (fullL.getD 5 []) c = upB c := by
  exact up_eq c
theorem doc_6 (c : Int) (_ : 0 ≤ c) (_ : c ≤ 1114111) : hasB (fullL.getD 6 []) c = loB c := by
  exact lo_eq c
theorem doc_7 (c : Int) (_ : 0 ≤ c) (_ : c ≤ 1114111) : hasB (fullL.getD 7 []) c = (upB c || loB c) := by
  rw [full7, hasB_append, up_eq, lo_eq]
theorem doc_8 (c : Int) (h0 : 0 ≤ c) (h1 : c ≤ 1114111) : hasB (fullL.getD 8 []) c = (upB c || loB c || inR 48 57 c) := by
  rw [full8, hasB_append, doc_7 c h0 h1, di_eq]
theorem doc_9 (c : Int) (h0 : 0 ≤ c) (h1 : c ≤ 1114111) : hasB (fullL.getD 9 []) c = (upB c || loB c || inR 48 57 c || (c == 95)) := by
  rw [full9, hasB_append, doc_8 c h0 h1, hasB_in, hasB_nil, Bool.or_false]
  congr 1
  rw [Bool.eq_iff_iff]; simp only [inR_iff, beq_iff_eq]; omega
theorem doc_10 (c : Int) (h0 : 0 ≤ c) (h1 : c ≤ 1114111) : hasB (fullL.getD 10 []) c = (inR 9 13 c || (c == 32) || (c == 133) || (c == 160) || inR 8192 8202 c || inR 8232 8233 c || (c == 8239) || (c == 8287) || (c == 12288)) := by
  rw [Bool.eq_iff_iff]
  simp only [fullL, List.getD_cons_succ, List.getD_cons_zero, hasB_in, hasB_nil, Bool.or_false, Bool.or_eq_true, inR_iff, beq_iff_eq]
  omega
theorem doc_11 (c : Int) (h0 : 0 ≤ c) (h1 : c ≤ 1114111) : hasB (fullL.getD 11 []) c = (inR 33 126 c && !inR 48 57 c && !inR 65 90 c && !inR 97 122 c) := by
  rw [Bool.eq_iff_iff]
  simp only [fullL, List.getD_cons_succ, List.getD_cons_zero, hasB_in, hasB_nil, Bool.or_false, Bool.or_eq_true, Bool.and_eq_true, Bool.not_eq_true', ← Bool.not_eq_true, inR_iff]
  omega
theorem doc_12 (c : Int) (h0 : 0 ≤ c) (h1 : c ≤ 1114111) : hasB (fullL.getD 12 []) c = (inR 65 90 c || inR 97 122 c || (c == 170) || (c == 186) || (inR 192 591 c && (c != 215) && (c != 247))) := by
  rw [Bool.eq_iff_iff]
  simp only [fullL, List.getD_cons_succ, List.getD_cons_zero, hasB_in, hasB_nil, Bool.or_false, Bool.or_eq_true, Bool.and_eq_true, inR_iff, bne_iff_ne, beq_iff_eq]
  omega
theorem doc_13 (c : Int) (_ : 0 ≤ c) (_ : c ≤ 1114111) : hasB (fullL.getD 13 []) c = inR 880 1023 c := by
  simp only [fullL, List.getD_cons_succ, List.getD_cons_zero, hasB_in, hasB_nil, Bool.or_false]
theorem doc_14 (c : Int) (_ : 0 ≤ c) (_ : c ≤ 1114111) : hasB (fullL.getD 14 []) c = inR 1024 1279 c := by
  simp only [fullL, List.getD_cons_succ, List.getD_cons_zero, hasB_in, hasB_nil, Bool.or_false]
theorem doc_15 (c : Int) (h0 : 0 ≤ c) (h1 : c ≤ 1114111) : hasB (fullL.getD 15 []) c = (inR 13312 40959 c && !inR 19904 19967 c) := by
  rw [Bool.eq_iff_iff]
  simp only [fullL, List.getD_cons_succ, List.getD_cons_zero, hasB_in, hasB_nil, Bool.or_false, Bool.or_eq_true, Bool.and_eq_true, Bool.not_eq_true', ← Bool.not_eq_true, inR_iff]
  omega
theorem docN_at {k : Nat} (hk : k < 16) (c : Int) (h0 : 0 ≤ c) (h1 : c ≤ 1114111) : docN (nthW k).1 c = hasN (nthW k).1 c := by
  rw [hasN_at hk h0 h1]
  rcases is_k hk with rfl | rfl | rfl | rfl | rfl | rfl | rfl | rfl | rfl | rfl | rfl | rfl | rfl | rfl | rfl | rfl
  · rw [doc_0 c h0 h1]; kernel_rfl
  · rw [doc_1 c h0 h1]; kernel_rfl
  · rw [doc_2 c h0 h1]; kernel_rfl
  · rw [doc_3 c h0 h1]; kernel_rfl
  · rw [doc_4 c h0 h1]; kernel_rfl
  · rw [doc_5 c h0 h1]; kernel_rfl
  · rw [doc_6 c h0 h1]; kernel_rfl
  · rw [doc_7 c h0 h1]; kernel_rfl
  · rw [doc_8 c h0 h1]; kernel_rfl
  · rw [doc_9 c h0 h1]; kernel_rfl
  · rw [doc_10 c h0 h1]; kernel_rfl
  · rw [doc_11 c h0 h1]; kernel_rfl
  · rw [doc_12 c h0 h1]; kernel_rfl
  · rw [doc_13 c h0 h1]; kernel_rfl
  · rw [doc_14 c h0 h1]; kernel_rfl
  · rw [doc_15 c h0 h1]; kernel_rfl
theorem docN_none {nm : ByteArray} (h : ∀ k, k < 16 → (nthW k).1 ≠ nm) (c : Int) : docN nm c = false := by
  have e0 : ¬ (nm.toList == [65, 110, 121]) = true := fun e => h 0 (by omega) (bytes_eq (b := nm) (by rw [show (nthW 0).1.toList = [65, 110, 121] by kernel_rfl]; rw [beq_iff_eq] at e ⊢; exact e.symm))
  have e1 : ¬ (nm.toList == [65, 115, 99, 105, 105]) = true := fun e => h 1 (by omega) (bytes_eq (b := nm) (by rw [show (nthW 1).1.toList = [65, 115, 99, 105, 105] by kernel_rfl]; rw [beq_iff_eq] at e ⊢; exact e.symm))
  have e2 : ¬ (nm.toList == [67, 111, 110, 116, 114, 111, 108]) = true := fun e => h 2 (by omega) (bytes_eq (b := nm) (by rw [show (nthW 2).1.toList = [67, 111, 110, 116, 114, 111, 108] by kernel_rfl]; rw [beq_iff_eq] at e ⊢; exact e.symm))
  have e3 : ¬ (nm.toList == [68, 105, 103, 105, 116]) = true := fun e => h 3 (by omega) (bytes_eq (b := nm) (by rw [show (nthW 3).1.toList = [68, 105, 103, 105, 116] by kernel_rfl]; rw [beq_iff_eq] at e ⊢; exact e.symm))
  have e4 : ¬ (nm.toList == [72, 101, 120]) = true := fun e => h 4 (by omega) (bytes_eq (b := nm) (by rw [show (nthW 4).1.toList = [72, 101, 120] by kernel_rfl]; rw [beq_iff_eq] at e ⊢; exact e.symm))
  have e5 : ¬ (nm.toList == [85, 112, 112, 101, 114]) = true := fun e => h 5 (by omega) (bytes_eq (b := nm) (by rw [show (nthW 5).1.toList = [85, 112, 112, 101, 114] by kernel_rfl]; rw [beq_iff_eq] at e ⊢; exact e.symm))
  have e6 : ¬ (nm.toList == [76, 111, 119, 101, 114]) = true := fun e => h 6 (by omega) (bytes_eq (b := nm) (by rw [show (nthW 6).1.toList = [76, 111, 119, 101, 114] by kernel_rfl]; rw [beq_iff_eq] at e ⊢; exact e.symm))
  have e7 : ¬ (nm.toList == [65, 108, 112, 104, 97]) = true := fun e => h 7 (by omega) (bytes_eq (b := nm) (by rw [show (nthW 7).1.toList = [65, 108, 112, 104, 97] by kernel_rfl]; rw [beq_iff_eq] at e ⊢; exact e.symm))
  have e8 : ¬ (nm.toList == [65, 108, 110, 117, 109]) = true := fun e => h 8 (by omega) (bytes_eq (b := nm) (by rw [show (nthW 8).1.toList = [65, 108, 110, 117, 109] by kernel_rfl]; rw [beq_iff_eq] at e ⊢; exact e.symm))
  have e9 : ¬ (nm.toList == [87, 111, 114, 100]) = true := fun e => h 9 (by omega) (bytes_eq (b := nm) (by rw [show (nthW 9).1.toList = [87, 111, 114, 100] by kernel_rfl]; rw [beq_iff_eq] at e ⊢; exact e.symm))
  have e10 : ¬ (nm.toList == [83, 112, 97, 99, 101]) = true := fun e => h 10 (by omega) (bytes_eq (b := nm) (by rw [show (nthW 10).1.toList = [83, 112, 97, 99, 101] by kernel_rfl]; rw [beq_iff_eq] at e ⊢; exact e.symm))
  have e11 : ¬ (nm.toList == [80, 117, 110, 99, 116]) = true := fun e => h 11 (by omega) (bytes_eq (b := nm) (by rw [show (nthW 11).1.toList = [80, 117, 110, 99, 116] by kernel_rfl]; rw [beq_iff_eq] at e ⊢; exact e.symm))
  have e12 : ¬ (nm.toList == [76, 97, 116, 105, 110]) = true := fun e => h 12 (by omega) (bytes_eq (b := nm) (by rw [show (nthW 12).1.toList = [76, 97, 116, 105, 110] by kernel_rfl]; rw [beq_iff_eq] at e ⊢; exact e.symm))
  have e13 : ¬ (nm.toList == [71, 114, 101, 101, 107]) = true := fun e => h 13 (by omega) (bytes_eq (b := nm) (by rw [show (nthW 13).1.toList = [71, 114, 101, 101, 107] by kernel_rfl]; rw [beq_iff_eq] at e ⊢; exact e.symm))
  have e14 : ¬ (nm.toList == [67, 121, 114, 105, 108, 108, 105, 99]) = true := fun e => h 14 (by omega) (bytes_eq (b := nm) (by rw [show (nthW 14).1.toList = [67, 121, 114, 105, 108, 108, 105, 99] by kernel_rfl]; rw [beq_iff_eq] at e ⊢; exact e.symm))
  have e15 : ¬ (nm.toList == [72, 97, 110]) = true := fun e => h 15 (by omega) (bytes_eq (b := nm) (by rw [show (nthW 15).1.toList = [72, 97, 110] by kernel_rfl]; rw [beq_iff_eq] at e ⊢; exact e.symm))
  unfold docN
  rw [if_neg e0, if_neg e1, if_neg e2, if_neg e3, if_neg e4, if_neg e5, if_neg e6, if_neg e7, if_neg e8, if_neg e9, if_neg e10, if_neg e11, if_neg e12, if_neg e13, if_neg e14, if_neg e15]
/-- the document's Has -/
theorem rhas_any2 (nm : ByteArray) (c : Int) (w : World) : Calls Tryd.prog 15 #[.string nm, .int .i64 c] w fun e w' => e = .returned (.bool (hasN nm c)) ∧ w = w' := by
  by_cases h : 0 ≤ c ∧ c ≤ 1114111
  · refine (rhas_in nm c h.1 h.2 w).mono ?_
    rintro e w' ⟨rfl, rfl⟩
    refine ⟨retB ?_, rfl⟩
    rcases row_cases nm with ⟨k, hk, rfl⟩ | hn
    · exact docN_at hk c h.1 h.2
    · rw [docN_none hn, hasN_none hn]
  · refine (out_has nm c h w).mono ?_
    rintro e w' ⟨rfl, rfl⟩
    refine ⟨retB ?_, rfl⟩
    unfold hasN inB
    rcases Int.lt_or_le c 0 with h2 | h2
    · rw [decide_eq_false (show ¬ 0 ≤ c by omega)]; rfl
    · rw [decide_eq_false (show ¬ c ≤ 1114111 by omega)]; simp

end Go.Proofs.YtenmjnopbbingaaDoor.Nm

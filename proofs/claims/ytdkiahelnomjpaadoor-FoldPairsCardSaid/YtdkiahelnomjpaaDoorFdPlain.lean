/- Pairs of letters: plain words. -/
import Derived.Test.YtdkiahelnomjpaaDoorRgCmp
namespace Go.Proofs.YtdkiahelnomjpaaDoor.Fd
open Go.Proofs.YtdkiahelnomjpaaDoor.Rg

/-- a row: first, last, above -/
abbrev Rw := Int × Int × Int
def tab : List Rw := [(65, 90, 32), (192, 214, 32), (216, 222, 32), (913, 929, 32), (931, 939, 32), (1024, 1039, 80), (1040, 1071, 32)]
/-- what becomes of one range -/
def turn1 (h : R) (d : Int) (r : R) : List R := if max r.1 h.1 ≤ min r.2 h.2 then [(max r.1 h.1 + d, min r.2 h.2 + d)] else []
def turnL (l : List R) (h : R) (d : Int) : List R := l.flatMap (turn1 h d)
def gHalf (r : Rw) : R := (r.1, r.2.1)
def sHalf (r : Rw) : R := (r.1 + r.2.2, r.2.1 + r.2.2)
def rowL (l : List R) (r : Rw) : List R := turnL l (gHalf r) r.2.2 ++ turnL l (sHalf r) (-r.2.2)
def othersL (l : List R) : List R := tab.flatMap (rowL l)

def inR (a b c : Int) : Bool := decide (a ≤ c) && decide (c ≤ b)
theorem inR_t {a b c : Int} (h : a ≤ c ∧ c ≤ b) : inR a b c = true := by simp [inR, h]
theorem inR_f {a b c : Int} (h : c < a ∨ b < c) : inR a b c = false := by unfold inR; rw [Bool.eq_false_iff]; simp; omega
theorem hasB_turn1 (h : R) (d : Int) (r : R) (c : Int) : hasB (turn1 h d r) c = (inR (h.1 + d) (h.2 + d) c && inR r.1 r.2 (c - d)) := by
  unfold turn1 inR
  split
  · rw [hasB_one, Bool.eq_iff_iff]; simp only [Bool.and_eq_true, decide_eq_true_eq]; omega
  · rw [hasB_nil, Bool.eq_iff_iff]; simp only [Bool.and_eq_true, decide_eq_true_eq, Bool.false_eq_true, false_iff]; omega
theorem hasB_turnL (h : R) (d : Int) (c : Int) : ∀ l : List R, hasB (turnL l h d) c = (inR (h.1 + d) (h.2 + d) c && hasB l (c - d))
  | [] => by simp [turnL, hasB]
  | r :: t => by
    have ih := hasB_turnL h d c t
    unfold turnL at ih ⊢
    rw [List.flatMap_cons, hasB_append, ih, hasB_turn1, hasB_cons, Bool.and_or_distrib_left]; rfl
theorem turn1_len (h : R) (d : Int) (r : R) : (turn1 h d r).length ≤ 1 := by unfold turn1; split <;> simp
theorem turnL_len (h : R) (d : Int) : ∀ l : List R, (turnL l h d).length ≤ l.length
  | [] => by simp [turnL]
  | r :: t => by
    have ih := turnL_len h d t
    have := turn1_len h d r
    unfold turnL at ih ⊢
    rw [List.flatMap_cons, List.length_append, List.length_cons]; omega
theorem rowL_len (l : List R) (r : Rw) : (rowL l r).length ≤ 2 * l.length := by
  have := turnL_len (gHalf r) r.2.2 l
  have := turnL_len (sHalf r) (-r.2.2) l
  rw [rowL, List.length_append]; omega
theorem rows_len (l : List R) : ∀ t : List Rw, (t.flatMap (rowL l)).length ≤ t.length * (2 * l.length)
  | [] => by simp
  | r :: t => by
    have := rows_len l t
    have := rowL_len l r
    rw [List.flatMap_cons, List.length_append, List.length_cons, Nat.add_mul]; omega
theorem othersL_len (l : List R) : (othersL l).length ≤ 14 * l.length := by
  have := rows_len l tab
  have h7 : tab.length = 7 := rfl
  rw [h7] at this
  unfold othersL; omega

/-- the other one of a number's pair -/
def othF (c : Int) : Option Int :=
  if inR 65 90 c || inR 192 214 c || inR 216 222 c || inR 913 929 c || inR 931 939 c || inR 1040 1071 c then some (c + 32)
  else if inR 1024 1039 c then some (c + 80)
  else if inR 97 122 c || inR 224 246 c || inR 248 254 c || inR 945 961 c || inR 963 971 c || inR 1072 1103 c then some (c - 32)
  else if inR 1104 1119 c then some (c - 80) else none
def othB (p : Int → Bool) (c : Int) : Bool := match othF c with
  | some o => p o
  | none => false
/-- where a number lies -/
theorem where_is (c : Int) : (c < 65 ∨ (91 ≤ c ∧ c ≤ 96) ∨ (123 ≤ c ∧ c ≤ 191) ∨ c = 215 ∨ c = 223 ∨ c = 247 ∨ (255 ≤ c ∧ c ≤ 912) ∨ c = 930 ∨ (940 ≤ c ∧ c ≤ 944) ∨ c = 962 ∨ (972 ≤ c ∧ c ≤ 1023) ∨ 1120 ≤ c) ∨
    (65 ≤ c ∧ c ≤ 90) ∨ (192 ≤ c ∧ c ≤ 214) ∨ (216 ≤ c ∧ c ≤ 222) ∨ (913 ≤ c ∧ c ≤ 929) ∨ (931 ≤ c ∧ c ≤ 939) ∨ (1040 ≤ c ∧ c ≤ 1071) ∨ (1024 ≤ c ∧ c ≤ 1039) ∨
    (97 ≤ c ∧ c ≤ 122) ∨ (224 ≤ c ∧ c ≤ 246) ∨ (248 ≤ c ∧ c ≤ 254) ∨ (945 ≤ c ∧ c ≤ 961) ∨ (963 ≤ c ∧ c ≤ 971) ∨ (1072 ≤ c ∧ c ≤ 1103) ∨ (1104 ≤ c ∧ c ≤ 1119) := by omega

theorem hasB_othersL (l : List R) (c : Int) : hasB (othersL l) c = othB (hasB l) c := by
  have e : hasB (othersL l) c = ((inR 97 122 c && hasB l (c - 32)) || (inR 65 90 c && hasB l (c + 32)) || (inR 224 246 c && hasB l (c - 32)) || (inR 192 214 c && hasB l (c + 32)) || (inR 248 254 c && hasB l (c - 32)) || (inR 216 222 c && hasB l (c + 32)) ||
      (inR 945 961 c && hasB l (c - 32)) || (inR 913 929 c && hasB l (c + 32)) || (inR 963 971 c && hasB l (c - 32)) || (inR 931 939 c && hasB l (c + 32)) || (inR 1104 1119 c && hasB l (c - 80)) || (inR 1024 1039 c && hasB l (c + 80)) || (inR 1072 1103 c && hasB l (c - 32)) || (inR 1040 1071 c && hasB l (c + 32))) := by
    simp only [othersL, tab, List.flatMap_cons, List.flatMap_nil, rowL, gHalf, sHalf, hasB_append, hasB_turnL, hasB_nil, Bool.or_false, Bool.or_assoc]
    simp only [Int.reduceAdd, Int.reduceNeg, Int.sub_neg]
  rw [e]
  unfold othB othF
  rcases where_is c with h | h | h | h | h | h | h | h | h | h | h | h | h | h | h <;> simp (disch := omega) only [inR_t, inR_f, Bool.true_and, Bool.false_and, Bool.or_false, Bool.false_or, Bool.or_true, if_true, if_false, Bool.false_eq_true]

theorem turnL_one (h : R) (d c : Int) : turnL [(c, c)] h d = if inR h.1 h.2 c then [(c + d, c + d)] else [] := by
  unfold turnL turn1 inR
  simp only [List.flatMap_cons, List.flatMap_nil, List.append_nil, Bool.and_eq_true, decide_eq_true_eq]
  by_cases hc : h.1 ≤ c ∧ c ≤ h.2
  · rw [if_pos hc, if_pos (by omega), Int.max_eq_left hc.1, Int.min_eq_left hc.2]
  · rw [if_neg hc, if_neg (by omega)]
/-- the other one of one number, told as ranges -/
def oneL (c : Int) : List R := match othF c with
  | some o => [(o, o)]
  | none => []
theorem othersL_one (c : Int) : othersL [(c, c)] = oneL c := by
  simp only [othersL, tab, List.flatMap_cons, List.flatMap_nil, rowL, gHalf, sHalf, turnL_one]
  unfold oneL othF
  rcases where_is c with h | h | h | h | h | h | h | h | h | h | h | h | h | h | h <;> simp (disch := omega) only [inR_t, inR_f, Bool.or_false, Bool.or_true, if_true, if_false, Bool.false_eq_true, List.append_nil, List.nil_append] <;> rfl

/-- o is c's other one -/
def Pair (c o : Int) : Prop := (o = c + 32 ∧ ((65 ≤ c ∧ c ≤ 90) ∨ (192 ≤ c ∧ c ≤ 214) ∨ (216 ≤ c ∧ c ≤ 222) ∨ (913 ≤ c ∧ c ≤ 929) ∨ (931 ≤ c ∧ c ≤ 939) ∨ (1040 ≤ c ∧ c ≤ 1071))) ∨ (o = c + 80 ∧ 1024 ≤ c ∧ c ≤ 1039)
theorem othF_pair {c o : Int} (h : othF c = some o) : Pair c o ∨ Pair o c := by
  unfold othF at h
  unfold Pair
  rcases where_is c with k | k | k | k | k | k | k | k | k | k | k | k | k | k | k <;> simp (disch := omega) only [inR_t, inR_f, Bool.or_false, Bool.or_true, if_true, if_false, Bool.false_eq_true, Option.some.injEq, reduceCtorEq] at h <;> omega
theorem pair_othF {c o : Int} (h : Pair c o ∨ Pair o c) : othF c = some o := by
  unfold othF
  unfold Pair at h
  rcases where_is c with k | k | k | k | k | k | k | k | k | k | k | k | k | k | k <;> simp (disch := omega) only [inR_t, inR_f, Bool.or_false, Bool.or_true, if_true, if_false, Bool.false_eq_true, Option.some.injEq] <;> omega
theorem oth_back {c o : Int} (h : othF c = some o) : othF o = some c := pair_othF (othF_pair h).symm
theorem oth_bounds {c o : Int} (h : othF c = some o) : 65 ≤ c ∧ c ≤ 1119 ∧ 65 ≤ o ∧ o ≤ 1119 ∧ o ≠ c := by
  have := othF_pair h
  unfold Pair at this
  omega
theorem othB_in (l : List R) (c : Int) : othB (hasB l) c = othB (inB l) c := by
  unfold othB
  cases h : othF c with
  | none => rfl
  | some o => 
    have := oth_bounds h
    simp only [inB]; rw [show decide (0 ≤ o) = true by simp; omega, show decide (o ≤ 1114111) = true by simp; omega]; rfl
theorem inB_othersL (l : List R) (c : Int) : inB (othersL l) c = othB (inB l) c := by
  rw [← othB_in]
  unfold inB
  rw [hasB_othersL]
  unfold othB
  cases h : othF c with
  | none => simp
  | some o =>
    have := oth_bounds h
    rw [show decide (0 ≤ c) = true by simp; omega, show decide (c ≤ 1114111) = true by simp; omega]; simp
/-- is c in a set folded -/
def foldB (p : Int → Bool) (c : Int) : Bool := p c || othB p c
theorem othB_othB {p : Int → Bool} {c : Int} (h : othB (othB p) c = true) : p c = true := by
  unfold othB at h
  cases h1 : othF c with
  | none => simp [h1] at h
  | some o => simp only [h1, oth_back h1] at h; exact h
theorem foldB_again (p : Int → Bool) (c : Int) : foldB (foldB p) c = foldB p c := by
  unfold foldB
  have e : othB (fun x => p x || othB p x) c = (othB p c || othB (othB p) c) := by
    unfold othB; cases othF c <;> rfl
  rw [e]
  cases h : othB (othB p) c
  · cases p c <;> cases othB p c <;> rfl
  · rw [othB_othB h]; simp
theorem foldB_other (p : Int → Bool) {c o : Int} (h : othF c = some o) : foldB p c = foldB p o := by
  unfold foldB othB
  rw [h, oth_back h, Bool.or_comm]
theorem foldB_ext {p q : Int → Bool} (h : ∀ c, p c = q c) (c : Int) : foldB p c = foldB q c := by
  rw [show p = q from funext h]

/-- the small one of a number's pair -/
def smallF (c : Int) : Int := max c ((othF c).getD c)
theorem small_back {c o : Int} (h : othF c = some o) : smallF o = smallF c := by
  unfold smallF
  rw [h, oth_back h, Option.getD_some, Option.getD_some, Int.max_comm]

end Go.Proofs.YtdkiahelnomjpaaDoor.Fd

/- Places in a text, in plain words: line and column by a fold; the lines; what stands where. -/
import Derived.Lib.IndexLaws
import Derived.Lib.LastIndexByte
namespace Go.Proofs.YteimahbfjgcpiaaDoor.Pl
open Go

/-- line and column behind one byte more -/
def stepP (p : Nat × Nat) (c : UInt8) : Nat × Nat := if c = 10 then (p.1 + 1, 1) else (p.1, p.2 + 1)
/-- line and column of the end of a text -/
def ofL (l : List UInt8) : Nat × Nat := l.foldl stepP (1, 1)
theorem ofL_nil : ofL [] = (1, 1) := rfl
theorem ofL_snoc (l : List UInt8) (c : UInt8) : ofL (l ++ [c]) = stepP (ofL l) c := by simp [ofL, List.foldl_append]

theorem fold_line : ∀ (l : List UInt8) (p : Nat × Nat), (l.foldl stepP p).1 = p.1 + l.count 10
  | [], p => by simp
  | c :: r, p => by
    rw [List.foldl_cons, fold_line r]
    unfold stepP
    by_cases h : c = 10
    · subst h; simp; omega
    · rw [if_neg h, List.count_cons_of_ne (by simpa using h)]
theorem ofL_line (l : List UInt8) : (ofL l).1 = l.count 10 + 1 := by
  unfold ofL; rw [fold_line]; omega
theorem fold_col : ∀ (l : List UInt8) (p : Nat × Nat), (∀ c ∈ l, c ≠ 10) → l.foldl stepP p = (p.1, p.2 + l.length)
  | [], p, _ => by simp
  | c :: r, p, h => by
    rw [List.foldl_cons, fold_col r _ (fun x hx => h x (by simp [hx]))]
    unfold stepP
    rw [if_neg (h c (by simp))]
    simp; omega
theorem ofL_line_le (l : List UInt8) : 1 ≤ (ofL l).1 ∧ (ofL l).1 ≤ l.length + 1 := by
  rw [ofL_line]
  have := List.count_le_length (a := (10 : UInt8)) (l := l)
  omega
theorem fold_col_le : ∀ (l : List UInt8) (p : Nat × Nat), 1 ≤ p.2 → 1 ≤ (l.foldl stepP p).2 ∧ (l.foldl stepP p).2 ≤ p.2 + l.length
  | [], p, h => by simp; omega
  | c :: r, p, h => by
    rw [List.foldl_cons]
    have := fold_col_le r (stepP p c) (by unfold stepP; split <;> simp)
    have h2 : (stepP p c).2 ≤ p.2 + 1 := by unfold stepP; split <;> simp
    simp only [List.length_cons]
    omega
theorem ofL_col_le (l : List UInt8) : 1 ≤ (ofL l).2 ∧ (ofL l).2 ≤ l.length + 1 := by
  have := fold_col_le l (1, 1) (by simp)
  unfold ofL; omega

theorem len_size (s : ByteArray) : s.data.toList.length = s.size := rfl
theorem getbang (s : ByteArray) (i : Nat) (h : i < s.size) : s.data[i]! = s.data.toList[i]'(len_size s ▸ h) := by
  rw [getElem!_pos s.data i h]; rfl
/-- the column by the last line end -/
theorem ofL_col (s : ByteArray) : (((ofL s.data.toList).2 : Nat) : Int) = s.size - Lib.lastIndexByte s 10 := by
  have hsz := len_size s
  rcases Lib.lastIdx_spec s 10 s.size with ⟨h, hn⟩ | ⟨i, hi, h, hc, hn⟩
  · unfold Lib.lastIndexByte
    rw [h]
    unfold ofL
    rw [fold_col s.data.toList (1, 1) ?_]
    · simp only; omega
    · intro c hc e
      obtain ⟨j, hj, rfl⟩ := List.getElem_of_mem hc
      have := hn j (by omega)
      rw [getbang s j (by omega), e] at this
      exact this rfl
  · unfold Lib.lastIndexByte
    rw [h]
    rw [getbang s i hi] at hc
    have hc' : s.data.toList[i]'(by omega) = 10 := UInt8.toNat_inj.1 (by have e : (10 : UInt8).toNat = 10 := rfl; rw [e]; omega)
    have hs : s.data.toList = s.data.toList.take i ++ 10 :: s.data.toList.drop (i + 1) := by
      rw [← hc', ← List.drop_eq_getElem_cons, List.take_append_drop]
    unfold ofL
    rw [hs, List.foldl_append, List.foldl_cons, fold_col (s.data.toList.drop (i + 1)) _ ?_]
    · unfold stepP
      simp only [↓reduceIte, List.length_drop]
      omega
    · intro c hc2 e
      obtain ⟨j, hj, rfl⟩ := List.getElem_of_mem hc2
      simp only [List.length_drop] at hj
      have := hn (i + 1 + j) (by omega) (by omega)
      rw [getbang s (i + 1 + j) (by omega)] at this
      rw [List.getElem_drop] at e
      rw [e] at this
      exact this rfl

/-- where a number that may be outside stands -/
def cl (at_ : Int) (n : Nat) : Nat := (min (max at_ 0) n).toNat
theorem cl_le (a : Int) (n : Nat) : cl a n ≤ n := by unfold cl; omega
theorem cl_in {a : Int} {n : Nat} (h0 : 0 ≤ a) (h1 : a ≤ n) : (cl a n : Int) = a := by unfold cl; omega

/-- The lines from here on: f: where the line begins, i: where we are. -/
def lnL : Nat → Nat → List UInt8 → List (Nat × Nat)
  | f, i, [] => [(f, i)]
  | f, i, c :: r => if c = 10 then (f, i) :: lnL (i + 1) (i + 1) r else lnL f (i + 1) r
def linesL (l : List UInt8) : List (Nat × Nat) := lnL 0 0 l

theorem lnL_skip : ∀ (k : Nat) (l : List UInt8) (f i : Nat), (∀ j, j < k → l[j]? ≠ some 10) → k ≤ l.length → lnL f i l = lnL f (i + k) (l.drop k)
  | 0, l, f, i, _, _ => by simp
  | k + 1, [], f, i, _, hl => by simp at hl
  | k + 1, c :: r, f, i, h, hl => by
    have hc : c ≠ 10 := fun e => h 0 (by omega) (by simp [e])
    rw [List.drop_succ_cons, show i + (k + 1) = (i + 1) + k by omega, ← lnL_skip k r f (i + 1) (fun j hj => by simpa using h (j + 1) (by omega)) (by simpa using hl)]
    conv => lhs; unfold lnL
    rw [if_neg hc]
theorem lnL_none {l : List UInt8} {f i : Nat} (h : Lib.indexByte l 10 = -1) : lnL f i l = [(f, i + l.length)] := by
  rw [lnL_skip l.length l f i (fun j _ => Lib.indexByte_none h j) (Nat.le_refl _), List.drop_length]
  rfl
theorem lnL_some {l : List UInt8} {f i k : Nat} (h : Lib.indexByte l 10 = k) : k < l.length ∧ lnL f i l = (f, i + k) :: lnL (i + k + 1) (i + k + 1) (l.drop (k + 1)) := by
  obtain ⟨h1, h2⟩ := Lib.indexByte_some h
  obtain ⟨hk, hc⟩ := List.getElem?_eq_some_iff.1 h1
  refine ⟨hk, ?_⟩
  rw [lnL_skip k l f i h2 (by omega), List.drop_eq_getElem_cons hk, hc]
  conv => lhs; unfold lnL
  rw [if_pos rfl]
theorem idx_cases (l : List UInt8) : Lib.indexByte l 10 = -1 ∨ ∃ k : Nat, Lib.indexByte l 10 = k := by
  have := Lib.indexByte_ge l 10
  rcases Int.lt_or_le (Lib.indexByte l 10) 0 with h | h
  · exact .inl (by omega)
  · exact .inr ⟨_, (Int.toNat_of_nonneg h).symm⟩

theorem take_succ {l : List UInt8} {i : Nat} (h : i < l.length) : l.take (i + 1) = l.take i ++ [l[i]] := List.take_succ_eq_append_getElem h

/-- Of each line: the places of its bytes, its end's too. -/
theorem ln_at (l : List UInt8) : ∀ (rest : List UInt8) (f i n : Nat), l.drop i = rest → i ≤ l.length → f ≤ i →
    (∀ j, f ≤ j → j ≤ i → ofL (l.take j) = (n, j - f + 1)) →
    ∀ k a b, (lnL f i rest)[k]? = some (a, b) → f ≤ a ∧ a ≤ b ∧ b ≤ l.length ∧ ∀ j, a ≤ j → j ≤ b → ofL (l.take j) = (n + k, j - a + 1)
  | [], f, i, n, hd, hi, hf, ho, k, a, b, hk => by
    unfold lnL at hk
    match k, hk with
    | 0, hk => simp at hk; obtain ⟨rfl, rfl⟩ := hk; exact ⟨Nat.le_refl _, hf, hi, fun j h1 h2 => by simpa using ho j h1 h2⟩
    | k + 1, hk => simp at hk
  | c :: r, f, i, n, hd, hi, hf, ho, k, a, b, hk => by
    have hlt : i < l.length := by
      rcases Nat.lt_or_ge i l.length with h | h
      · exact h
      · rw [List.drop_eq_nil_of_le h] at hd; cases hd
    rw [List.drop_eq_getElem_cons hlt] at hd
    injection hd with hc hr
    have ht := take_succ hlt
    have h1 := ho i hf (Nat.le_refl _)
    unfold lnL at hk
    by_cases hn : c = 10
    · rw [if_pos hn] at hk
      match k, hk with
      | 0, hk => simp at hk; obtain ⟨rfl, rfl⟩ := hk; exact ⟨Nat.le_refl _, hf, hi, fun j h1 h2 => by simpa using ho j h1 h2⟩
      | k + 1, hk =>
        rw [List.getElem?_cons_succ] at hk
        have := ln_at l r (i + 1) (i + 1) (n + 1) hr hlt (Nat.le_refl _) (fun j h1' h2' => by
          obtain rfl : j = i + 1 := by omega
          rw [ht, ofL_snoc, h1, hc, hn]
          unfold stepP; simp) k a b hk
        refine ⟨by omega, this.2.1, this.2.2.1, fun j h1 h2 => by rw [this.2.2.2 j h1 h2]; congr 1; omega⟩
    · rw [if_neg hn] at hk
      exact ln_at l r f (i + 1) n hr hlt (by omega) (fun j h1' h2' => by
        rcases Nat.lt_or_ge j (i + 1) with h | h
        · exact ho j h1' (by omega)
        · obtain rfl : j = i + 1 := by omega
          rw [ht, ofL_snoc, h1, hc]
          unfold stepP; rw [if_neg hn]; simp; omega) k a b hk
theorem lines_at {l : List UInt8} {k a b : Nat} (h : (linesL l)[k]? = some (a, b)) : a ≤ b ∧ b ≤ l.length ∧ ∀ j, a ≤ j → j ≤ b → ofL (l.take j) = (k + 1, j - a + 1) := by
  have := ln_at l l 0 0 1 rfl (Nat.zero_le _) (Nat.le_refl _) (fun j h1 h2 => by obtain rfl : j = 0 := by omega
                                                                                 rfl) k a b h
  exact ⟨this.2.1, this.2.2.1, fun j h1 h2 => by rw [this.2.2.2 j h1 h2, Nat.add_comm]⟩

/-- Each place is in one of the lines. -/
theorem ln_of : ∀ (rest : List UInt8) (f i : Nat), f ≤ i → ∀ j, f ≤ j → j ≤ i + rest.length → ∃ (k a b : Nat), (lnL f i rest)[k]? = some (a, b) ∧ a ≤ j ∧ j ≤ b
  | [], f, i, hf, j, h1, h2 => ⟨0, f, i, rfl, h1, by simpa using h2⟩
  | c :: r, f, i, hf, j, h1, h2 => by
    unfold lnL
    simp only [List.length_cons] at h2
    by_cases hn : c = 10
    · rw [if_pos hn]
      by_cases hj : j ≤ i
      · exact ⟨0, f, i, rfl, h1, hj⟩
      · obtain ⟨k, a, b, h⟩ := ln_of r (i + 1) (i + 1) (Nat.le_refl _) j (by omega) (by omega)
        exact ⟨k + 1, a, b, by simpa using h⟩
    · rw [if_neg hn]
      exact ln_of r f (i + 1) (by omega) j h1 (by omega)
theorem lines_of {l : List UInt8} {j : Nat} (h : j ≤ l.length) : ∃ (k a b : Nat), (linesL l)[k]? = some (a, b) ∧ a ≤ j ∧ j ≤ b :=
  ln_of l 0 0 (Nat.le_refl _) j (Nat.zero_le _) (by simpa using h)

/-- two places are two -/
theorem of_inj {l : List UInt8} {i j : Nat} (hi : i ≤ l.length) (hj : j ≤ l.length) (h : ofL (l.take i) = ofL (l.take j)) : i = j := by
  obtain ⟨k, a, b, h1, h2, h3⟩ := lines_of hi
  obtain ⟨k', a', b', h1', h2', h3'⟩ := lines_of hj
  have e := (lines_at h1).2.2 i h2 h3
  have e' := (lines_at h1').2.2 j h2' h3'
  rw [h, e'] at e
  simp only [Prod.mk.injEq] at e
  obtain rfl : k' = k := by omega
  rw [h1] at h1'
  simp only [Option.some.injEq, Prod.mk.injEq] at h1'
  omega

/-- the byte at a place -/
def IsAt (l : List UInt8) (line col : Int) : Option Nat → Prop
  | some i => i ≤ l.length ∧ (((ofL (l.take i)).1 : Nat) : Int) = line ∧ (((ofL (l.take i)).2 : Nat) : Int) = col
  | none => ∀ i, i ≤ l.length → ¬ ((((ofL (l.take i)).1 : Nat) : Int) = line ∧ (((ofL (l.take i)).2 : Nat) : Int) = col)
theorem isAt_one {l : List UInt8} {line col : Int} : ∀ {a b : Option Nat}, IsAt l line col a → IsAt l line col b → a = b
  | none, none, _, _ => rfl
  | some i, none, ⟨h1, h2⟩, h => absurd h2 (h i h1)
  | none, some i, h, ⟨h1, h2⟩ => absurd h2 (h i h1)
  | some i, some j, ⟨h1, h2, h3⟩, ⟨k1, k2, k3⟩ => by
    have := of_inj h1 k1 (Prod.ext (by omega) (by omega))
    rw [this]
/-- a line or column below 1 is none -/
theorem isAt_low {l : List UInt8} {line col : Int} (h : line < 1 ∨ col < 1) : IsAt l line col none := by
  rintro i hi ⟨h1, h2⟩
  have a := ofL_line_le (l.take i)
  have b := ofL_col_le (l.take i)
  omega
/-- behind all lines there is none -/
theorem isAt_far {l : List UInt8} {line col : Int} (h : ((linesL l).length : Int) < line) : IsAt l line col none := by
  rintro i hi ⟨h1, h2⟩
  obtain ⟨k, a, b, hk, h2, h3⟩ := lines_of hi
  have e := (lines_at hk).2.2 i h2 h3
  have hl := (List.getElem?_eq_some_iff.1 hk).1
  rw [e] at h1
  simp only at h1
  omega
/-- in its line it is, or none -/
theorem isAt_in {l : List UInt8} {line col : Int} {k a b : Nat} (h : (linesL l)[k]? = some (a, b)) (hl : line = k + 1) (hc : 1 ≤ col) (hb : col - 1 ≤ (b : Int) - a) :
    IsAt l line col (some (a + (col - 1).toNat)) := by
  obtain ⟨h1, h2, h3⟩ := lines_at h
  have e := h3 (a + (col - 1).toNat) (by omega) (by omega)
  refine ⟨by omega, ?_, ?_⟩
  · rw [e]; simp only; omega
  · rw [e]; simp only; omega
theorem isAt_out {l : List UInt8} {line col : Int} {k a b : Nat} (h : (linesL l)[k]? = some (a, b)) (hl : line = k + 1) (hb : (b : Int) - a < col - 1) :
    IsAt l line col none := by
  rintro i hi ⟨h1, h2⟩
  obtain ⟨k', a', b', hk, h2', h3'⟩ := lines_of hi
  have e := (lines_at hk).2.2 i h2' h3'
  rw [e] at h1 h2
  simp only at h1 h2
  obtain rfl : k' = k := by omega
  rw [hk] at h
  simp only [Option.some.injEq, Prod.mk.injEq] at h
  omega

/-- how the lines follow one another -/
theorem ln_chain (l : List UInt8) : ∀ (rest : List UInt8) (f i : Nat), l.drop i = rest → i ≤ l.length → f ≤ i →
    (∃ b, (lnL f i rest)[0]? = some (f, b)) ∧ ∀ k a b, (lnL f i rest)[k + 1]? = some (a, b) → ∃ p q, (lnL f i rest)[k]? = some (p, q) ∧ a = q + 1 ∧ l[q]? = some 10
  | [], f, i, hd, hi, hf => by
    refine ⟨⟨i, rfl⟩, fun k a b h => by simp [lnL] at h⟩
  | c :: r, f, i, hd, hi, hf => by
    have hlt : i < l.length := by
      rcases Nat.lt_or_ge i l.length with h | h
      · exact h
      · rw [List.drop_eq_nil_of_le h] at hd; cases hd
    rw [List.drop_eq_getElem_cons hlt] at hd
    injection hd with hc hr
    unfold lnL
    by_cases hn : c = 10
    · rw [if_pos hn]
      obtain ⟨⟨b0, hb0⟩, hch⟩ := ln_chain l r (i + 1) (i + 1) hr hlt (Nat.le_refl _)
      refine ⟨⟨i, rfl⟩, fun k a b h => ?_⟩
      rw [List.getElem?_cons_succ] at h
      match k, h with
      | 0, h =>
        rw [hb0] at h
        simp only [Option.some.injEq, Prod.mk.injEq] at h
        exact ⟨f, i, rfl, by omega, by rw [List.getElem?_eq_getElem hlt, hc, hn]⟩
      | k + 1, h =>
        obtain ⟨p, q, h1, h2⟩ := hch k a b h
        exact ⟨p, q, by simpa using h1, h2⟩
    · rw [if_neg hn]
      exact ln_chain l r f (i + 1) hr hlt (by omega)
theorem ln_last : ∀ (rest : List UInt8) (f i : Nat), ∃ p, (lnL f i rest).getLast? = some (p, i + rest.length) 
  | [], f, i => ⟨f, rfl⟩
  | c :: r, f, i => by
    unfold lnL
    by_cases hn : c = 10
    · rw [if_pos hn]
      obtain ⟨p, h⟩ := ln_last r (i + 1) (i + 1)
      refine ⟨p, ?_⟩
      rw [List.getLast?_cons, h]
      simp; omega
    · rw [if_neg hn]
      obtain ⟨p, h⟩ := ln_last r f (i + 1)
      exact ⟨p, by rw [h]; simp; omega⟩
theorem ln_pos : ∀ (rest : List UInt8) (f i : Nat), 1 ≤ (lnL f i rest).length ∧ (lnL f i rest).length ≤ rest.length + 1
  | [], f, i => by simp [lnL]
  | c :: r, f, i => by
    unfold lnL
    by_cases hn : c = 10
    · rw [if_pos hn]
      have := ln_pos r (i + 1) (i + 1)
      simp only [List.length_cons]; omega
    · rw [if_neg hn]
      have := ln_pos r f (i + 1)
      simp only [List.length_cons]; omega
theorem lines_pos (l : List UInt8) : 1 ≤ (linesL l).length ∧ (linesL l).length ≤ l.length + 1 := ln_pos l 0 0

/-- the text behind k lines -/
def upTo (l : List UInt8) (k : Nat) : List UInt8 := match k with
  | 0 => []
  | k + 1 => l.take ((linesL l).getD k (0, 0)).2
theorem upTo_succ (l : List UInt8) (k : Nat) : upTo l (k + 1) = l.take ((linesL l).getD k (0, 0)).2 := rfl
theorem getD_of {α : Type} {l : List α} {k : Nat} {x d : α} (h : l[k]? = some x) : l.getD k d = x := by rw [List.getD_eq_getElem?_getD, h]; rfl
theorem upTo_first {l : List UInt8} {a b : Nat} (h : (linesL l)[0]? = some (a, b)) : upTo l 1 = (l.take b).drop a := by
  obtain ⟨⟨b', hb'⟩, _⟩ := ln_chain l l 0 0 rfl (Nat.zero_le _) (Nat.le_refl _)
  rw [show (lnL 0 0 l) = linesL l from rfl, h] at hb'
  simp only [Option.some.injEq, Prod.mk.injEq] at hb'
  rw [upTo_succ, getD_of h, hb'.1]
  rfl
theorem upTo_next {l : List UInt8} {k a b : Nat} (h : (linesL l)[k + 1]? = some (a, b)) : upTo l (k + 2) = upTo l (k + 1) ++ [10] ++ (l.take b).drop a := by
  obtain ⟨_, hch⟩ := ln_chain l l 0 0 rfl (Nat.zero_le _) (Nat.le_refl _)
  obtain ⟨p, q, h1, h2, h3⟩ := hch k a b h
  obtain ⟨hab, hbl, _⟩ := lines_at h
  rw [upTo_succ, upTo_succ, getD_of h, getD_of (l := linesL l) (x := (p, q)) h1]
  simp only
  obtain ⟨hq, hc⟩ := List.getElem?_eq_some_iff.1 h3
  rw [← hc, ← take_succ hq, ← h2]
  have : l.take a = (l.take b).take a := by rw [List.take_take]; congr 1; omega
  rw [this, List.take_append_drop]
theorem upTo_all (l : List UInt8) : upTo l (linesL l).length = l := by
  have hp := (lines_pos l).1
  obtain ⟨p, h⟩ := ln_last l 0 0
  rw [show lnL 0 0 l = linesL l from rfl, List.getLast?_eq_getElem?] at h
  obtain ⟨n, hn⟩ : ∃ n, (linesL l).length = n + 1 := ⟨(linesL l).length - 1, by omega⟩
  rw [hn, Nat.add_sub_cancel] at h
  rw [hn, upTo_succ, getD_of h]
  simp

end Go.Proofs.YteimahbfjgcpiaaDoor.Pl

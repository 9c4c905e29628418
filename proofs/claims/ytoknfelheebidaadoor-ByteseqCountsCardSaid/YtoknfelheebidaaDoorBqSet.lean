/- A set's parts: which numbers are in them, how many, how many texts match; plain words. -/
import Derived.Test.YtoknfelheebidaaDoorBqRow
import Derived.Test.YtoknfelheebidaaDoorRgSet2
namespace Go.Proofs.YtoknfelheebidaaDoor.Bq
open Go Go.Proofs.YtoknfelheebidaaDoor.Ut Go.Proofs.YtoknfelheebidaaDoor.Rg

/-- the k-th span -/
def spanLo (i : Nat) : Int := if i = 0 then 0 else if i = 1 then 128 else if i = 2 then 2048 else if i = 3 then 57344 else if i = 4 then 65536 else 1114112
def spanHi (i : Nat) : Int := if i = 0 then 127 else if i = 1 then 2047 else if i = 2 then 55295 else if i = 3 then 65535 else 1114111
theorem span_at {i : Nat} (hi : i < 5) {a b : Int} (h1 : spanLo i ≤ a) (h2 : b ≤ spanHi i) : Span a b := by
  rcases (show i = 0 ∨ i = 1 ∨ i = 2 ∨ i = 3 ∨ i = 4 by omega) with rfl | rfl | rfl | rfl | rfl <;> simp [spanLo, spanHi] at h1 h2 <;> unfold Span <;> omega
theorem span_zero : spanLo 0 = 0 := rfl

/-- a part of one of a set's ranges within a span -/
def Run (l : List R) (p : R) : Prop := ∃ (i : Nat) (L : List R) (r : R) (D : List R), i < 5 ∧ setFrom 0 L ∧ (∀ c, hasB L c = (inB l c && inB [(spanLo i, spanHi i)] c)) ∧ r ∈ L ∧ Part r.1 r.2 D ∧ p ∈ D
/-- the parts of all spans below the i-th, and of the ranges of L in the i-th -/
structure SoFar (l : List R) (i : Nat) (L : List R) (C : List R) (m : Int) (n : Nat) : Prop where
  rise : Rise 0 C m
  cells : ∀ p ∈ C, Cell p
  has : ∀ c, hasB C c = ((decide (c < spanLo i) && (inB l c && scalar c)) || hasB L c)
  len : C.length ≤ n
  run : ∀ p ∈ C, Run l p

theorem in_isC {l : List R} {c : Int} (h : inB l c = true) : 0 ≤ c ∧ c ≤ 1114111 := by
  unfold inB at h; simp at h; omega
theorem SoFar.start (l : List R) : SoFar l 0 [] [] 0 0 := by
  refine ⟨Int.le_refl _, (by simp), fun c => ?_, Nat.le_refl _, (by simp)⟩
  rw [hasB_nil, Bool.or_false, span_zero]
  cases h : inB l c
  · simp
  · have := in_isC h
    rw [show decide (c < 0) = false by simp; omega]; rfl
/-- a span is done -/
theorem SoFar.span {l : List R} {i : Nat} {L C : List R} {m : Int} {n : Nat} (h : SoFar l i L C m n) (hi : i < 5) (hL : ∀ c, hasB L c = (inB l c && inB [(spanLo i, spanHi i)] c)) (hm : m ≤ spanLo (i + 1)) : SoFar l (i + 1) [] C (spanLo (i + 1)) n := by
  refine ⟨h.rise.mono (Int.le_refl _) hm, h.cells, fun c => ?_, h.len, h.run⟩
  rw [h.has, hL, hasB_nil, Bool.or_false]
  cases hc : inB l c
  · simp
  · have hr := in_isC hc
    rw [Bool.eq_iff_iff]
    simp only [inB, hasB, scalar, List.any_cons, List.any_nil, Bool.or_false, Bool.true_and, Bool.or_eq_true, Bool.and_eq_true, decide_eq_true_eq]
    rcases (show i = 0 ∨ i = 1 ∨ i = 2 ∨ i = 3 ∨ i = 4 by omega) with rfl | rfl | rfl | rfl | rfl <;> simp only [spanLo, spanHi] <;> simp <;> omega
/-- a range is parted -/
theorem SoFar.range {l : List R} {i : Nat} {L C P : List R} {r : R} {m : Int} {n : Nat} (h : SoFar l i L C m n) (hm : m ≤ r.1) (hp : Parted r.1 r.2 P) (hr : ∀ p ∈ P, Run l p) : SoFar l i (L ++ [r]) (C ++ P) (r.2 + 1) (n + 7) := by
  refine ⟨h.rise.append (hp.rise.mono hm (Int.le_refl _)), fun p hq => ?_, fun c => ?_, by rw [List.length_append]; have := h.len; have := hp.len; omega, fun p hq => ?_⟩
  · rcases List.mem_append.1 hq with hq | hq
    · exact h.cells p hq
    · exact hp.cells p hq
  · rw [hasB_append, h.has, hp.has, hasB_append, hasB_one, Bool.or_assoc]
  · rcases List.mem_append.1 hq with hq | hq
    · exact h.run p hq
    · exact hr p hq

/-- what Of tells of a set, part by part -/
structure Parts (l C : List R) : Prop where
  rise : Rise 0 C 1114112
  cells : ∀ p ∈ C, Cell p
  has : ∀ c, hasB C c = (inB l c && scalar c)
  len : C.length ≤ 35 * (l.length + 1)
  run : ∀ p ∈ C, Run l p
theorem SoFar.all {l : List R} {C : List R} {m : Int} {n : Nat} (h : SoFar l 5 [] C m n) (hm : m ≤ 1114112) (hn : n ≤ 35 * (l.length + 1)) : Parts l C := by
  refine ⟨h.rise.mono (Int.le_refl _) hm, h.cells, fun c => ?_, Nat.le_trans h.len hn, h.run⟩
  rw [h.has, hasB_nil, Bool.or_false]
  cases hc : inB l c
  · simp
  · have hr := in_isC hc
    rw [show decide (c < spanLo 5) = true by simp [spanLo]; omega]; simp

/-! ### how many ranges a set has within a span -/
theorem len_sub : ∀ {L M : List Int}, L.Nodup → (∀ x ∈ L, x ∈ M) → L.length ≤ M.length
  | [], _, _, _ => Nat.zero_le _
  | x :: t, M, hn, hs => by
    have hx := hs x List.mem_cons_self
    obtain ⟨h1, h2⟩ := List.nodup_cons.1 hn
    have := len_sub (L := t) (M := M.erase x) h2 fun y hy => (List.mem_erase_of_ne (fun e => h1 (by rw [← e]; exact hy))).2 (hs y (List.mem_cons_of_mem _ hy))
    rw [List.length_erase_of_mem hx] at this
    have := List.length_pos_of_mem hx
    simp only [List.length_cons]; omega
theorem set_nodup : ∀ {L : List R} {m : Int}, setFrom m L → (L.map Prod.fst).Nodup ∧ ∀ x ∈ L.map Prod.fst, m ≤ x
  | [], _, _ => ⟨List.nodup_nil, by simp⟩
  | r :: t, m, ⟨a, b, c, d⟩ => by
    obtain ⟨h1, h2⟩ := set_nodup d
    refine ⟨List.nodup_cons.2 ⟨fun h => ?_, h1⟩, fun x hx => ?_⟩
    · have := h2 _ h; omega
    · rcases List.mem_cons.1 hx with rfl | hx
      · exact a
      · have := h2 x hx; omega
theorem set_first : ∀ {L : List R} {m : Int}, setFrom m L → ∀ r ∈ L, hasB L r.1 = true ∧ hasB L (r.1 - 1) = false
  | q :: t, m, ⟨a, b, c, d⟩, r, hr => by
    rcases List.mem_cons.1 hr with rfl | hr
    · rw [hasB_cons, hasB_cons, hasB_below (c := r.1 - 1) d (by omega)]
      simp; omega
    · obtain ⟨h1, h2⟩ := set_first d r hr
      have := set_all d r hr
      rw [hasB_cons, hasB_cons, h1, h2]
      simp; omega
theorem starts_len {l L : List R} {a b : Int} (h : setFrom 0 L) (ha : 0 ≤ a) (hh : ∀ c, hasB L c = (inB l c && inB [(a, b)] c)) : L.length ≤ l.length + 1 := by
  have hsub : ∀ x ∈ L.map Prod.fst, x ∈ a :: l.map Prod.fst := by
    intro x hx
    obtain ⟨r, hr, rfl⟩ := List.mem_map.1 hx
    obtain ⟨h1, h2⟩ := set_first h r hr
    rw [hh, Bool.and_eq_true] at h1
    obtain ⟨k1, k2⟩ := h1
    have hk1 := in_isC k1
    simp only [inB, hasB, List.any_cons, List.any_nil, Bool.or_false, Bool.and_eq_true, decide_eq_true_eq] at k2
    by_cases he : r.1 = a
    · rw [he]; exact List.mem_cons_self
    · refine List.mem_cons_of_mem _ ?_
      simp only [inB, hasB, Bool.and_eq_true, List.any_eq_true, decide_eq_true_eq] at k1
      obtain ⟨_, q, hq, q1, q2⟩ := k1
      by_cases hq1 : q.1 = r.1
      · exact List.mem_map.2 ⟨q, hq, hq1⟩
      · exfalso
        have : hasB L (r.1 - 1) = true := by
          rw [hh]
          simp only [inB, hasB, Bool.and_eq_true, List.any_eq_true, decide_eq_true_eq, List.any_cons, List.any_nil, Bool.or_false]
          exact ⟨⟨by omega, q, hq, by omega, by omega⟩, by omega⟩
        rw [h2] at this; cases this
  have := len_sub (set_nodup h).1 hsub
  simpa using this

/-! ### counting -/
def cntP (P : Int → Bool) : Nat → Int
  | 0 => 0
  | n + 1 => cntP P n + if P n then 1 else 0
theorem cntP_congr {P Q : Int → Bool} : ∀ {n : Nat}, (∀ c : Int, 0 ≤ c → c < n → P c = Q c) → cntP P n = cntP Q n
  | 0, _ => rfl
  | n + 1, h => by rw [cntP, cntP, cntP_congr fun c h0 h1 => h c h0 (by omega), h n (by omega) (by omega)]
theorem cntP_or {P Q : Int → Bool} (h : ∀ c, ¬ (P c = true ∧ Q c = true)) : ∀ n : Nat, cntP (fun c => P c || Q c) n = cntP P n + cntP Q n
  | 0 => rfl
  | n + 1 => by
    rw [cntP, cntP, cntP, cntP_or h n]
    have := h n
    cases h1 : P n <;> cases h2 : Q n <;> simp_all <;> omega
theorem cntP_range {a b : Int} (h0 : 0 ≤ a) (hl : a ≤ b) : ∀ n : Nat, cntP (fun c => decide (a ≤ c) && decide (c ≤ b)) n = if (n : Int) ≤ a then 0 else if (n : Int) ≤ b then n - a else b - a + 1
  | 0 => by rw [if_pos (by simpa using h0)]; rfl
  | n + 1 => by
    rw [cntP, cntP_range h0 hl n, show ((n + 1 : Nat) : Int) = (n : Int) + 1 by omega, show (if (decide (a ≤ (n : Int)) && decide ((n : Int) ≤ b)) = true then (1 : Int) else 0) = if a ≤ (n : Int) ∧ (n : Int) ≤ b then 1 else 0 by simp]
    repeat' split
    all_goals omega
theorem cntP_none : ∀ n : Nat, cntP (fun _ => false) n = 0
  | 0 => rfl
  | n + 1 => by rw [cntP, cntP_none n]; rfl
theorem Rise.count : ∀ {C : List R} {m : Int} {n : Nat}, 0 ≤ m → Rise m C n → cntP (hasB C) n = cntL C
  | [], _, n, _, _ => cntP_none n
  | r :: t, m, n, h0, ⟨a, b, c⟩ => by
    have ih := Rise.count (C := t) (m := r.2 + 1) (n := n) (by omega) c
    have hle := c.le
    have e : hasB (r :: t) = fun x => (decide (r.1 ≤ x) && decide (x ≤ r.2)) || hasB t x := by funext x; exact hasB_cons r t x
    rw [e, cntP_or (fun x hx => ?_), cntP_range (by omega) b, ih, if_neg (by omega), if_neg (by omega)]
    · rfl
    · obtain ⟨h1, h2⟩ := hx
      have := c.bounds h2
      simp at h1; omega
theorem set_rise : ∀ {L : List R} {m : Int}, setFrom m L → m ≤ 1114112 → Rise m L 1114112
  | [], _, _, h => h
  | r :: t, _, ⟨a, b, c, d⟩, _ => ⟨a, b, set_rise (setFrom_mono (by omega) d) (by omega)⟩
/-- as many as there are code points in the set -/
theorem Parts.count {l C Z : List R} (h : Parts l C) (hz : setFrom 0 Z) (hZ : ∀ c, hasB Z c = (isC c && holdB 4 l [(55296, 57343)] c)) : cntL C = cntL Z := by
  have e1 := Rise.count (n := 1114112) (Int.le_refl _) h.rise
  have e2 := Rise.count (n := 1114112) (Int.le_refl _) (set_rise hz (by omega))
  rw [← e1, ← e2]
  refine cntP_congr fun c h0 h1 => ?_
  rw [h.has, hZ]
  show _ = (isC c && (inB l c && !inB [(55296, 57343)] c))
  cases hc : inB l c
  · simp
  · rw [Bool.eq_iff_iff]
    simp [isC, inB, hasB, scalar]; omega

/-! ### how many rows a text matches -/
def manyL (rows : List (List R)) (b : List UInt8) : Nat := (rows.filter fun r => matchB r b).length
def rowsL (C : List R) : List (List R) := C.map rowL
/-- is a text the bytes of a code point of a set -/
def isB (l : List R) (b : List UInt8) : Bool := (decide (0 ≤ (getL b).1) && decide (((getL b).2 : Int) = (b.length : Int))) && inB l (getL b).1
theorem isB_eq (l : List R) (b : List UInt8) : isB l b = match cOf b with | some c => inB l c && scalar c | none => false := by
  unfold isB
  cases hc : cOf b with
  | none =>
    unfold cOf at hc
    split at hc
    · cases hc
    · rename_i h
      have : (decide (0 ≤ (getL b).1) && decide (((getL b).2 : Int) = (b.length : Int))) = false := by simp; omega
      rw [this]; rfl
  | some c =>
    have hb := (cOf_iff b c).1 hc
    have hs := hb.scalar
    have h0 := (scalar_iff c).1 hs
    rw [getL_of hb]
    simp only [hs, Bool.and_true]
    rw [show decide (0 ≤ c) = true by simp; omega]
    simp
theorem Rise.many : ∀ {C : List R} {m M : Int} (b : List UInt8), Rise m C M → (∀ p ∈ C, Cell p) → manyL (rowsL C) b = match cOf b with | some c => (hasB C c).toNat | none => 0
  | [], _, _, b, _, _ => by cases cOf b <;> rfl
  | r :: t, m, M, b, ⟨h1, h2, h3⟩, hC => by
    have ih := Rise.many b h3 fun p hp => hC p (List.mem_cons_of_mem _ hp)
    have hm := (hC r List.mem_cons_self).matches' b
    unfold manyL rowsL at *
    rw [List.map_cons, List.filter_cons, hm]
    cases hc : cOf b with
    | none => rw [hc] at ih; simpa using ih
    | some c =>
      rw [hc] at ih
      simp only at ih ⊢
      rw [hasB_cons]
      by_cases hr : (decide (r.1 ≤ c) && decide (c ≤ r.2)) = true
      · rw [if_pos hr, hr, Bool.true_or, List.length_cons, ih]
        cases ht : hasB t c
        · rfl
        · have := h3.bounds ht
          simp at hr; omega
      · rw [if_neg hr, Bool.not_eq_true _ |>.mp hr, Bool.false_or]; exact ih
theorem Parts.many {l C : List R} (h : Parts l C) (b : List UInt8) : manyL (rowsL C) b = (isB l b).toNat := by
  rw [Rise.many b h.rise h.cells, isB_eq]
  cases cOf b with
  | none => rfl
  | some c => simp only [h.has]

/-! ### rows rise -/
theorem putL_lt {a b : Int} (ha : Cell (a, a)) (hb : Cell (b, b)) (hab : a < b) (hw : wid a = wid b) : putL a < putL b := by
  have e1 := wid_span ha.span (Int.le_refl a)
  have e2 := wid_span hb.span (Int.le_refl b)
  have key : ∀ {x y : List UInt8}, ints x < ints y → x < y := by
    intro x
    induction x with
    | nil =>
      intro y h
      cases y with
      | nil => simp [ints] at h
      | cons c u => simp
    | cons c u ih =>
      intro y h
      cases y with
      | nil => simp [ints] at h
      | cons d v =>
        simp only [ints, List.map_cons, List.cons_lt_cons_iff] at h ⊢
        rcases h with h | ⟨h, h2⟩
        · exact .inl (by rw [UInt8.lt_iff_toNat_lt]; omega)
        · exact .inr ⟨UInt8.toNat_inj.1 (by omega), ih h2⟩
  apply key
  simp only at e1 e2
  rcases e1 with ⟨w1, a0, a1⟩ | ⟨w1, a0, a1⟩ | ⟨w1, a0, a1, a2⟩ | ⟨w1, a0, a1⟩
  · rw [putZ (by rw [scalar_iff]; omega), putZ (by rw [scalar_iff]; omega), Lib.encodeRuneZ_one (by omega) (by omega), Lib.encodeRuneZ_one (by omega) (by omega)]
    simp only [List.cons_lt_cons_iff]; omega
  · rw [putZ (by rw [scalar_iff]; omega), putZ (by rw [scalar_iff]; omega), Lib.encodeRuneZ_two (by omega) (by omega), Lib.encodeRuneZ_two (by omega) (by omega)]
    simp only [List.cons_lt_cons_iff]; omega
  · rw [putZ (by rw [scalar_iff]; omega), putZ (by rw [scalar_iff]; omega), Lib.encodeRuneZ_three (by omega), Lib.encodeRuneZ_three (by omega)]
    simp only [List.cons_lt_cons_iff]; omega
  · rw [putZ (by rw [scalar_iff]; omega), putZ (by rw [scalar_iff]; omega), Lib.encodeRuneZ_four (by omega) (by omega), Lib.encodeRuneZ_four (by omega) (by omega)]
    simp only [List.cons_lt_cons_iff]; omega
theorem Cell.first {p : R} (h : Cell p) : Cell (p.1, p.1) := by
  obtain ⟨hs, hl, ho⟩ := h
  exact ⟨hs.sub (Int.le_refl _) hl, Int.le_refl _, by unfold One; simp⟩
theorem wid_mono {a b : Int} (h : a ≤ b) : wid a ≤ wid b := by by_cases h1 : a ≤ 127 <;> by_cases h2 : a ≤ 2047 <;> by_cases h3 : a ≤ 65535 <;> by_cases h4 : b ≤ 127 <;> by_cases h5 : b ≤ 2047 <;> by_cases h6 : b ≤ 65535 <;> simp [wid, h1, h2, h3, h4, h5, h6] <;> omega
theorem Rise.pairs : ∀ {C : List R} {m M : Int} {i : Nat}, Rise m C M → i + 1 < C.length → (Rg.nth C i).1 < (Rg.nth C (i + 1)).1
  | r :: q :: t, _, _, 0, ⟨_, h2, h3, _⟩, _ => by show r.1 < q.1; omega
  | r :: q :: t, m, M, i + 1, ⟨_, _, h3⟩, h => by
    have := Rise.pairs (C := q :: t) (i := i) h3 (by simpa using h)
    simpa [Rg.nth] using this

end Go.Proofs.YtoknfelheebidaaDoor.Bq

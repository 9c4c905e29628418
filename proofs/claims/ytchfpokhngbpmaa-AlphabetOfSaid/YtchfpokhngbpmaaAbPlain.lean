/- Classes of things that are alike in some way, in plain words: numbered in the order of their first ones. -/
namespace Go.Proofs.Ytchfpokhngbpmaa.Ab

/-- a test on two numbers that is 'the same in some way' -/
structure Eqv (e : Nat → Nat → Bool) : Prop where
  refl : ∀ a, e a a = true
  symm : ∀ a b, e a b = e b a
  trans : ∀ a b c, e a b = true → e b c = true → e a c = true

/-- no earlier number is like it -/
def fresh (e : Nat → Nat → Bool) (i : Nat) : Bool := (List.range i).all fun d => !e d i
/-- how many of the first ones are fresh -/
def cnt (e : Nat → Nat → Bool) : Nat → Nat
  | 0 => 0
  | i + 1 => cnt e i + (if fresh e i then 1 else 0)
/-- the first one that is like it -/
def root (e : Nat → Nat → Bool) (i : Nat) : Nat := ((List.range i).find? fun d => e d i).getD i
/-- the class -/
def cls (e : Nat → Nat → Bool) (i : Nat) : Nat := cnt e (root e i)
/-- the first n classes -/
def clsL (e : Nat → Nat → Bool) (n : Nat) : List Int := (List.range n).map fun i => (cls e i : Int)

section
variable {e : Nat → Nat → Bool}

theorem fresh_iff {i : Nat} : fresh e i = true ↔ ∀ d, d < i → e d i = false := by
  simp [fresh]
theorem fresh_not {i : Nat} (h : fresh e i = false) : ∃ d, d < i ∧ e d i = true := by
  simpa [fresh] using h
theorem cnt_succ (i : Nat) : cnt e (i + 1) = cnt e i + (if fresh e i then 1 else 0) := rfl
theorem cnt_mono {a b : Nat} (h : a ≤ b) : cnt e a ≤ cnt e b := by
  induction b with
  | zero => have : a = 0 := by omega
            subst this; exact Nat.le_refl _
  | succ b ih =>
    rcases Nat.lt_or_ge b a with h' | h'
    · have : a = b + 1 := by omega
      subst this; exact Nat.le_refl _
    · exact Nat.le_trans (ih h') (by rw [cnt_succ]; omega)
theorem cnt_le (n : Nat) : cnt e n ≤ n := by
  induction n with
  | zero => exact Nat.le_refl _
  | succ n ih => rw [cnt_succ]; split <;> omega
theorem cnt_lt {a b : Nat} (h : fresh e a = true) (hab : a < b) : cnt e a < cnt e b := by
  have h1 : cnt e (a + 1) ≤ cnt e b := cnt_mono hab
  rw [cnt_succ, if_pos h] at h1
  omega
theorem cnt_inj {a b : Nat} (ha : fresh e a = true) (hb : fresh e b = true) (h : cnt e a = cnt e b) : a = b := by
  rcases Nat.lt_trichotomy a b with h' | h' | h'
  · have := cnt_lt ha h'; omega
  · exact h'
  · have := cnt_lt hb h'; omega

theorem root_spec (E : Eqv e) (i : Nat) : root e i ≤ i ∧ e (root e i) i = true ∧ ∀ d, d < root e i → e d i = false := by
  unfold root
  cases h : (List.range i).find? fun d => e d i with
  | none =>
    simp only [Option.getD_none]
    refine ⟨Nat.le_refl _, E.refl i, fun d hd => ?_⟩
    have := List.find?_eq_none.1 h d (List.mem_range.2 hd)
    simpa using this
  | some r =>
    simp only [Option.getD_some]
    have hr : r < i := List.mem_range.1 (List.mem_of_find?_eq_some h)
    refine ⟨by omega, by simpa using List.find?_some h, fun d hd => ?_⟩
    have h2 := (List.find?_range_eq_some.1 h).2.2 d hd
    simpa using h2
theorem root_uniq (E : Eqv e) {i r : Nat} (_ : r ≤ i) (h2 : e r i = true) (h3 : ∀ d, d < r → e d i = false) : root e i = r := by
  obtain ⟨a, b, c⟩ := root_spec E i
  rcases Nat.lt_trichotomy (root e i) r with h' | h' | h'
  · rw [h3 _ h'] at b; cases b
  · exact h'
  · rw [c _ h'] at h2; cases h2
theorem root_fresh (E : Eqv e) (i : Nat) : fresh e (root e i) = true := by
  obtain ⟨a, b, c⟩ := root_spec E i
  refine fresh_iff.2 fun d hd => ?_
  cases h : e d (root e i)
  · rfl
  · have := E.trans _ _ _ h b
    rw [c d hd] at this; cases this
theorem root_same (E : Eqv e) {a b : Nat} (h : e a b = true) : root e a = root e b := by
  obtain ⟨a1, a2, a3⟩ := root_spec E a
  have hb : e (root e a) b = true := E.trans _ _ _ a2 h
  have hd : ∀ d, d < root e a → e d b = false := fun d hd => by
    cases h' : e d b
    · rfl
    · have := E.trans _ _ _ h' (by rw [E.symm]; exact h)
      rw [a3 d hd] at this; cases this
  refine (root_uniq E ?_ hb hd).symm
  rcases Nat.lt_or_ge b (root e a) with h' | h'
  · have := hd b h'
    rw [E.refl] at this; cases this
  · exact h'
theorem root_new (E : Eqv e) {i : Nat} (h : fresh e i = true) : root e i = i :=
  root_uniq E (Nat.le_refl _) (E.refl i) (fresh_iff.1 h)
theorem cls_old (E : Eqv e) {a b : Nat} (h : e a b = true) : cls e a = cls e b := by
  unfold cls; rw [root_same E h]
theorem cls_new (E : Eqv e) {i : Nat} (h : fresh e i = true) : cls e i = cnt e i := by
  unfold cls; rw [root_new E h]
theorem cls_inj (E : Eqv e) {a b : Nat} (h : cls e a = cls e b) : e a b = true := by
  have hr := cnt_inj (root_fresh E a) (root_fresh E b) h
  obtain ⟨_, a2, _⟩ := root_spec E a
  obtain ⟨_, b2, _⟩ := root_spec E b
  rw [hr] at a2
  exact E.trans _ _ _ (by rw [E.symm]; exact a2) b2
theorem cls_iff (E : Eqv e) (a b : Nat) : cls e a = cls e b ↔ e a b = true := ⟨cls_inj E, cls_old E⟩
theorem cls_lt (E : Eqv e) (i : Nat) : cls e i < cnt e (i + 1) :=
  cnt_lt (root_fresh E i) (by have := (root_spec E i).1; omega)
theorem cls_fresh (E : Eqv e) (i : Nat) : cls e i = cnt e i ↔ fresh e i = true := by
  refine ⟨fun h => ?_, cls_new E⟩
  obtain ⟨a1, a2, a3⟩ := root_spec E i
  rcases Nat.lt_or_ge (root e i) i with h' | h'
  · have := cnt_lt (root_fresh E i) h'
    unfold cls at h; omega
  · have hr : root e i = i := by omega
    have := root_fresh E i
    rwa [hr] at this

theorem fresh_congr {e' : Nat → Nat → Bool} {n : Nat} (h : ∀ a b, a < n → b < n → e a b = e' a b) {i : Nat} (hi : i < n) : fresh e i = fresh e' i := by
  rw [Bool.eq_iff_iff, fresh_iff, fresh_iff]
  exact ⟨fun g d hd => by rw [← h d i (by omega) hi]; exact g d hd, fun g d hd => by rw [h d i (by omega) hi]; exact g d hd⟩
theorem cnt_congr {e' : Nat → Nat → Bool} {n : Nat} (h : ∀ a b, a < n → b < n → e a b = e' a b) : ∀ i, i ≤ n → cnt e i = cnt e' i
  | 0, _ => rfl
  | i + 1, hi => by rw [cnt_succ, cnt_succ, cnt_congr h i (by omega), fresh_congr h (by omega)]
theorem cls_congr {e' : Nat → Nat → Bool} (E : Eqv e) (E' : Eqv e') {n : Nat} (h : ∀ a b, a < n → b < n → e a b = e' a b) {i : Nat} (hi : i < n) : cls e i = cls e' i := by
  obtain ⟨a1, a2, a3⟩ := root_spec E i
  have hr : root e' i = root e i := root_uniq E' a1 (by rw [← h _ _ (by omega) hi]; exact a2) fun d hd => by rw [← h _ _ (by omega) hi]; exact a3 d hd
  unfold cls
  rw [hr]
  exact cnt_congr h _ (by omega)
theorem clsL_len (n : Nat) : (clsL e n).length = n := by simp [clsL]
theorem clsL_succ (n : Nat) : clsL e (n + 1) = clsL e n ++ [(cls e n : Int)] := by simp [clsL, List.range_succ]
theorem clsL_at {n i : Nat} (h : i < n) : (clsL e n).getD i 0 = (cls e i : Int) := by simp [clsL, List.getD, h]
theorem clsL_congr {e' : Nat → Nat → Bool} (E : Eqv e) (E' : Eqv e') {n : Nat} (h : ∀ a b, a < n → b < n → e a b = e' a b) : clsL e n = clsL e' n := by
  unfold clsL
  refine List.map_congr_left fun i hi => ?_
  rw [cls_congr E E' h (List.mem_range.1 hi)]

/-- what has been found of a byte's class, when the first d bytes have been looked at -/
def soFar (e : Nat → Nat → Bool) (c d : Nat) : Int := if (List.range d).any fun x => e x c then (cls e c : Int) else (cnt e c : Int)
theorem soFar_zero (c : Nat) : soFar e c 0 = cnt e c := rfl
theorem soFar_hit (E : Eqv e) {c d : Nat} (h : e d c = true) : soFar e c (d + 1) = cls e d := by
  unfold soFar
  rw [if_pos (by simp [List.range_succ, h]), cls_old E h]
theorem soFar_miss {c d : Nat} (h : e d c = false) : soFar e c (d + 1) = soFar e c d := by
  unfold soFar
  simp [List.range_succ, h]
theorem soFar_all (E : Eqv e) (c : Nat) : soFar e c c = cls e c := by
  unfold soFar
  split
  · rfl
  · rename_i h
    have hf : fresh e c = true := by
      cases h' : fresh e c
      · obtain ⟨d, h1, h2⟩ := fresh_not h'
        exact absurd (List.any_eq_true.2 ⟨d, List.mem_range.2 h1, h2⟩) h
      · rfl
    rw [cls_new E hf]
theorem cnt_next (E : Eqv e) (c : Nat) : cnt e (c + 1) = if (cls e c : Int) = cnt e c then cnt e c + 1 else cnt e c := by
  rw [cnt_succ]
  by_cases h : fresh e c = true
  · rw [if_pos h, if_pos (by rw [cls_new E h])]
  · rw [if_neg h, if_neg fun g => h ((cls_fresh E c).1 (by omega))]
    rfl

/-- the fresh ones among the first n -/
def frs (e : Nat → Nat → Bool) (n : Nat) : List Int := ((List.range n).filter (fresh e)).map fun i : Nat => (i : Int)
theorem frs_succ (n : Nat) : frs e (n + 1) = if fresh e n then frs e n ++ [(n : Int)] else frs e n := by
  unfold frs
  rw [List.range_succ, List.filter_append, List.filter_cons]
  split <;> simp [*]
theorem frs_len (n : Nat) : (frs e n).length = cnt e n := by
  induction n with
  | zero => rfl
  | succ n ih =>
    rw [frs_succ, cnt_succ]
    split <;> simp [*]
theorem frs_at {a : Nat} (h : fresh e a = true) : ∀ {n : Nat}, a < n → (frs e n)[cnt e a]? = some (a : Int)
  | 0, hn => by omega
  | n + 1, hn => by
    rw [frs_succ]
    rcases Nat.lt_or_ge a n with h' | h'
    · have ih := frs_at h h'
      split
      · rw [List.getElem?_append_left (by rw [frs_len]; exact cnt_lt h h')]; exact ih
      · exact ih
    · have : a = n := by omega
      subst this
      rw [if_pos h, List.getElem?_append_right (by rw [frs_len]; exact Nat.le_refl _), frs_len, Nat.sub_self]
      rfl
/-- what is fresh, by its number -/
theorem frs_find {n k : Nat} (h : k < cnt e n) : ∃ a, a < n ∧ fresh e a = true ∧ cnt e a = k := by
  induction n with
  | zero => exact absurd h (by simp [cnt])
  | succ n ih =>
    rw [cnt_succ] at h
    by_cases hf : fresh e n = true
    · rw [if_pos hf] at h
      by_cases hk : k < cnt e n
      · obtain ⟨a, h1, h2⟩ := ih hk
        exact ⟨a, by omega, h2⟩
      · exact ⟨n, by omega, hf, by omega⟩
    · rw [if_neg hf] at h
      obtain ⟨a, h1, h2⟩ := ih (by omega)
      exact ⟨a, by omega, h2⟩

end

/-! Rows of numbers. -/
/-- a row's i-th number; one that is lacking is -1 -/
def num (l : List Int) (i : Nat) : Int := l.getD i (-1)
/-- two bytes have the same in both rows -/
def eJ (a b : List Int) (i j : Nat) : Bool := decide (num a i = num a j ∧ num b i = num b j)
theorem eqv_key {α : Type} [DecidableEq α] (f : Nat → α) (e : Nat → Nat → Bool) (h : ∀ i j, e i j = true ↔ f i = f j) : Eqv e :=
  ⟨fun a => (h a a).2 rfl, fun a b => by rw [Bool.eq_iff_iff, h, h]; exact ⟨Eq.symm, Eq.symm⟩, fun a b c h1 h2 => (h a c).2 (((h a b).1 h1).trans ((h b c).1 h2))⟩
def keyJ (a b : List Int) (i : Nat) : Int × Int := (num a i, num b i)
theorem eJ_iff {a b : List Int} {i j : Nat} : eJ a b i j = true ↔ keyJ a b i = keyJ a b j := by simp [eJ, keyJ]
theorem eqJ (a b : List Int) : Eqv (eJ a b) := eqv_key (keyJ a b) _ fun _ _ => eJ_iff
/-- are they classes -/
def rightB (c : List Int) : Bool := decide (c = clsL (eJ c []) 256)
/-- the classes' first bytes -/
def firstL (c : List Int) : List Int := if rightB c then frs (eJ c []) 256 else []
/-- the bytes of a class, among the first n -/
def bytesL (c : List Int) (k : Int) (n : Nat) : List Int := ((List.range n).filter fun i => decide (c.getD i 0 = k)).map fun i : Nat => (i : Int)
def bytesA (c : List Int) (k : Int) : List Int := bytesL c k (min c.length 256)
theorem bytesL_succ (c : List Int) (k : Int) (n : Nat) : bytesL c k (n + 1) = if c.getD n 0 = k then bytesL c k n ++ [(n : Int)] else bytesL c k n := by
  unfold bytesL
  rw [List.range_succ, List.filter_append, List.filter_cons]
  by_cases h : c.getD n 0 = k
  · rw [if_pos h, if_pos (decide_eq_true h)]; simp
  · rw [if_neg h, if_neg (by simpa using h)]; simp
theorem bytesL_len (c : List Int) (k : Int) (n : Nat) : (bytesL c k n).length ≤ n := by
  unfold bytesL
  rw [List.length_map]
  exact Nat.le_trans (List.length_filter_le _ _) (by simp)

theorem num_clsL (e : Nat → Nat → Bool) {n i : Nat} (h : i < n) : num (clsL e n) i = cls e i := by simp [num, clsL, List.getD, h]
theorem right_clsL {e : Nat → Nat → Bool} (E : Eqv e) : rightB (clsL e 256) = true := by
  unfold rightB
  refine decide_eq_true (clsL_congr E (eqJ _ _) fun a b ha hb => ?_)
  rw [Bool.eq_iff_iff, eJ_iff, keyJ, keyJ, num_clsL e ha, num_clsL e hb, ← cls_iff E]
  simp [num]
  omega
theorem joined {e f g : Nat → Nat → Bool} (E : Eqv e) (F : Eqv f) (G : Eqv g) (h : ∀ a b, a < 256 → b < 256 → g a b = (e a b && f a b)) : clsL (eJ (clsL e 256) (clsL f 256)) 256 = clsL g 256 ∧ cnt (eJ (clsL e 256) (clsL f 256)) 256 = cnt g 256 := by
  have hh : ∀ a b, a < 256 → b < 256 → eJ (clsL e 256) (clsL f 256) a b = g a b := fun a b ha hb => by
    rw [h a b ha hb, Bool.eq_iff_iff, eJ_iff, keyJ, keyJ, num_clsL e ha, num_clsL e hb, num_clsL f ha, num_clsL f hb, Bool.and_eq_true, ← cls_iff E, ← cls_iff F, Prod.mk.injEq]
    omega
  exact ⟨clsL_congr (eqJ _ _) G hh, cnt_congr hh 256 (Nat.le_refl _)⟩

theorem right_at {c : List Int} (h : rightB c = true) : c.length = 256 ∧ ∀ i, i < 256 → c.getD i 0 = (cls (eJ c []) i : Int) := by
  have h2 : c = clsL (eJ c []) 256 := of_decide_eq_true h
  refine ⟨by rw [h2, clsL_len], fun i hi => ?_⟩
  have h3 := clsL_at (e := eJ c []) hi
  rwa [← h2] at h3
/-- a class's first byte, where there is such a class -/
theorem class_head {c : List Int} (h : rightB c = true) {k : Nat} : (bytesA c k).head? = (frs (eJ c []) 256)[k]? := by
  obtain ⟨hl, hc⟩ := right_at h
  have hb : bytesA c k = ((List.range 256).filter fun i => decide (cls (eJ c []) i = k)).map fun i : Nat => (i : Int) := by
    unfold bytesA bytesL
    rw [hl]
    refine congrArg _ (List.filter_congr fun i hi => ?_)
    rw [hc i (List.mem_range.1 hi), Bool.eq_iff_iff]
    simp only [decide_eq_true_eq]
    omega
  rw [hb, List.head?_map, List.head?_filter]
  rcases Nat.lt_or_ge k (cnt (eJ c []) 256) with hk | hk
  · obtain ⟨a, ha, hf, rfl⟩ := frs_find hk
    rw [frs_at hf ha]
    have : (List.range 256).find? (fun i => decide (cls (eJ c []) i = cnt (eJ c []) a)) = some a := by
      refine List.find?_range_eq_some.2 ⟨by simp [cls_new (eqJ c []) hf], List.mem_range.2 ha, fun d hd => ?_⟩
      have : cls (eJ c []) d < cnt (eJ c []) a := Nat.lt_of_lt_of_le (cls_lt (eqJ c []) d) (cnt_mono (by omega))
      simp; omega
    rw [this]; rfl
  · rw [List.getElem?_eq_none (by rw [frs_len]; exact hk)]
    have : (List.range 256).find? (fun i => decide (cls (eJ c []) i = k)) = none := by
      refine List.find?_eq_none.2 fun d hd => ?_
      have h1 := cls_lt (eqJ c []) d
      have h2 := cnt_mono (e := eJ c []) (show d + 1 ≤ 256 by have := List.mem_range.1 hd; omega)
      simp; omega
    rw [this]; rfl

/-! Ranges. -/
abbrev R := Int × Int
def inR (r : R) (i : Nat) : Bool := decide (r.1 ≤ (i : Int)) && decide ((i : Int) ≤ r.2)
/-- does one of the ranges tell them apart -/
def apB (l : List R) (i j : Nat) : Bool := l.any fun r => inR r i != inR r j
/-- none of the ranges tells them apart -/
def eR (l : List R) (i j : Nat) : Bool := !apB l i j
theorem eR_iff {l : List R} {i j : Nat} : eR l i j = true ↔ l.map (fun r => inR r i) = l.map (fun r => inR r j) := by
  unfold eR apB
  induction l with
  | nil => simp
  | cons r l ih =>
    simp only [List.any_cons, Bool.not_or, Bool.and_eq_true, ih, List.map_cons, List.cons.injEq]
    cases inR r i <;> cases inR r j <;> simp
theorem eqR (l : List R) : Eqv (eR l) := eqv_key (fun i => l.map fun r => inR r i) _ fun _ _ => eR_iff
theorem eR_append (l k : List R) (i j : Nat) : eR (l ++ k) i j = (eR l i j && eR k i j) := by simp [eR, apB]
theorem eR_not {l : List R} {i j : Nat} : eR l i j = false ↔ ∃ r ∈ l, inR r i ≠ inR r j := by
  simp [eR, apB]

/-- the last beginning, and the first end, of the ranges that have a byte -/
def bg (l : List R) (i : Nat) : Int := l.foldl (fun m r => if inR r i then max m r.1 else m) (-1)
def en (l : List R) (i : Nat) : Int := l.foldl (fun m r => if inR r i then min m r.2 else m) 256
theorem foldl_max (i : Nat) : ∀ (l : List R) (m : Int), m ≤ l.foldl (fun m r => if inR r i then max m r.1 else m) m ∧ (∀ r ∈ l, inR r i = true → r.1 ≤ l.foldl (fun m r => if inR r i then max m r.1 else m) m) ∧ (m ≤ i → l.foldl (fun m r => if inR r i then max m r.1 else m) m ≤ i)
  | [], m => by simp
  | r :: l, m => by
    obtain ⟨h1, h2, h3⟩ := foldl_max i l (if inR r i then max m r.1 else m)
    rw [List.foldl_cons]
    refine ⟨Int.le_trans ?_ h1, fun s hs hi => ?_, fun hm => h3 ?_⟩
    · split <;> omega
    · rcases List.mem_cons.1 hs with rfl | hs
      · refine Int.le_trans ?_ h1
        rw [if_pos hi]; omega
      · exact h2 s hs hi
    · split
      · rename_i hr
        simp only [inR, Bool.and_eq_true, decide_eq_true_eq] at hr
        omega
      · exact hm
theorem foldl_min (i : Nat) : ∀ (l : List R) (m : Int), l.foldl (fun m r => if inR r i then min m r.2 else m) m ≤ m ∧ (∀ r ∈ l, inR r i = true → l.foldl (fun m r => if inR r i then min m r.2 else m) m ≤ r.2) ∧ (i ≤ m → i ≤ l.foldl (fun m r => if inR r i then min m r.2 else m) m)
  | [], m => by simp
  | r :: l, m => by
    obtain ⟨h1, h2, h3⟩ := foldl_min i l (if inR r i then min m r.2 else m)
    rw [List.foldl_cons]
    refine ⟨Int.le_trans h1 ?_, fun s hs hi => ?_, fun hm => h3 ?_⟩
    · split <;> omega
    · rcases List.mem_cons.1 hs with rfl | hs
      · refine Int.le_trans h1 ?_
        rw [if_pos hi]; omega
      · exact h2 s hs hi
    · split
      · rename_i hr
        simp only [inR, Bool.and_eq_true, decide_eq_true_eq] at hr
        omega
      · exact hm
theorem foldl_same {α β : Type} {f g : β → α → β} : ∀ (l : List α) (b : β), (∀ a ∈ l, ∀ b, f b a = g b a) → l.foldl f b = l.foldl g b
  | [], _, _ => rfl
  | a :: l, b, h => by
    rw [List.foldl_cons, List.foldl_cons, h a (by simp)]
    exact foldl_same l _ fun a ha => h a (by simp [ha])
theorem bg_in (l : List R) (i : Nat) : -1 ≤ bg l i ∧ bg l i ≤ i := by
  obtain ⟨h1, _, h2⟩ := foldl_max i l (-1)
  exact ⟨h1, h2 (by omega)⟩
theorem en_in (l : List R) {i : Nat} (h : i < 256) : (i : Int) ≤ en l i ∧ en l i ≤ 256 := by
  obtain ⟨h1, _, h2⟩ := foldl_min i l 256
  exact ⟨h2 (by omega), h1⟩
theorem marks_lt {l : List R} {i j : Nat} (hij : i < j) (hj : j < 256) (h1 : bg l i = bg l j) (h2 : en l i = en l j) (r : R) (hr : r ∈ l) : inR r i = inR r j := by
  obtain ⟨_, bi, bi2⟩ := foldl_max i l (-1)
  obtain ⟨_, bj, _⟩ := foldl_max j l (-1)
  obtain ⟨_, ei, _⟩ := foldl_min i l 256
  obtain ⟨_, ej, ej2⟩ := foldl_min j l 256
  unfold bg at h1
  unfold en at h2
  have b3 := bi2 (by omega)
  have e3 := ej2 (by omega)
  cases ha : inR r i <;> cases hb : inR r j
  · rfl
  · have h4 := bj r hr hb
    simp only [inR, Bool.and_eq_true, decide_eq_true_eq, Bool.and_eq_false_iff, decide_eq_false_iff_not] at ha hb
    omega
  · have h4 := ei r hr ha
    simp only [inR, Bool.and_eq_true, decide_eq_true_eq, Bool.and_eq_false_iff, decide_eq_false_iff_not] at ha hb
    omega
  · rfl
theorem marks {l : List R} {i j : Nat} (hi : i < 256) (hj : j < 256) : (bg l i = bg l j ∧ en l i = en l j) ↔ eR l i j = true := by
  constructor
  · rintro ⟨h1, h2⟩
    rw [eR_iff]
    refine List.map_congr_left fun r hr => ?_
    rcases Nat.lt_trichotomy i j with h | h | h
    · exact marks_lt h hj h1 h2 r hr
    · rw [h]
    · exact (marks_lt h hi h1.symm h2.symm r hr).symm
  · intro h
    rw [eR_iff] at h
    have hh : ∀ r ∈ l, inR r i = inR r j := fun r hr => List.map_inj_left.1 h r hr
    refine ⟨?_, ?_⟩
    · unfold bg
      exact foldl_same _ _ fun r hr m => by rw [hh r hr]
    · unfold en
      exact foldl_same _ _ fun r hr m => by rw [hh r hr]
/-- the marks on all bytes -/
def bgL (l : List R) : List Int := (List.range 256).map (bg l)
def enL (l : List R) : List Int := (List.range 256).map (en l)
theorem of_marks (l : List R) : clsL (eJ (bgL l) (enL l)) 256 = clsL (eR l) 256 ∧ cnt (eJ (bgL l) (enL l)) 256 = cnt (eR l) 256 := by
  have hh : ∀ a b, a < 256 → b < 256 → eJ (bgL l) (enL l) a b = eR l a b := fun a b ha hb => by
    have n1 : ∀ x, x < 256 → num (bgL l) x = bg l x := fun x hx => by simp [num, bgL, List.getD, hx]
    have n2 : ∀ x, x < 256 → num (enL l) x = en l x := fun x hx => by simp [num, enL, List.getD, hx]
    rw [Bool.eq_iff_iff, eJ_iff, keyJ, keyJ, n1 a ha, n1 b hb, n2 a ha, n2 b hb, Prod.mk.injEq, marks ha hb]
  exact ⟨clsL_congr (eqJ _ _) (eqR l) hh, cnt_congr hh 256 (Nat.le_refl _)⟩
/-- .. of two lists of ranges, joined -/
theorem of_joined (l k : List R) : clsL (eJ (clsL (eR l) 256) (clsL (eR k) 256)) 256 = clsL (eR (l ++ k)) 256 ∧ cnt (eJ (clsL (eR l) 256) (clsL (eR k) 256)) 256 = cnt (eR (l ++ k)) 256 :=
  joined (eqR l) (eqR k) (eqR (l ++ k)) fun a b _ _ => eR_append l k a b

end Go.Proofs.Ytchfpokhngbpmaa.Ab

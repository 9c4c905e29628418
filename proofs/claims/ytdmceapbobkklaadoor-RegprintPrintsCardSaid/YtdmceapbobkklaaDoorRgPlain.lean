/- Sets of numbers as ranges: plain words. -/
import Derived.Test.YtdmceapbobkklaaDoorRgHas
namespace Go.Proofs.YtdmceapbobkklaaDoor.Rg

theorem hasB_nil (c : Int) : hasB [] c = false := rfl
theorem hasB_cons (r : R) (t : List R) (c : Int) : hasB (r :: t) c = ((decide (r.1 ≤ c) && decide (c ≤ r.2)) || hasB t c) := rfl
theorem hasB_append (l k : List R) (c : Int) : hasB (l ++ k) c = (hasB l c || hasB k c) := by simp [hasB]
theorem hasB_one (r : R) (c : Int) : hasB [r] c = (decide (r.1 ≤ c) && decide (c ≤ r.2)) := by simp [hasB]
theorem hasB_perm {l k : List R} (h : l.Perm k) (c : Int) : hasB l c = hasB k c := by
  unfold hasB
  rw [Bool.eq_iff_iff]
  simp only [List.any_eq_true]
  exact ⟨fun ⟨x, hx, hp⟩ => ⟨x, h.mem_iff.1 hx, hp⟩, fun ⟨x, hx, hp⟩ => ⟨x, h.mem_iff.2 hx, hp⟩⟩

/-- rising from m on, apart, up to MaxRune -/
def setFrom : Int → List R → Prop
  | _, [] => True
  | m, r :: t => m ≤ r.1 ∧ r.1 ≤ r.2 ∧ r.2 ≤ 1114111 ∧ setFrom (r.2 + 2) t

theorem setFrom_mono {m m' : Int} : ∀ {l : List R}, m' ≤ m → setFrom m l → setFrom m' l
  | [], _, _ => trivial
  | _ :: _, h, ⟨a, b, c, d⟩ => ⟨by omega, b, c, d⟩
theorem hasB_bounds : ∀ {l : List R} {m c : Int}, setFrom m l → hasB l c = true → m ≤ c ∧ c ≤ 1114111
  | r :: t, m, c, ⟨h1, h2, h3, h4⟩, hb => by
    rw [hasB_cons] at hb
    rcases Bool.or_eq_true_iff.1 hb with h | h
    · simp at h; omega
    · have := hasB_bounds h4 h; omega
theorem hasB_below {l : List R} {m c : Int} (h : setFrom m l) (hc : c < m) : hasB l c = false := by
  cases hb : hasB l c
  · rfl
  · have := hasB_bounds h hb; omega
theorem inB_set {l : List R} (h : setFrom 0 l) (c : Int) : inB l c = hasB l c := by
  unfold inB
  cases hb : hasB l c
  · simp
  · have := hasB_bounds h hb; simp; omega

theorem uniq : ∀ {a b : List R} {m m' : Int}, setFrom m a → setFrom m' b → (∀ c, hasB a c = hasB b c) → a = b
  | [], [], _, _, _, _, _ => rfl
  | [], s :: u, m, m', _, ⟨h1, h2, h3, h4⟩, h => by
    have := h s.1
    rw [hasB_nil, hasB_cons] at this
    simp at this
    omega
  | r :: t, [], m, m', ⟨h1, h2, h3, h4⟩, _, h => by
    have := h r.1
    rw [hasB_nil, hasB_cons] at this
    simp at this
    omega
  | r :: t, s :: u, m, m', ⟨h1, h2, h3, h4⟩, ⟨k1, k2, k3, k4⟩, h => by
    have e1 : s.1 ≤ r.1 := by
      have := h r.1
      have hs : hasB (r :: t) r.1 = true := by rw [hasB_cons]; simp; omega
      rw [hs] at this
      have := hasB_bounds (m := s.1) (l := s :: u) ⟨Int.le_refl _, k2, k3, k4⟩ this.symm
      omega
    have e2 : r.1 ≤ s.1 := by
      have := h s.1
      have hs : hasB (s :: u) s.1 = true := by rw [hasB_cons]; simp; omega
      rw [hs] at this
      have := hasB_bounds (m := r.1) (l := r :: t) ⟨Int.le_refl _, h2, h3, h4⟩ this
      omega
    have hlow : ∀ {x : List R} {n c : Int}, setFrom (n + 2) x → c ≤ n + 1 → hasB x c = false := fun hx hc => hasB_below hx (by omega)
    have e3 : r.2 ≤ s.2 := by
      have := h (s.2 + 1)
      rw [hasB_cons, hasB_cons, hlow k4 (Int.le_refl _)] at this
      grind
    have e4 : s.2 ≤ r.2 := by
      have := h (r.2 + 1)
      rw [hasB_cons, hasB_cons, hlow h4 (Int.le_refl _)] at this
      grind
    have e : r = s := Prod.ext (by omega) (by omega)
    subst e
    rw [uniq h4 k4 fun c => ?_]
    have := h c
    rw [hasB_cons, hasB_cons] at this
    rcases Int.lt_or_le r.2 c with hc | hc
    · have hd : decide (c ≤ r.2) = false := by simp; omega
      rw [hd] at this
      simpa using this
    · rw [hlow h4 (by omega), hlow k4 (by omega)]

theorem set_snoc : ∀ {l : List R} {m : Int} {x : R}, setFrom m l → (∀ r ∈ l, r.2 + 2 ≤ x.1) → m ≤ x.1 → x.1 ≤ x.2 → x.2 ≤ 1114111 → setFrom m (l ++ [x])
  | [], _, _, _, _, h1, h2, h3 => ⟨h1, h2, h3, trivial⟩
  | r :: _, _, _, ⟨a, b, c, d⟩, hx, _, h2, h3 => ⟨a, b, c, set_snoc d (fun q hq => hx q (List.mem_cons_of_mem _ hq)) (hx r List.mem_cons_self) h2 h3⟩
theorem set_parts : ∀ {l : List R} {m : Int} {x : R}, setFrom m (l ++ [x]) → setFrom m l ∧ (∀ r ∈ l, r.2 + 2 ≤ x.1) ∧ m ≤ x.1 ∧ x.1 ≤ x.2 ∧ x.2 ≤ 1114111
  | [], m, x, ⟨a, b, c, _⟩ => ⟨trivial, (by simp), a, b, c⟩
  | r :: t, m, x, ⟨a, b, c, d⟩ => by
    obtain ⟨h1, h2, h3, h4, h5⟩ := set_parts d
    refine ⟨⟨a, b, c, h1⟩, fun q hq => ?_, by omega, h4, h5⟩
    rcases List.mem_cons.1 hq with rfl | hq
    · exact h3
    · exact h2 q hq
theorem set_last {l : List R} {m a b b' : Int} (h : setFrom m (l ++ [(a, b)])) (h1 : a ≤ b') (h2 : b' ≤ 1114111) : setFrom m (l ++ [(a, b')]) := by
  obtain ⟨p1, p2, p3, p4, p5⟩ := set_parts h
  exact set_snoc p1 p2 p3 h1 h2
theorem set_all {l : List R} {m : Int} : setFrom m l → ∀ r ∈ l, m ≤ r.1 ∧ r.1 ≤ r.2 ∧ r.2 ≤ 1114111 := by
  induction l generalizing m with
  | nil => intro _ r hr; simp at hr
  | cons q t ih =>
    rintro ⟨a, b, c, d⟩ r hr
    rcases List.mem_cons.1 hr with rfl | hr
    · exact ⟨a, b, c⟩
    · have := ih d r hr; omega

/-- how many numbers -/
def cntL : List R → Int
  | [] => 0
  | r :: t => r.2 - r.1 + 1 + cntL t
theorem cnt_bounds : ∀ {l : List R} {m : Int}, setFrom m l → m ≤ 1114112 → 0 ≤ cntL l ∧ cntL l ≤ 1114112 - m
  | [], m, _, h => by simp [cntL]; omega
  | [r], m, ⟨a, b, c, _⟩, h => by simp [cntL]; omega
  | r :: s :: t, m, ⟨a, b, c, d⟩, h => by
    have hd := d.1
    have hd2 := d.2.1
    have hd3 := d.2.2.1
    have := cnt_bounds d (by omega)
    rw [cntL]; omega
theorem cnt_drop {l : List R} {k : Nat} (h : k < l.length) : cntL (l.drop k) = (nth l k).2 - (nth l k).1 + 1 + cntL (l.drop (k + 1)) := by
  rw [List.drop_eq_getElem_cons h, nth_eq h]; rfl
theorem set_drop : ∀ {l : List R} {m : Int} (k : Nat), setFrom m l → setFrom m (l.drop k)
  | [], m, k, _ => by simp [setFrom]
  | r :: t, m, 0, h => h
  | r :: t, m, k + 1, ⟨a, b, c, d⟩ => by
    rw [List.drop_succ_cons]
    exact setFrom_mono (by omega) (set_drop k d)

theorem comp : ∀ (n : Nat) (A N : List R) (m : Int), A.length + N.length ≤ n → m ≤ 1114112 → setFrom m A → setFrom m N → (∀ c, m ≤ c → c ≤ 1114111 → hasB N c = !hasB A c) → cntL A + cntL N = 1114112 - m := by
  intro n
  induction n with
  | zero =>
    intro A N m hl hm hA hN h
    obtain rfl : A = [] := List.eq_nil_of_length_eq_zero (by omega)
    obtain rfl : N = [] := List.eq_nil_of_length_eq_zero (by omega)
    rcases Int.lt_or_le m 1114112 with hlt | hge
    · have := h m (Int.le_refl _) (by omega)
      simp [hasB_nil] at this
    · simp [cntL]; omega
  | succ n ih =>
    intro A N m hl hm hA hN h
    rcases Int.lt_or_le m 1114112 with hlt | hge
    · have hm0 := h m (Int.le_refl _) (by omega)
      cases hb : hasB A m
      · rw [hb] at hm0
        cases N with
        | nil => simp [hasB_nil] at hm0
        | cons s u =>
          obtain ⟨h1, h2, h3, h4⟩ := hN
          have hs : s.1 = m := by
            have := hasB_bounds (m := s.1) (l := s :: u) ⟨Int.le_refl _, h2, h3, h4⟩ (by simpa using hm0)
            omega
          have hA' : setFrom (s.2 + 1) A := by
            cases A with
            | nil => trivial
            | cons r t =>
              obtain ⟨g1, g2, g3, g4⟩ := hA
              refine ⟨?_, g2, g3, g4⟩
              rcases Int.lt_or_le s.2 r.1 with hx | hx
              · omega
              · have := h r.1 (by omega) (by omega)
                rw [hasB_cons, hasB_cons] at this
                grind
          have := ih A u (s.2 + 1) (by simp at hl; omega) (by omega) hA' (setFrom_mono (by omega) h4) (fun c hc1 hc2 => by
            have := h c (by omega) hc2
            rw [hasB_cons, show decide (c ≤ s.2) = false by simp; omega] at this
            simpa using this)
          rw [cntL]; omega
      · cases A with
        | nil => simp [hasB_nil] at hb
        | cons r t =>
          obtain ⟨h1, h2, h3, h4⟩ := hA
          have hs : r.1 = m := by
            have := hasB_bounds (m := r.1) (l := r :: t) ⟨Int.le_refl _, h2, h3, h4⟩ hb
            omega
          have hN' : setFrom (r.2 + 1) N := by
            cases N with
            | nil => trivial
            | cons s u =>
              obtain ⟨g1, g2, g3, g4⟩ := hN
              refine ⟨?_, g2, g3, g4⟩
              rcases Int.lt_or_le r.2 s.1 with hx | hx
              · omega
              · have := h s.1 (by omega) (by omega)
                rw [hasB_cons, hasB_cons] at this
                grind
          have := ih t N (r.2 + 1) (by simp at hl; omega) (by omega) (setFrom_mono (by omega) h4) hN' (fun c hc1 hc2 => by
            have := h c (by omega) hc2
            rw [this, hasB_cons, show decide (c ≤ r.2) = false by simp; omega]
            simp)
          rw [cntL]; omega
    · have e1 : A = [] := by
        cases A with
        | nil => rfl
        | cons r t => obtain ⟨h1, h2, h3, h4⟩ := hA; omega
      have e2 : N = [] := by
        cases N with
        | nil => rfl
        | cons r t => obtain ⟨h1, h2, h3, h4⟩ := hN; omega
      subst e1; subst e2
      simp [cntL]; omega

/-- a list from its end -/
theorem snoc_cases {α : Type} (l : List α) : l = [] ∨ ∃ c x, l = c ++ [x] := by
  rcases List.eq_nil_or_concat l with h | ⟨c, x, h⟩
  · exact .inl h
  · exact .inr ⟨c, x, by simpa using h⟩
theorem nth_last (c : List R) (x : R) : nth (c ++ [x]) c.length = x := by simp [nth, List.getD]

/-! ### exchange -/
def swapL (l : List R) (i j : Nat) : List R := (l.set i (nth l j)).set j (nth l i)
theorem swapL_len (l : List R) (i j : Nat) : (swapL l i j).length = l.length := by simp [swapL]
theorem swapL_perm {l : List R} {i j : Nat} (hi : i < l.length) (hj : j < l.length) : (swapL l i j).Perm l := by
  unfold swapL
  rw [nth_eq hi, nth_eq hj]
  exact List.set_set_perm hi hj
theorem swapL_nth {l : List R} {i j : Nat} (k : Nat) (hk : k < l.length) : nth (swapL l i j) k = if k = i then nth l j else if k = j then nth l i else nth l k := by
  unfold swapL
  have hk2 : k < ((l.set i (nth l j)).set j (nth l i)).length := by simpa using hk
  rw [nth_eq hk2, List.getElem_set, List.getElem_set]
  by_cases h1 : j = k
  · subst h1
    by_cases h2 : j = i
    · subst h2; simp
    · simp [h2]
  · by_cases h2 : i = k
    · subst h2; simp [h1]
    · simp [h1, h2, Ne.symm h1, Ne.symm h2, nth_eq hk]

/-! ### heaps, by their keys -/
def Heap (f : Nat → Int) (n : Nat) : Prop := ∀ i, 0 < i → i < n → f ((i - 1) / 2) ≤ f i
def HeapUp (f : Nat → Int) (n j : Nat) : Prop := (∀ i, 0 < i → i < n → i ≠ j → f ((i - 1) / 2) ≤ f i) ∧ (∀ i, 0 < i → i < n → (i - 1) / 2 = j → 0 < j → f ((j - 1) / 2) ≤ f i)
def HeapDn (f : Nat → Int) (n j : Nat) : Prop := (∀ i, 0 < i → i < n → (i - 1) / 2 ≠ j → f ((i - 1) / 2) ≤ f i) ∧ (∀ i, 0 < i → i < n → (i - 1) / 2 = j → 0 < j → f ((j - 1) / 2) ≤ f i)
def swF (f : Nat → Int) (i j k : Nat) : Int := if k = i then f j else if k = j then f i else f k

theorem Heap.root {f : Nat → Int} {n : Nat} (h : Heap f n) : ∀ i, i < n → f 0 ≤ f i := by
  intro i
  induction i using Nat.strongRecOn with
  | ind i ih =>
    intro hi
    by_cases h0 : i = 0
    · subst h0; exact Int.le_refl _
    · exact Int.le_trans (ih ((i - 1) / 2) (by omega) (by omega)) (h i (by omega) hi)
theorem Heap.congr {f g : Nat → Int} {n : Nat} (h : Heap f n) (he : ∀ i, i < n → g i = f i) : Heap g n := fun i h0 hi => by
  rw [he _ hi, he _ (by omega)]; exact h i h0 hi
theorem HeapUp.congr {f g : Nat → Int} {n j : Nat} (h : HeapUp f n j) (he : ∀ i, i < n → g i = f i) : HeapUp g n j :=
  ⟨fun i h0 hi hj => by rw [he _ hi, he _ (by omega)]; exact h.1 i h0 hi hj, fun i h0 hi hj h1 => by rw [he _ hi, he _ (by omega)]; exact h.2 i h0 hi hj h1⟩
theorem HeapDn.congr {f g : Nat → Int} {n j : Nat} (h : HeapDn f n j) (he : ∀ i, i < n → g i = f i) : HeapDn g n j :=
  ⟨fun i h0 hi hj => by rw [he _ hi, he _ (by omega)]; exact h.1 i h0 hi hj, fun i h0 hi hj h1 => by rw [he _ hi, he _ (by omega)]; exact h.2 i h0 hi hj h1⟩

theorem HeapUp.done0 {f : Nat → Int} {n : Nat} (h : HeapUp f n 0) : Heap f n := fun i h0 hi => h.1 i h0 hi (by omega)
theorem HeapUp.done {f : Nat → Int} {n j : Nat} (h : HeapUp f n j) (hk : f ((j - 1) / 2) ≤ f j) : Heap f n := fun i h0 hi => by
  by_cases hij : i = j
  · subst hij; exact hk
  · exact h.1 i h0 hi hij
theorem HeapUp.step {f : Nat → Int} {n j : Nat} (h : HeapUp f n j) (h0 : 0 < j) (hj : j < n) (hlt : f j < f ((j - 1) / 2)) : HeapUp (swF f ((j - 1) / 2) j) n ((j - 1) / 2) := by
  have hne : (j - 1) / 2 ≠ j := by omega
  generalize hp : (j - 1) / 2 = p at *
  refine ⟨fun i hi0 hi hip => ?_, fun i hi0 hi hip hp0 => ?_⟩
  · unfold swF
    by_cases h1 : i = j
    · subst h1
      rw [hp]; simp [Ne.symm hne]; omega
    · have hi1 := h.1 i hi0 hi h1
      by_cases h2 : (i - 1) / 2 = p
      · rw [h2] at hi1 ⊢
        simp [h1, hip]; omega
      · by_cases h3 : (i - 1) / 2 = j
        · rw [h3] at hi1 ⊢
          have := h.2 i hi0 hi h3 h0
          rw [hp] at this
          simp [Ne.symm hne, h1, hip]; omega
        · simp [h1, h2, h3, hip]; omega
  · have hpp : (p - 1) / 2 ≠ p := by omega
    have hpj : (p - 1) / 2 ≠ j := by omega
    have hpar := h.1 p hp0 (by omega) hne
    unfold swF
    by_cases h1 : i = j
    · subst h1
      simp [hpp, hpj, Ne.symm hne]; omega
    · have h2 : i ≠ p := by omega
      have hi1 := h.1 i hi0 hi h1
      rw [hip] at hi1
      simp [hpp, hpj, h1, h2]; omega

theorem HeapDn.done {f : Nat → Int} {n j : Nat} (h : HeapDn f n j) (hk : ∀ i, 0 < i → i < n → (i - 1) / 2 = j → f j ≤ f i) : Heap f n := fun i h0 hi => by
  by_cases hij : (i - 1) / 2 = j
  · rw [hij]; exact hk i h0 hi hij
  · exact h.1 i h0 hi hij
theorem HeapDn.step {f : Nat → Int} {n j c : Nat} (h : HeapDn f n j) (hc : (c - 1) / 2 = j) (hc0 : 0 < c) (hcn : c < n) (hlt : f c < f j) (hmin : ∀ i, 0 < i → i < n → (i - 1) / 2 = j → f c ≤ f i) : HeapDn (swF f j c) n c := by
  have hcj : c ≠ j := by omega
  refine ⟨fun i hi0 hi hip => ?_, fun i hi0 hi hip hp0 => ?_⟩
  · unfold swF
    by_cases h1 : (i - 1) / 2 = j
    · have := hmin i hi0 hi h1
      rw [h1]
      have hij : i ≠ j := by omega
      by_cases h2 : i = c
      · subst h2; simp [hij]; omega
      · simp [hij, h2]; omega
    · have hi1 := h.1 i hi0 hi h1
      by_cases h2 : i = j
      · subst h2
        have := h.2 c hc0 hcn hc hi0
        simp [h1, hip]; omega
      · by_cases h3 : i = c
        · subst h3; exact absurd hc h1
        · simp [h1, hip, h2, h3]; omega
  · have hij : i ≠ j := by omega
    have hic : i ≠ c := by omega
    have hi1 := h.1 i hi0 hi (by omega)
    rw [hip] at hi1
    unfold swF
    rw [hc]
    simp [hij, hic]
    omega
theorem Heap.popped {f : Nat → Int} {n : Nat} (h : Heap f (n + 1)) : HeapDn (swF f 0 n) n 0 := by
  refine ⟨fun i hi0 hi hip => ?_, fun i hi0 hi hip hp0 => by omega⟩
  have := h i hi0 (by omega)
  unfold swF
  rw [if_neg (by omega), if_neg (by omega), if_neg (by omega), if_neg (by omega)]
  exact this
theorem Heap.pushed {f : Nat → Int} {n : Nat} (h : Heap f n) : HeapUp f (n + 1) n := by
  refine ⟨fun i hi0 hi hip => h i hi0 (by omega), fun i hi0 hi hip hp0 => by omega⟩

end Go.Proofs.YtdmceapbobkklaaDoor.Rg

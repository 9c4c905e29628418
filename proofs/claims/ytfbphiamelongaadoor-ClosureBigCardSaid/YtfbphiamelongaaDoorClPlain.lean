/- Automata in plain words: which may be; where one comes from some states; what a row of states that wait comes to. -/
import Derived.Test.YtfbphiamelongaaDoorInts
namespace Go.Proofs.YtfbphiamelongaaDoor.Cl

structure St where
  lo : Int
  hi : Int
  to : Int
  eps : List Int
  tag : Int
instance : Inhabited St := ⟨⟨0, 0, 0, [], 0⟩⟩
/-- the i-th state -/
def st (l : List St) (i : Nat) : St := l.getD i default
theorem st_eq {l : List St} {i : Nat} (h : i < l.length) : st l i = l[i] := by simp [st, List.getD, h]

/-- is a number a state's, of so many -/
def hasB (n : Nat) (i : Int) : Bool := decide (0 ≤ i) && decide (i < n)
theorem hasB_iff {n : Nat} {i : Int} : hasB n i = true ↔ 0 ≤ i ∧ i < n := by simp [hasB]
/-- may a state go on so -/
def goesB (n : Nat) (s : St) : Bool := if s.lo = -1 then decide (s.hi = -1) && decide (s.to = -1) else decide (0 ≤ s.lo) && decide (s.lo ≤ s.hi) && decide (s.hi ≤ 255) && hasB n s.to
/-- may a state be, of so many -/
def stB (n : Nat) (s : St) : Bool := !decide (s.tag < -1) && goesB n s && s.eps.all (hasB n)
/-- may an automaton be -/
def rightB (a : Int) (l : List St) : Bool := l.all (stB l.length) && hasB l.length a

structure OkS (n : Nat) (s : St) : Prop where
  eps : ∀ x ∈ s.eps, 0 ≤ x ∧ x < n
  tag : -1 ≤ s.tag
  goes : (s.lo = -1 ∧ s.hi = -1 ∧ s.to = -1) ∨ (0 ≤ s.lo ∧ s.lo ≤ s.hi ∧ s.hi ≤ 255 ∧ 0 ≤ s.to ∧ s.to < n)
theorem stB_iff {n : Nat} {s : St} : stB n s = true ↔ OkS n s := by
  unfold stB goesB
  constructor
  · intro h
    simp only [Bool.and_eq_true, List.all_eq_true, hasB_iff, Bool.not_eq_true', decide_eq_false_iff_not] at h
    obtain ⟨⟨h1, h2⟩, h3⟩ := h
    refine ⟨h3, by omega, ?_⟩
    split at h2
    · simp at h2; omega
    · simp [hasB_iff] at h2; omega
  · rintro ⟨h1, h2, h3⟩
    simp only [Bool.and_eq_true, List.all_eq_true, hasB_iff, Bool.not_eq_true', decide_eq_false_iff_not]
    refine ⟨⟨by omega, ?_⟩, h1⟩
    split
    · simp; omega
    · simp [hasB_iff]; omega
theorem right_iff {a : Int} {l : List St} : rightB a l = true ↔ (0 ≤ a ∧ a < l.length) ∧ ∀ i, i < l.length → OkS l.length (st l i) := by
  unfold rightB
  simp only [Bool.and_eq_true, List.all_eq_true, hasB_iff, stB_iff]
  constructor
  · rintro ⟨h1, h2⟩
    refine ⟨h2, fun i hi => h1 _ ?_⟩
    rw [st_eq hi]; exact List.getElem_mem hi
  · rintro ⟨h1, h2⟩
    refine ⟨fun x hx => ?_, h1⟩
    obtain ⟨i, hi, rfl⟩ := List.getElem_of_mem hx
    rw [← st_eq hi]; exact h2 i hi

/-- where one comes from some states, by what f tells of each -/
def Re (f : St → List Int) (l : List St) (S : Nat → Prop) (i : Nat) : Prop :=
  ∀ C : Nat → Prop, (∀ j, S j → j < l.length → C j) → (∀ j k : Nat, C j → (k : Int) ∈ f (st l j) → k < l.length → C k) → C i
theorem Re.base {f : St → List Int} {l : List St} {S : Nat → Prop} {i : Nat} (h : S i) (hi : i < l.length) : Re f l S i := fun _ h1 _ => h1 i h hi
theorem Re.step {f : St → List Int} {l : List St} {S : Nat → Prop} {i j : Nat} (h : Re f l S j) (hf : (i : Int) ∈ f (st l j)) (hi : i < l.length) : Re f l S i := fun C h1 h2 => h2 j i (h C h1 h2) hf hi
theorem Re.lt {f : St → List Int} {l : List St} {S : Nat → Prop} {i : Nat} (h : Re f l S i) : i < l.length := h (· < l.length) (fun _ _ h => h) (fun _ _ _ _ h => h)
theorem Re.mono {f g : St → List Int} {l : List St} {S T : Nat → Prop} {i : Nat} (h : Re f l S i) (hS : ∀ j, j < l.length → S j → Re g l T j) (hf : ∀ s, ∀ x ∈ f s, x ∈ g s) : Re g l T i :=
  h _ (fun j hj hl => hS j hl hj) (fun _ _ hj hk hl => Re.step hj (hf _ _ hk) hl)
theorem Re.congr {f : St → List Int} {l : List St} {S T : Nat → Prop} {i : Nat} (h : ∀ j, j < l.length → (S j ↔ T j)) : Re f l S i ↔ Re f l T i :=
  ⟨fun k => k.mono (fun j hj hs => Re.base ((h j hj).1 hs) hj) (fun _ _ hx => hx), fun k => k.mono (fun j hj hs => Re.base ((h j hj).2 hs) hj) (fun _ _ hx => hx)⟩
theorem Re.idem {f : St → List Int} {l : List St} {S : Nat → Prop} {i : Nat} : Re f l (Re f l S) i ↔ Re f l S i :=
  ⟨fun k => k.mono (fun _ _ hs => hs) (fun _ _ hx => hx), fun k => Re.base k k.lt⟩
/-- by nothing -/
def nilF (s : St) : List Int := s.eps
/-- by nothing, or by any byte -/
def allF (s : St) : List Int := s.eps ++ [s.to]

/-- many unlike numbers below n are no more than n -/
theorem nodup_le : ∀ (n : Nat) (q : List Int), q.Nodup → (∀ x ∈ q, 0 ≤ x ∧ x < n) → q.length ≤ n
  | 0, q, _, h => by
    cases q with
    | nil => simp
    | cons a t => have := h a (List.mem_cons_self ..); omega
  | n + 1, q, hd, h => by
    have hd' := hd.erase (n : Int)
    have := nodup_le n (q.erase (n : Int)) hd' (fun x hx => by
      have := (hd.mem_erase_iff).1 hx
      have := h x this.2
      omega)
    rw [List.length_erase] at this
    split at this <;> omega

/-- a number is met: those that were met, and those that wait -/
def meetQ (n : Nat) (x : Int) (q : List Int × List Int) : List Int × List Int := if hasB n x = true ∧ x ∉ q.1 then (q.1 ++ [x], q.2 ++ [x]) else q
def meets (n : Nat) (xs : List Int) (q : List Int × List Int) : List Int × List Int := xs.foldl (fun q x => meetQ n x q) q
theorem meets_nil (n : Nat) (q : List Int × List Int) : meets n [] q = q := rfl
theorem meets_cons (n : Nat) (x : Int) (xs : List Int) (q : List Int × List Int) : meets n (x :: xs) q = meets n xs (meetQ n x q) := rfl
theorem meets_snoc (n : Nat) (x : Int) (xs : List Int) (q : List Int × List Int) : meets n (xs ++ [x]) q = meetQ n x (meets n xs q) := by simp [meets]
theorem meets_app (n : Nat) (xs ys : List Int) (q : List Int × List Int) : meets n (xs ++ ys) q = meets n ys (meets n xs q) := by simp [meets]
theorem meets_take {n : Nat} {xs : List Int} {q : List Int × List Int} {k : Nat} (h : k < xs.length) : meets n (xs.take (k + 1)) q = meetQ n (xs.getD k 0) (meets n (xs.take k) q) := by
  have e : xs.getD k 0 = xs[k] := by simp [List.getD, h]
  rw [List.take_succ_eq_append_getElem h, meets_snoc, e]
theorem meets_spec (n : Nat) : ∀ (xs Q r : List Int), ∃ new, meets n xs (Q, r) = (Q ++ new, r ++ new) ∧ new.Nodup ∧ (∀ x ∈ new, x ∉ Q ∧ x ∈ xs ∧ 0 ≤ x ∧ x < n) ∧ ∀ y ∈ xs, 0 ≤ y → y < n → y ∈ Q ++ new
  | [], Q, r => ⟨[], by simp [meets_nil], List.nodup_nil, by simp, by simp⟩
  | x :: xs, Q, r => by
    rw [meets_cons]
    by_cases h : hasB n x = true ∧ x ∉ Q
    · rw [show meetQ n x (Q, r) = (Q ++ [x], r ++ [x]) by simp only [meetQ]; exact if_pos h]
      obtain ⟨new, h1, h2, h3, h4⟩ := meets_spec n xs (Q ++ [x]) (r ++ [x])
      have hx := hasB_iff.1 h.1
      refine ⟨x :: new, by rw [h1]; simp, ?_, ?_, ?_⟩
      · rw [List.nodup_cons]
        exact ⟨fun hm => (h3 x hm).1 (by simp), h2⟩
      · intro y hy
        rcases List.mem_cons.1 hy with rfl | hy
        · exact ⟨h.2, List.mem_cons_self .., hx⟩
        · obtain ⟨k1, k2, k3⟩ := h3 y hy
          exact ⟨fun hq => k1 (by simp [hq]), List.mem_cons_of_mem _ k2, k3⟩
      · intro y hy hy0 hyn
        rcases List.mem_cons.1 hy with rfl | hy
        · simp
        · have := h4 y hy hy0 hyn
          simp only [List.mem_append, List.mem_cons, List.not_mem_nil, or_false] at this ⊢
          rcases this with (h | h) | h
          · exact Or.inl h
          · exact Or.inr (Or.inl h)
          · exact Or.inr (Or.inr h)
    · rw [show meetQ n x (Q, r) = (Q, r) by simp only [meetQ]; exact if_neg h]
      obtain ⟨new, h1, h2, h3, h4⟩ := meets_spec n xs Q r
      refine ⟨new, h1, h2, fun y hy => ⟨(h3 y hy).1, List.mem_cons_of_mem _ (h3 y hy).2.1, (h3 y hy).2.2⟩, ?_⟩
      intro y hy hy0 hyn
      rcases List.mem_cons.1 hy with rfl | hy
      · rw [hasB_iff] at h
        have : y ∈ Q := Decidable.byContradiction fun hn => h ⟨⟨hy0, hyn⟩, hn⟩
        simp [this]
      · exact h4 y hy hy0 hyn

/-- what may be said of the numbers that were met, and of those that wait -/
structure QOk (n : Nat) (Q r : List Int) : Prop where
  nodup : Q.Nodup
  bound : ∀ x ∈ Q, 0 ≤ x ∧ x < n
  row : r.Nodup
  sub : ∀ x ∈ r, x ∈ Q
theorem QOk.len {n : Nat} {Q r : List Int} (h : QOk n Q r) : Q.length ≤ n := nodup_le n Q h.nodup h.bound
theorem QOk.rlen {n : Nat} {Q r : List Int} (h : QOk n Q r) : r.length ≤ n := nodup_le n r h.row (fun x hx => h.bound x (h.sub x hx))
theorem QOk.nil (n : Nat) : QOk n [] [] := ⟨List.nodup_nil, by simp, List.nodup_nil, by simp⟩
theorem QOk.meets {n : Nat} {Q r : List Int} (h : QOk n Q r) (xs : List Int) : QOk n (meets n xs (Q, r)).1 (meets n xs (Q, r)).2 := by
  obtain ⟨new, h1, h2, h3, _⟩ := meets_spec n xs Q r
  rw [h1]
  have hq : (Q ++ new).Nodup := by
    rw [List.nodup_append]
    exact ⟨h.nodup, h2, fun a ha b hb e => (h3 b hb).1 (e ▸ ha)⟩
  refine ⟨hq, ?_, ?_, ?_⟩
  · intro x hx
    rcases List.mem_append.1 hx with hx | hx
    · exact h.bound x hx
    · exact (h3 x hx).2.2
  · rw [List.nodup_append]
    exact ⟨h.row, h2, fun a ha b hb e => (h3 b hb).1 (e ▸ h.sub a ha)⟩
  · intro x hx
    rcases List.mem_append.1 hx with hx | hx
    · exact List.mem_append_left _ (h.sub x hx)
    · exact List.mem_append_right _ hx
theorem QOk.meet {n : Nat} {q : List Int × List Int} (h : QOk n q.1 q.2) (x : Int) : QOk n (meetQ n x q).1 (meetQ n x q).2 := h.meets [x]
theorem QOk.pop {n : Nat} {Q r : List Int} {x : Int} (h : QOk n Q (r ++ [x])) : QOk n Q r :=
  ⟨h.nodup, h.bound, (List.nodup_append.1 h.row).1, fun y hy => h.sub y (by simp [hy])⟩

/-- between two rounds of 'follow' -/
structure Inv (f : St → List Int) (l : List St) (S : Nat → Prop) (Q r : List Int) : Prop where
  ok : QOk l.length Q r
  base : ∀ i : Nat, i < l.length → S i → (i : Int) ∈ Q
  sound : ∀ i : Nat, (i : Int) ∈ Q → Re f l S i
  done : ∀ i : Nat, (i : Int) ∈ Q → (i : Int) ∉ r → ∀ k : Nat, (k : Int) ∈ f (st l i) → k < l.length → (k : Int) ∈ Q
theorem Inv.start {f : St → List Int} {l : List St} {Q : List Int} (h : QOk l.length Q Q) : Inv f l (fun i => (i : Int) ∈ Q) Q Q :=
  ⟨h, fun _ _ h => h, fun i hi => Re.base hi (by have := h.bound _ hi; omega), fun _ h1 h2 => absurd h1 h2⟩
theorem Inv.last {f : St → List Int} {l : List St} {S : Nat → Prop} {Q : List Int} (h : Inv f l S Q []) (i : Nat) : (i : Int) ∈ Q ↔ Re f l S i :=
  ⟨h.sound i, fun k => k (fun i => (i : Int) ∈ Q) (fun j hj hl => h.base j hl hj) (fun j k hj hk hl => h.done j hj (by simp) k hk hl)⟩
/-- how many rounds are still to come, at most -/
def todo (n : Nat) (Q r : List Int) : Nat := n + r.length - Q.length
theorem Inv.next {f : St → List Int} {l : List St} {S : Nat → Prop} {Q r : List Int} {x : Nat} (h : Inv f l S Q (r ++ [(x : Int)])) :
    Inv f l S (meets l.length (f (st l x)) (Q, r)).1 (meets l.length (f (st l x)) (Q, r)).2 ∧ todo l.length (meets l.length (f (st l x)) (Q, r)).1 (meets l.length (f (st l x)) (Q, r)).2 < todo l.length Q (r ++ [(x : Int)]) := by
  have hx : (x : Int) ∈ Q := h.ok.sub _ (by simp)
  have h5 := h.ok.pop.meets (f (st l x))
  have hq := h.ok.len
  have hq2 := h5.len
  have hr := h.ok.row
  obtain ⟨new, h1, h2, h3, h4⟩ := meets_spec l.length (f (st l x)) Q r
  rw [h1] at h5 hq2 ⊢
  refine ⟨⟨h5, ?_, ?_, ?_⟩, ?_⟩
  · intro i hi hs
    exact List.mem_append_left _ (h.base i hi hs)
  · intro i hi
    rcases List.mem_append.1 hi with hi | hi
    · exact h.sound i hi
    · obtain ⟨_, k2, k3⟩ := h3 _ hi
      exact Re.step (h.sound x hx) k2 (by omega)
  · intro i hi hn k hk hl
    rcases List.mem_append.1 hi with hi | hi
    · by_cases hix : i = x
      · subst hix
        exact h4 _ hk (by omega) (by omega)
      · refine List.mem_append_left _ (h.done i hi ?_ k hk hl)
        intro hm
        rcases List.mem_append.1 hm with hm | hm
        · exact hn (List.mem_append_left _ hm)
        · simp at hm; omega
    · exact absurd (List.mem_append_right _ hi) hn
  · unfold todo
    simp only [List.length_append, List.length_cons, List.length_nil] at *
    omega

/-- the least tag of some states -/
def BestIs (l : List St) (P : Nat → Prop) (b : Int) : Prop :=
  (b = -1 ∧ ∀ i, i < l.length → P i → (st l i).tag = -1) ∨ (0 ≤ b ∧ (∃ i, i < l.length ∧ P i ∧ (st l i).tag = b) ∧ ∀ i, i < l.length → P i → (st l i).tag = -1 ∨ b ≤ (st l i).tag)
theorem BestIs.uniq {l : List St} {P R : Nat → Prop} {b c : Int} (h : BestIs l P b) (k : BestIs l R c) (e : ∀ i, i < l.length → (P i ↔ R i)) : b = c := by
  rcases h with ⟨rfl, h⟩ | ⟨h0, ⟨i, hi, hp, ht⟩, h⟩ <;> rcases k with ⟨rfl, k⟩ | ⟨k0, ⟨j, hj, hr, hu⟩, k⟩
  · rfl
  · have := h j hj ((e j hj).2 hr); omega
  · have := k i hi ((e i hi).1 hp); omega
  · have h1 := h j hj ((e j hj).2 hr)
    have h2 := k i hi ((e i hi).1 hp)
    omega
/-- of two tags the lesser -/
def minT (a b : Int) : Int := if a = -1 then b else if b = -1 then a else if b < a then b else a
theorem BestIs.none {l : List St} : BestIs l (fun _ => False) (-1) := .inl ⟨rfl, fun _ _ h => h.elim⟩
theorem BestIs.add {l : List St} {P R : Nat → Prop} {b : Int} (h : BestIs l P b) {j : Nat} (hj : j < l.length) (ht : -1 ≤ (st l j).tag) (e : ∀ i, i < l.length → (R i ↔ P i ∨ i = j)) : BestIs l R (minT b (st l j).tag) := by
  unfold minT
  rcases h with ⟨rfl, h⟩ | ⟨h0, ⟨i, hi, hp, hu⟩, h⟩
  · rw [if_pos rfl]
    by_cases h1 : (st l j).tag = -1
    · refine .inl ⟨h1, fun i hi hr => ?_⟩
      rcases (e i hi).1 hr with h2 | rfl
      · exact h i hi h2
      · exact h1
    · refine .inr ⟨by omega, ⟨j, hj, (e j hj).2 (.inr rfl), rfl⟩, fun i hi hr => ?_⟩
      rcases (e i hi).1 hr with h2 | rfl
      · exact .inl (h i hi h2)
      · exact .inr (Int.le_refl _)
  · rw [if_neg (by omega)]
    by_cases h1 : (st l j).tag = -1
    · rw [if_pos h1]
      refine .inr ⟨h0, ⟨i, hi, (e i hi).2 (.inl hp), hu⟩, fun k hk hr => ?_⟩
      rcases (e k hk).1 hr with h2 | rfl
      · exact h k hk h2
      · exact .inl h1
    · rw [if_neg h1]
      by_cases h2 : (st l j).tag < b
      · rw [if_pos h2]
        refine .inr ⟨by omega, ⟨j, hj, (e j hj).2 (.inr rfl), rfl⟩, fun k hk hr => ?_⟩
        rcases (e k hk).1 hr with h3 | rfl
        · have := h k hk h3; omega
        · exact .inr (Int.le_refl _)
      · rw [if_neg h2]
        refine .inr ⟨h0, ⟨i, hi, (e i hi).2 (.inl hp), hu⟩, fun k hk hr => ?_⟩
        rcases (e k hk).1 hr with h3 | rfl
        · exact h k hk h3
        · exact .inr (by omega)
theorem BestIs.same {l : List St} {P R : Nat → Prop} {b : Int} (h : BestIs l P b) (e : ∀ i, i < l.length → (R i ↔ P i)) : BestIs l R b := by
  rcases h with ⟨rfl, h⟩ | ⟨h0, ⟨i, hi, hp, hu⟩, h⟩
  · exact .inl ⟨rfl, fun i hi hr => h i hi ((e i hi).1 hr)⟩
  · exact .inr ⟨h0, ⟨i, hi, (e i hi).2 hp, hu⟩, fun i hi hr => h i hi ((e i hi).1 hr)⟩
theorem BestIs.bound {l : List St} {P : Nat → Prop} {b : Int} (h : BestIs l P b) : -1 ≤ b := by rcases h with ⟨rfl, _⟩ | ⟨h, _⟩ <;> omega

/-- where one comes by a byte, and then by nothing -/
def byP (l : List St) (P : Nat → Prop) (c : Int) (i : Nat) : Prop := ∃ j, j < l.length ∧ P j ∧ (st l j).lo ≤ c ∧ c ≤ (st l j).hi ∧ (st l j).to = (i : Int)
def stepP (l : List St) (P : Nat → Prop) (c : Int) : Nat → Prop := Re nilF l (byP l P c)
def startP (a : Int) (l : List St) : Nat → Prop := Re nilF l (fun i => (i : Int) = a)
/-- where one comes by the first bytes of a text -/
def runP (a : Int) (l : List St) (s : Nat → Int) : Nat → Nat → Prop
  | 0 => startP a l
  | k + 1 => stepP l (runP a l s k) (s k)
theorem byP_congr {l : List St} {P R : Nat → Prop} {c : Int} (h : ∀ j, j < l.length → (P j ↔ R j)) (i : Nat) : byP l P c i ↔ byP l R c i :=
  ⟨fun ⟨j, hj, hp, k⟩ => ⟨j, hj, (h j hj).1 hp, k⟩, fun ⟨j, hj, hp, k⟩ => ⟨j, hj, (h j hj).2 hp, k⟩⟩
theorem stepP_congr {l : List St} {P R : Nat → Prop} {c : Int} (h : ∀ j, j < l.length → (P j ↔ R j)) (i : Nat) : stepP l P c i ↔ stepP l R c i :=
  Re.congr fun j _ => byP_congr h j
theorem stepP_none {l : List St} {P : Nat → Prop} {c : Int} (h : ∀ j, j < l.length → ¬ P j) (i : Nat) : ¬ stepP l P c i := fun k =>
  k (fun _ => False) (fun _ ⟨m, hm, hp, _⟩ _ => h m hm hp) (fun _ _ h _ _ => h)
theorem runP_none {a : Int} {l : List St} {s : Nat → Int} {k : Nat} (h : ∀ j, j < l.length → ¬ runP a l s k j) : ∀ m j, ¬ runP a l s (k + m) j
  | 0, j => fun hr => by
    cases k with
    | zero => exact h j hr.lt hr
    | succ k => exact h j hr.lt hr
  | m + 1, j => stepP_none (fun i _ => runP_none h m i) j
theorem runP_congr {a : Int} {l : List St} {s t : Nat → Int} : ∀ {k : Nat}, (∀ i, i < k → s i = t i) → ∀ j, runP a l s k j ↔ runP a l t k j
  | 0, _, _ => Iff.rfl
  | k + 1, h, j => by
    show stepP l _ _ j ↔ stepP l _ _ j
    rw [h k (by omega)]
    exact stepP_congr (fun i _ => runP_congr (fun i hi => h i (by omega)) i) j
/-- can a tag be come to from some states -/
def aliveP (l : List St) (P : Nat → Prop) : Prop := ∃ i, i < l.length ∧ Re allF l P i ∧ 0 ≤ (st l i).tag
theorem runP_all {a : Int} {l : List St} {s : Nat → Int} {k : Nat} : ∀ m j, runP a l s (k + m) j → Re allF l (runP a l s k) j
  | 0, j, h => Re.base h (by cases k <;> exact Re.lt h)
  | m + 1, j, h => by
    refine Re.mono h (fun i hi hs => ?_) (fun s x hx => List.mem_append_left _ hx)
    obtain ⟨q, hq, hp, _, _, ht⟩ := hs
    exact Re.step (runP_all m q hp) (by rw [← ht]; exact List.mem_append_right _ (List.mem_singleton.2 rfl)) hi
theorem dead_best {a : Int} {l : List St} {s : Nat → Int} {k m : Nat} {b : Int} (h : ¬ aliveP l (runP a l s k)) (hb : BestIs l (runP a l s (k + m)) b) : b = -1 := by
  rcases hb with ⟨h1, _⟩ | ⟨h0, ⟨i, hi, hp, ht⟩, _⟩
  · exact h1
  · exact absurd ⟨i, hi, runP_all m i hp, by omega⟩ h

end Go.Proofs.YtfbphiamelongaaDoor.Cl

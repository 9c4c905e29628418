/- The words of a line, in plain words. -/
import Derived.Lib.Hide
namespace Go.Proofs.YtleejfkononjgaaDoor.Wd

/-- kinds of bytes -/
def blk (c : UInt8) : Bool := c.toNat == 32 || c.toNat == 9
def flb (c : UInt8) : Bool := !blk c
def dig (c : UInt8) : Bool := decide (48 ≤ c.toNat) && decide (c.toNat ≤ 57)
def ltr (c : UInt8) : Bool := (decide (97 ≤ c.toNat) && decide (c.toNat ≤ 122)) || (decide (65 ≤ c.toNat) && decide (c.toNat ≤ 90)) || c.toNat == 95
def nmd (c : UInt8) : Bool := ltr c || dig c
theorem ltr_not_dig {c : UInt8} (h : ltr c = true) : dig c = false := by unfold ltr at h; unfold dig; simp at h ⊢; omega

theorem len_size (s : ByteArray) : s.data.toList.length = s.size := rfl

/-- how many bytes of a kind a text begins with -/
def spanL (p : UInt8 → Bool) (l : List UInt8) : Nat := (l.takeWhile p).length
theorem spanL_nil (p : UInt8 → Bool) : spanL p [] = 0 := rfl
theorem spanL_yes {p : UInt8 → Bool} {c : UInt8} {r : List UInt8} (h : p c = true) : spanL p (c :: r) = spanL p r + 1 := by simp [spanL, h]
theorem spanL_no {p : UInt8 → Bool} {c : UInt8} {r : List UInt8} (h : p c = false) : spanL p (c :: r) = 0 := by simp [spanL, h]
theorem spanL_le (p : UInt8 → Bool) : ∀ l : List UInt8, spanL p l ≤ l.length
  | [] => Nat.le_refl _
  | c :: r => by
    have := spanL_le p r
    cases h : p c
    · rw [spanL_no h]; omega
    · rw [spanL_yes h, List.length_cons]; omega
theorem span_at {s : ByteArray} {k : Nat} (h : k < s.size) : s.data.toList.drop k = s[k]'h :: s.data.toList.drop (k + 1) :=
  List.drop_eq_getElem_cons (l := s.data.toList) h
theorem span_end {s : ByteArray} {k : Nat} (h : s.size ≤ k) : s.data.toList.drop k = [] := List.drop_eq_nil_of_le (by rw [len_size]; exact h)

/-- how many bytes of a name a text begins with -/
def leadL (l : List UInt8) : Nat := if 0 < spanL dig l then 0 else spanL nmd l
theorem leadL_le (l : List UInt8) : leadL l ≤ l.length := by
  unfold leadL; split
  · omega
  · exact spanL_le _ _
theorem leadL_dig {c : UInt8} {r : List UInt8} (h : dig c = true) : leadL (c :: r) = 0 := by unfold leadL; rw [spanL_yes h, if_pos (by omega)]
theorem leadL_ltr {c : UInt8} {r : List UInt8} (h : ltr c = true) : leadL (c :: r) = spanL nmd r + 1 := by
  unfold leadL; rw [spanL_no (ltr_not_dig h), if_neg (by omega), spanL_yes (by unfold nmd; rw [h]; rfl)]
theorem leadL_else {c : UInt8} {r : List UInt8} (h : ltr c = false) : leadL (c :: r) = 0 := by
  cases hd : dig c
  · unfold leadL; rw [spanL_no hd, if_neg (by omega), spanL_no (by unfold nmd; rw [h, hd]; rfl)]
  · exact leadL_dig hd

/-- whether a text is a name -/
def nameL (l : List UInt8) : Bool := decide (0 < l.length) && (decide (l.length ≤ 32) && decide (leadL l = l.length))

/-- where a number that may be outside stands -/
def cl (at_ : Int) (n : Nat) : Nat := (min (max at_ 0) n).toNat
theorem cl_le (a : Int) (n : Nat) : cl a n ≤ n := by unfold cl; omega
theorem cl_eq (a : Int) (n : Nat) : ((cl a n : Nat) : Int) = min (max a 0) n := by unfold cl; omega

/-- The words from here on: of where the word that is open begins, and where we are. -/
def wdL : Option Nat → Nat → List UInt8 → List (Nat × Nat)
  | none, _, [] => []
  | some f, i, [] => [(f, i)]
  | none, i, c :: r => if blk c then wdL none (i + 1) r else wdL (some i) (i + 1) r
  | some f, i, c :: r => if blk c then (f, i) :: wdL none (i + 1) r else wdL (some f) (i + 1) r
def wordsL (l : List UInt8) : List (Nat × Nat) := wdL none 0 l

theorem wdL_none_blk {c : UInt8} {r : List UInt8} {i : Nat} (h : blk c = true) : wdL none i (c :: r) = wdL none (i + 1) r := by simp [wdL, h]
theorem wdL_none_fl {c : UInt8} {r : List UInt8} {i : Nat} (h : blk c = false) : wdL none i (c :: r) = wdL (some i) (i + 1) r := by simp [wdL, h]
theorem wdL_some_blk {c : UInt8} {r : List UInt8} {f i : Nat} (h : blk c = true) : wdL (some f) i (c :: r) = (f, i) :: wdL none (i + 1) r := by simp [wdL, h]
theorem wdL_some_fl {c : UInt8} {r : List UInt8} {f i : Nat} (h : blk c = false) : wdL (some f) i (c :: r) = wdL (some f) (i + 1) r := by simp [wdL, h]

theorem wdL_blanks : ∀ (l : List UInt8) (i : Nat), wdL none i l = wdL none (i + spanL blk l) (l.drop (spanL blk l))
  | [], i => by rw [spanL_nil]; rfl
  | c :: r, i => by
    cases h : blk c
    · rw [spanL_no h]; rfl
    · rw [wdL_none_blk h, wdL_blanks r, spanL_yes h, List.drop_succ_cons]; congr 1; omega
theorem wdL_open : ∀ (l : List UInt8) (f i : Nat), wdL (some f) i l = (f, i + spanL flb l) :: wdL none (i + spanL flb l) (l.drop (spanL flb l))
  | [], f, i => by rw [spanL_nil]; rfl
  | c :: r, f, i => by
    cases h : blk c
    · rw [wdL_some_fl h, wdL_open r, spanL_yes (by unfold flb; rw [h]; rfl), List.drop_succ_cons]
      rw [show i + 1 + spanL flb r = i + (spanL flb r + 1) by omega]
    · rw [spanL_no (by unfold flb; rw [h]; rfl), wdL_some_blk h, List.drop_zero, wdL_none_blk h]
      rfl
/-- behind the blanks stands no blank -/
theorem drop_span_head {l : List UInt8} {p : UInt8 → Bool} {c : UInt8} {r : List UInt8} (h : l.drop (spanL p l) = c :: r) : p c = false := by
  induction l with
  | nil => simp at h
  | cons d t ih =>
    cases hp : p d
    · rw [spanL_no hp, List.drop_zero] at h
      injection h with h1 h2
      rw [← h1]; exact hp
    · rw [spanL_yes hp, List.drop_succ_cons] at h
      exact ih h
/-- one word, and what is behind it; or none -/
theorem wdL_none_left {l : List UInt8} {i : Nat} (h : spanL flb (l.drop (spanL blk l)) = 0) : wdL none i l = [] ∧ spanL blk l = l.length := by
  have hl := spanL_le blk l
  cases hd : l.drop (spanL blk l) with
  | nil =>
    refine ⟨by rw [wdL_blanks, hd]; rfl, ?_⟩
    have := congrArg List.length hd
    simp at this; omega
  | cons c r =>
    have hc := drop_span_head hd
    rw [hd, spanL_yes (by unfold flb; rw [hc]; rfl)] at h
    omega
theorem wdL_word {l : List UInt8} {i b n : Nat} (hb : spanL blk l = b) (hn : spanL flb (l.drop b) = n) (h : 0 < n) : wdL none i l = (i + b, i + b + n) :: wdL none (i + b + n) (l.drop (b + n)) := by
  subst hb
  rw [wdL_blanks]
  cases hd : l.drop (spanL blk l) with
  | nil => rw [hd, spanL_nil] at hn; omega
  | cons c r =>
    have hc := drop_span_head hd
    have hf : flb c = true := by unfold flb; rw [hc]; rfl
    have hd2 : (c :: r).drop n = l.drop (spanL blk l + n) := by rw [← hd, List.drop_drop]
    rw [hd, spanL_yes hf] at hn
    rw [wdL_none_fl hc, wdL_open, ← hd2, ← hn, List.drop_succ_cons]
    rw [show i + spanL blk l + 1 + spanL flb r = i + spanL blk l + (spanL flb r + 1) by omega]
theorem span_drop_le {l : List UInt8} {b n : Nat} (hb : spanL blk l = b) (hn : spanL flb (l.drop b) = n) : b + n ≤ l.length := by
  have h1 := spanL_le blk l
  have h2 := spanL_le flb (l.drop b)
  rw [List.length_drop] at h2
  omega

theorem wdL_len : ∀ (l : List UInt8) (o : Option Nat) (i : Nat), (wdL o i l).length ≤ l.length + o.toList.length
  | [], none, i => by simp [wdL]
  | [], some f, i => by simp [wdL]
  | c :: r, none, i => by
    cases h : blk c
    · have := wdL_len r (some i) (i + 1)
      rw [wdL_none_fl h]; simp at this ⊢; omega
    · have := wdL_len r none (i + 1)
      rw [wdL_none_blk h]; simp at this ⊢; omega
  | c :: r, some f, i => by
    cases h : blk c
    · have := wdL_len r (some f) (i + 1)
      rw [wdL_some_fl h]; simp at this ⊢; omega
    · have := wdL_len r none (i + 1)
      rw [wdL_some_blk h]; simp at this ⊢; omega

/-- the next word from here on, or the end -/
def nextL (s : List UInt8) (k : Nat) : Nat × Nat := (k + spanL blk (s.drop k), k + spanL blk (s.drop k) + spanL flb ((s.drop k).drop (spanL blk (s.drop k))))
/-- where a text without blanks at its ends ends -/
def trimTo (s : List UInt8) (from_ : Nat) : Nat → Nat
  | 0 => 0
  | k + 1 => if from_ < k + 1 ∧ blk (s.getD k 0) = true then trimTo s from_ k else k + 1

/-- Words are apart: 'at_': behind the last one; 'st': whether there was one. -/
def Apart (l : List UInt8) : Nat → Bool → List (Nat × Nat) → Prop
  | at_, _, [] => ∀ j, at_ ≤ j → (h : j < l.length) → blk l[j] = true
  | at_, st, (a, b) :: r => at_ ≤ a ∧ (st = true → at_ < a) ∧ a < b ∧ b ≤ l.length ∧ (∀ j, at_ ≤ j → j < a → (h : j < l.length) → blk l[j] = true) ∧ (∀ j, a ≤ j → j < b → (h : j < l.length) → blk l[j] = false) ∧ Apart l b true r
theorem apart_of (l : List UInt8) : ∀ (rest : List UInt8) (i : Nat), l.drop i = rest → i ≤ l.length →
    (∀ at_ st, at_ ≤ i → (st = true → rest ≠ [] → (∃ c r, rest = c :: r ∧ blk c = true) ∨ at_ < i) → (∀ j, at_ ≤ j → j < i → (h : j < l.length) → blk l[j] = true) → Apart l at_ st (wdL none i rest)) ∧
    (∀ at_ st f, at_ ≤ f → (st = true → at_ < f) → f < i → (∀ j, at_ ≤ j → j < f → (h : j < l.length) → blk l[j] = true) → (∀ j, f ≤ j → j < i → (h : j < l.length) → blk l[j] = false) → Apart l at_ st (wdL (some f) i rest))
  | [], i, hd, hi => by
    have hl : l.length ≤ i := List.drop_eq_nil_iff.1 hd
    refine ⟨fun at_ st h1 _ h3 => fun j hj hjl => h3 j hj (by omega) hjl, fun at_ st f h1 h2 h3 h4 h5 => ?_⟩
    exact ⟨h1, h2, h3, hi, h4, h5, fun j hj hjl => by omega⟩
  | c :: r, i, hd, hi => by
    have hlt : i < l.length := by
      rcases Nat.lt_or_ge i l.length with h | h
      · exact h
      · rw [List.drop_eq_nil_of_le h] at hd; cases hd
    rw [List.drop_eq_getElem_cons hlt] at hd
    injection hd with hc hr
    obtain ⟨g1, g2⟩ := apart_of l r (i + 1) hr hlt
    refine ⟨fun at_ st h1 h2 h3 => ?_, fun at_ st f h1 h2 h3 h4 h5 => ?_⟩
    · cases hb : blk c
      · rw [wdL_none_fl hb]
        refine g2 at_ st i h1 (fun hst => ?_) (by omega) h3 (fun j hj1 hj2 h => ?_)
        · rcases h2 hst (by simp) with ⟨c', r', he, hbl⟩ | h
          · injection he with e1 e2
            rw [← e1, hb] at hbl; cases hbl
          · exact h
        · obtain rfl : j = i := by omega
          rw [hc]; exact hb
      · rw [wdL_none_blk hb]
        refine g1 at_ st (by omega) (fun _ _ => .inr (by omega)) (fun j hj1 hj2 h => ?_)
        rcases Nat.lt_or_ge j i with h' | h'
        · exact h3 j hj1 h' h
        · obtain rfl : j = i := by omega
          rw [hc]; exact hb
    · cases hb : blk c
      · rw [wdL_some_fl hb]
        refine g2 at_ st f h1 h2 (by omega) h4 (fun j hj1 hj2 h => ?_)
        rcases Nat.lt_or_ge j i with h' | h'
        · exact h5 j hj1 h' h
        · obtain rfl : j = i := by omega
          rw [hc]; exact hb
      · rw [wdL_some_blk hb]
        refine ⟨h1, h2, h3, hi, h4, h5, ?_⟩
        refine g1 i true (by omega) (fun _ _ => .inr (by omega)) (fun j hj1 hj2 h => ?_)
        obtain rfl : j = i := by omega
        rw [hc]; exact hb
theorem apart_words (l : List UInt8) : Apart l 0 false (wordsL l) :=
  (apart_of l l 0 rfl (Nat.zero_le _)).1 0 false (Nat.le_refl _) (fun h => by cases h) (fun j _ h => by omega)

end Go.Proofs.YtleejfkononjgaaDoor.Wd

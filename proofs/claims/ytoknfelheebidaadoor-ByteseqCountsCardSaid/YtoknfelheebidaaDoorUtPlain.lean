/- Code points and their bytes, in plain words: what utf tells. -/
import Derived.Lib.RuneBytes
import Derived.Lib.TrimUEq
import Derived.Lib.DecodeNEq
namespace Go.Proofs.YtoknfelheebidaaDoor.Ut
open Go

theorem nth_lt (l : List UInt8) (i : Nat) : (l.getD i 0).toNat < 256 := UInt8.toNat_lt _
/-- the byte at a place, as a number -/
def nth (l : List UInt8) (i : Nat) : Int := ((l.getD i 0).toNat : Int)
theorem nth_range (l : List UInt8) (i : Nat) : 0 ≤ nth l i ∧ nth l i < 256 := by
  have := nth_lt l i
  unfold nth; omega
/-- the library's decoding of the beginning -/
def dN (l : List UInt8) : Nat × Nat := Lib.decodeN l.length (l.getD 0 0).toNat (l.getD 1 0).toNat (l.getD 2 0).toNat (l.getD 3 0).toNat

def scalar (c : Int) : Bool := decide ((0 ≤ c ∧ c < 55296) ∨ (57343 < c ∧ c ≤ 1114111))
theorem scalar_iff (c : Int) : scalar c = true ↔ (0 ≤ c ∧ c < 55296) ∨ (57343 < c ∧ c ≤ 1114111) := by simp [scalar]
theorem scalar_not (c : Int) : scalar c = false ↔ ¬ ((0 ≤ c ∧ c < 55296) ∨ (57343 < c ∧ c ≤ 1114111)) := by
  rw [← scalar_iff]; simp
def putL (c : Int) : List UInt8 := if scalar c then Lib.encodeRune c else []

def getL (l : List UInt8) : Int × Nat :=
  if l = [] then (-1, 0) else if (dN l).1 = 65533 ∧ (dN l).2 = 1 then (-1, 1) else (((dN l).1 : Int), (dN l).2)

def ints (l : List UInt8) : List Int := l.map fun b => (b.toNat : Int)
theorem ints_inj : ∀ {l m : List UInt8}, ints l = ints m → l = m
  | [], [], _ => rfl
  | [], _ :: _, h => by simp [ints] at h
  | _ :: _, [], h => by simp [ints] at h
  | a :: l, b :: m, h => by
    simp only [ints, List.map_cons, List.cons.injEq] at h
    have e : a = b := UInt8.toNat_inj.1 (by omega)
    rw [e, ints_inj (l := l) (m := m) h.2]
theorem ints_encode (c : Int) : ints (Lib.encodeRune c) = Lib.encodeRuneZ c := by
  simp only [ints, Lib.encodeRune, List.map_map]
  conv => rhs; rw [← List.map_id (Lib.encodeRuneZ c)]
  apply List.map_congr_left
  intro x hx
  obtain ⟨h0, h1⟩ := Lib.encodeRuneZ_byte c x hx
  simp [Function.comp]
  omega

theorem take1 (l : List UInt8) (h : 1 ≤ l.length) : ints (l.take 1) = [nth l 0] := by
  match l, h with
  | a :: l, _ => simp [ints, nth]
theorem take2 (l : List UInt8) (h : 2 ≤ l.length) : ints (l.take 2) = [nth l 0, nth l 1] := by
  match l, h with
  | a :: b :: l, _ => simp [ints, nth]
theorem take3 (l : List UInt8) (h : 3 ≤ l.length) : ints (l.take 3) = [nth l 0, nth l 1, nth l 2] := by
  match l, h with
  | a :: b :: c :: l, _ => simp [ints, nth]
theorem take4 (l : List UInt8) (h : 4 ≤ l.length) : ints (l.take 4) = [nth l 0, nth l 1, nth l 2, nth l 3] := by
  match l, h with
  | a :: b :: c :: d :: l, _ => simp [ints, nth]

/-- the four ways that a code point's bytes stand at the beginning -/
def Begins (l : List UInt8) (c : Int) (k : Nat) : Prop :=
  (k = 1 ∧ 1 ≤ l.length ∧ 0 ≤ c ∧ c ≤ 127 ∧ nth l 0 = c) ∨
  (k = 2 ∧ 2 ≤ l.length ∧ 128 ≤ c ∧ c ≤ 2047 ∧ nth l 0 = 192 + c / 64 ∧ nth l 1 = 128 + c % 64) ∨
  (k = 3 ∧ 3 ≤ l.length ∧ ((2048 ≤ c ∧ c < 55296) ∨ (57343 < c ∧ c ≤ 65535)) ∧ nth l 0 = 224 + c / 4096 ∧ nth l 1 = 128 + c / 64 % 64 ∧ nth l 2 = 128 + c % 64) ∨
  (k = 4 ∧ 4 ≤ l.length ∧ 65536 ≤ c ∧ c ≤ 1114111 ∧ nth l 0 = 240 + c / 262144 ∧ nth l 1 = 128 + c / 4096 % 64 ∧ nth l 2 = 128 + c / 64 % 64 ∧ nth l 3 = 128 + c % 64)
theorem Begins.one {l : List UInt8} {c : Int} (h : 1 ≤ l.length) (h0 : 0 ≤ c) (h1 : c ≤ 127) (e0 : nth l 0 = c) : Begins l c 1 := .inl ⟨rfl, h, h0, h1, e0⟩
theorem Begins.two {l : List UInt8} {c : Int} (h : 2 ≤ l.length) (h0 : 128 ≤ c) (h1 : c ≤ 2047) (e0 : nth l 0 = 192 + c / 64) (e1 : nth l 1 = 128 + c % 64) : Begins l c 2 := .inr (.inl ⟨rfl, h, h0, h1, e0, e1⟩)
theorem Begins.three {l : List UInt8} {c : Int} (h : 3 ≤ l.length) (h0 : (2048 ≤ c ∧ c < 55296) ∨ (57343 < c ∧ c ≤ 65535)) (e0 : nth l 0 = 224 + c / 4096) (e1 : nth l 1 = 128 + c / 64 % 64) (e2 : nth l 2 = 128 + c % 64) : Begins l c 3 := .inr (.inr (.inl ⟨rfl, h, h0, e0, e1, e2⟩))
theorem Begins.four {l : List UInt8} {c : Int} (h : 4 ≤ l.length) (h0 : 65536 ≤ c) (h1 : c ≤ 1114111) (e0 : nth l 0 = 240 + c / 262144) (e1 : nth l 1 = 128 + c / 4096 % 64) (e2 : nth l 2 = 128 + c / 64 % 64) (e3 : nth l 3 = 128 + c % 64) : Begins l c 4 := .inr (.inr (.inr ⟨rfl, h, h0, h1, e0, e1, e2, e3⟩))

theorem Begins.scalar {l : List UInt8} {c : Int} {k : Nat} (h : Begins l c k) : scalar c = true := by
  rw [scalar_iff]; rcases h with ⟨rfl, h, h0, h1, e0⟩ | ⟨rfl, h, h0, h1, e0, e1⟩ | ⟨rfl, h, h0, e0, e1, e2⟩ | ⟨rfl, h, h0, h1, e0, e1, e2, e3⟩ <;> omega
theorem Begins.len {l : List UInt8} {c : Int} {k : Nat} (h : Begins l c k) : 1 ≤ k ∧ k ≤ 4 ∧ k ≤ l.length := by
  rcases h with ⟨rfl, h, h0, h1, e0⟩ | ⟨rfl, h, h0, h1, e0, e1⟩ | ⟨rfl, h, h0, e0, e1, e2⟩ | ⟨rfl, h, h0, h1, e0, e1, e2, e3⟩ <;> omega
theorem Begins.encode {l : List UInt8} {c : Int} {k : Nat} (h : Begins l c k) : Lib.encodeRune c = l.take k := by
  apply ints_inj
  rw [ints_encode]
  rcases h with ⟨rfl, h, h0, h1, e0⟩ | ⟨rfl, h, h0, h1, e0, e1⟩ | ⟨rfl, h, h0, e0, e1, e2⟩ | ⟨rfl, h, h0, h1, e0, e1, e2, e3⟩
  · rw [take1 l h, Lib.encodeRuneZ_one h0 h1, e0]
  · rw [take2 l h, Lib.encodeRuneZ_two h0 h1, e0, e1]
  · rw [take3 l h, Lib.encodeRuneZ_three h0, e0, e1, e2]
  · rw [take4 l h, Lib.encodeRuneZ_four h0 h1, e0, e1, e2, e3]

theorem Begins.of {l : List UInt8} {c : Int} {k : Nat} (hs : Ut.scalar c = true) (hk : k ≤ l.length) (he : Lib.encodeRune c = l.take k) : Begins l c k := by
  rw [scalar_iff] at hs
  have hi := congrArg ints he
  rw [ints_encode] at hi
  have hn : k = (Lib.encodeRuneZ c).length := by
    have := congrArg List.length hi
    simp only [ints, List.length_map, List.length_take] at this
    omega
  by_cases a : c ≤ 127
  · rw [Lib.encodeRuneZ_one (by omega) a] at hi hn
    simp only [List.length_cons, List.length_nil] at hn
    subst hn
    rw [take1 l (by omega)] at hi
    simp only [List.cons.injEq, and_true] at hi
    exact Begins.one (by omega) (by omega) a hi.symm
  · by_cases b : c ≤ 2047
    · rw [Lib.encodeRuneZ_two (by omega) b] at hi hn
      simp only [List.length_cons, List.length_nil] at hn
      subst hn
      rw [take2 l (by omega)] at hi
      simp only [List.cons.injEq, and_true] at hi
      exact Begins.two (by omega) (by omega) b hi.1.symm hi.2.symm
    · by_cases d : c ≤ 65535
      · rw [Lib.encodeRuneZ_three (by omega)] at hi hn
        simp only [List.length_cons, List.length_nil] at hn
        subst hn
        rw [take3 l (by omega)] at hi
        simp only [List.cons.injEq, and_true] at hi
        exact Begins.three (by omega) (by omega) hi.1.symm hi.2.1.symm hi.2.2.symm
      · rw [Lib.encodeRuneZ_four (by omega) (by omega)] at hi hn
        simp only [List.length_cons, List.length_nil] at hn
        subst hn
        rw [take4 l (by omega)] at hi
        simp only [List.cons.injEq, and_true] at hi
        exact Begins.four (by omega) (by omega) (by omega) hi.1.symm hi.2.1.symm hi.2.2.1.symm hi.2.2.2.symm

set_option maxRecDepth 100000 in
set_option maxHeartbeats 4000000 in
theorem dN_of {l : List UInt8} {c : Int} {k : Nat} (h : Begins l c k) : dN l = (c.toNat, k) := by
  unfold dN
  rcases h with ⟨rfl, h, h0, h1, e0⟩ | ⟨rfl, h, h0, h1, e0, e1⟩ | ⟨rfl, h, h0, e0, e1, e2⟩ | ⟨rfl, h, h0, h1, e0, e1, e2, e3⟩
  ·
    unfold nth at *
    generalize (l.getD 0 0).toNat = b0 at *
    unfold Lib.decodeN
    rw [if_pos (by omega)]
    apply Prod.ext <;> simp only <;> omega
  ·
    unfold nth at *
    generalize (l.getD 0 0).toNat = b0 at *
    generalize (l.getD 1 0).toNat = b1 at *
    unfold Lib.decodeN
    rw [if_neg (by omega), if_pos (by omega), if_pos (by omega)]
    apply Prod.ext <;> simp only <;> omega
  ·
    unfold nth at *
    generalize (l.getD 0 0).toNat = b0 at *
    generalize (l.getD 1 0).toNat = b1 at *
    generalize (l.getD 2 0).toNat = b2 at *
    unfold Lib.decodeN
    rw [if_neg (by omega), if_neg (by omega), if_pos (by omega), if_pos (by omega)]
    apply Prod.ext <;> simp only <;> omega
  ·
    unfold nth at *
    generalize (l.getD 0 0).toNat = b0 at *
    generalize (l.getD 1 0).toNat = b1 at *
    generalize (l.getD 2 0).toNat = b2 at *
    generalize (l.getD 3 0).toNat = b3 at *
    unfold Lib.decodeN
    rw [if_neg (by omega), if_neg (by omega), if_neg (by omega), if_pos (by omega), if_pos (by omega)]
    apply Prod.ext <;> simp only <;> omega

set_option maxRecDepth 100000 in
set_option maxHeartbeats 4000000 in
theorem dN_back {l : List UInt8} (hl : l ≠ []) : dN l = (65533, 1) ∨ Begins l (dN l).1 (dN l).2 := by
  have hlen : 1 ≤ l.length := by cases l <;> simp_all
  have q0 := nth_lt l 0; have q1 := nth_lt l 1; have q2 := nth_lt l 2; have q3 := nth_lt l 3
  have key : ∀ b0 b1 b2 b3 : Nat, b0 < 256 → b1 < 256 → b2 < 256 → b3 < 256 → nth l 0 = b0 → nth l 1 = b1 → nth l 2 = b2 → nth l 3 = b3 →
      Lib.decodeN l.length b0 b1 b2 b3 = (65533, 1) ∨ Begins l (Lib.decodeN l.length b0 b1 b2 b3).1 (Lib.decodeN l.length b0 b1 b2 b3).2 := by
    intro b0 b1 b2 b3 p0 p1 p2 p3 e0 e1 e2 e3
    unfold Lib.decodeN
    repeat' split
    all_goals first
      | exact .inl rfl
      | (right; exact Begins.one (by omega) (by dsimp only; omega) (by dsimp only; omega) (by dsimp only; omega))
      | (right; exact Begins.two (by omega) (by dsimp only; omega) (by dsimp only; omega) (by dsimp only; omega) (by dsimp only; omega))
      | (right; exact Begins.three (by omega) (by dsimp only; omega) (by dsimp only; omega) (by dsimp only; omega) (by dsimp only; omega))
      | (right; exact Begins.four (by omega) (by dsimp only; omega) (by dsimp only; omega) (by dsimp only; omega) (by dsimp only; omega) (by dsimp only; omega) (by dsimp only; omega))
  exact key _ _ _ _ q0 q1 q2 q3 rfl rfl rfl rfl

theorem getL_of {l : List UInt8} {c : Int} {k : Nat} (h : Begins l c k) : getL l = (c, k) := by
  have hk := h.len
  have hs := h.scalar
  rw [scalar_iff] at hs
  have hd := dN_of h
  have hne : l ≠ [] := by intro e; subst e; simp at hk; omega
  unfold getL
  rw [if_neg hne, hd]
  rw [if_neg]
  · apply Prod.ext <;> simp only
    omega
  · rintro ⟨a, b⟩
    simp only at a b
    rcases h with ⟨_, h, h0, h1, e0⟩ | ⟨_, h, h0, h1, e0, e1⟩ | ⟨_, h, h0, e0, e1, e2⟩ | ⟨_, h, h0, h1, e0, e1, e2, e3⟩ <;> omega
theorem getL_cases {l : List UInt8} (hl : l ≠ []) : getL l = (-1, 1) ∨ Begins l (getL l).1 (getL l).2 := by
  rcases dN_back hl with h | h
  · left; unfold getL; rw [if_neg hl, if_pos (by rw [h]; exact ⟨rfl, rfl⟩)]
  · right; rw [getL_of h]; exact h
theorem getL_nil : getL [] = (-1, 0) := rfl
theorem getL_width {l : List UInt8} (hl : l ≠ []) : 1 ≤ (getL l).2 ∧ (getL l).2 ≤ l.length ∧ (getL l).2 ≤ 4 := by
  have hlen : 1 ≤ l.length := by cases l <;> simp_all
  rcases getL_cases hl with h | h
  · rw [h]; simp only; omega
  · have := h.len; omega
theorem getL_range (l : List UInt8) : (getL l).1 = -1 ∨ (0 ≤ (getL l).1 ∧ (getL l).1 ≤ 1114111) := by
  by_cases hl : l = []
  · subst hl; left; rfl
  · rcases getL_cases hl with h | h
    · left; rw [h]
    · right; have := h.scalar; rw [scalar_iff] at this; omega

/-- what follows doesn't matter -/
theorem begins_put {c : Int} (more : List UInt8) (hs : scalar c = true) : Begins (Lib.encodeRune c ++ more) c (Lib.encodeRune c).length :=
  Begins.of hs (by simp) (by simp)

/-! ### the document's way to find it -/
def lead (n : Nat) : Int := if n = 2 then 192 else if n = 3 then 224 else if n = 4 then 240 else 0
def guessR (l : List UInt8) : Nat → Nat → Int → Int
  | 0, _, c => c
  | f + 1, i, c => guessR l f (i + 1) (64 * c + nth l i - 128)
def guessL (l : List UInt8) (n : Nat) : Int := guessR l (n - 1) 1 (nth l 0 - lead n)
theorem guess1 (l : List UInt8) : guessL l 1 = nth l 0 := by simp [guessL, guessR, lead]
theorem guess2 (l : List UInt8) : guessL l 2 = 64 * (nth l 0 - 192) + nth l 1 - 128 := by simp [guessL, guessR, lead]
theorem guess3 (l : List UInt8) : guessL l 3 = 64 * (64 * (nth l 0 - 224) + nth l 1 - 128) + nth l 2 - 128 := by simp [guessL, guessR, lead]
theorem guess4 (l : List UInt8) : guessL l 4 = 64 * (64 * (64 * (nth l 0 - 240) + nth l 1 - 128) + nth l 2 - 128) + nth l 3 - 128 := by simp [guessL, guessR, lead]
theorem guess_of {l : List UInt8} {c : Int} {k : Nat} (h : Begins l c k) : guessL l k = c := by
  rcases h with ⟨rfl, h, h0, h1, e0⟩ | ⟨rfl, h, h0, h1, e0, e1⟩ | ⟨rfl, h, h0, e0, e1, e2⟩ | ⟨rfl, h, h0, h1, e0, e1, e2, e3⟩
  · rw [guess1, e0]
  · rw [guess2, e0, e1]; omega
  · rw [guess3, e0, e1, e2]; omega
  · rw [guess4, e0, e1, e2, e3]; omega
theorem guess_range (l : List UInt8) (n : Nat) (h : 1 ≤ n) (h4 : n ≤ 4) : -200000000 ≤ guessL l n ∧ guessL l n ≤ 200000000 := by
  have q0 := nth_range l 0; have q1 := nth_range l 1; have q2 := nth_range l 2; have q3 := nth_range l 3
  have : n = 1 ∨ n = 2 ∨ n = 3 ∨ n = 4 := by omega
  rcases this with rfl | rfl | rfl | rfl
  · rw [guess1]; omega
  · rw [guess2]; omega
  · rw [guess3]; omega
  · rw [guess4]; omega

theorem getL_hit {l : List UInt8} {n : Nat} (hn : n ≤ l.length) (hs : scalar (guessL l n) = true) (he : putL (guessL l n) = l.take n) : getL l = (guessL l n, n) := by
  unfold putL at he
  rw [if_pos hs] at he
  exact getL_of (Begins.of hs hn he)
/-- no number of bytes is right -/
def misses (l : List UInt8) (k : Nat) : Prop := ∀ n, 1 ≤ n → n < k → n ≤ l.length → ¬ (scalar (guessL l n) = true ∧ putL (guessL l n) = l.take n)
theorem misses_one (l : List UInt8) : misses l 1 := fun n h0 h1 => by omega
theorem misses_step {l : List UInt8} {k : Nat} (h : misses l k) (hk : ¬ (scalar (guessL l k) = true ∧ putL (guessL l k) = l.take k)) : misses l (k + 1) := by
  intro n h0 h1 h2
  by_cases e : n = k
  · subst e; exact hk
  · exact h n h0 (by omega) h2
theorem getL_miss {l : List UInt8} {k : Nat} (hl : l ≠ []) (h : misses l k) (hk : 4 < k ∨ l.length < k) : getL l = (-1, 1) := by
  rcases getL_cases hl with h0 | h0
  · exact h0
  · exfalso
    have hk2 := h0.len
    refine h (getL l).2 hk2.1 (by omega) hk2.2.2 ?_
    rw [guess_of h0]
    refine ⟨h0.scalar, ?_⟩
    unfold putL
    rw [if_pos h0.scalar]
    exact h0.encode

/-! ### all code points of a text -/
def allF : Nat → List UInt8 → List Int
  | 0, _ => []
  | f + 1, l => if l = [] then [] else (getL l).1 :: allF f (l.drop (getL l).2)
def allL (l : List UInt8) : List Int := allF l.length l
theorem allF_nil : ∀ f, allF f [] = []
  | 0 => rfl
  | _ + 1 => rfl
theorem allF_more : ∀ (f g : Nat) (l : List UInt8), l.length ≤ f → l.length ≤ g → allF f l = allF g l
  | f, g, [], _, _ => by rw [allF_nil, allF_nil]
  | 0, _, _ :: _, h, _ => by simp at h
  | _, 0, _ :: _, _, h => by simp at h
  | f + 1, g + 1, a :: l, h, h2 => by
    have hw := getL_width (l := a :: l) (by simp)
    have e : ¬ (a :: l) = [] := by simp
    simp only [List.length_cons] at h h2 hw
    have := allF_more f g ((a :: l).drop (getL (a :: l)).2) (by simp only [List.length_drop, List.length_cons]; omega) (by simp only [List.length_drop, List.length_cons]; omega)
    rw [allF, allF, if_neg e, if_neg e, this]
theorem allL_nil : allL [] = [] := rfl
theorem allL_cons {l : List UInt8} (h : l ≠ []) : allL l = (getL l).1 :: allL (l.drop (getL l).2) := by
  have hw := getL_width h
  obtain ⟨f, hf⟩ : ∃ f, l.length = f + 1 := ⟨l.length - 1, by omega⟩
  have := allF_more f (l.drop (getL l).2).length (l.drop (getL l).2) (by simp only [List.length_drop]; omega) (Nat.le_refl _)
  unfold allL
  rw [← this, hf, allF, if_neg h]
theorem allL_length : ∀ (n : Nat) (l : List UInt8), l.length ≤ n → (allL l).length ≤ l.length
  | 0, l, h => by
    have : l = [] := List.eq_nil_of_length_eq_zero (by omega)
    subst this; simp [allL_nil]
  | n + 1, l, h => by
    by_cases e : l = []
    · subst e; simp [allL_nil]
    · have hw := getL_width e
      rw [allL_cons e]
      have := allL_length n (l.drop (getL l).2) (by simp only [List.length_drop]; omega)
      simp only [List.length_drop, List.length_cons] at this ⊢
      omega
theorem allL_le (l : List UInt8) : (allL l).length ≤ l.length := allL_length l.length l (Nat.le_refl _)
def validL (l : List UInt8) : Bool := (allL l).all fun c => decide (0 ≤ c)
def joinL (xs : List Int) : List UInt8 := xs.flatMap putL
theorem joinL_snoc (xs : List Int) (c : Int) : joinL (xs ++ [c]) = joinL xs ++ putL c := by simp [joinL]
theorem joinL_cons (xs : List Int) (c : Int) : joinL (c :: xs) = putL c ++ joinL xs := by simp [joinL]

theorem join_all : ∀ (n : Nat) (l : List UInt8), l.length ≤ n → validL l = true → joinL (allL l) = l
  | 0, l, h, _ => by
    have : l = [] := List.eq_nil_of_length_eq_zero (by omega)
    subst this; simp [allL_nil, joinL]
  | n + 1, l, h, hv => by
    by_cases e : l = []
    · subst e; simp [allL_nil, joinL]
    · have hw := getL_width e
      unfold validL at hv
      rw [allL_cons e] at hv ⊢
      simp only [List.all_cons, Bool.and_eq_true, decide_eq_true_eq] at hv
      rw [joinL_cons, join_all n (l.drop (getL l).2) (by simp only [List.length_drop]; omega) hv.2]
      rcases getL_cases e with h0 | h0
      · rw [h0] at hv; simp at hv
      · rw [putL, if_pos h0.scalar, h0.encode, List.take_append_drop]
theorem put_ne {c : Int} (h : scalar c = true) : putL c ≠ [] := by
  rw [putL, if_pos h]
  intro e
  have := (Lib.runeCells_le c).1
  rw [Lib.runeCells_length, e] at this
  simp at this
theorem getL_put {c : Int} (more : List UInt8) (h : scalar c = true) : getL (putL c ++ more) = (c, (putL c).length) := by
  rw [putL, if_pos h]
  exact getL_of (begins_put more h)
theorem valid_join : ∀ (xs : List Int), validL (joinL xs) = true
  | [] => by simp [joinL, validL, allL_nil]
  | c :: xs => by
    rw [joinL_cons]
    cases h : scalar c with
    | false => rw [putL, h]; exact valid_join xs
    | true =>
      have hne : putL c ++ joinL xs ≠ [] := by
        intro e; exact put_ne h (List.append_eq_nil_iff.1 e).1
      have hv := valid_join xs
      unfold validL at hv ⊢
      rw [allL_cons hne, getL_put _ h]
      simp only [List.all_cons, List.drop_left, Bool.and_eq_true, decide_eq_true_eq]
      rw [scalar_iff] at h
      exact ⟨by omega, hv⟩
theorem put_len (c : Int) : (putL c).length ≤ 4 := by
  unfold putL
  split
  · rw [← Lib.runeCells_length]; exact (Lib.runeCells_le c).2
  · simp
theorem join_len : ∀ (xs : List Int), (joinL xs).length ≤ 4 * xs.length
  | [] => by simp [joinL]
  | c :: xs => by
    rw [joinL_cons]
    have := put_len c; have := join_len xs
    simp only [List.length_append, List.length_cons]; omega
theorem put_bad {c : Int} (h : scalar c = false) : putL c = [] := by simp [putL, h]
theorem put_good {c : Int} (h : scalar c = true) : putL c = Lib.encodeRune c := by simp [putL, h]

end Go.Proofs.YtoknfelheebidaaDoor.Ut

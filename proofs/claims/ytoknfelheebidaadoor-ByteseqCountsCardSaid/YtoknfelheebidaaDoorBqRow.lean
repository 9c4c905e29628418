/- One row and the texts that match it: plain words. -/
import Derived.Test.YtoknfelheebidaaDoorBqPlain
namespace Go.Proofs.YtoknfelheebidaaDoor.Bq
open Go Go.Proofs.YtoknfelheebidaaDoor.Ut Go.Proofs.YtoknfelheebidaaDoor.Rg

/-- the row of a part -/
def rowL (p : R) : List R := (ints (putL p.1)).zip (ints (putL p.2))
def inZ : List R → List Int → Bool
  | [], [] => true
  | r :: t, x :: u => decide (r.1 ≤ x) && decide (x ≤ r.2) && inZ t u
  | _, _ => false
theorem inZ_len : ∀ {r : List R} {b : List Int}, inZ r b = true → r.length = b.length
  | [], [], _ => rfl
  | _ :: t, _ :: u, h => by
    simp only [inZ, Bool.and_eq_true] at h
    simp [inZ_len h.2]
  | [], _ :: _, h => by simp [inZ] at h
  | _ :: _, [], h => by simp [inZ] at h
/-- does a text match a row -/
def matchB (row : List R) (b : List UInt8) : Bool := decide (0 < b.length) && inZ row (ints b)
/-- the code point whose bytes a text is -/
def cOf (b : List UInt8) : Option Int := if (getL b).2 = b.length ∧ 0 ≤ (getL b).1 then some (getL b).1 else none
theorem cOf_iff (b : List UInt8) (c : Int) : cOf b = some c ↔ Begins b c b.length := by
  unfold cOf
  constructor
  · intro h
    split at h
    · rename_i h1
      obtain rfl := Option.some.inj h
      by_cases hb : b = []
      · subst hb; rw [getL_nil] at h1; simp at h1
      · rcases getL_cases hb with h2 | h2
        · rw [h2] at h1; simp at h1
        · rw [h1.1] at h2; exact h2
    · cases h
  · intro h
    rw [getL_of h]
    have := h.scalar
    rw [scalar_iff] at this
    rw [if_pos ⟨rfl, by simp only; omega⟩]

theorem putZ {c : Int} (h : scalar c = true) : ints (putL c) = Lib.encodeRuneZ c := by rw [putL, if_pos h, ints_encode]
theorem ints_len (b : List UInt8) : (ints b).length = b.length := by simp [ints]
theorem putL_len {lo hi : Int} (h : Span lo hi) (hl : lo ≤ hi) : (putL lo).length = wid lo := by
  rw [← ints_len]
  rcases wid_span h hl with ⟨hw, h0, h1⟩ | ⟨hw, h0, h1⟩ | ⟨hw, h0, h1, h2⟩ | ⟨hw, h0, h1⟩
  · rw [putZ (by rw [scalar_iff]; omega), Lib.encodeRuneZ_one h0 (by omega), hw]; rfl
  · rw [putZ (by rw [scalar_iff]; omega), Lib.encodeRuneZ_two h0 (by omega), hw]; rfl
  · rw [putZ (by rw [scalar_iff]; omega), Lib.encodeRuneZ_three (by omega), hw]; rfl
  · rw [putZ (by rw [scalar_iff]; omega), Lib.encodeRuneZ_four h0 (by omega), hw]; rfl

theorem row1 {lo hi : Int} (h0 : 0 ≤ lo) (hl : lo ≤ hi) (h1 : hi ≤ 127) : rowL (lo, hi) = [(lo, hi)] := by
  unfold rowL
  rw [putZ (by rw [scalar_iff]; simp only; omega), putZ (by rw [scalar_iff]; simp only; omega), Lib.encodeRuneZ_one (by simp only; omega) (by simp only; omega), Lib.encodeRuneZ_one (by simp only; omega) (by simp only; omega)]; rfl
theorem row2 {lo hi : Int} (h0 : 128 ≤ lo) (hl : lo ≤ hi) (h1 : hi ≤ 2047) : rowL (lo, hi) = [(192 + lo / 64, 192 + hi / 64), (128 + lo % 64, 128 + hi % 64)] := by
  unfold rowL
  rw [putZ (by rw [scalar_iff]; simp only; omega), putZ (by rw [scalar_iff]; simp only; omega), Lib.encodeRuneZ_two (by simp only; omega) (by simp only; omega), Lib.encodeRuneZ_two (by simp only; omega) (by simp only; omega)]; rfl
theorem row3 {lo hi : Int} (hl : lo ≤ hi) (h : (2048 ≤ lo ∧ hi ≤ 55295) ∨ (57344 ≤ lo ∧ hi ≤ 65535)) : rowL (lo, hi) = [(224 + lo / 4096, 224 + hi / 4096), (128 + lo / 64 % 64, 128 + hi / 64 % 64), (128 + lo % 64, 128 + hi % 64)] := by
  unfold rowL
  rw [putZ (by rw [scalar_iff]; simp only; omega), putZ (by rw [scalar_iff]; simp only; omega), Lib.encodeRuneZ_three (by simp only; omega), Lib.encodeRuneZ_three (by simp only; omega)]; rfl
theorem row4 {lo hi : Int} (h0 : 65536 ≤ lo) (hl : lo ≤ hi) (h1 : hi ≤ 1114111) : rowL (lo, hi) = [(240 + lo / 262144, 240 + hi / 262144), (128 + lo / 4096 % 64, 128 + hi / 4096 % 64), (128 + lo / 64 % 64, 128 + hi / 64 % 64), (128 + lo % 64, 128 + hi % 64)] := by
  unfold rowL
  rw [putZ (by rw [scalar_iff]; simp only; omega), putZ (by rw [scalar_iff]; simp only; omega), Lib.encodeRuneZ_four (by simp only; omega) (by simp only; omega), Lib.encodeRuneZ_four (by simp only; omega) (by simp only; omega)]; rfl

theorem ints1 {b : List UInt8} (h : b.length = 1) : ints b = [Ut.nth b 0] := by have := take1 b (by omega); rwa [List.take_of_length_le (by omega)] at this
theorem ints2 {b : List UInt8} (h : b.length = 2) : ints b = [Ut.nth b 0, Ut.nth b 1] := by have := take2 b (by omega); rwa [List.take_of_length_le (by omega)] at this
theorem ints3 {b : List UInt8} (h : b.length = 3) : ints b = [Ut.nth b 0, Ut.nth b 1, Ut.nth b 2] := by have := take3 b (by omega); rwa [List.take_of_length_le (by omega)] at this
theorem ints4 {b : List UInt8} (h : b.length = 4) : ints b = [Ut.nth b 0, Ut.nth b 1, Ut.nth b 2, Ut.nth b 3] := by have := take4 b (by omega); rwa [List.take_of_length_le (by omega)] at this

/-! ### digits -/
structure Dig (x a b c d : Int) : Prop where
  a0 : 0 ≤ a
  b0 : 0 ≤ b ∧ b < 64
  c0 : 0 ≤ c ∧ c < 64
  d0 : 0 ≤ d ∧ d < 64
  x : x = 262144 * a + 4096 * b + 64 * c + d
theorem dig {x : Int} (h : 0 ≤ x) : Dig x (x / 262144) (x / 4096 % 64) (x / 64 % 64) (x % 64) := ⟨by omega, by omega, by omega, by omega, by omega⟩
theorem Dig.q1 {x a b c d : Int} (h : Dig x a b c d) : x / 64 = 4096 * a + 64 * b + c := by obtain ⟨_, _, _, _, rfl⟩ := h; omega
theorem Dig.q2 {x a b c d : Int} (h : Dig x a b c d) : x / 4096 = 64 * a + b := by obtain ⟨_, _, _, _, rfl⟩ := h; omega
theorem Dig.q3 {x a b c d : Int} (h : Dig x a b c d) : x / 262144 = a := by obtain ⟨_, _, _, _, rfl⟩ := h; omega
theorem Dig.m1 {x a b c d : Int} (h : Dig x a b c d) : x % 64 = d := by obtain ⟨_, _, _, _, rfl⟩ := h; omega
theorem Dig.m2 {x a b c d : Int} (h : Dig x a b c d) : x % 4096 = 64 * c + d := by obtain ⟨_, _, _, _, rfl⟩ := h; omega
theorem Dig.m3 {x a b c d : Int} (h : Dig x a b c d) : x % 262144 = 4096 * b + 64 * c + d := by obtain ⟨_, _, _, _, rfl⟩ := h; omega
theorem Dig.n2 {x a b c d : Int} (h : Dig x a b c d) : x / 64 % 64 = c := by rw [h.q1]; obtain ⟨_, _, _, _, rfl⟩ := h; omega
theorem Dig.n3 {x a b c d : Int} (h : Dig x a b c d) : x / 4096 % 64 = b := by rw [h.q2]; obtain ⟨_, _, _, _, rfl⟩ := h; omega
/-- one row, by digits -/
def OneD (a b c d a' b' c' d' : Int) : Prop := (a = a' ∧ b = b' ∧ c = c') ∨ (d = 0 ∧ d' = 63 ∧ ((a = a' ∧ b = b') ∨ (c = 0 ∧ c' = 63 ∧ (a = a' ∨ (b = 0 ∧ b' = 63)))))
theorem one_d {x y a b c d a' b' c' d' : Int} (h : Dig x a b c d) (k : Dig y a' b' c' d')
    (ho : x / 64 = y / 64 ∨ (Low 64 x y ∧ (x / 4096 = y / 4096 ∨ (Low 4096 x y ∧ (x / 262144 = y / 262144 ∨ Low 262144 x y))))) : OneD a b c d a' b' c' d' := by
  unfold Low at ho
  rw [h.q1, k.q1, h.q2, k.q2, h.q3, k.q3, h.m1, k.m1, h.m2, k.m2, h.m3, k.m3] at ho
  obtain ⟨a0, b0, c0, d0, _⟩ := h
  obtain ⟨a1, b1, c1, d1, _⟩ := k
  unfold OneD
  rcases ho with e | ⟨e1, e | ⟨e2, e | e⟩⟩
  · exact .inl (by omega)
  · exact .inr ⟨by omega, by omega, .inl (by omega)⟩
  · exact .inr ⟨by omega, by omega, .inr ⟨by omega, by omega, .inl (by omega)⟩⟩
  · exact .inr ⟨by omega, by omega, .inr ⟨by omega, by omega, .inr (by omega)⟩⟩
/-- what is between two such numbers, by its digits -/
theorem OneD.between {a b c d a' b' c' d' p q r s : Int} (h : OneD a b c d a' b' c' d') (hb : 0 ≤ q ∧ q < 64) (hc : 0 ≤ r ∧ r < 64) (hd : 0 ≤ s ∧ s < 64) (hb1 : 0 ≤ b ∧ b < 64) (hb2 : 0 ≤ b' ∧ b' < 64) (hc1 : 0 ≤ c ∧ c < 64) (hc2 : 0 ≤ c' ∧ c' < 64) (hd1 : 0 ≤ d ∧ d < 64) (hd2 : 0 ≤ d' ∧ d' < 64) :
    (262144 * a + 4096 * b + 64 * c + d ≤ 262144 * p + 4096 * q + 64 * r + s ∧ 262144 * p + 4096 * q + 64 * r + s ≤ 262144 * a' + 4096 * b' + 64 * c' + d') ↔ ((a ≤ p ∧ p ≤ a') ∧ (b ≤ q ∧ q ≤ b') ∧ (c ≤ r ∧ r ≤ c') ∧ (d ≤ s ∧ s ≤ d')) := by
  rcases h with ⟨rfl, rfl, rfl⟩ | ⟨rfl, rfl, ⟨rfl, rfl⟩ | ⟨rfl, rfl, rfl | ⟨rfl, rfl⟩⟩⟩
  · constructor
    · rintro ⟨h1, h2⟩
      have e1 : p = a := by omega
      subst e1
      have e2 : q = b := by omega
      subst e2
      have e3 : r = c := by omega
      subst e3
      omega
    · rintro ⟨h1, h2, h3, h4⟩
      obtain rfl : p = a := by omega
      obtain rfl : q = b := by omega
      obtain rfl : r = c := by omega
      omega
  · constructor
    · rintro ⟨h1, h2⟩
      have e1 : p = a := by omega
      subst e1
      have e2 : q = b := by omega
      subst e2
      omega
    · rintro ⟨h1, h2, h3, h4⟩
      obtain rfl : p = a := by omega
      obtain rfl : q = b := by omega
      omega
  · constructor
    · rintro ⟨h1, h2⟩
      have e1 : p = a := by omega
      subst e1
      omega
    · rintro ⟨h1, h2, h3, h4⟩
      obtain rfl : p = a := by omega
      omega
  · constructor
    · rintro ⟨h1, h2⟩
      omega
    · rintro ⟨h1, h2, h3, h4⟩
      omega
theorem OneD.prod {a b c d a' b' c' d' : Int} (h : OneD a b c d a' b' c' d') : 1 * (a' - a + 1) * (b' - b + 1) * (c' - c + 1) * (d' - d + 1) = 262144 * a' + 4096 * b' + 64 * c' + d' - (262144 * a + 4096 * b + 64 * c + d) + 1 := by
  rcases h with ⟨rfl, rfl, rfl⟩ | ⟨rfl, rfl, ⟨rfl, rfl⟩ | ⟨rfl, rfl, rfl | ⟨rfl, rfl⟩⟩⟩ <;> omega

theorem begins3 {b : List UInt8} {q r s : Int} (h : 3 ≤ b.length) (e0 : Ut.nth b 0 - 224 = q) (e1 : Ut.nth b 1 - 128 = r) (e2 : Ut.nth b 2 - 128 = s) (hr : 0 ≤ r ∧ r < 64) (hs : 0 ≤ s ∧ s < 64)
    (hc : (2048 ≤ 262144 * 0 + 4096 * q + 64 * r + s ∧ 262144 * 0 + 4096 * q + 64 * r + s < 55296) ∨ (57343 < 262144 * 0 + 4096 * q + 64 * r + s ∧ 262144 * 0 + 4096 * q + 64 * r + s ≤ 65535)) : Begins b (262144 * 0 + 4096 * q + 64 * r + s) 3 :=
  Begins.three h hc (by omega) (by omega) (by omega)
theorem begins4 {b : List UInt8} {p q r s : Int} (h : 4 ≤ b.length) (e0 : Ut.nth b 0 - 240 = p) (e1 : Ut.nth b 1 - 128 = q) (e2 : Ut.nth b 2 - 128 = r) (e3 : Ut.nth b 3 - 128 = s) (hq : 0 ≤ q ∧ q < 64) (hr : 0 ≤ r ∧ r < 64) (hs : 0 ≤ s ∧ s < 64)
    (h0 : 65536 ≤ 262144 * p + 4096 * q + 64 * r + s) (h1 : 262144 * p + 4096 * q + 64 * r + s ≤ 1114111) : Begins b (262144 * p + 4096 * q + 64 * r + s) 4 :=
  Begins.four h h0 h1 (by omega) (by omega) (by omega) (by omega)

/-- a text is the bytes of a code point between two -/
def Among (lo hi : Int) (b : List UInt8) : Prop := ∃ c, lo ≤ c ∧ c ≤ hi ∧ Begins b c b.length

theorem hit1 {lo hi : Int} {b : List UInt8} (h0 : 0 ≤ lo) (hl : lo ≤ hi) (h1 : hi ≤ 127) : inZ (rowL (lo, hi)) (ints b) = true ↔ Among lo hi b := by
  rw [row1 h0 hl h1]
  constructor
  · intro h
    have hn : b.length = 1 := by have := inZ_len h; rw [ints_len] at this; simpa using this.symm
    rw [ints1 hn] at h
    simp only [inZ, Bool.and_eq_true, decide_eq_true_eq, and_true] at h
    exact ⟨Ut.nth b 0, h.1, h.2, by rw [hn]; exact Begins.one (by omega) (by omega) (by omega) rfl⟩
  · rintro ⟨c, c0, c1, h⟩
    rcases h with ⟨hn, h, a0, a1, e0⟩ | ⟨hn, h, a0, a1, e0, e1⟩ | ⟨hn, h, a0, e0, e1, e2⟩ | ⟨hn, h, a0, a1, e0, e1, e2, e3⟩
    · rw [ints1 hn]
      simp only [inZ, Bool.and_eq_true, decide_eq_true_eq, and_true]
      omega
    all_goals omega
theorem hit2 {lo hi : Int} {b : List UInt8} (h0 : 128 ≤ lo) (hl : lo ≤ hi) (h1 : hi ≤ 2047) (ho : OneD (lo / 262144) (lo / 4096 % 64) (lo / 64 % 64) (lo % 64) (hi / 262144) (hi / 4096 % 64) (hi / 64 % 64) (hi % 64)) : inZ (rowL (lo, hi)) (ints b) = true ↔ Among lo hi b := by
  rw [row2 h0 hl h1]
  have dl := dig (x := lo) (by omega)
  have dh := dig (x := hi) (by omega)
  constructor
  · intro h
    have hn : b.length = 2 := by have := inZ_len h; rw [ints_len] at this; simpa using this.symm
    rw [ints2 hn] at h
    simp only [inZ, Bool.and_eq_true, decide_eq_true_eq, and_true] at h
    obtain ⟨⟨p1, p2⟩, p3, p4⟩ := h
    have hb := (ho.between (p := 0) (q := 0) (r := Ut.nth b 0 - 192) (s := Ut.nth b 1 - 128) (by omega) (by omega) (by omega) dl.b0 dh.b0 dl.c0 dh.c0 dl.d0 dh.d0).2 (by omega)
    rw [← dl.x, ← dh.x] at hb
    exact ⟨_, hb.1, hb.2, by rw [hn]; exact Begins.two (by omega) (by omega) (by omega) (by omega) (by omega)⟩
  · rintro ⟨c, c0, c1, h⟩
    have dc := dig (x := c) (by omega)
    have hb := (ho.between (p := c / 262144) dc.b0 dc.c0 dc.d0 dl.b0 dh.b0 dl.c0 dh.c0 dl.d0 dh.d0).1 (by rw [← dl.x, ← dh.x, ← dc.x]; exact ⟨c0, c1⟩)
    rcases h with ⟨hn, h, a0, a1, e0⟩ | ⟨hn, h, a0, a1, e0, e1⟩ | ⟨hn, h, a0, e0, e1, e2⟩ | ⟨hn, h, a0, a1, e0, e1, e2, e3⟩
    · omega
    · rw [ints2 hn, e0, e1]
      simp only [inZ, Bool.and_eq_true, decide_eq_true_eq, and_true]
      omega
    all_goals omega
theorem hitD3 {a b c d a' b' c' d' : Int} {t : List UInt8} (ho : OneD a b c d a' b' c' d') (ha : a = 0 ∧ a' = 0) (hb : 0 ≤ b ∧ b < 64) (hb' : 0 ≤ b' ∧ b' < 64) (hc : 0 ≤ c ∧ c < 64) (hc' : 0 ≤ c' ∧ c' < 64) (hd : 0 ≤ d ∧ d < 64) (hd' : 0 ≤ d' ∧ d' < 64)
    (hs : (2048 ≤ 262144 * a + 4096 * b + 64 * c + d ∧ 262144 * a' + 4096 * b' + 64 * c' + d' ≤ 55295) ∨ (57344 ≤ 262144 * a + 4096 * b + 64 * c + d ∧ 262144 * a' + 4096 * b' + 64 * c' + d' ≤ 65535)) :
    inZ [(224 + b, 224 + b'), (128 + c, 128 + c'), (128 + d, 128 + d')] (ints t) = true ↔ Among (262144 * a + 4096 * b + 64 * c + d) (262144 * a' + 4096 * b' + 64 * c' + d') t := by
  obtain ⟨rfl, rfl⟩ := ha
  constructor
  · intro h
    have hn : t.length = 3 := by have := inZ_len h; rw [ints_len] at this; simpa using this.symm
    rw [ints3 hn] at h
    simp only [inZ, Bool.and_eq_true, decide_eq_true_eq, and_true] at h
    obtain ⟨⟨p1, p2⟩, ⟨p3, p4⟩, p5, p6⟩ := h
    have hb2 := (ho.between (p := 0) (q := Ut.nth t 0 - 224) (r := Ut.nth t 1 - 128) (s := Ut.nth t 2 - 128) (by omega) (by omega) (by omega) hb hb' hc hc' hd hd').2 ⟨⟨Int.le_refl _, Int.le_refl _⟩, ⟨by omega, by omega⟩, ⟨by omega, by omega⟩, ⟨by omega, by omega⟩⟩
    exact ⟨_, hb2.1, hb2.2, by rw [hn]; exact begins3 (by omega) rfl rfl rfl (by omega) (by omega) (by omega)⟩
  · rintro ⟨x, c0, c1, h⟩
    rcases h with ⟨hn, h, a0, a1, e0⟩ | ⟨hn, h, a0, a1, e0, e1⟩ | ⟨hn, h, a0, e0, e1, e2⟩ | ⟨hn, h, a0, a1, e0, e1, e2, e3⟩
    · omega
    · omega
    · obtain ⟨p, q, r, s, dx, ep, eq, er, es⟩ : ∃ p q r s, Dig x p q r s ∧ x / 262144 = p ∧ x / 4096 = q ∧ x / 64 % 64 = r ∧ x % 64 = s := ⟨_, _, _, _, dig (x := x) (by omega), rfl, by omega, rfl, rfl⟩
      rw [eq] at e0
      rw [er] at e1
      rw [es] at e2
      have hx := dx.x
      have hb2 := (ho.between (p := p) (q := q) (r := r) (s := s) dx.b0 dx.c0 dx.d0 hb hb' hc hc' hd hd').1 (by rw [← hx]; exact ⟨c0, c1⟩)
      rw [ints3 hn, e0, e1, e2]
      simp only [inZ, Bool.and_eq_true, decide_eq_true_eq, and_true, Int.add_le_add_iff_left]
      exact hb2.2
    · omega
theorem hitD4 {a b c d a' b' c' d' : Int} {t : List UInt8} (ho : OneD a b c d a' b' c' d') (hb : 0 ≤ b ∧ b < 64) (hb' : 0 ≤ b' ∧ b' < 64) (hc : 0 ≤ c ∧ c < 64) (hc' : 0 ≤ c' ∧ c' < 64) (hd : 0 ≤ d ∧ d < 64) (hd' : 0 ≤ d' ∧ d' < 64)
    (hs : 65536 ≤ 262144 * a + 4096 * b + 64 * c + d) (hs' : 262144 * a' + 4096 * b' + 64 * c' + d' ≤ 1114111) :
    inZ [(240 + a, 240 + a'), (128 + b, 128 + b'), (128 + c, 128 + c'), (128 + d, 128 + d')] (ints t) = true ↔ Among (262144 * a + 4096 * b + 64 * c + d) (262144 * a' + 4096 * b' + 64 * c' + d') t := by
  constructor
  · intro h
    have hn : t.length = 4 := by have := inZ_len h; rw [ints_len] at this; simpa using this.symm
    rw [ints4 hn] at h
    simp only [inZ, Bool.and_eq_true, decide_eq_true_eq, and_true] at h
    obtain ⟨⟨p1, p2⟩, ⟨p3, p4⟩, ⟨p5, p6⟩, p7, p8⟩ := h
    have hb2 := (ho.between (p := Ut.nth t 0 - 240) (q := Ut.nth t 1 - 128) (r := Ut.nth t 2 - 128) (s := Ut.nth t 3 - 128) (by omega) (by omega) (by omega) hb hb' hc hc' hd hd').2 ⟨⟨by omega, by omega⟩, ⟨by omega, by omega⟩, ⟨by omega, by omega⟩, ⟨by omega, by omega⟩⟩
    exact ⟨_, hb2.1, hb2.2, by rw [hn]; exact begins4 (by omega) rfl rfl rfl rfl (by omega) (by omega) (by omega) (by omega) (by omega)⟩
  · rintro ⟨x, c0, c1, h⟩
    rcases h with ⟨hn, h, a0, a1, e0⟩ | ⟨hn, h, a0, a1, e0, e1⟩ | ⟨hn, h, a0, e0, e1, e2⟩ | ⟨hn, h, a0, a1, e0, e1, e2, e3⟩
    · omega
    · omega
    · omega
    · obtain ⟨p, q, r, s, dx, ep, eq, er, es⟩ : ∃ p q r s, Dig x p q r s ∧ x / 262144 = p ∧ x / 4096 % 64 = q ∧ x / 64 % 64 = r ∧ x % 64 = s := ⟨_, _, _, _, dig (x := x) (by omega), rfl, rfl, rfl, rfl⟩
      rw [ep] at e0
      rw [eq] at e1
      rw [er] at e2
      rw [es] at e3
      have hx := dx.x
      have hb2 := (ho.between (p := p) (q := q) (r := r) (s := s) dx.b0 dx.c0 dx.d0 hb hb' hc hc' hd hd').1 (by rw [← hx]; exact ⟨c0, c1⟩)
      rw [ints4 hn, e0, e1, e2, e3]
      simp only [inZ, Bool.and_eq_true, decide_eq_true_eq, and_true, Int.add_le_add_iff_left]
      exact hb2
theorem hit3 {lo hi : Int} {b : List UInt8} (hl : lo ≤ hi) (hs : (2048 ≤ lo ∧ hi ≤ 55295) ∨ (57344 ≤ lo ∧ hi ≤ 65535)) (ho : OneD (lo / 262144) (lo / 4096 % 64) (lo / 64 % 64) (lo % 64) (hi / 262144) (hi / 4096 % 64) (hi / 64 % 64) (hi % 64)) : inZ (rowL (lo, hi)) (ints b) = true ↔ Among lo hi b := by
  have dl := dig (x := lo) (by omega)
  have dh := dig (x := hi) (by omega)
  have h := hitD3 (t := b) ho ⟨by omega, by omega⟩ dl.b0 dh.b0 dl.c0 dh.c0 dl.d0 dh.d0 (by rw [← dl.x, ← dh.x]; exact hs)
  rw [← dl.x, ← dh.x, show lo / 4096 % 64 = lo / 4096 by omega, show hi / 4096 % 64 = hi / 4096 by omega] at h
  rw [row3 hl hs]
  exact h
theorem hit4 {lo hi : Int} {b : List UInt8} (h0 : 65536 ≤ lo) (hl : lo ≤ hi) (h1 : hi ≤ 1114111) (ho : OneD (lo / 262144) (lo / 4096 % 64) (lo / 64 % 64) (lo % 64) (hi / 262144) (hi / 4096 % 64) (hi / 64 % 64) (hi % 64)) : inZ (rowL (lo, hi)) (ints b) = true ↔ Among lo hi b := by
  have dl := dig (x := lo) (by omega)
  have dh := dig (x := hi) (by omega)
  have h := hitD4 (t := b) ho dl.b0 dh.b0 dl.c0 dh.c0 dl.d0 dh.d0 (by rw [← dl.x]; exact h0) (by rw [← dh.x]; exact h1)
  rw [← dl.x, ← dh.x] at h
  rw [row4 h0 hl h1]
  exact h

theorem Cell.digits {p : R} (h : Cell p) (h0 : 128 ≤ p.1) : OneD (p.1 / 262144) (p.1 / 4096 % 64) (p.1 / 64 % 64) (p.1 % 64) (p.2 / 262144) (p.2 / 4096 % 64) (p.2 / 64 % 64) (p.2 % 64) := by
  obtain ⟨hs, hl, ho⟩ := h
  refine one_d (dig (x := p.1) (by omega)) (dig (x := p.2) (by omega)) ?_
  rcases ho with ho | ho
  · omega
  · exact ho
theorem Cell.hit {p : R} (h : Cell p) (b : List UInt8) : inZ (rowL p) (ints b) = true ↔ Among p.1 p.2 b := by
  have hd := h.digits
  obtain ⟨lo, hi⟩ := p
  obtain ⟨hs, hl, ho⟩ := h
  simp only at hs hl ho hd
  rcases wid_span hs hl with ⟨_, h0, h1⟩ | ⟨_, h0, h1⟩ | ⟨_, h0, h1, h2⟩ | ⟨_, h0, h1⟩
  · exact hit1 h0 hl h1
  · exact hit2 h0 hl h1 (hd h0)
  · exact hit3 hl h2 (hd (by omega))
  · exact hit4 h0 hl h1 (hd (by omega))

/-- a text matches a part's row -/
theorem Cell.matches' {p : R} (h : Cell p) (b : List UInt8) : matchB (rowL p) b = match cOf b with
    | some c => decide (p.1 ≤ c) && decide (c ≤ p.2)
    | none => false := by
  have hh := h.hit b
  unfold matchB
  cases hc : cOf b with
  | none =>
    simp only [Bool.and_eq_false_iff]
    right
    rw [← Bool.not_eq_true, hh]
    rintro ⟨c, _, _, hb⟩
    rw [← cOf_iff, hc] at hb
    cases hb
  | some c =>
    have hb := (cOf_iff b c).1 hc
    have hlen := hb.len
    rw [show decide (0 < b.length) = true by simp; omega, Bool.true_and, Bool.eq_iff_iff, hh]
    simp only [Bool.and_eq_true, decide_eq_true_eq]
    constructor
    · rintro ⟨c', h1, h2, hb'⟩
      rw [← cOf_iff, hc] at hb'
      obtain rfl := Option.some.inj hb'
      exact ⟨h1, h2⟩
    · rintro ⟨h1, h2⟩
      exact ⟨c, h1, h2, hb⟩

/-! ### how many texts -/
def prodA : Int → List R → Int
  | a, [] => a
  | a, r :: t => prodA (a * (r.2 - r.1 + 1)) t
theorem Cell.prod {p : R} (h : Cell p) : prodA 1 (rowL p) = p.2 - p.1 + 1 := by
  have hd := h.digits
  obtain ⟨lo, hi⟩ := p
  obtain ⟨hs, hl, ho⟩ := h
  simp only at hs hl ho hd ⊢
  rcases wid_span hs hl with ⟨_, h0, h1⟩ | ⟨_, h0, h1⟩ | ⟨_, h0, h1, h2⟩ | ⟨_, h0, h1⟩
  · rw [row1 h0 hl h1]; simp only [prodA]; omega
  · have dl := dig (x := lo) (by omega)
    have dh := dig (x := hi) (by omega)
    have hp := (hd h0).prod
    rw [← dl.x, ← dh.x] at hp
    rw [row2 h0 hl h1, ← hp, show lo / 262144 = 0 by omega, show hi / 262144 = 0 by omega, show lo / 4096 % 64 = 0 by omega, show hi / 4096 % 64 = 0 by omega, show lo / 64 % 64 = lo / 64 by omega, show hi / 64 % 64 = hi / 64 by omega]
    simp only [prodA]
    rw [show (192 + hi / 64 - (192 + lo / 64) + 1) = hi / 64 - lo / 64 + 1 by omega, show (128 + hi % 64 - (128 + lo % 64) + 1) = hi % 64 - lo % 64 + 1 by omega]
    rfl
  · have dl := dig (x := lo) (by omega)
    have dh := dig (x := hi) (by omega)
    have hp := (hd (by omega)).prod
    rw [← dl.x, ← dh.x] at hp
    rw [row3 hl h2, ← hp, show lo / 262144 = 0 by omega, show hi / 262144 = 0 by omega, show lo / 4096 % 64 = lo / 4096 by omega, show hi / 4096 % 64 = hi / 4096 by omega]
    simp only [prodA]
    rw [show (224 + hi / 4096 - (224 + lo / 4096) + 1) = hi / 4096 - lo / 4096 + 1 by omega, show (128 + hi % 64 - (128 + lo % 64) + 1) = hi % 64 - lo % 64 + 1 by omega, show (128 + hi / 64 % 64 - (128 + lo / 64 % 64) + 1) = hi / 64 % 64 - lo / 64 % 64 + 1 by omega]
    rfl
  · have dl := dig (x := lo) (by omega)
    have dh := dig (x := hi) (by omega)
    have hp := (hd (by omega)).prod
    rw [← dl.x, ← dh.x] at hp
    rw [row4 h0 hl h1, ← hp]
    simp only [prodA]
    rw [show (240 + hi / 262144 - (240 + lo / 262144) + 1) = hi / 262144 - lo / 262144 + 1 by omega, show (128 + hi / 4096 % 64 - (128 + lo / 4096 % 64) + 1) = hi / 4096 % 64 - lo / 4096 % 64 + 1 by omega, show (128 + hi % 64 - (128 + lo % 64) + 1) = hi % 64 - lo % 64 + 1 by omega, show (128 + hi / 64 % 64 - (128 + lo / 64 % 64) + 1) = hi / 64 % 64 - lo / 64 % 64 + 1 by omega]

/-- each range of a part's row is one of bytes; there are one to four -/
structure Good (row : List R) : Prop where
  len : 1 ≤ row.length ∧ row.length ≤ 4
  bytes : ∀ r ∈ row, 0 ≤ r.1 ∧ r.1 ≤ r.2 ∧ r.2 ≤ 255
theorem Cell.good {p : R} (h : Cell p) : Good (rowL p) ∧ (rowL p).length = wid p.1 := by
  have hd := h.digits
  obtain ⟨lo, hi⟩ := p
  obtain ⟨hs, hl, ho⟩ := h
  simp only at hs hl ho hd ⊢
  have ord : 128 ≤ lo → _ := fun h0 => ((hd h0).between (p := lo / 262144) (dig (x := lo) (by omega)).b0 (dig (x := lo) (by omega)).c0 (dig (x := lo) (by omega)).d0 (dig (x := lo) (by omega)).b0 (dig (x := hi) (by omega)).b0 (dig (x := lo) (by omega)).c0 (dig (x := hi) (by omega)).c0 (dig (x := lo) (by omega)).d0 (dig (x := hi) (by omega)).d0).1 (by rw [← (dig (x := lo) (by omega)).x, ← (dig (x := hi) (by omega)).x]; exact ⟨Int.le_refl _, hl⟩)
  rcases wid_span hs hl with ⟨hw, h0, h1⟩ | ⟨hw, h0, h1⟩ | ⟨hw, h0, h1, h2⟩ | ⟨hw, h0, h1⟩
  · rw [row1 h0 hl h1, hw]
    exact ⟨⟨by simp, fun r hr => by simp at hr; subst hr; simp only; omega⟩, rfl⟩
  · rw [row2 h0 hl h1, hw]
    obtain ⟨o1, o2, o3, o4⟩ := ord h0
    refine ⟨⟨by simp, fun r hr => ?_⟩, rfl⟩
    simp at hr
    rcases hr with rfl | rfl <;> simp only <;> omega
  · rw [row3 hl h2, hw]
    obtain ⟨o1, o2, o3, o4⟩ := ord (by omega)
    refine ⟨⟨by simp, fun r hr => ?_⟩, rfl⟩
    simp at hr
    rcases hr with rfl | rfl | rfl <;> simp only <;> omega
  · rw [row4 h0 hl h1, hw]
    obtain ⟨o1, o2, o3, o4⟩ := ord (by omega)
    refine ⟨⟨by simp, fun r hr => ?_⟩, rfl⟩
    simp at hr
    rcases hr with rfl | rfl | rfl | rfl <;> simp only <;> omega

end Go.Proofs.YtoknfelheebidaaDoor.Bq

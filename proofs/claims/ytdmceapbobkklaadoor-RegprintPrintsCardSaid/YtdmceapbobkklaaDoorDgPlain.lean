/- Plain facts about digits, for the laws of layer digit: no program is named here. -/
import Derived.Lib.ItoaNum
import Derived.WalkKit
namespace Go.Proofs.YtdmceapbobkklaaDoor.Dg

/-- a digit 0 to 9 -/
def isDig (c : UInt8) : Bool := decide (48 ≤ c.toNat) && decide (c.toNat ≤ 57)
theorem isDig_iff (c : UInt8) : isDig c = true ↔ 48 ≤ c.toNat ∧ c.toNat ≤ 57 := by simp [isDig]
theorem isDig_yes {c : UInt8} (h : 48 ≤ (c.toNat : Int) ∧ (c.toNat : Int) ≤ 57) : isDig c = true := (isDig_iff c).2 (by omega)
theorem isDig_no {c : UInt8} (h : (c.toNat : Int) < 48 ∨ 57 < (c.toNat : Int)) : isDig c = false := by
  cases e : isDig c
  · rfl
  · have := (isDig_iff c).1 e; omega
/-- one more digit, at most 10^9 -/
def step (n : Nat) (c : UInt8) : Nat := min (10 * n + (c.toNat - 48)) 1000000000
/-- what Lead tells from a place on: the number, the place -/
def goLead : List UInt8 → Nat → Nat → Nat × Nat
  | [], n, k => (n, k)
  | c :: r, n, k => if isDig c then goLead r (step n c) (k + 1) else (n, k)

theorem goLead_stop {c : UInt8} {r : List UInt8} {n k : Nat} (h : isDig c = false) : goLead (c :: r) n k = (n, k) := by
  rw [goLead, if_neg (by simp [h])]
theorem goLead_step {c : UInt8} {r : List UInt8} {n k : Nat} (h : isDig c = true) : goLead (c :: r) n k = goLead r (step n c) (k + 1) := by
  rw [goLead, if_pos h]
theorem goLead_le : ∀ (l : List UInt8) (n k : Nat), n ≤ 1000000000 → (goLead l n k).1 ≤ 1000000000 ∧ k ≤ (goLead l n k).2 ∧ (goLead l n k).2 ≤ k + l.length
  | [], n, k, h => ⟨h, Nat.le_refl _, Nat.le_refl _⟩
  | c :: r, n, k, h => by
    unfold goLead
    split
    · have := goLead_le r (step n c) (k + 1) (Nat.min_le_right _ _)
      simp only [List.length_cons]
      omega
    · simp only [List.length_cons]; omega

theorem drop_at {l : List UInt8} {k : Nat} (h : k < l.length) : l.drop k = l[k] :: l.drop (k + 1) := List.drop_eq_getElem_cons h

/-- the step of the loop -/
theorem lead_next {s : ByteArray} {n k : Nat} (hk : k < s.size) (h : isDig s[k] = true) :
    goLead (s.data.toList.drop k) n k = goLead (s.data.toList.drop (k + 1)) (step n s[k]) (k + 1) := by
  rw [drop_at (by simpa using hk)]; exact goLead_step h
theorem lead_stop {s : ByteArray} {n k : Nat} (hk : k < s.size) (h : isDig s[k] = false) :
    goLead (s.data.toList.drop k) n k = (n, k) := by
  rw [drop_at (by simpa using hk)]; exact goLead_stop h
theorem lead_end {s : ByteArray} {n k : Nat} (hk : s.size ≤ k) : goLead (s.data.toList.drop k) n k = (n, k) := by
  rw [List.drop_of_length_le (by simpa using hk)]; rfl
theorem step_big {n : Nat} {c : UInt8} (hn : 100000000 ≤ n) : step n c = 1000000000 := by unfold step; omega
theorem step_small {n : Nat} {c : UInt8} (hn : n < 100000000) (hc : isDig c = true) : step n c = n * 10 + (c.toNat - 48) := by
  rw [isDig_iff] at hc; unfold step; omega

/-- a digit of 16: its number -/
def hexV (c : UInt8) : Option Nat :=
  if 48 ≤ c.toNat ∧ c.toNat ≤ 57 then some (c.toNat - 48)
  else if 97 ≤ c.toNat ∧ c.toNat ≤ 102 then some (c.toNat - 87)
  else if 65 ≤ c.toNat ∧ c.toNat ≤ 70 then some (c.toNat - 55)
  else none


/-- the digits of 16: by their number, the letters small; behind these the capital ones -/
def tab : List UInt8 := [48, 49, 50, 51, 52, 53, 54, 55, 56, 57, 97, 98, 99, 100, 101, 102, 65, 66, 67, 68, 69, 70]
/-- the first place at which c is -/
def fidx : List UInt8 → UInt8 → Nat → Option Nat
  | [], _, _ => none
  | x :: r, c, k => if x = c then some k else fidx r c (k + 1)
theorem fidx_hit {l : List UInt8} {c : UInt8} {k : Nat} (hk : k < l.length) (h : l.getD k 0 = c) : fidx (l.drop k) c k = some k := by
  rw [drop_at hk, fidx, if_pos (by simpa [List.getD, hk] using h)]
theorem fidx_miss {l : List UInt8} {c : UInt8} {k : Nat} (hk : k < l.length) (h : l.getD k 0 ≠ c) : fidx (l.drop k) c k = fidx (l.drop (k + 1)) c (k + 1) := by
  rw [drop_at hk, fidx, if_neg (by simpa [List.getD, hk] using h)]
def place (i : Nat) : Nat := if i > 15 then i - 6 else i
theorem hexV_all : ∀ n : Fin 256, (fidx tab (UInt8.ofNat n.val) 0).map place = hexV (UInt8.ofNat n.val) := by decide +kernel
theorem hexV_eq (c : UInt8) : (fidx tab c 0).map place = hexV c := by
  have := hexV_all ⟨c.toNat, c.toNat_lt⟩
  simpa using this
theorem hexV_hit {c : UInt8} {k : Nat} (hk : k < 22) (h : tab.getD k 0 = c) (hg : fidx (tab.drop k) c k = fidx tab c 0) : hexV c = some (place k) := by
  rw [← hexV_eq, ← hg, fidx_hit (by simpa [tab] using hk) h]; rfl
theorem hexV_none {c : UInt8} (hg : fidx (tab.drop 22) c 22 = fidx tab c 0) : hexV c = none := by
  rw [← hexV_eq, ← hg]; rfl
/-- the text of the document's digits of 16, byte by byte -/
theorem all_at : ∀ k : Fin 22, (⟨#[48, 49, 50, 51, 52, 53, 54, 55, 56, 57, 97, 98, 99, 100, 101, 102, 65, 66, 67, 68, 69, 70]⟩ : ByteArray)[k.val]'k.isLt = tab.getD k.val 0 := by decide +kernel
theorem toNat_ne {a b : UInt8} (h : (a.toNat : Int) ≠ (b.toNat : Int)) : a ≠ b := fun e => h (by rw [e])
theorem toNat_eq {a b : UInt8} (h : (a.toNat : Int) = (b.toNat : Int)) : a = b := UInt8.toNat_inj.1 (by omega)
theorem beq_eq {a b : UInt8} (h : ((a.toNat : Int) == (b.toNat : Int)) = true) : a = b := toNat_eq (by simpa using h)
theorem beq_ne {a b : UInt8} (h : ((a.toNat : Int) == (b.toNat : Int)) = false) : a ≠ b := toNat_ne (by simpa using h)
theorem bne_eq {a b : UInt8} (h : ((a.toNat : Int) != (b.toNat : Int)) = false) : a = b := toNat_eq (by simpa using h)
theorem bne_ne {a b : UInt8} (h : ((a.toNat : Int) != (b.toNat : Int)) = true) : a ≠ b := toNat_ne (by simpa using h)
theorem place_big {k : Nat} (h : 15 < k) : place k = k - 6 := by unfold place; rw [if_pos h]
theorem place_small {k : Nat} (h : ¬ 15 < k) : place k = k := by unfold place; rw [if_neg h]

/-- the number that a digit of 16 adds, as the document's answer: -1 where it is none -/
def v1 (c : UInt8) : Int := match hexV c with | some v => (v : Nat) | none => -1
theorem hexV_lt {c : UInt8} {v : Nat} (h : hexV c = some v) : v < 16 := by
  unfold hexV at h; split at h
  · simp at h; omega
  · split at h
    · simp at h; omega
    · split at h
      · simp at h; omega
      · cases h
theorem v1_ge (c : UInt8) : -1 ≤ v1 c := by unfold v1; split <;> omega
theorem v1_le (c : UInt8) : v1 c ≤ 15 := by
  unfold v1; split
  · rename_i h; have := hexV_lt h; omega
  · omega
theorem v1_dig {c : UInt8} (h : isDig c = true) : v1 c = ((c.toNat - 48 : Nat) : Int) := by
  have hb := (isDig_iff c).1 h
  have e : hexV c = some (c.toNat - 48) := by unfold hexV; rw [if_pos hb]
  unfold v1; rw [e]
theorem v1_some {c : UInt8} (h : 0 ≤ v1 c) : hexV c = some (v1 c).toNat := by
  unfold v1 at *; cases e : hexV c with
  | none => rw [e] at h; simp only at h; omega
  | some v => simp
theorem v1_none {c : UInt8} (h : v1 c < 0) : hexV c = none := by
  unfold v1 at *; cases e : hexV c with
  | none => rfl
  | some v => rw [e] at h; simp only at h; omega

/-- what Hex tells from a place on -/
def goHex : List UInt8 → Nat → Option Nat
  | [], n => some n
  | c :: r, n => match hexV c with | some v => goHex r (16 * n + v) | none => none
theorem hex_next {s : ByteArray} {n k v : Nat} (hk : k < s.size) (h : hexV s[k] = some v) :
    goHex (s.data.toList.drop k) n = goHex (s.data.toList.drop (k + 1)) (16 * n + v) := by
  rw [drop_at (by simpa using hk)]
  have h' : hexV (s.data.toList[k]'(by simpa using hk)) = some v := h
  rw [goHex, h']
theorem hex_stop {s : ByteArray} {n k : Nat} (hk : k < s.size) (h : hexV s[k] = none) :
    goHex (s.data.toList.drop k) n = none := by
  rw [drop_at (by simpa using hk)]
  have h' : hexV (s.data.toList[k]'(by simpa using hk)) = none := h
  rw [goHex, h']
theorem hex_end {s : ByteArray} {n k : Nat} (hk : s.size ≤ k) : goHex (s.data.toList.drop k) n = some n := by
  rw [List.drop_of_length_le (by simpa using hk)]; rfl
/-- Hex -/
def hexR (l : List UInt8) : Option Nat := if l.length = 0 ∨ 6 < l.length then none else goHex l 0
theorem hexR_no {s : ByteArray} (h : s.size = 0 ∨ 6 < s.size) : hexR s.data.toList = none := by
  unfold hexR; rw [if_pos (by simpa using h)]
theorem hexR_yes {s : ByteArray} (h0 : 0 < s.size) (h : s.size ≤ 6) : hexR s.data.toList = goHex s.data.toList 0 := by
  unfold hexR
  have e : s.data.toList.length = s.size := by simp
  rw [if_neg (by omega)]

theorem pow16 {m : Int} {k : Nat} (h : m < 16 ^ k) (hk : k ≤ 6) : m < 16777216 := by
  have e : k = 0 ∨ k = 1 ∨ k = 2 ∨ k = 3 ∨ k = 4 ∨ k = 5 ∨ k = 6 := by omega
  rcases e with e | e | e | e | e | e | e <;> subst e <;> simp at h <;> omega
theorem pow16s {m : Int} {k v : Nat} (h : m < 16 ^ k) (hv : v < 16) : m * 16 + v < 16 ^ (k + 1) := by
  have h2 : (16 : Int) ^ (k + 1) = 16 ^ k * 16 := Int.pow_succ _ _
  omega
theorem pow16s' {m v : Int} {k : Nat} (h : m < 16 ^ k) (hv : v ≤ 15) : 16 * m + v < 16 ^ (k + 1) := by
  have h2 : (16 : Int) ^ (k + 1) = 16 ^ k * 16 := Int.pow_succ _ _
  omega

theorem dec_small {u : Nat} (h : u < 10) : Lib.decDigits u = [UInt8.ofNat (48 + u)] := by rw [Lib.decDigits, dif_pos h]
theorem dec_big {u : Nat} (h : ¬ u < 10) : Lib.decDigits u = Lib.decDigits (u / 10) ++ [UInt8.ofNat (48 + u % 10)] := by rw [Lib.decDigits, dif_neg h]
theorem dec_len : ∀ (k u : Nat), u < 10 ^ (k + 1) → (Lib.decDigits u).length ≤ k + 1
  | 0, u, h => by rw [dec_small (by simpa using h)]; simp
  | k + 1, u, h => by
    by_cases hu : u < 10
    · rw [dec_small hu]; simp
    · rw [dec_big hu]
      have := dec_len k (u / 10) (by rw [Nat.pow_succ] at h; omega)
      simp; omega
theorem dec_len20 {u : Nat} (h : u ≤ 9223372036854775808) : (Lib.decDigits u).length ≤ 20 := dec_len 19 u (by omega)
theorem dec_split {u : Nat} (h : ¬ u < 10) : Lib.decDigits u = Lib.decDigits (u / 10) ++ Lib.decDigits (u % 10) := by
  rw [dec_big h, dec_small (u := u % 10) (by omega)]
theorem digit_text : ∀ k : Fin 10, (⟨#[48, 49, 50, 51, 52, 53, 54, 55, 56, 57]⟩ : ByteArray).extract k.val (k.val + 1) = ⟨(Lib.decDigits k.val).toArray⟩ := by
  intro k
  rw [dec_small k.isLt]
  revert k
  decide +kernel

theorem itoa_pos {n : Int} (h : 0 ≤ n) : Lib.itoa n = Lib.decDigits n.toNat := by unfold Lib.itoa; rw [if_neg (by omega)]
theorem itoa_neg {n : Int} (h : n < 0) : Lib.itoa n = 45 :: Lib.decDigits n.natAbs := by unfold Lib.itoa; rw [if_pos h]

theorem tdiv10 {n : Int} (h : n ≤ 0) : n.tdiv 10 = -((-n) / 10) := by
  obtain ⟨m, hm⟩ := Int.eq_ofNat_of_zero_le (show 0 ≤ -n by omega)
  obtain rfl : n = -(m : Int) := by omega
  rw [Int.neg_tdiv, Int.neg_neg]; rfl
theorem tmod10 {n : Int} (h : n ≤ 0) : n.tmod 10 = -((-n) % 10) := by
  obtain ⟨m, hm⟩ := Int.eq_ofNat_of_zero_le (show 0 ≤ -n by omega)
  obtain rfl : n = -(m : Int) := by omega
  rw [Int.neg_tmod, Int.neg_neg]; rfl

/-- Parse -/
def parseR (l : List UInt8) : Option Nat :=
  if (goLead l 0 0).2 = 0 ∨ (goLead l 0 0).2 < l.length ∨ 999999999 < (goLead l 0 0).1 then none
  else if l.getD 0 0 = 48 ∧ 1 < l.length then none else some (goLead l 0 0).1
theorem parseR_eq (l : List UInt8) : parseR l = if (goLead l 0 0).2 = 0 ∨ (goLead l 0 0).2 < l.length ∨ 999999999 < (goLead l 0 0).1 then none
  else if l.getD 0 0 = 48 ∧ 1 < l.length then none else some (goLead l 0 0).1 := rfl

end Go.Proofs.YtdmceapbobkklaaDoor.Dg

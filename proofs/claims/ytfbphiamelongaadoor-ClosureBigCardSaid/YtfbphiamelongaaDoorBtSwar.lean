/- How many bits are set, reckoned in fields side by side (no program's). -/
import Derived.Test.YtfbphiamelongaaDoorBtPop
namespace Go.Proofs.YtfbphiamelongaaDoor.Bt
open Go

theorem and_split (a d c e : Nat) (hc : c < 256) (he : e < 256) : (256 * a + c) &&& (256 * d + e) = 256 * (a &&& d) + (c &&& e) := by
  apply Nat.eq_of_testBit_eq
  intro j
  have hce : c &&& e < 2 ^ 8 := Nat.and_lt_two_pow _ (by simpa using he)
  rw [Nat.testBit_and, show (256 : Nat) = 2 ^ 8 from rfl, Nat.testBit_two_pow_mul_add a (by simpa using hc), Nat.testBit_two_pow_mul_add d (by simpa using he), Nat.testBit_two_pow_mul_add _ hce]
  split <;> simp

/-- a mask, byte for byte -/
def mk (b : Nat) : Nat → Nat
  | 0 => 0
  | k + 1 => 256 * mk b k + b

def g1 (b : Nat) : Nat := (b / 2 &&& 85) + (b &&& 85)
def g2 (b : Nat) : Nat := (b / 4 &&& 51) + (b &&& 51)
def g3 (b : Nat) : Nat := (b / 16 + b) &&& 15
def f1 (k x : Nat) : Nat := (x / 2 &&& mk 85 k) + (x &&& mk 85 k)
def f2 (k x : Nat) : Nat := (x / 4 &&& mk 51 k) + (x &&& mk 51 k)
def f3 (k x : Nat) : Nat := (x / 16 + x) &&& mk 15 k

theorem bytes1 : ∀ b : Fin 256, g1 b.val < 256 ∧ (b.val / 2 + 128 &&& 85) = (b.val / 2 &&& 85) := by decide +kernel
theorem bytes2 : ∀ b : Fin 256, g2 (g1 b.val) < 256 ∧ g2 (g1 b.val) % 16 ≤ 4 ∧ g2 (g1 b.val) / 16 ≤ 4 ∧ g3 (g2 (g1 b.val)) = Lib.popAux 8 b.val := by decide +kernel
theorem bytes3 : ∀ b : Fin 256, ∀ r : Fin 4, (b.val / 4 + 64 * r.val &&& 51) = (b.val / 4 &&& 51) := by decide +kernel
theorem bytes4 : ∀ b : Fin 256, ∀ r : Fin 5, b.val % 16 ≤ 4 → b.val / 16 ≤ 4 → b.val / 16 + 16 * r.val + b.val < 256 ∧ (b.val / 16 + 16 * r.val + b.val &&& 15) = g3 b.val := by decide +kernel

theorem f1_step (k h b : Nat) (hb : b < 256) : f1 (k + 1) (256 * h + b) = 256 * f1 k h + g1 b := by
  unfold f1 g1
  obtain ⟨_, e⟩ := bytes1 ⟨b, hb⟩
  simp only at e
  rw [show mk 85 (k + 1) = 256 * mk 85 k + 85 from rfl, and_split _ _ _ _ hb (by omega)]
  have hd : (256 * h + b) / 2 = 256 * (h / 2) + (b / 2 + 128 * (h % 2)) := by omega
  rw [hd, and_split _ _ _ _ (by omega) (by omega)]
  have e2 : (b / 2 + 128 * (h % 2) &&& 85) = (b / 2 &&& 85) := by
    rcases Nat.mod_two_eq_zero_or_one h with h0 | h0 <;> rw [h0]
    · rfl
    · exact e
  rw [e2]
  omega
theorem f2_step (k h b : Nat) (hb : b < 256) : f2 (k + 1) (256 * h + b) = 256 * f2 k h + g2 b := by
  unfold f2 g2
  have e := bytes3 ⟨b, hb⟩ ⟨h % 4, by omega⟩
  simp only at e
  rw [show mk 51 (k + 1) = 256 * mk 51 k + 51 from rfl, and_split _ _ _ _ hb (by omega)]
  have hd : (256 * h + b) / 4 = 256 * (h / 4) + (b / 4 + 64 * (h % 4)) := by omega
  rw [hd, and_split _ _ _ _ (by omega) (by omega), e]
  omega
theorem f3_step (k h b : Nat) (hb : b < 256) (h1 : b % 16 ≤ 4) (h2 : b / 16 ≤ 4) (h3 : h % 16 ≤ 4) : f3 (k + 1) (256 * h + b) = 256 * f3 k h + g3 b := by
  unfold f3
  obtain ⟨e1, e2⟩ := bytes4 ⟨b, hb⟩ ⟨h % 16, by omega⟩ h1 h2
  simp only at e1 e2
  have hd : (256 * h + b) / 16 + (256 * h + b) = 256 * (h / 16 + h) + (b / 16 + 16 * (h % 16) + b) := by omega
  rw [hd, show mk 15 (k + 1) = 256 * mk 15 k + 15 from rfl, and_split _ _ _ _ e1 (by omega), e2]

/-- the bytes' counts, side by side -/
def cnts : Nat → Nat → Nat
  | 0, _ => 0
  | k + 1, x => 256 * cnts k (x / 256) + Lib.popAux 8 (x % 256)

theorem f123 : ∀ (k x : Nat), x < 256 ^ k → f3 k (f2 k (f1 k x)) = cnts k x ∧ f2 k (f1 k x) % 16 ≤ 4
  | 0, x, h => by
    have : x = 0 := by simpa using h
    subst this
    decide
  | k + 1, x, h => by
    obtain ⟨ih, ih2⟩ := f123 k (x / 256) (by rw [Nat.pow_succ] at h; omega)
    have hx : x = 256 * (x / 256) + x % 256 := by omega
    have hb : x % 256 < 256 := Nat.mod_lt _ (by omega)
    obtain ⟨q1, _⟩ := bytes1 ⟨x % 256, hb⟩
    obtain ⟨p1, p2, p3, p4⟩ := bytes2 ⟨x % 256, hb⟩
    simp only at q1 p1 p2 p3 p4
    have e1 : f1 (k + 1) x = 256 * f1 k (x / 256) + g1 (x % 256) := by
      have := f1_step k (x / 256) (x % 256) hb
      rwa [← hx] at this
    rw [e1, f2_step _ _ _ q1, f3_step _ _ _ p1 p2 p3 ih2, ih, p4]
    exact ⟨rfl, by omega⟩

theorem pop_split : ∀ (f x : Nat), Lib.popAux (f + 8) x = Lib.popAux 8 (x % 256) + Lib.popAux f (x / 256) := by
  intro f x
  have e : ∀ y, Lib.popAux 8 y = y % 2 + (y / 2 % 2 + (y / 2 / 2 % 2 + (y / 2 / 2 / 2 % 2 + (y / 2 / 2 / 2 / 2 % 2 + (y / 2 / 2 / 2 / 2 / 2 % 2 + (y / 2 / 2 / 2 / 2 / 2 / 2 % 2 + (y / 2 / 2 / 2 / 2 / 2 / 2 / 2 % 2 + 0))))))) := fun _ => rfl
  have e' : Lib.popAux (f + 8) x = x % 2 + (x / 2 % 2 + (x / 2 / 2 % 2 + (x / 2 / 2 / 2 % 2 + (x / 2 / 2 / 2 / 2 % 2 + (x / 2 / 2 / 2 / 2 / 2 % 2 + (x / 2 / 2 / 2 / 2 / 2 / 2 % 2 + (x / 2 / 2 / 2 / 2 / 2 / 2 / 2 % 2 + Lib.popAux f (x / 2 / 2 / 2 / 2 / 2 / 2 / 2 / 2)))))))) := rfl
  rw [e, e', show x / 2 / 2 / 2 / 2 / 2 / 2 / 2 / 2 = x / 256 by omega]
  omega
theorem pop8_le (b : Nat) (h : b < 256) : Lib.popAux 8 b ≤ 8 := by
  have : ∀ b : Fin 256, Lib.popAux 8 b.val ≤ 8 := by decide +kernel
  exact this ⟨b, h⟩

theorem dv (n q r : Nat) (h : r < n) : (n * q + r) / n = q := by
  rw [Nat.mul_add_div (by omega), Nat.div_eq_of_lt h, Nat.add_zero]
/-- the eight counts are gathered -/
theorem gather (c0 c1 c2 c3 c4 c5 c6 c7 y0 y1 y2 y3 : Nat) (h0 : c0 ≤ 8) (h1 : c1 ≤ 8) (h2 : c2 ≤ 8) (h3 : c3 ≤ 8) (h4 : c4 ≤ 8) (h5 : c5 ≤ 8) (h6 : c6 ≤ 8) (h7 : c7 ≤ 8)
    (e0 : y0 = 256 * (256 * (256 * (256 * (256 * (256 * (256 * c7 + c6) + c5) + c4) + c3) + c2) + c1) + c0)
    (e1 : y1 = y0 + y0 / 256) (e2 : y2 = y1 + y1 / 65536) (e3 : y3 = y2 + y2 / 4294967296) :
    y1 < 18446744073709551616 ∧ y2 < 18446744073709551616 ∧ y3 < 18446744073709551616 ∧ y3 % 128 = c0 + c1 + c2 + c3 + c4 + c5 + c6 + c7 := by
  have a1 : y0 / 256 = 256 * (256 * (256 * (256 * (256 * (256 * c7 + c6) + c5) + c4) + c3) + c2) + c1 := by rw [e0]; exact dv _ _ _ (by omega)
  rw [a1] at e1
  have b1 : y1 = 65536 * (1099511627776 * c7 + 4294967296 * (c6 + c7) + 16777216 * (c5 + c6) + 65536 * (c4 + c5) + 256 * (c3 + c4) + (c2 + c3)) + (256 * (c1 + c2) + (c0 + c1)) := by rw [e1, e0]; clear e0 e1 e2 e3 a1 h0 h1 h2 h3 h4 h5 h6 h7; omega
  have a2 : y1 / 65536 = 1099511627776 * c7 + 4294967296 * (c6 + c7) + 16777216 * (c5 + c6) + 65536 * (c4 + c5) + 256 * (c3 + c4) + (c2 + c3) := by rw [b1]; exact dv _ _ _ (by clear b1 e0 e1 e2 e3 a1; omega)
  rw [a2] at e2
  have b2 : y2 = 4294967296 * (16777216 * c7 + 65536 * (c6 + c7) + 256 * (c5 + c6 + c7) + (c4 + c5 + c6 + c7)) + (16777216 * (c3 + c4 + c5 + c6) + 65536 * (c2 + c3 + c4 + c5) + 256 * (c1 + c2 + c3 + c4) + (c0 + c1 + c2 + c3)) := by rw [e2, b1]; clear e0 e1 e2 e3 a1 a2 b1 h0 h1 h2 h3 h4 h5 h6 h7; omega
  have a3 : y2 / 4294967296 = 16777216 * c7 + 65536 * (c6 + c7) + 256 * (c5 + c6 + c7) + (c4 + c5 + c6 + c7) := by rw [b2]; exact dv _ _ _ (by clear b1 b2 e0 e1 e2 e3 a1 a2; omega)
  rw [a3] at e3
  clear e0 e1 a1 a2 a3
  have b3 : y3 = 128 * (4294967296 * (131072 * c7 + 512 * (c6 + c7) + 2 * (c5 + c6 + c7)) + 33554432 * (c4 + c5 + c6 + c7) + (131072 * (c3 + c4 + c5 + c6) + 512 * (c2 + c3 + c4 + c5) + 2 * (c1 + c2 + c3 + c4)) + (131072 * c7 + 512 * (c6 + c7) + 2 * (c5 + c6 + c7))) + (c0 + c1 + c2 + c3 + c4 + c5 + c6 + c7) := by rw [e3, b2]; clear b1 b2 e2 e3 h0 h1 h2 h3 h4 h5 h6 h7; omega
  refine ⟨by clear b2 b3 e2 e3; omega, by clear b1 b3 e2 e3; omega, by clear b1 b2 e2 e3; omega, ?_⟩
  rw [b3, Nat.mul_add_mod]
  exact Nat.mod_eq_of_lt (by clear b1 b2 b3 e2 e3; omega)

theorem pop_all (x : Nat) (hx : x < 18446744073709551616) (y0 y1 y2 y3 : Nat) (e0 : y0 = f3 8 (f2 8 (f1 8 x))) (e1 : y1 = y0 + y0 / 256) (e2 : y2 = y1 + y1 / 65536) (e3 : y3 = y2 + y2 / 4294967296) :
    y1 < 18446744073709551616 ∧ y2 < 18446744073709551616 ∧ y3 < 18446744073709551616 ∧ y3 % 128 = (bitsOf x).length := by
  rw [(f123 8 x (by simpa using hx)).1] at e0
  have hc := fun y => pop8_le (y % 256) (Nat.mod_lt _ (by omega))
  have h := gather _ _ _ _ _ _ _ _ y0 y1 y2 y3 (hc x) (hc (x / 256)) (hc (x / 256 / 256)) (hc (x / 256 / 256 / 256)) (hc (x / 256 / 256 / 256 / 256)) (hc (x / 256 / 256 / 256 / 256 / 256)) (hc (x / 256 / 256 / 256 / 256 / 256 / 256)) (hc (x / 256 / 256 / 256 / 256 / 256 / 256 / 256)) (by rw [e0]; simp only [cnts]; omega) e1 e2 e3
  refine ⟨h.1, h.2.1, h.2.2.1, ?_⟩
  rw [h.2.2.2]
  have t := ones_bits x
  unfold Lib.onesCount at t
  rw [← t]
  clear h t e0 e1 e2 e3
  have s0 : Lib.popAux 64 (x) = Lib.popAux 8 ((x) % 256) + Lib.popAux 56 (x / 256) := pop_split 56 _
  have s1 : Lib.popAux 56 (x / 256) = Lib.popAux 8 ((x / 256) % 256) + Lib.popAux 48 (x / 256 / 256) := pop_split 48 _
  have s2 : Lib.popAux 48 (x / 256 / 256) = Lib.popAux 8 ((x / 256 / 256) % 256) + Lib.popAux 40 (x / 256 / 256 / 256) := pop_split 40 _
  have s3 : Lib.popAux 40 (x / 256 / 256 / 256) = Lib.popAux 8 ((x / 256 / 256 / 256) % 256) + Lib.popAux 32 (x / 256 / 256 / 256 / 256) := pop_split 32 _
  have s4 : Lib.popAux 32 (x / 256 / 256 / 256 / 256) = Lib.popAux 8 ((x / 256 / 256 / 256 / 256) % 256) + Lib.popAux 24 (x / 256 / 256 / 256 / 256 / 256) := pop_split 24 _
  have s5 : Lib.popAux 24 (x / 256 / 256 / 256 / 256 / 256) = Lib.popAux 8 ((x / 256 / 256 / 256 / 256 / 256) % 256) + Lib.popAux 16 (x / 256 / 256 / 256 / 256 / 256 / 256) := pop_split 16 _
  have s6 : Lib.popAux 16 (x / 256 / 256 / 256 / 256 / 256 / 256) = Lib.popAux 8 ((x / 256 / 256 / 256 / 256 / 256 / 256) % 256) + Lib.popAux 8 (x / 256 / 256 / 256 / 256 / 256 / 256 / 256) := pop_split 8 _
  rw [s0, s1, s2, s3, s4, s5, s6, show (x / 256 / 256 / 256 / 256 / 256 / 256 / 256) % 256 = x / 256 / 256 / 256 / 256 / 256 / 256 / 256 by omega]
  simp only [Nat.add_assoc]

end Go.Proofs.YtfbphiamelongaaDoor.Bt

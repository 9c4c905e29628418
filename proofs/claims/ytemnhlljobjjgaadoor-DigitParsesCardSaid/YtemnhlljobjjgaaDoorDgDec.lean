/- Plain: a text of digits is its number's text just if it has no 0 in front. -/
import Derived.Test.YtemnhlljobjjgaaDoorDgPlain
namespace Go.Proofs.YtemnhlljobjjgaaDoor.Dg

def val (l : List UInt8) : Nat := l.foldl step 0
theorem val_snoc (l : List UInt8) (c : UInt8) : val (l ++ [c]) = step (val l) c := by simp [val, List.foldl_append]
theorem goLead_all : ∀ (l : List UInt8) (n k m : Nat), goLead l n k = (m, k + l.length) → (∀ c ∈ l, isDig c = true) ∧ m = l.foldl step n
  | [], n, k, m, h => by simp [goLead] at h; exact ⟨by simp, by simp [h]⟩
  | c :: r, n, k, m, h => by
    unfold goLead at h
    by_cases hc : isDig c = true
    · rw [if_pos hc] at h
      have h' : goLead r (step n c) (k + 1) = (m, (k + 1) + r.length) := by rw [h]; simp; omega
      obtain ⟨a, b⟩ := goLead_all r (step n c) (k + 1) m h'
      exact ⟨by simp [hc]; exact a, by simpa using b⟩
    · rw [if_neg hc] at h
      simp at h

theorem chr {c : UInt8} (h : isDig c = true) {n : Nat} (hn : n = c.toNat - 48) : UInt8.ofNat (48 + n) = c := by
  have := (isDig_iff c).1 h
  have e : 48 + n = c.toNat := by omega
  rw [e]; simp

theorem head_app {l r : List UInt8} (h : 0 < l.length) : (l ++ r).getD 0 0 = l.getD 0 0 := by
  rw [List.getD_eq_getElem?_getD, List.getD_eq_getElem?_getD, List.getElem?_append_left h]

theorem dec_iff_aux : ∀ (m : Nat) (l : List UInt8), l.length = m → l ≠ [] → (∀ c ∈ l, isDig c = true) → val l ≤ 999999999 →
    (Lib.decDigits (val l) = l ↔ ¬ (l.getD 0 0 = 48 ∧ 1 < l.length)) := by
  intro m
  induction m with
  | zero => intro l hl hne; exact absurd (List.length_eq_zero_iff.1 hl) hne
  | succ m ih =>
    intro l hl hne hd hv
    obtain ⟨l', c, rfl⟩ : ∃ l' c, l = l' ++ [c] := ⟨l.dropLast, l.getLast hne, (List.dropLast_concat_getLast hne).symm⟩
    have hc : isDig c = true := hd c (by simp)
    have hd' : ∀ x ∈ l', isDig x = true := fun x hx => hd x (by simp [hx])
    have hcb := (isDig_iff c).1 hc
    rw [val_snoc] at hv ⊢
    have hst : step (val l') c = 10 * val l' + (c.toNat - 48) := by unfold step at *; omega
    rw [hst] at hv ⊢
    have hlen : l'.length = m := by simpa using hl
    by_cases h10 : 10 * val l' + (c.toNat - 48) < 10
    · have h0 : val l' = 0 := by omega
      rw [dec_small h10, chr hc (by omega)]
      by_cases he : l' = []
      · subst he; simp
      · have hi := ih l' hlen he hd' (by omega)
        have hpos : 0 < l'.length := List.length_pos_iff.2 he
        have hg : (l' ++ [c]).getD 0 0 = l'.getD 0 0 := head_app hpos
        rw [hg]
        have h48 : l'.getD 0 0 = 48 := by
          apply Classical.byContradiction
          intro hn
          have := hi.2 (fun h => hn h.1)
          rw [h0] at this
          rw [← this] at hn
          exact hn (by rw [dec_small (by omega)]; rfl)
        constructor
        · intro h
          have := congrArg List.length h
          simp at this
          exact absurd this he
        · intro h; exact absurd ⟨h48, by simp; omega⟩ h
    · have h1 : 1 ≤ val l' := by omega
      have he : l' ≠ [] := by intro e; subst e; simp [val] at h1
      have hi := ih l' hlen he hd' (by omega)
      have hpos : 0 < l'.length := List.length_pos_iff.2 he
      have hg : (l' ++ [c]).getD 0 0 = l'.getD 0 0 := head_app hpos
      rw [hg, dec_big h10, show (10 * val l' + (c.toNat - 48)) / 10 = val l' by omega, chr hc (by omega)]
      rw [List.append_left_inj, hi]
      constructor
      · intro h ⟨ha, _⟩
        by_cases hl1 : 1 < l'.length
        · exact h ⟨ha, hl1⟩
        · match l', hpos, hl1, ha, h1 with
          | [x], _, _, ha, h1 =>
            have hx : x = 48 := by simpa using ha
            subst hx
            revert h1
            decide
          | x :: y :: r, _, hl1, _, _ => simp at hl1
      · intro h ⟨ha, hb⟩; exact h ⟨ha, by simp; omega⟩

/-- Parse, as the document's answer has it: the number's text is the text. -/
theorem parse_iff {l : List UInt8} {n : Nat} (hne : 0 < l.length) (h : goLead l 0 0 = (n, l.length)) (hn : n ≤ 999999999) :
    Lib.decDigits n = l ↔ ¬ (l.getD 0 0 = 48 ∧ 1 < l.length) := by
  obtain ⟨a, b⟩ := goLead_all l 0 0 n (by simpa using h)
  have e : n = val l := b
  subst e
  exact dec_iff_aux _ l rfl (by intro e; subst e; simp at hne) a hn

end Go.Proofs.YtemnhlljobjjgaaDoor.Dg

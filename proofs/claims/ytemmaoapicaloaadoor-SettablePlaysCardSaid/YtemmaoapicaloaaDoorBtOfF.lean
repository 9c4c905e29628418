/- The document's rows of numbers: plain facts. -/
import Derived.Test.YtemmaoapicaloaaDoorBtFacts0
import Derived.Test.YtemmaoapicaloaaDoorBtRAdd
namespace Go.Proofs.YtemmaoapicaloaaDoor.Bt
open Go Go.RowKit

theorem addF_rise {l : List Int} {n room : Int} (h : l.Pairwise (· < ·)) : (addF l n room).Pairwise (· < ·) := by
  unfold addF
  split
  · exact h
  · rename_i hn
    have hmem : ∀ y, y ∈ l.dropWhile (· < n) → n < y := fun y hy => by
      obtain ⟨K, k1, k2, k3, k4, k5⟩ := split_at n l
      rw [k3] at hy
      by_cases hK : K < l.length
      · have h5 := k5 hK
        have hne : y ≠ n := fun e => hn (.inr (.inr (by rw [← e]; exact List.mem_of_mem_drop hy)))
        rw [List.drop_eq_getElem_cons hK] at hy
        have e : l.getD K 0 = l[K] := by simp [List.getD, hK]
        rw [e] at h5
        rcases List.mem_cons.1 hy with e2 | hy
        · omega
        · have hd : (l.drop K).Pairwise (· < ·) := h.sublist (List.drop_sublist K l)
          rw [List.drop_eq_getElem_cons hK, List.pairwise_cons] at hd
          have := hd.1 y hy
          omega
      · rw [List.drop_eq_nil_of_le (by omega)] at hy; simp at hy
    have hlt : ∀ y, y ∈ l.takeWhile (· < n) → y < n := fun y hy => by
      obtain ⟨K, k1, k2, k3, k4, k5⟩ := split_at n l
      rw [k2] at hy
      obtain ⟨j, hj, e⟩ := List.mem_iff_getElem.1 hy
      rw [List.getElem_take] at e
      have hjl : j < l.length := by rw [List.length_take] at hj; omega
      have h4 := k4 j (by rw [List.length_take] at hj; omega)
      have e2 : l.getD j 0 = l[j] := by simp [List.getD, hjl]
      rw [e2, e] at h4
      exact h4
    have e : l.takeWhile (· < n) ++ l.dropWhile (· < n) = l := List.takeWhile_append_dropWhile
    have h2 : (l.takeWhile (· < n) ++ l.dropWhile (· < n)).Pairwise (· < ·) := by rw [e]; exact h
    rw [List.pairwise_append] at h2
    refine List.pairwise_append.2 ⟨h2.1, List.pairwise_cons.2 ⟨hmem, h2.2.1⟩, fun a ha b hb => ?_⟩
    rcases List.mem_cons.1 hb with rfl | hb
    · exact hlt a ha
    · exact h2.2.2 a ha b hb
theorem mem_addF {l : List Int} {n room m : Int} : m ∈ addF l n room ↔ m ∈ l ∨ (m = n ∧ 0 ≤ n ∧ n < room) := by
  unfold addF
  split
  · rename_i h
    constructor
    · exact .inl
    · rintro (h1 | ⟨rfl, h2, h3⟩)
      · exact h1
      · rcases h with h | h | h
        · omega
        · omega
        · exact h
  · rename_i h
    have e : l.takeWhile (· < n) ++ l.dropWhile (· < n) = l := List.takeWhile_append_dropWhile
    have hl : m ∈ l ↔ m ∈ l.takeWhile (· < n) ∨ m ∈ l.dropWhile (· < n) := by rw [← List.mem_append, e]
    rw [List.mem_append, List.mem_cons, hl]
    have hr : 0 ≤ n ∧ n < room := ⟨by omega, by omega⟩
    constructor
    · rintro (h1 | h1 | h1)
      · exact .inl (.inl h1)
      · exact .inr ⟨h1, hr⟩
      · exact .inl (.inr h1)
    · rintro ((h1 | h1) | h1)
      · exact .inl h1
      · exact .inr (.inr h1)
      · exact .inr (.inl h1.1)
theorem addF_len {l : List Int} {n room : Int} : (addF l n room).length ≤ l.length + 1 ∧ l.length ≤ (addF l n room).length := by
  unfold addF
  split
  · omega
  · have e : (l.takeWhile (· < n) ++ l.dropWhile (· < n)).length = l.length := by rw [List.takeWhile_append_dropWhile]
    rw [List.length_append] at e
    simp
    omega
theorem addF_grow {l : List Int} {n room : Int} : (addF l n room).length = l.length ↔ addF l n room = l := by
  constructor
  · intro h
    unfold addF at *
    split
    · rfl
    · rename_i hn
      rw [if_neg hn] at h
      have e : (l.takeWhile (· < n) ++ l.dropWhile (· < n)).length = l.length := by rw [List.takeWhile_append_dropWhile]
      rw [List.length_append] at e
      simp at h
      omega
  · intro h; rw [h]
/-- the document's row of all that fits -/
def ofF (l : List Int) (room : Int) : List Int := l.foldl (fun acc n => addF acc n room) []
theorem ofF_snoc (l : List Int) (k : Nat) (room : Int) (hk : k < l.length) : ofF (l.take (k + 1)) room = addF (ofF (l.take k) room) (l.getD k 0) room := by
  have e : l.take (k + 1) = l.take k ++ [l.getD k 0] := by
    rw [List.take_succ_eq_append_getElem hk]; simp [List.getD, hk]
  rw [e]
  unfold ofF
  rw [List.foldl_append]
  rfl
theorem ofF_len (l : List Int) (room : Int) : ∀ k, k ≤ l.length → (ofF (l.take k) room).length ≤ k
  | 0, _ => by simp [ofF]
  | k + 1, h => by
    rw [ofF_snoc l k room (by omega)]
    have := ofF_len l room k (by omega)
    have := (addF_len (l := ofF (l.take k) room) (n := l.getD k 0) (room := room)).1
    omega
theorem fold_rise (room : Int) : ∀ (l acc : List Int), acc.Pairwise (· < ·) → (l.foldl (fun acc n => addF acc n room) acc).Pairwise (· < ·)
  | [], _, h => h
  | _ :: l, _, h => fold_rise room l _ (addF_rise h)
theorem fold_mem (room : Int) : ∀ (l acc : List Int) (m : Int), m ∈ l.foldl (fun acc n => addF acc n room) acc ↔ m ∈ acc ∨ (m ∈ l ∧ 0 ≤ m ∧ m < room)
  | [], _, _ => by simp
  | n :: l, acc, m => by
    rw [List.foldl_cons, fold_mem room l, mem_addF, List.mem_cons]
    constructor
    · rintro ((h | ⟨rfl, h⟩) | ⟨h, h2⟩)
      · exact .inl h
      · exact .inr ⟨.inl rfl, h⟩
      · exact .inr ⟨.inr h, h2⟩
    · rintro (h | ⟨rfl | h, h2⟩)
      · exact .inl (.inl h)
      · exact .inl (.inr ⟨rfl, h2⟩)
      · exact .inr ⟨h, h2⟩
/-- what Of has is the document's row -/
theorem nums_of {room : Nat} {l : List Int} {L : List Nat} (h : ∀ m, memL L m = ofB room l m) : ofF l room = nums L := by
  refine nums_is (fold_rise _ l [] (by simp)) fun n => ?_
  unfold ofF
  rw [fold_mem]
  unfold hasI
  simp only [List.not_mem_nil, false_or, Bool.and_eq_true, decide_eq_true_eq, h, ofB, List.any_eq_true]
  constructor
  · rintro ⟨h1, h2, h3⟩
    exact ⟨h2, by omega, n, h1, by omega⟩
  · rintro ⟨h1, h2, k, h3, h4⟩
    have : k = n := by omega
    subst this
    exact ⟨h3, h1, by omega⟩

end Go.Proofs.YtemmaoapicaloaaDoor.Bt

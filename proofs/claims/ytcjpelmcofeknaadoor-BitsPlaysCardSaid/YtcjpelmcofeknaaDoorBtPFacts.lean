/- What is added, dropped and joined, as rising numbers: plain facts. -/
import Derived.Test.YtcjpelmcofeknaaDoorBtSLaw
namespace Go.Proofs.YtcjpelmcofeknaaDoor.Bt
open Go Go.RowKit

theorem roomI_F (n : Int) : roomI n = (roomF n : Int) := by
  unfold roomI roomF
  split
  · rfl
  · split
    · rfl
    · omega

theorem addF_sub {l : List Int} {n room : Int} : l.Sublist (addF l n room) := by
  unfold addF
  split
  · exact List.Sublist.refl l
  · have e : l.takeWhile (· < n) ++ l.dropWhile (· < n) = l := List.takeWhile_append_dropWhile
    have h : (l.takeWhile (· < n) ++ l.dropWhile (· < n)).Sublist (l.takeWhile (· < n) ++ n :: l.dropWhile (· < n)) := (List.Sublist.refl _).append (List.sublist_cons_self _ _)
    rwa [e] at h
/-- the document's row behind a Join -/
def joinF (l : List Int) (room : Int) (acc : List Int) : List Int := l.foldl (fun acc n => if n < 1000 then addF acc n room else acc) acc
theorem joinF_snoc (l : List Int) (k : Nat) (room : Int) (acc : List Int) (hk : k < l.length) : joinF (l.take (k + 1)) room acc = if l.getD k 0 < 1000 then addF (joinF (l.take k) room acc) (l.getD k 0) room else joinF (l.take k) room acc := by
  have e : l.take (k + 1) = l.take k ++ [l.getD k 0] := by
    rw [List.take_succ_eq_append_getElem hk]; simp [List.getD, hk]
  rw [e]
  unfold joinF
  rw [List.foldl_append]
  rfl
theorem joinF_rise (room : Int) : ∀ (l acc : List Int), acc.Pairwise (· < ·) → (joinF l room acc).Pairwise (· < ·)
  | [], _, h => h
  | n :: l, acc, h => by
    show (joinF l room (if n < 1000 then addF acc n room else acc)).Pairwise (· < ·)
    split
    · exact joinF_rise room l _ (addF_rise h)
    · exact joinF_rise room l _ h
theorem joinF_mem (room : Int) : ∀ (l acc : List Int) (m : Int), m ∈ joinF l room acc ↔ m ∈ acc ∨ (m ∈ l ∧ 0 ≤ m ∧ m < room ∧ m < 1000)
  | [], _, _ => by simp [joinF]
  | n :: l, acc, m => by
    show m ∈ joinF l room (if n < 1000 then addF acc n room else acc) ↔ _
    rw [joinF_mem room l, List.mem_cons]
    split
    · rename_i hn
      rw [mem_addF]
      constructor
      · rintro ((h | ⟨rfl, h, h2⟩) | ⟨h, h2⟩)
        · exact .inl h
        · exact .inr ⟨.inl rfl, h, h2, hn⟩
        · exact .inr ⟨.inr h, h2⟩
      · rintro (h | ⟨rfl | h, h2⟩)
        · exact .inl (.inl h)
        · exact .inl (.inr ⟨rfl, h2.1, h2.2.1⟩)
        · exact .inr ⟨h, h2⟩
    · rename_i hn
      constructor
      · rintro (h | ⟨h, h2⟩)
        · exact .inl h
        · exact .inr ⟨.inr h, h2⟩
      · rintro (h | ⟨rfl | h, h2⟩)
        · exact .inl h
        · exact absurd h2.2.2 hn
        · exact .inr ⟨h, h2⟩
theorem joinF_sub (room : Int) : ∀ (l acc : List Int), acc.Sublist (joinF l room acc)
  | [], acc => List.Sublist.refl acc
  | n :: l, acc => by
    show acc.Sublist (joinF l room (if n < 1000 then addF acc n room else acc))
    split
    · exact addF_sub.trans (joinF_sub room l _)
    · exact joinF_sub room l _
theorem joinF_len (room : Int) : ∀ (l acc : List Int), (joinF l room acc).length ≤ acc.length + l.length
  | [], acc => by simp [joinF]
  | n :: l, acc => by
    show (joinF l room (if n < 1000 then addF acc n room else acc)).length ≤ acc.length + (l.length + 1)
    have h2 := (addF_len (l := acc) (n := n) (room := room)).1
    by_cases hn : n < 1000
    · rw [if_pos hn]
      have := joinF_len room l (addF acc n room)
      omega
    · rw [if_neg hn]
      have := joinF_len room l acc
      omega

theorem next_add {room : Nat} {L L' : List Nat} {n : Int} (h : ∀ m : Nat, memL L' m = (memL L m || (fitB room n && decide ((m : Int) = n)))) : addF (nums L) n room = nums L' := by
  refine nums_is (addF_rise (nums_rise L)) fun m => ?_
  rw [mem_addF, mem_nums]
  unfold hasI fitB at *
  simp only [Bool.and_eq_true, decide_eq_true_eq, h, Bool.or_eq_true]
  constructor
  · rintro (⟨h1, h2⟩ | ⟨rfl, h1, h2⟩)
    · exact ⟨h1, .inl h2⟩
    · exact ⟨h1, .inr ⟨⟨h1, h2⟩, by omega⟩⟩
  · rintro ⟨h1, h2 | ⟨⟨h2, h3⟩, h4⟩⟩
    · exact .inl ⟨h1, h2⟩
    · exact .inr ⟨by omega, h2, h3⟩
theorem ok_add (room : Nat) (L : List Nat) (n : Int) : (fitB room n && !hasI L n) = decide ((addF (nums L) n room).length ≠ (nums L).length) := by
  rw [Bool.eq_iff_iff, decide_eq_true_eq, Bool.and_eq_true, Bool.not_eq_true']
  constructor
  · rintro ⟨h1, h2⟩ h3
    have e := addF_grow.1 h3
    have h4 : 0 ≤ n ∧ n < room := by simpa [fitB] using h1
    have : n ∈ addF (nums L) n room := mem_addF.2 (.inr ⟨rfl, h4.1, h4.2⟩)
    rw [e, mem_nums] at this
    rw [this] at h2; cases h2
  · intro h
    have h1 : ¬ (n < 0 ∨ (room : Int) ≤ n ∨ n ∈ nums L) := fun hc => h (by unfold addF; rw [if_pos hc])
    refine ⟨by simp [fitB]; omega, ?_⟩
    rw [Bool.eq_false_iff]
    intro hh
    exact h1 (.inr (.inr ((mem_nums L n).2 hh)))
theorem next_drop {L L' : List Nat} {n : Int} (h : ∀ m : Nat, memL L' m = (memL L m && !decide ((m : Int) = n))) : (nums L).filter (fun x => decide (x ≠ n)) = nums L' := by
  refine nums_is ((nums_rise L).filter _) fun m => ?_
  rw [List.mem_filter, mem_nums]
  unfold hasI
  simp only [Bool.and_eq_true, decide_eq_true_eq, h, Bool.not_eq_true', decide_eq_false_iff_not]
  constructor
  · rintro ⟨⟨h1, h2⟩, h3⟩
    exact ⟨h1, h2, by omega⟩
  · rintro ⟨h1, h2, h3⟩
    exact ⟨⟨h1, h2⟩, by omega⟩
theorem ok_drop (L : List Nat) (n : Int) : hasI L n = decide (((nums L).filter (fun x => decide (x ≠ n))).length ≠ (nums L).length) := by
  rw [Bool.eq_iff_iff, decide_eq_true_eq, ne_eq, List.length_filter_eq_length_iff, ← mem_nums]
  constructor
  · intro h hc
    simpa using hc n h
  · intro h
    apply Classical.byContradiction
    intro hn
    exact h fun a ha => by
      simp only [decide_eq_true_eq]
      intro e
      exact hn (e ▸ ha)
theorem next_join {room : Nat} {L L' Lt : List Nat} {l : List Int} {more : Bool} (hj : Joined room L L' (fromL 0 Lt) more) (ht : ∀ m, memL Lt m = ofB 1000 l m) : joinF l room (nums L) = nums L' := by
  refine nums_is (joinF_rise _ _ _ (nums_rise L)) fun m => ?_
  rw [joinF_mem, mem_nums]
  unfold hasI
  simp only [Bool.and_eq_true, decide_eq_true_eq, hj.1, memP_all, ht, ofB, Bool.or_eq_true, List.any_eq_true]
  constructor
  · rintro (⟨h1, h2⟩ | ⟨h1, h2, h3, h4⟩)
    · exact ⟨h1, .inl h2⟩
    · exact ⟨h2, .inr ⟨⟨by omega, m, h1, by omega⟩, by omega⟩⟩
  · rintro ⟨h1, h2 | ⟨⟨h2, k, h3, h4⟩, h5⟩⟩
    · exact .inl ⟨h1, h2⟩
    · have : k = m := by omega
      subst this
      exact .inr ⟨h3, h1, by omega, by omega⟩
theorem ok_join {room : Nat} {L L' Lt : List Nat} {l : List Int} {more : Bool} (hj : Joined room L L' (fromL 0 Lt) more) (ht : ∀ m, memL Lt m = ofB 1000 l m) : more = decide ((joinF l room (nums L)).length ≠ (nums L).length) := by
  have hs := joinF_sub room l (nums L)
  have e := next_join hj ht
  rw [Bool.eq_iff_iff, decide_eq_true_eq, hj.2]
  constructor
  · rintro ⟨n, h1, h2⟩ hl
    have := (hs.length_eq).1 hl.symm
    rw [e] at this
    have h3 := mem_of_nums this n
    rw [h1, h2] at h3; cases h3
  · intro h
    apply Classical.byContradiction
    intro hn
    refine h ?_
    rw [e]
    have : nums L' = nums L := nums_eq fun m => by
      cases hm : memL L' m
      · have := hj.1 m
        rw [hm] at this
        cases hl : memL L m
        · rfl
        · rw [hl] at this; simp at this
      · cases hl : memL L m
        · exact absurd ⟨m, hm, hl⟩ hn
        · rfl
    rw [this]

end Go.Proofs.YtcjpelmcofeknaaDoor.Bt

/- Tables of sets: plain facts on places, and on hashes. -/
import Derived.Test.YtemmaoapicaloaaDoorBtSameN
import Derived.Test.YtemmaoapicaloaaDoorBtHash
namespace Go.Proofs.YtemmaoapicaloaaDoor.Sb
open Go Go.RowKit Go.Proofs.YtemmaoapicaloaaDoor.Bt

/-- a set that stands in a table: its room, its words' slice, its words, its hash -/
structure En where
  room : Nat
  v : Value
  L : List Nat
  h : Nat
/-- no set -/
def noEn : En := ⟨0, .slice none 0 0, [], 0⟩
def ent (E : List En) (i : Nat) : En := E.getD i noEn
/-- are two the same -/
def sameE (e x : En) : Bool := decide (e.h = x.h) && decide (nums e.L = nums x.L)
theorem sameE_iff {e x : En} : sameE e x = true ↔ e.h = x.h ∧ nums e.L = nums x.L := by simp [sameE]

/-- one stops at this place -/
def Stop (P : List Nat) (E : List En) (x : En) (a : Nat) : Prop := P.getD a 0 = 0 ∨ sameE (ent E (P.getD a 0 - 1)) x = true
/-- the place at which one stops, from a set's hash on -/
def PlaceAt (P : List Nat) (E : List En) (x : En) (a : Nat) : Prop :=
  a < P.length ∧ Stop P E x a ∧ ∃ d, d < P.length ∧ a = (x.h % P.length + d) % P.length ∧ ∀ j, j < d → ¬ Stop P E x ((x.h % P.length + j) % P.length)

/-- the first k sets stand at their places, and no others -/
structure Stood (P : List Nat) (E : List En) (k : Nat) : Prop where
  vals : ∀ a, a < P.length → P.getD a 0 ≤ k
  cnt : P.countP (fun x => decide (x ≠ 0)) = k
  each : ∀ i, i < k → ∃ d, d < P.length ∧ P.getD (((ent E i).h % P.length + d) % P.length) 0 = i + 1 ∧ ∀ j, j < d → P.getD (((ent E i).h % P.length + j) % P.length) 0 ≠ 0

theorem wrap_add {s d m : Nat} (hs : s < m) (hd : d < m) : (s + d) % m = if s + d < m then s + d else s + d - m := by
  split
  · rename_i h; exact Nat.mod_eq_of_lt h
  · rename_i h
    rw [Nat.mod_eq_sub_mod (by omega), Nat.mod_eq_of_lt (by omega)]
theorem wrap_next (s d m : Nat) : ((s + d) % m + 1) % m = (s + (d + 1)) % m := by
  rw [Nat.mod_add_mod, Nat.add_assoc]
theorem wrap_to {s a m : Nat} (hs : s < m) (ha : a < m) : ∃ d, d < m ∧ (s + d) % m = a := by
  by_cases h : s ≤ a
  · exact ⟨a - s, by omega, by rw [wrap_add hs (by omega)]; split <;> omega⟩
  · exact ⟨a + m - s, by omega, by rw [wrap_add hs (by omega)]; split <;> omega⟩

theorem stood_free {P : List Nat} {E : List En} {k : Nat} (h : Stood P E k) (hk : k < P.length) : ∃ a, a < P.length ∧ P.getD a 0 = 0 := by
  apply Classical.byContradiction
  intro hn
  have : P.countP (fun x => decide (x ≠ 0)) = P.length := List.countP_eq_length.2 fun x hx => by
    obtain ⟨a, ha, rfl⟩ := List.mem_iff_getElem.1 hx
    have : P.getD a 0 = P[a] := by simp [List.getD, ha]
    rw [← this]
    simp only [decide_eq_true_eq]
    exact fun e => hn ⟨a, ha, e⟩
  rw [h.cnt] at this
  omega
/-- from a place on one comes to one that is free -/
theorem stood_ahead {P : List Nat} {E : List En} {k : Nat} (h : Stood P E k) (hk : k < P.length) (x : En) : ∃ d, d < P.length ∧ Stop P E x ((x.h % P.length + d) % P.length) := by
  obtain ⟨a, ha, h0⟩ := stood_free h hk
  obtain ⟨d, hd, e⟩ := wrap_to (Nat.mod_lt x.h (show 0 < P.length by omega)) ha
  exact ⟨d, hd, .inl (by rw [e]; exact h0)⟩
theorem place_none {P : List Nat} {E : List En} {k a : Nat} {x : En} (h : Stood P E k) (hp : PlaceAt P E x a) (hx : ∀ i, i < k → sameE (ent E i) x = false) : P.getD a 0 = 0 := by
  obtain ⟨ha, hs, _⟩ := hp
  rcases hs with h0 | h1
  · exact h0
  · apply Classical.byContradiction
    intro hn
    have := h.vals a ha
    rw [hx _ (by omega)] at h1
    cases h1
theorem place_find {P : List Nat} {E : List En} {k a i : Nat} {x : En} (h : Stood P E k) (hp : PlaceAt P E x a) (hi : i < k) (hs : sameE (ent E i) x = true) (hu : ∀ j, j < k → sameE (ent E j) x = true → j = i) : P.getD a 0 = i + 1 := by
  obtain ⟨ha, hst, d, hd, hda, hdj⟩ := hp
  obtain ⟨e, he, hev, hej⟩ := h.each i hi
  rw [(sameE_iff.1 hs).1] at hev hej
  have hle : d ≤ e := by
    apply Nat.le_of_not_lt
    intro hlt
    exact hdj e hlt (.inr (by rw [hev]; exact hs))
  by_cases heq : d = e
  · subst heq; rw [hda]; exact hev
  · have hne := hej d (by omega)
    rw [← hda] at hne
    rcases hst with h0 | h1
    · exact absurd h0 hne
    · have := h.vals a ha
      have := hu _ (by omega) h1
      omega
theorem getD_setN {P : List Nat} {a b v : Nat} (ha : a < P.length) : (P.set a v).getD b 0 = if b = a then v else P.getD b 0 := by
  simp only [List.getD_eq_getElem?_getD, List.getElem?_set]
  by_cases h : a = b
  · subst h; simp [ha]
  · have : ¬ b = a := fun e => h e.symm
    simp [h, this]
/-- one more set stands -/
theorem stood_set {P : List Nat} {E : List En} {k a : Nat} (h : Stood P E k) (hp : PlaceAt P E (ent E k) a) (h0 : P.getD a 0 = 0) : Stood (P.set a (k + 1)) E (k + 1) := by
  obtain ⟨ha, _, d, hd, hda, hdj⟩ := hp
  have hE : P[a] = 0 := by rw [← h0]; simp [List.getD, ha]
  refine ⟨fun b hb => ?_, ?_, fun i hi => ?_⟩
  · rw [List.length_set] at hb
    rw [getD_setN ha]
    split
    · omega
    · have := h.vals b hb; omega
  · rw [List.countP_set ha, h.cnt, hE]
    simp
  · rw [List.length_set]
    by_cases hik : i = k
    · subst hik
      refine ⟨d, hd, ?_, fun j hj => ?_⟩
      · rw [getD_setN ha, if_pos hda.symm]
      · rw [getD_setN ha]
        split
        · omega
        · intro e
          exact hdj j hj (.inl e)
    · obtain ⟨e, he, hev, hej⟩ := h.each i (by omega)
      refine ⟨e, he, ?_, fun j hj => ?_⟩
      · rw [getD_setN ha, if_neg, hev]
        intro ee
        rw [ee, h0] at hev
        omega
      · rw [getD_setN ha]
        split
        · omega
        · exact hej j hj
theorem stood_new (m : Nat) (E : List En) : Stood (List.replicate m 0) E 0 := by
  refine ⟨fun a _ => ?_, ?_, fun i hi => by omega⟩
  · simp only [List.getD_eq_getElem?_getD, List.getElem?_replicate]
    split <;> simp
  · rw [List.countP_eq_zero]
    intro x hx
    rw [List.mem_replicate] at hx
    simp [hx.2]
theorem stood_congr {P : List Nat} {E F : List En} {k : Nat} (h : Stood P E k) (hE : ∀ i, i < k → (ent F i).h = (ent E i).h) : Stood P F k :=
  ⟨h.vals, h.cnt, fun i hi => by rw [hE i hi]; exact h.each i hi⟩

/-- a set's hash, reckoned with some room -/
def HashIs (room : Nat) (L : List Nat) (h : Nat) : Prop :=
  ∃ Lc : List Nat, Lc.length = (room + 63) / 64 ∧ (∀ i, Lc.getD i 0 < 18446744073709551616) ∧ (∀ n, memL Lc n = (memL L n && decide (n < room))) ∧ h = hashX (fromL 0 Lc)
theorem hash_fun {room h g : Nat} {L M : List Nat} (hL : HashIs room L h) (hM : HashIs room M g) (hn : nums L = nums M) : h = g := by
  obtain ⟨Lc, l1, l2, l3, rfl⟩ := hL
  obtain ⟨Mc, m1, m2, m3, rfl⟩ := hM
  rw [words_eq (l1.trans m1.symm) l2 m2 (nums_eq fun m => by rw [l3, m3, mem_of_nums hn])]
theorem HashIs.lt {room h : Nat} {L : List Nat} (hL : HashIs room L h) : h < 18446744073709551616 := by
  obtain ⟨Lc, _, _, _, rfl⟩ := hL
  exact hashX_lt _

/-- the sets' numbers -/
def keys (E : List En) : List (List Int) := E.map fun e => nums e.L
theorem keys_len (E : List En) : (keys E).length = E.length := by simp [keys]
theorem keys_get (E : List En) (i : Nat) (h : i < E.length) : (keys E).getD i [] = nums (ent E i).L := by simp [keys, ent, List.getD, h]
theorem ent_snoc (E : List En) (e : En) (i : Nat) (h : i < E.length) : ent (E ++ [e]) i = ent E i := by simp [ent, List.getD, List.getElem?_append, h]
theorem ent_last (E : List En) (e : En) : ent (E ++ [e]) E.length = e := by simp [ent, List.getD]
theorem ent_get (E : List En) (i : Nat) (h : i < E.length) : ent E i = E[i] := by simp [ent, List.getD, h]

/-- a table: for how many sets, with how much room hashes are reckoned, its sets, its places; its two slices; from where on its sets' words lie -/
structure Tb where
  most : Nat
  wide : Nat
  E : List En
  P : List Nat
  sv : Value
  pv : Value
  bw : Nat
/-- the hashes are those of one room -/
def Hashed (wide : Nat) (E : List En) : Prop := ∀ i, i < E.length → HashIs (roomF (wide : Nat)) (ent E i).L (ent E i).h
/-- no set twice -/
def Uniq (E : List En) : Prop := ∀ i j, i < E.length → j < E.length → nums (ent E i).L = nums (ent E j).L → i = j
structure Good (T : Tb) : Prop where
  m1 : 1 ≤ T.most
  m2 : T.most ≤ 65536
  w1 : 1 ≤ T.wide
  w2 : T.wide ≤ 131072
  hs : Hashed T.wide T.E
  uq : Uniq T.E
  st : Stood T.P T.E T.E.length
  ld : 3 * (T.E.length + 1) ≤ 2 * T.P.length
  pl : T.P.length ≤ 200000
  le : T.E.length ≤ T.most

/-- a set's number, as the table's places tell it: a number and one, or 0 -/
def numF (T : Tb) (L : List Nat) (n : Nat) : Prop := (n = 0 ∧ ∀ i, i < T.E.length → nums (ent T.E i).L ≠ nums L) ∨ ∃ i, n = i + 1 ∧ i < T.E.length ∧ nums (ent T.E i).L = nums L
/-- at the place of a set that is asked for stands its number -/
theorem num_at {T : Tb} {x : En} {a : Nat} (hg : Hashed T.wide T.E) (hu : Uniq T.E) (hs : Stood T.P T.E T.E.length) (hx : HashIs (roomF (T.wide : Nat)) x.L x.h) (hp : PlaceAt T.P T.E x a) : numF T x.L (T.P.getD a 0) := by
  by_cases h : ∃ i, i < T.E.length ∧ nums (ent T.E i).L = nums x.L
  · obtain ⟨i, hi, he⟩ := h
    have hsm : sameE (ent T.E i) x = true := sameE_iff.2 ⟨hash_fun (hg i hi) hx he, he⟩
    refine .inr ⟨i, place_find hs hp hi hsm (fun j hj hjs => ?_), hi, he⟩
    exact hu j i hj hi ((sameE_iff.1 hjs).2.trans he.symm)
  · have hn : ∀ i, i < T.E.length → nums (ent T.E i).L ≠ nums x.L := fun i hi he => h ⟨i, hi, he⟩
    refine .inl ⟨place_none hs hp (fun i hi => ?_), hn⟩
    rw [Bool.eq_false_iff]
    intro e
    exact hn i hi (sameE_iff.1 e).2
/-- the place of a set that is to stand is free -/
theorem stand_free {P : List Nat} {E : List En} {k a : Nat} (hu : Uniq E) (hs : Stood P E k) (hk : k < E.length) (hp : PlaceAt P E (ent E k) a) : P.getD a 0 = 0 := by
  refine place_none hs hp (fun i hi => ?_)
  rw [Bool.eq_false_iff]
  intro e
  have := hu i k (by omega) hk (sameE_iff.1 e).2
  omega

end Go.Proofs.YtemmaoapicaloaaDoor.Sb

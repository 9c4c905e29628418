/- New, Find, Put, Len, Full, Load of a table. -/
import Derived.Test.YtemmaoapicaloaaDoorSbAdd
import Derived.Test.YtemmaoapicaloaaDoorBtCopy
namespace Go.Proofs.YtemmaoapicaloaaDoor.Sb
open Go Go.RowKit Go.Proofs.YtemmaoapicaloaaDoor.At
open Go.Proofs.YtemmaoapicaloaaDoor.Bt (SetAt setV memL nums roomF copy_any CopyOut)

theorem retIB {a c : Int} {b d : Bool} (h : a = c) (k : b = d) : Ending.returned (.tuple #[.int .i64 a, .bool b]) = .returned (.tuple #[.int .i64 c, .bool d]) := by rw [h, k]

/-- the place of a list among lists, or below 0 -/
def IdxOut (l : List (List Int)) (N : List Int) (r : Int) : Prop := (r = -1 ∧ ∀ i, i < l.length → l.getD i [] ≠ N) ∨ ∃ i : Nat, r = i ∧ i < l.length ∧ l.getD i [] = N ∧ ∀ j, j < i → l.getD j [] ≠ N
theorem idx_one {l : List (List Int)} {N : List Int} {r q : Int} (h : IdxOut l N r) (k : IdxOut l N q) : r = q := by
  rcases h with ⟨rfl, h⟩ | ⟨i, rfl, hi, he, hj⟩
  · rcases k with ⟨rfl, _⟩ | ⟨i, rfl, hi, he, _⟩
    · rfl
    · exact absurd he (h i hi)
  · rcases k with ⟨rfl, k⟩ | ⟨i', rfl, hi', he', hj'⟩
    · exact absurd he (k i hi)
    · rcases Nat.lt_trichotomy i i' with h | h | h
      · exact absurd he (hj' i h)
      · rw [h]
      · exact absurd he' (hj i' h)
theorem num_idx {T : Tb} {L : List Nat} {n : Nat} (hu : Uniq T.E) (h : numF T L n) : IdxOut (keys T.E) (nums L) ((n : Int) - 1) := by
  rcases h with ⟨rfl, h⟩ | ⟨i, rfl, hi, he⟩
  · refine .inl ⟨by omega, fun i hi => ?_⟩
    rw [keys_len] at hi
    rw [keys_get _ _ hi]; exact h i hi
  · refine .inr ⟨i, by omega, by rw [keys_len]; exact hi, by rw [keys_get _ _ hi]; exact he, fun j hj e => ?_⟩
    rw [keys_get _ _ (by omega)] at e
    have := hu j i (by omega) hi (e.trans he.symm)
    omega
theorem idx_lt {l : List (List Int)} {N : List Int} {r : Int} (h : IdxOut l N r) : -1 ≤ r ∧ r < l.length := by
  rcases h with ⟨rfl, _⟩ | ⟨i, rfl, hi, _⟩ <;> omega
theorem idx_no {T : Tb} {L : List Nat} {r : Int} (h : IdxOut (keys T.E) (nums L) r) (hr : r < 0) (i : Nat) (hi : i < T.E.length) : nums (ent T.E i).L ≠ nums L := by
  rcases h with ⟨_, h⟩ | ⟨i, rfl, _⟩
  · have := h i (by rw [keys_len]; exact hi)
    rwa [keys_get _ _ hi] at this
  · omega

theorem number_idx {B tb room Bs : Nat} {T : Tb} {v : Value} {L : List Nat} (r : Int) (w : World) (ht : TbIn w B tb T) (hg : Good T) (hs : SetAt w Bs room v L) (hr : IdxOut (keys T.E) (nums L) r) :
    Calls Tryd.prog 24 #[ptr tb, setV room v] w fun e w' => e = .returned (.int .i64 r) ∧ Below w.heap.size w w' := by
  refine (number_any room Bs v L w ht hg hs).mono ?_
  rintro e w' ⟨⟨n, rfl, hn⟩, hb⟩
  exact ⟨retI (idx_one (num_idx hg.uq hn) hr), hb⟩

/-- a set that is there -/
theorem put_old {B tb room Bs : Nat} {T : Tb} {v : Value} {L : List Nat} (r : Int) (w : World) (ht : TbIn w B tb T) (hg : Good T) (hs : SetAt w Bs room v L) (hr : IdxOut (keys T.E) (nums L) r) (h0 : 0 ≤ r) :
    Calls Tryd.prog 11 #[ptr tb, setV room v] w fun e w' => e = .returned (.tuple #[.int .i64 r, .bool false]) ∧ Below w.heap.size w w' := by
  have MD := Lib.hid (fun W (hW : Below w.heap.size w W) => made_any W (ht.next hW))
  have NM := Lib.hid (fun W (hW : Below w.heap.size w W) => number_idx r W (ht.next hW) hg (hs.next hW) hr)
  obtain ⟨ao, an, ac, rfl⟩ := hs.val
  have hl := ht.lt
  clear ht hg hs hr
  unfold ptr setV at *
  have A1 := Lib.hid ((Below.refl w.heap.size w).alloc (Nat.le_refl _) (.cells #[.int .i64 (room : Nat), .slice ao an ac] 34))
  go_enter Tryd.func11, Tryd.ntmps11
  go_wp2_with (first
    | (go_at_call 23; (with_reducible refine (MD.out _ A1.out).mono ?_); rintro e w1 ⟨rfl, hw1⟩; subst hw1)
    | (go_at_call 24; (with_reducible refine (NM.out _ A1.out).mono ?_); rintro e w2 ⟨rfl, hb⟩; have B2 := Lib.hid (A1.out.trans (hb.mono A1.out.size)); clear hb)
    | fail)
  go_ret2
  exact ⟨rfl, B2.out⟩

set_option maxRecDepth 100000 in
/-- a set for which there is no room -/
theorem put_full {B tb room Bs : Nat} {T : Tb} {v : Value} {L : List Nat} (w : World) (ht : TbIn w B tb T) (hg : Good T) (hs : SetAt w Bs room v L) (hr : IdxOut (keys T.E) (nums L) (-1)) (hf : T.most ≤ T.E.length) :
    Calls Tryd.prog 11 #[ptr tb, setV room v] w fun e w' => e = .returned (.tuple #[.int .i64 (-1), .bool false]) ∧ Below w.heap.size w w' := by
  have MD := Lib.hid (fun W (hW : Below w.heap.size w W) => made_any W (ht.next hW))
  have NM := Lib.hid (fun W (hW : Below w.heap.size w W) => number_idx (-1) W (ht.next hW) hg (hs.next hW) hr)
  have FL := Lib.hid (fun W (hW : Below w.heap.size w W) => filled_any W (ht.next hW))
  rw [decide_eq_true hf] at FL
  obtain ⟨ao, an, ac, rfl⟩ := hs.val
  have hl := ht.lt
  have c4 := ht.cells.2.2.2.2
  unfold fullV at c4
  clear ht hg hs hr
  unfold ptr setV at *
  have A1 := Lib.hid ((Below.refl w.heap.size w).alloc (Nat.le_refl _) (.cells #[.int .i64 (room : Nat), .slice ao an ac] 34))
  go_enter Tryd.func11, Tryd.ntmps11
  go_wp2_with (first
    | (go_at_call 23; (with_reducible refine (MD.out _ A1.out).mono ?_); rintro e w1 ⟨rfl, hw1⟩; subst hw1)
    | (go_at_call 24; (with_reducible refine (NM.out _ A1.out).mono ?_); rintro e w2 ⟨rfl, hb⟩; have b2 := A1.out.trans (hb.mono A1.out.size); have B2 := Lib.hid b2; have d4 := cell_next c4 b2; have hl2 := cell_lt d4; clear hb b2)
    | (go_at_call 21; (with_reducible refine (FL.out _ B2.out).mono ?_); rintro e w3 ⟨rfl, hb⟩; have B3 := Lib.hid (B2.out.trans (hb.mono B2.out.size)); clear hb)
    | fail)
  go_ret2
  exact ⟨rfl, B3.out⟩

/-- what Put tells of a new set -/
def PutOut (W : World) (B tb : Nat) (T : Tb) (N : List Int) (e : Ending) (W' : World) : Prop :=
  ∃ T', e = .returned (.tuple #[.int .i64 (T.E.length : Nat), .bool true]) ∧ TbIn W' B tb T' ∧ Good T' ∧ keys T'.E = keys T.E ++ [N] ∧ T'.most = T.most ∧ T'.bw = T.bw ∧ Step tb T W T' W'
set_option maxRecDepth 100000 in
set_option maxHeartbeats 1000000 in
theorem put_new {B tb room Bs : Nat} {T : Tb} {v : Value} {L : List Nat} (w : World) (ht : TbIn w B tb T) (hg : Good T) (hs : SetAt w Bs room v L) (hr : IdxOut (keys T.E) (nums L) (-1)) (hf : T.E.length < T.most) (hbw : T.bw ≤ w.heap.size) :
    Calls Tryd.prog 11 #[ptr tb, setV room v] w fun e w' => PutOut w B tb T (nums L) e w' := by
  have MD := Lib.hid (fun W (hW : Below w.heap.size w W) => made_any W (ht.next hW))
  have NM := Lib.hid (fun W (hW : Below w.heap.size w W) => number_idx (-1) W (ht.next hW) hg (hs.next hW) hr)
  have FL := Lib.hid (fun W (hW : Below w.heap.size w W) => filled_any W (ht.next hW))
  rw [decide_eq_false (by omega : ¬ T.most ≤ T.E.length)] at FL
  have CP := Lib.hid (fun W (hW : Below w.heap.size w W) => copy_any Bs room v L W (hs.next hW))
  have AD := Lib.hid (fun W u (hW : Below w.heap.size w W) (hu : SetAt W T.bw room u L) => add_any W (ht.next hW) hg hu hf (idx_no hr (by omega)))
  obtain ⟨ao, an, ac, rfl⟩ := hs.val
  have hl := ht.lt
  have c4 := ht.cells.2.2.2.2
  unfold fullV at c4
  clear ht hg hs hr
  unfold ptr setV at *
  have b1 := at_new w (.cells #[.int .i64 (room : Nat), .slice ao an ac] 34)
  obtain ⟨x0, x1, x2⟩ := at2 b1
  have HX := Lib.hid b1
  have A1 := Lib.hid ((Below.refl w.heap.size w).alloc (Nat.le_refl _) (.cells #[.int .i64 (room : Nat), .slice ao an ac] 34))
  clear b1
  go_enter Tryd.func11, Tryd.ntmps11
  go_wp2_with (first
    | (go_at_call 23; (with_reducible refine (MD.out _ A1.out).mono ?_); rintro e w1 ⟨rfl, hw1⟩; subst hw1)
    | (go_at_call 24; (with_reducible refine (NM.out _ A1.out).mono ?_); rintro e w2 ⟨rfl, hb⟩; go_must (have b2 := A1.out.trans (hb.mono A1.out.size); have B2 := Lib.hid b2; have d4 := cell_next c4 b2; have hl2 := cell_lt d4; have HX2 := Lib.hid (at_next HX.out hb); clear hb b2))
    | (go_at_call 21; (with_reducible refine (FL.out _ B2.out).mono ?_); rintro e w3 ⟨rfl, hb⟩; go_must (have B3 := Lib.hid (B2.out.trans (hb.mono B2.out.size)); obtain ⟨y0, y1, y2⟩ := at2 (at_next HX2.out hb); clear hb))
    | (go_at_call 27; (with_reducible refine (CP.out _ B3.out).mono ?_); rintro e w4 ⟨u, rfl, hu, hb⟩; obtain ⟨bo, bn, bc, rfl⟩ := hu.val; unfold setV; go_must (have hb4 := B3.out.trans (hb.mono B3.out.size); have HU := Lib.hid (And.intro hb4 (hu.base (show T.bw ≤ _ from Nat.le_trans hbw B3.out.size))); clear hu hb hb4))
    | (go_at_call 26; (with_reducible refine (AD.out _ _ HU.out.1 HU.out.2).mono ?_); rintro e w5 ⟨T', rfl, z1, z2, z3, z4, z6, z5⟩)
    | fail)
  go_ret2
  exact ⟨T', rfl, z1, z2, z3, z4, z6, (Step.below HU.out.1).trans z5⟩

theorem idx_ex (l : List (List Int)) (N : List Int) : ∃ r, IdxOut l N r := by
  have key : ∀ n, n ≤ l.length → (∀ i, i < n → l.getD i [] ≠ N) ∨ ∃ i : Nat, i < n ∧ l.getD i [] = N ∧ ∀ j, j < i → l.getD j [] ≠ N := by
    intro n
    induction n with
    | zero => exact fun _ => .inl fun i hi => by omega
    | succ n ih =>
      intro hn
      rcases ih (by omega) with h | ⟨i, h1, h2, h3⟩
      · by_cases he : l.getD n [] = N
        · exact .inr ⟨n, by omega, he, h⟩
        · refine .inl fun i hi => ?_
          by_cases hin : i = n
          · rw [hin]; exact he
          · exact h i (by omega)
      · exact .inr ⟨i, by omega, h2, h3⟩
  rcases key l.length (Nat.le_refl _) with h | ⟨i, h1, h2, h3⟩
  · exact ⟨-1, .inl ⟨rfl, h⟩⟩
  · exact ⟨i, .inr ⟨i, rfl, h1, h2, h3⟩⟩
theorem idx_mem {l : List (List Int)} {N : List Int} {r : Int} (h : IdxOut l N r) (h0 : 0 ≤ r) : N ∈ l := by
  rcases h with ⟨rfl, _⟩ | ⟨i, rfl, hi, he, _⟩
  · omega
  · rw [← he]
    have : l.getD i [] = l[i] := by simp [List.getD, hi]
    rw [this]; exact List.getElem_mem hi

end Go.Proofs.YtemmaoapicaloaaDoor.Sb

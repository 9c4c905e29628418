/- The document's ends: put and ends. -/
import Derived.Test.YtdmceapbobkklaaDoorRgCmp0
namespace Go.Proofs.YtdmceapbobkklaaDoor.Rg
open Go.RowKit Go.Shelf

def insL : List Int → Int → List Int
  | [], x => [x]
  | y :: t, x => if y < x then y :: insL t x else if y = x then y :: t else x :: y :: t
theorem insL_mem : ∀ (l : List Int) (x z : Int), z ∈ insL l x ↔ z = x ∨ z ∈ l
  | [], x, z => by simp [insL]
  | y :: t, x, z => by
    unfold insL
    split
    · rw [List.mem_cons, insL_mem t x z, List.mem_cons]; grind
    · split
      · rename_i h; subst h; simp
      · simp
theorem insL_sorted : ∀ {l : List Int} {x : Int}, l.Pairwise (· < ·) → (insL l x).Pairwise (· < ·)
  | [], x, _ => by simp [insL]
  | y :: t, x, h => by
    obtain ⟨h1, h2⟩ := List.pairwise_cons.1 h
    unfold insL
    split
    · rename_i hlt
      refine List.pairwise_cons.2 ⟨fun z hz => ?_, insL_sorted h2⟩
      rcases (insL_mem _ _ _).1 hz with rfl | hz
      · exact hlt
      · exact h1 z hz
    · split
      · exact h
      · refine List.pairwise_cons.2 ⟨fun z hz => ?_, h⟩
        rcases List.mem_cons.1 hz with rfl | hz
        · omega
        · have := h1 z hz; omega
theorem insL_len : ∀ (l : List Int) (x : Int), (insL l x).length ≤ l.length + 1
  | [], x => by simp [insL]
  | y :: t, x => by
    have := insL_len t x
    unfold insL
    split
    · simp; omega
    · split <;> simp
def nthI (l : List Int) (i : Nat) : Int := l.getD i 0
theorem nthI_eq {l : List Int} {i : Nat} (h : i < l.length) : nthI l i = l[i] := by simp [nthI, List.getD, h]
theorem insL_lt {l : List Int} {k : Nat} {x : Int} (hk : k < l.length) (hlt : nthI l k < x) : insL (l.drop k) x = nthI l k :: insL (l.drop (k + 1)) x := by
  rw [List.drop_eq_getElem_cons hk, insL, ← nthI_eq hk, if_pos hlt]
theorem insL_eq {l : List Int} {k : Nat} {x : Int} (hk : k < l.length) (h : nthI l k = x) : insL (l.drop k) x = l.drop k := by
  rw [List.drop_eq_getElem_cons hk, insL, ← nthI_eq hk, if_neg (by omega), if_pos h]
theorem insL_gt {l : List Int} {k : Nat} {x : Int} (hk : k < l.length) (h : x < nthI l k) : insL (l.drop k) x = x :: l.drop k := by
  rw [List.drop_eq_getElem_cons hk, insL, ← nthI_eq hk, if_neg (by omega), if_neg (by omega)]

/-- what is known of the ends of some ranges -/
structure EndsOk (l : List R) (E : List Int) : Prop where
  sorted : E.Pairwise (· < ·)
  zero : 0 ∈ E
  top : 1114112 ∈ E
  bnd : ∀ x ∈ E, 0 ≤ x ∧ x ≤ 1114112
  los : ∀ r ∈ l, 0 < r.1 → r.1 < 1114112 → r.1 ∈ E
  his : ∀ r ∈ l, 0 ≤ r.2 → r.2 < 1114111 → r.2 + 1 ∈ E
theorem EndsOk.start : EndsOk [] [0, 1114112] := ⟨by simp, by simp, by simp, by simp, by simp, by simp⟩
theorem EndsOk.ins {l : List R} {E : List Int} (h : EndsOk l E) {x : Int} (h0 : 0 ≤ x) (h1 : x ≤ 1114112) : EndsOk l (insL E x) :=
  ⟨insL_sorted h.sorted, (insL_mem _ _ _).2 (.inr h.zero), (insL_mem _ _ _).2 (.inr h.top), fun z hz => by
    rcases (insL_mem _ _ _).1 hz with rfl | hz
    · exact ⟨h0, h1⟩
    · exact h.bnd z hz, fun r hr a b => (insL_mem _ _ _).2 (.inr (h.los r hr a b)), fun r hr a b => (insL_mem _ _ _).2 (.inr (h.his r hr a b))⟩
theorem EndsOk.more {l : List R} {E : List Int} (h : EndsOk l E) {r : R} (h1 : 0 < r.1 → r.1 < 1114112 → r.1 ∈ E) (h2 : 0 ≤ r.2 → r.2 < 1114111 → r.2 + 1 ∈ E) : EndsOk (l ++ [r]) E :=
  ⟨h.sorted, h.zero, h.top, h.bnd, fun q hq a b => by
    rcases List.mem_append.1 hq with hq | hq
    · exact h.los q hq a b
    · simp at hq; subst hq; exact h1 a b, fun q hq a b => by
    rcases List.mem_append.1 hq with hq | hq
    · exact h.his q hq a b
    · simp at hq; subst hq; exact h2 a b⟩
/-- one range's ends put among them -/
def put1 (E : List Int) (r : R) : List Int := if 0 < r.1 ∧ r.1 < 1114112 then insL E r.1 else E
def put2 (E : List Int) (r : R) : List Int := if 0 ≤ r.2 ∧ r.2 < 1114111 then insL (put1 E r) (r.2 + 1) else put1 E r
theorem EndsOk.step {l : List R} {E : List Int} (h : EndsOk l E) (r : R) : EndsOk (l ++ [r]) (put2 E r) := by
  have h1 : EndsOk l (put1 E r) := by
    unfold put1; split
    · exact h.ins (by omega) (by omega)
    · exact h
  have m1 : 0 < r.1 → r.1 < 1114112 → r.1 ∈ put1 E r := fun a b => by
    unfold put1; rw [if_pos ⟨a, b⟩]; exact (insL_mem _ _ _).2 (.inl rfl)
  by_cases hc : 0 ≤ r.2 ∧ r.2 < 1114111
  · rw [put2, if_pos hc]
    exact (h1.ins (x := r.2 + 1) (by omega) (by omega)).more (fun a b => (insL_mem _ _ _).2 (.inr (m1 a b))) (fun _ _ => (insL_mem _ _ _).2 (.inl rfl))
  · rw [put2, if_neg hc]
    exact h1.more m1 fun a b => absurd ⟨a, b⟩ hc

/-- an owned row of numbers -/
abbrev ownI (W : World) (B : Nat) (v : Value) (l : List Int) : Prop := W.ownsRow B 3 1 v l.length (l.map (Value.int .i64))
theorem ownI_cell {W : World} {B g cap n : Nat} {l : List Int} (h : W.ownsRow B 3 1 (.slice (some ⟨g, 0, none⟩) n cap) n (l.map (Value.int .i64))) (hn : l.length = n) {i : Nat} (hi : i < n) : W.cell? ⟨g, i, none⟩ = some (.int .i64 (nthI l i)) := by
  rw [h.cellAt _ (by omega)]
  simp [nthI, List.getD, hn, hi]
theorem ownI_cap {W : World} {B g cap n : Nat} {xs : List Value} (h : W.ownsRow B 3 1 (.slice (some ⟨g, 0, none⟩) n cap) n xs) : n ≤ cap ∧ cap ≤ maxLen ∧ B ≤ g ∧ g < W.heap.size := by
  have h2 := h.lt g rfl
  rcases h.2 with ⟨h', _⟩ | ⟨g', cap', cur, h', _, _, hn, hm, _⟩
  · simp at h'
  · simp at h'; omega
/-- a part of the row, as what is appended -/
theorem ownI_part {W : World} {B g cap n : Nat} {l : List Int} (h : W.ownsRow B 3 1 (.slice (some ⟨g, 0, none⟩) n cap) n (l.map (Value.int .i64))) (k m : Nat) (hkm : k + m ≤ n) :
    ∀ j u, (((l.drop k).take m).map (Value.int .i64))[j]? = some u → W.cell? ((⟨g, k, none⟩ : Addr).add j) = some u := by
  intro j u hj
  have hlen : j < m := by
    have := (List.getElem?_eq_some_iff.1 hj).1
    simp at this; omega
  have e : (⟨g, k, none⟩ : Addr).add j = ⟨g, k + j, none⟩ := by
    unfold Addr.add; split
    · rename_i h0; subst h0; rfl
    · simp
  rw [e, h.cellAt _ (by omega)]
  rw [← hj]
  simp [hlen]
theorem rowI_next {w w' : World} {B : Nat} {v : Value} {n : Nat} {xs : List Value} (h : w.ownsRow B 3 1 v n xs) (hb : Below w.heap.size w w') : w'.ownsRow B 3 1 v n xs := row_next h hb

def PutOut (B : Nat) (l : List Int) (x : Int) (w : World) (e : Ending) (w' : World) : Prop := ∃ v', e = .returned v' ∧ ownI w' B v' (insL l x) ∧ Below w.heap.size w w'

set_option maxRecDepth 100000 in
set_option maxHeartbeats 4000000 in
theorem rput_any (B : Nat) (l : List Int) (x : Int) (v : Value) (w : World) (hv : ownI w B v l) (hB : B ≤ w.heap.size) (htop : ∃ i, i < l.length ∧ x ≤ nthI l i) (hM : l.length ≤ 1000000) :
    Calls Tryd.prog 59 #[v, .int .i64 x] w fun e w' => PutOut B l x w e w' := by
  obtain ⟨i0, hi, hz0, hz1, hz2⟩ := info_parts infoI
  have h0 : 0 < l.length := by obtain ⟨i, hi, _⟩ := htop; omega
  obtain ⟨g, cap, rfl, _, _⟩ := hv.form h0
  unfold ownI at hv
  generalize hn : l.length = n at *
  have HV := Lib.hid hv
  obtain ⟨hc1, hc2, _, hg⟩ := ownI_cap hv
  unfold maxLen at hc2
  clear hv
  go_enter Tryd.func59, Tryd.ntmps59
  go_wp2
  go_loop [5] (fun i => ∃ k : Nat, k ≤ n ∧ i = .int .i64 k ∧ (insL l x = l.take k ++ insL (l.drop k) x) ∧ ∀ j, j < k → nthI l j < x) (fun i => n - (intOf i).toNat)
  case atStart => exact ⟨0, Nat.zero_le _, rfl, rfl, fun j hj => absurd hj (by omega)⟩
  case round =>
    obtain ⟨k, hk, rfl, hx, hall⟩ := hrel
    have ins : insL (l.drop k) x = x :: l.drop k → ∀ v' W, W.ownsRow B 3 1 v' (0 + k + 1 + (n - k)) ([] ++ (l.take k).map (Value.int .i64) ++ [.int .i64 x] ++ (l.drop k).map (Value.int .i64)) → Below w.heap.size w W → PutOut B l x w (.returned v') W := by
      intro h v' W hW hb
      refine ⟨v', rfl, ?_, hb⟩
      unfold ownI
      rw [hx, h, show (l.take k ++ x :: l.drop k).length = 0 + k + 1 + (n - k) by simp; omega]
      simpa using hW
    have HI := Lib.hid ins
    by_cases hlt : k < n
    · have c1 := ownI_cell HV.out hn hlt
      rcases Int.lt_trichotomy (nthI l k) x with hc | hc | hc
      · rw [insL_lt (by omega) hc] at hx
        have hx2 : insL l x = l.take (k + 1) ++ insL (l.drop (k + 1)) x := by
          rw [hx, List.take_succ_eq_append_getElem (by omega), nthI_eq (by omega), List.append_assoc]; rfl
        have HX := Lib.hid hx2
        have hall2 : ∀ j, j < k + 1 → nthI l j < x := fun j hj => by
          rcases Nat.lt_or_ge j k with h | h
          · exact hall j h
          · rwa [show j = k by omega]
        have HA := Lib.hid hall2
        clear hx hx2 ins hall hall2
        go_wp2
        go_round
        case rel => exact ⟨k + 1, by omega, by go_num, HX.out, HA.out⟩
        case measure => simp [intOf]; omega
      · rw [insL_eq (by omega) hc, List.take_append_drop] at hx
        have HX := Lib.hid hx
        rw [hc] at c1
        clear hx ins hall
        go_wp2
        go_ret
        exact ⟨_, rfl, by unfold ownI; rw [HX.out, hn]; exact HV.out, Below.refl _ _⟩
      · have hx2 := HI.out (insL_gt (by omega) hc)
        have HX := Lib.hid hx2
        have t1 : ¬ nthI l k < x := by omega
        have t2 : (nthI l k == x) = false := by simp; omega
        have hck : ¬ cap = k := by omega
        have hb0 : Below w.heap.size w (w.alloc (.cells #[] 3)) := (Below.refl _ _).alloc (Nat.le_refl _) _
        have HB0 := Lib.hid hb0
        have OL := Lib.hid (World.ownsRow_lit (e := 3) (size := 1) w #[] 0 (Nat.le_refl _) (by decide) (by simp))
        have TK := Lib.hid (List.take_of_length_le (i := n - k) (l := l.drop k) (by simp; omega))
        clear hx hx2 ins hall hb0
        go_wp2_with (at_builtin; first
          | (refine wpList_append_own _ rfl _ _ 54 rfl w.heap.size 3 i0 (.int .i64 0) 1 8 Tryd.underlying54 hi hz0 hz1 hz2 rfl (by decide) (.slice (some ⟨w.heap.size, 0, none⟩) 0 0) 0 [] rfl OL.out ⟨g, 0, none⟩ k cap (((l.drop 0).take k).map (Value.int .i64)) rfl (by simp; omega) (ownI_part (rowI_next HV.out HB0.out) 0 k (by omega)) (by intro u hu; obtain ⟨y, _, rfl⟩ := List.mem_map.1 hu; rfl) (by unfold maxLen; omega) (by omega) (by simp) ?_; intro v1 w1 hown1 hgrow1 _; go_must (have hb1 := HB0.out.grown hgrow1 (by simp) (fun k hk => by simp [Value.ownBlock] at hk; omega); have O1 := Lib.hid hown1; have B1 := Lib.hid hb1; have hs1 := hb1.size; clear hown1 hgrow1 hb1))
          | (refine wpList_append_own _ rfl _ _ 54 rfl w.heap.size 3 i0 (.int .i64 0) 1 8 Tryd.underlying54 hi hz0 hz1 hz2 rfl (by decide) v1 (0 + k) ([] ++ ((l.drop 0).take k).map (Value.int .i64)) rfl (O1.out.alloc _) ⟨w1.heap.size, 0, none⟩ 1 1 [.int .i64 x] rfl rfl (World.news_of_block (heap_alloc_new _ _)) (by simp [Value.oneCell']) (by unfold maxLen; omega) (by omega) (by simp; omega) ?_; intro v2 w2 hown2 hgrow2 _; go_must (have hb2 := (B1.out.alloc hs1 _).grown hgrow2 (by simp; omega) (fun k hk => (O1.out.lt k hk).1); have O2 := Lib.hid hown2; have B2 := Lib.hid hb2; have hs2 := hb2.size; clear hown2 hgrow2 hb2))
          | (refine wpList_append_own _ rfl _ _ 54 rfl w.heap.size 3 i0 (.int .i64 0) 1 8 Tryd.underlying54 hi hz0 hz1 hz2 rfl (by decide) v2 (0 + k + 1) ([] ++ ((l.drop 0).take k).map (Value.int .i64) ++ [.int .i64 x]) rfl O2.out ⟨g, k, none⟩ (n - k) (cap - k) ((l.drop k).map (Value.int .i64)) rfl (by simp; omega) (by have h := ownI_part (rowI_next HV.out B2.out) k (n - k) (by omega); rw [TK.out] at h; exact h) (by intro u hu; obtain ⟨y, _, rfl⟩ := List.mem_map.1 hu; rfl) (by unfold maxLen; omega) (by omega) (by omega) ?_; intro v3 w3 hown3 hgrow3 _; go_must (have hb3 := B2.out.grown hgrow3 (by omega) (fun k hk => (O2.out.lt k hk).1); have FI := Lib.hid (HX.out v3 w3 (row_base hown3 hB) hb3); clear hown3 hgrow3 hb3)))
        all_goals (go_ret; exact FI.out)
    · exfalso
      obtain ⟨i, hi1, hi2⟩ := htop
      have := hall i (by omega)
      omega

end Go.Proofs.YtdmceapbobkklaaDoor.Rg

/- Two slices of sets, one behind the other. -/
import Derived.Test.YtdgpanofehfjdaaArKx
import Derived.Lib.AppendZerosOnto
import Derived.Lib.AppendZeros
import Derived.Lib.SliceRun
import Derived.Laws.AppendOwnNone
import Derived.OwnWalk
namespace Go.Proofs.Ytdgpanofehfjdaa.Ar
open Go Go.RowKit Go.Shelf
open Go.Proofs.Ytdgpanofehfjdaa.Rg (R RngsAt RowsAt nthL add_zero own_next infoS)

theorem grownCap_big {w : World} {m : Nat} {e : TypeId} : grownCap w m 0 e ≤ maxLen ∨ ¬ m ≤ maxLen := by
  by_cases h : m ≤ maxLen
  · exact .inl (grownCap_le_maxLen w m 0 e h)
  · exact .inr h

set_option maxRecDepth 100000 in
set_option maxHeartbeats 4000000 in
theorem grow_any (m : Nat) (w : World) (hm : m ≤ 1000000) :
    Calls Try.prog 55 #[.slice none 0 0, .int .i64 m] w fun e w' => ∃ v, e = .returned v ∧ w'.ownsRow w.heap.size 37 1 v 0 [] ∧ Below w.heap.size w w' := by
  obtain ⟨i0, hi, hz0, hz1, hz2⟩ := info_parts infoS
  have h1 : ¬ ((m : Int) < 0) := by omega
  rcases Nat.eq_zero_or_pos m with rfl | hpos
  · go_enter Try.func55, Try.ntmps55
    go_wp2
    go_ret
    exact ⟨_, rfl, World.ownsRow_nil _ _ _ _, Below.refl _ _⟩
  · have hrz : ∀ ty, (Builtin.append_ #[23, 3] ty #[.slice none 0 0, .int .i64 m]).run Try.prog w =
        .ok (.slice (some ⟨w.heap.size, 0, none⟩) m (grownCap w m 0 37)) (w.drew.alloc (.cells (#[] ++ Builtin.zeroCells (Value.slice none 0 0).cells m ++ Builtin.zeroCells (Value.slice none 0 0).cells (grownCap w m 0 37 - m)) 37)) := fun ty => by
      have h := Lib.run_append_grow_zeros (P := Try.prog) w 23 3 ty 37 i0 (.slice none 0 0) .i64 .i64 Try.underlying23 Try.underlying3 hi hz0 none 0 0 [] (run_firstCells_none w.drew i0.size 0 0 0) m hpos (by omega) (by omega) (by omega) (by rw [hz2]; omega) (growslice_fits (by omega) (by rw [hz2]; omega))
      simpa using h
    have hG := grownCap_ge w m 0 37
    have hG2 : grownCap w m 0 37 ≤ maxLen := grownCap_le_maxLen w m 0 _ (by unfold maxLen; omega)
    have hown : (w.drew.alloc (.cells (#[] ++ Builtin.zeroCells (Value.slice none 0 0).cells m ++ Builtin.zeroCells (Value.slice none 0 0).cells (grownCap w m 0 37 - m)) 37)).ownsRow w.heap.size 37 1 (.slice (some ⟨w.heap.size, 0, none⟩) 0 (grownCap w m 0 37)) 0 [] := by
      have := World.ownsRow_made (base := w.heap.size) (e := 37) (size := 1) w.drew (#[] ++ Builtin.zeroCells (Value.slice none 0 0).cells m ++ Builtin.zeroCells (Value.slice none 0 0).cells (grownCap w m 0 37 - m)) (grownCap w m 0 37) (Nat.le_refl _) hG2 (by
        rw [Array.size_append, Array.size_append, size_zeroCells, size_zeroCells]
        have e : (Value.slice none 0 0).cells.size = 1 := rfl
        rw [e]; simp; omega)
      exact this
    have hb : Below w.heap.size w (w.drew.alloc (.cells (#[] ++ Builtin.zeroCells (Value.slice none 0 0).cells m ++ Builtin.zeroCells (Value.slice none 0 0).cells (grownCap w m 0 37 - m)) 37)) :=
      (show Below w.heap.size w w.drew from ⟨rfl, rfl, rfl, Nat.le_refl _, fun _ _ => rfl⟩).alloc (Nat.le_refl _) _
    have HO := Lib.hid hown
    have HB := Lib.hid hb
    have hG63 : grownCap w m 0 37 ≤ 9223372036854775807 := by unfold maxLen at hG2; omega
    generalize #[] ++ Builtin.zeroCells (Value.slice none 0 0).cells m ++ Builtin.zeroCells (Value.slice none 0 0).cells (grownCap w m 0 37 - m) = cs at *
    generalize grownCap w m 0 37 = G at *
    clear hown hb hi hz0 hz1 hz2 hG2
    have h4 : (m : Int) > 0 := by omega
    go_enter Try.func55, Try.ntmps55
    go_wp2_with (at_builtin; refine Lib.wpList_append_run _ rfl _ _ _ _ rfl _ _ rfl rfl _ _ (hrz _) ?_)
    go_ret
    exact ⟨_, rfl, HO.out, HB.out⟩

/-- values that read as these sets -/
structure Vals (w : World) (L : List (List R)) (xs : List Value) : Prop where
  len : xs.length = L.length
  each : ∀ i, i < L.length → ∃ x, xs[i]? = some x ∧ RngsAt w x (nthL L i)
theorem Vals.next {w w' : World} {L : List (List R)} {xs : List Value} (h : Vals w L xs) (hb : Below w.heap.size w w') : Vals w' L xs :=
  ⟨h.len, fun i hi => by obtain ⟨x, h1, h2⟩ := h.each i hi; exact ⟨x, h1, h2.next hb⟩⟩
theorem Vals.app {w : World} {L K : List (List R)} {xs ys : List Value} (h : Vals w L xs) (k : Vals w K ys) : Vals w (L ++ K) (xs ++ ys) := by
  refine ⟨by rw [List.length_append, List.length_append, h.len, k.len], fun i hi => ?_⟩
  rw [List.length_append] at hi
  rcases Nat.lt_or_ge i L.length with hl | hl
  · obtain ⟨x, h1, h2⟩ := h.each i hl
    exact ⟨x, by rw [List.getElem?_append_left (by rw [h.len]; exact hl)]; exact h1, by rw [show nthL (L ++ K) i = nthL L i by simp [nthL, List.getElem?_append_left hl]]; exact h2⟩
  · obtain ⟨x, h1, h2⟩ := k.each (i - L.length) (by omega)
    exact ⟨x, by rw [List.getElem?_append_right (by rw [h.len]; exact hl), h.len]; exact h1, by rw [show nthL (L ++ K) i = nthL K (i - L.length) by simp [nthL, List.getElem?_append_right hl]]; exact h2⟩
theorem Vals.one {w : World} {L : List (List R)} {xs : List Value} (h : Vals w L xs) : ∀ u ∈ xs, u.oneCell' = true := by
  intro u hu
  obtain ⟨i, hi, rfl⟩ := List.mem_iff_getElem.1 hu
  obtain ⟨x, h1, h2⟩ := h.each i (by rw [← h.len]; exact hi)
  rw [List.getElem?_eq_getElem hi] at h1
  simp only [Option.some.injEq] at h1
  obtain ⟨xo, xcap, e, _, _⟩ := h2.shape
  rw [h1, e]; rfl
/-- a slice's values -/
theorem vals_of {w : World} {v : Value} {L : List (List R)} (h : RowsAt w v L) : ∃ xs, Vals w L xs ∧ ((v = .slice none 0 0 ∧ L = [] ∧ xs = []) ∨ ∃ (a : Addr) (cap : Nat), v = .slice (some a) L.length cap ∧ ∀ j u, xs[j]? = some u → w.cell? (a.add j) = some u) := by
  rcases h with ⟨rfl, rfl⟩ | ⟨a, cap, rfl, hm, hc⟩
  · exact ⟨[], ⟨rfl, fun i hi => by simp at hi⟩, .inl ⟨rfl, rfl, rfl⟩⟩
  · have hex : ∀ i, ∃ x, i < L.length → w.cell? (a.add i) = some x ∧ RngsAt w x (nthL L i) := fun i => by
      by_cases hi : i < L.length
      · obtain ⟨x, h1⟩ := hc i hi; exact ⟨x, fun _ => h1⟩
      · exact ⟨.int .i64 0, fun h => absurd h hi⟩
    obtain ⟨f, hf⟩ := Classical.skolem.1 hex
    refine ⟨(List.range L.length).map f, ⟨by simp, fun i hi => ⟨f i, by simp [hi], (hf i hi).2⟩⟩, .inr ⟨a, cap, rfl, fun j u hj => ?_⟩⟩
    have hjl : j < L.length := by
      rcases Nat.lt_or_ge j L.length with h' | h'
      · exact h'
      · rw [List.getElem?_eq_none (by simp; exact h')] at hj; cases hj
    have e : f j = u := by simpa [hjl] using hj
    rw [← e]; exact (hf j hjl).1
/-- a row of the call's own reads as its values -/
theorem rows_of_vals {w : World} {B : Nat} {v : Value} {L : List (List R)} {xs : List Value} (h : w.ownsRow B 37 1 v L.length xs) (k : Vals w L xs) : RowsAt w v L := by
  rcases h.2 with ⟨rfl, h0⟩ | ⟨g, cap, cur, rfl, _, hg, hn, hm, _, ht⟩
  · exact .inl ⟨rfl, List.eq_nil_of_length_eq_zero h0⟩
  · refine .inr ⟨⟨g, 0, none⟩, cap, rfl, by omega, fun i hi => ?_⟩
    obtain ⟨x, h1, h2⟩ := k.each i hi
    refine ⟨x, ?_, h2⟩
    rw [add_zero]
    rw [← ht, List.getElem?_take] at h1
    split at h1
    · simp [World.cell?, hg]; simpa using h1
    · cases h1
/-- append of a slice of sets that may be none -/
theorem wpList_apps {W0 W : World} (hW : Below W0.heap.size W0 W) {ops : Array Oper} {rest : List Oper} {o : Oper} {a : Act} {Q : Exit → Act → World → Prop} (hgd : o.guard = none) (s x : Operand)
    (ho : o.op = .call { callee := .builtin .append, args := #[s, x], argTypes := #[23, 23] }) (B : Nat) (v : Value) (L : List (List R)) (xs : List Value) (hs : a.eval s = v) (hown : W.ownsRow B 37 1 v L.length xs) (hvs : Vals W0 L xs)
    (src : Value) (K : List (List R)) (hx : a.eval x = src) (hsrc : RowsAt W0 src K) (hM : L.length + K.length ≤ 1000000) (hB : B ≤ W.heap.size)
    (h : ∀ v' w' ys, w'.ownsRow B 37 1 v' (L ++ K).length ys → Vals W0 (L ++ K) ys → W.grownBy w' v.ownBlock → wpList Try.prog ops Q rest (a.put o.dst v') w') : wpList Try.prog ops Q (o :: rest) a W := by
  obtain ⟨i0, hi, hz0, hz1, hz2⟩ := info_parts infoS
  obtain ⟨ys, hys, hk⟩ := vals_of hsrc
  rcases hk with ⟨rfl, rfl, rfl⟩ | ⟨ad, cap, rfl, hc⟩
  · exact wpList_append_own_none hgd s x 23 ho B 37 i0 1 Try.underlying23 hi v L.length xs hs hown hx (h v W xs (by simpa using hown) (by simpa using hvs) ⟨rfl, rfl, rfl, Nat.le_refl _, fun _ _ _ => rfl⟩)
  · refine wpList_append_own _ hgd s x 23 ho B 37 i0 (.slice none 0 0) 1 24 Try.underlying23 hi hz0 hz1 hz2 rfl (by decide) v L.length xs hs hown ad K.length cap ys hx (by rw [hys.len]; omega) (fun j u hj => cell_next (hc j u hj) hW) hys.one (by unfold maxLen; omega) (by omega) hB fun v' w' h1 h2 _ => h v' w' (xs ++ ys) (by rw [List.length_append]; exact h1) (hvs.app hys) h2

/-- two slices in a row -/
structure TwoAt (w : World) (g : Addr) (A B : List (List R)) (va vb : Value) : Prop where
  c0 : w.cell? (g.add 0) = some va
  c1 : w.cell? (g.add 1) = some vb
  a : RowsAt w va A
  b : RowsAt w vb B
def szN (a b : Nat) : Nat → Nat
  | 0 => 0
  | 1 => a
  | _ => a + b
def takeN (A B : List (List R)) : Nat → List (List R)
  | 0 => []
  | 1 => A
  | _ => A ++ B

set_option maxRecDepth 100000 in
set_option maxHeartbeats 8000000 in
theorem concat_any (A B : List (List R)) (va vb : Value) (g : Addr) (w : World) (h : TwoAt w g A B va vb) (hM : A.length + B.length ≤ 1000000) :
    Calls Try.prog 37 #[.slice (some g) 2 2] w fun e w' => ∃ v, e = .returned v ∧ RowsAt w' v (A ++ B) ∧ Below w.heap.size w w' := by
  obtain ⟨c0, c1, ha, hb⟩ := h
  obtain ⟨ao, acap, rfl, ham, _⟩ := ha.shape
  obtain ⟨bo, bcap, rfl, hbm, _⟩ := hb.shape
  have HA := Lib.hid ha
  have HB := Lib.hid hb
  obtain ⟨xa, hxa, _⟩ := vals_of ha
  obtain ⟨xb, hxb, _⟩ := vals_of hb
  have CG := Lib.hid (fun W => grow_any (A.length + B.length) W hM)
  obtain ⟨na, hna⟩ : ∃ n, n = A.length := ⟨_, rfl⟩
  obtain ⟨nb, hnb⟩ : ∃ n, n = B.length := ⟨_, rfl⟩
  rw [← hna, ← hnb] at CG hM
  have CG := Lib.hid (fun W => show Calls Try.prog 55 #[.slice none 0 0, .int .i64 ((na : Int) + nb)] W (fun e w' => ∃ v, e = .returned v ∧ w'.ownsRow W.heap.size 37 1 v 0 [] ∧ Below W.heap.size W w') from CG.out W)
  rw [← hna] at ham c0 HA
  rw [← hnb] at hbm c1 HB
  have HNA := Lib.hid hna
  have HNB := Lib.hid hnb
  replace c0 : w.cell? g = some (.slice ao na acap) := c0
  replace c1 : w.cell? ⟨g.block, g.off + 1, none⟩ = some (.slice bo nb bcap) := c1
  have hgl := cell_lt c0
  clear ha hb hna hnb hxa hxb
  go_enter Try.func37, Try.ntmps37
  go_wp2
  go_loopw [3, 11] (fun s i wr => ∃ k : Nat, i = .int .i64 k ∧ k ≤ 2 ∧ s = .int .i64 (szN na nb k) ∧ wr = w) (fun _ i _ => 2 - (intOf i).toNat)
  case atStart => exact ⟨0, rfl, by omega, rfl, rfl⟩
  case round =>
    obtain ⟨k, rfl, hk, rfl, hw⟩ := hrel
    subst wr
    rcases (by omega : k = 0 ∨ k = 1 ∨ k = 2) with rfl | rfl | rfl
    · simp only [szN]
      go_wp2
      go_roundw
      case rel => exact ⟨1, by go_num, by omega, by first | rfl | simp [szN], by first | rfl | trivial⟩
      case measure => simp [intOf]
    · simp only [szN]
      go_wp2
      go_roundw
      case rel => exact ⟨2, by go_num, by omega, by first | rfl | simp [szN], by first | rfl | trivial⟩
      case measure => simp [intOf]
    · simp only [szN]
      go_wp2_with (go_at_call 55; (with_reducible refine (CG.out _).mono ?_); rintro e w2 ⟨v, rfl, hown, hb⟩; go_must (have HO := Lib.hid hown; have HBB := Lib.hid hb; clear hown hb))
      go_loopw [6, 27] (fun o i wr => ∃ (k : Nat) (vo : Value) (xs : List Value), i = .int .i64 k ∧ vo = o ∧ k ≤ 2 ∧ wr.ownsRow w.heap.size 37 1 vo (takeN A B k).length xs ∧ Vals w (takeN A B k) xs ∧ Below w.heap.size w wr) (fun _ i _ => 2 - (intOf i).toNat)
      case atStart => exact ⟨0, _, [], rfl, rfl, by omega, HO.out, ⟨rfl, fun i hi => by simp [takeN] at hi⟩, HBB.out⟩
      case round =>
        obtain ⟨k, o, xs, rfl, rfl, hk, hown, hvals, hbw⟩ := hrel
        obtain ⟨wo, rfl⟩ : ∃ x, x = wr := ⟨_, rfl⟩
        have d0 := cell_next c0 hbw
        have d1 := cell_next c1 hbw
        have hsz := hbw.size
        have HOWN := Lib.hid hown
        have HV := Lib.hid hvals
        have HBW := Lib.hid hbw
        clear hown hvals hbw
        rcases (by omega : k = 0 ∨ k = 1 ∨ k = 2) with rfl | rfl | rfl
        · go_wp2_with (at_builtin; refine wpList_apps HBW.out rfl _ _ rfl w.heap.size o (takeN A B 0) xs rfl HOWN.out HV.out (.slice ao na acap) A rfl HA.out (by have := HNA.out; simp [takeN]; omega) (by omega) ?_; intro v' w3 ys hown3 hv3 hg3; go_must (have O3 := Lib.hid hown3; have V3 := Lib.hid hv3; have B3 := Lib.hid (HBW.out.grown hg3 (by omega) (fun x hx => (HOWN.out.lt x hx).1)); clear hg3 hown3 hv3))
          go_roundw
          case rel => exact ⟨1, _, ys, by go_num, rfl, by omega, by simpa [takeN] using O3.out, by simpa [takeN] using V3.out, B3.out⟩
          case measure => simp [intOf]
        · go_wp2_with (at_builtin; refine wpList_apps HBW.out rfl _ _ rfl w.heap.size o (takeN A B 1) xs rfl HOWN.out HV.out (.slice bo nb bcap) B rfl HB.out (by have := HNA.out; have := HNB.out; simp [takeN]; omega) (by omega) ?_; intro v' w3 ys hown3 hv3 hg3; go_must (have O3 := Lib.hid hown3; have V3 := Lib.hid hv3; have B3 := Lib.hid (HBW.out.grown hg3 (by omega) (fun x hx => (HOWN.out.lt x hx).1)); clear hg3 hown3 hv3))
          go_roundw
          case rel => exact ⟨2, _, ys, by go_num, rfl, by omega, O3.out, V3.out, B3.out⟩
          case measure => simp [intOf]
        · go_wp2
          go_ret
          exact ⟨_, rfl, rows_of_vals HOWN.out (HV.out.next HBW.out), HBW.out⟩

end Go.Proofs.Ytdgpanofehfjdaa.Ar

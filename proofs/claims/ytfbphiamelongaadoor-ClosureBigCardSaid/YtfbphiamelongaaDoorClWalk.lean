/- A walk in memory: the states that were met, and those that wait; meet, byNothing, byAll. -/
import Derived.Test.YtfbphiamelongaaDoorClMem
import Derived.Test.YtfbphiamelongaaDoorBtOwn
import Derived.Test.YtfbphiamelongaaDoorBtOf
import Derived.Deep.DeepMust
import Derived.Deep.AppendLies
import Derived.Deep.Cut
namespace Go.Proofs.YtfbphiamelongaaDoor.Cl
open Go Go.RowKit
open Go.Proofs.YtfbphiamelongaaDoor.Bt (SetAt setV memL hasI fitB AddOut add_any iV own_slice wpList_appI one_new grown_trans grown_cell)

/-- a type of which a walk may turn blocks -/
def WT (t : TypeId) : Prop := t = 75 ∨ t = 71 ∨ t = 3
/-- nothing that stood has changed but walks, words and numbers from B on -/
structure Kw (B : Nat) (X : Nat → Prop) (w w' : World) : Prop where
  os : w'.os = w.os
  tape : w'.tape = w.tape
  output : w'.output = w.output
  size : w.heap.size ≤ w'.heap.size
  block : ∀ k, k < w.heap.size → (k < B ∨ X k ∨ ∀ cs t z, w.heap[k]? = some (.cells cs t z) → ¬ WT t) → w'.heap[k]? = w.heap[k]?
theorem Kw.refl (B : Nat) (X : Nat → Prop) (w : World) : Kw B X w w := ⟨rfl, rfl, rfl, Nat.le_refl _, fun _ _ _ => rfl⟩
theorem Kw.trans {B : Nat} {X : Nat → Prop} {a b c : World} (h : Kw B X a b) (k : Kw B X b c) : Kw B X a c :=
  ⟨k.os.trans h.os, k.tape.trans h.tape, k.output.trans h.output, Nat.le_trans h.size k.size, fun i hi h1 => by
    have e := h.block i hi h1
    refine (k.block i (Nat.lt_of_lt_of_le hi h.size) ?_).trans e
    rcases h1 with h1 | h1 | h1
    · exact .inl h1
    · exact .inr (.inl h1)
    · exact .inr (.inr (by rw [e]; exact h1))⟩
theorem Kw.of_below {B : Nat} {X : Nat → Prop} {w w' : World} (h : Below w.heap.size w w') : Kw B X w w' := ⟨h.os, h.tape, h.output, h.size, fun k hk _ => h.block k hk⟩
theorem Kw.below {B : Nat} {X : Nat → Prop} {w w' : World} (h : Kw B X w w') (hB : B ≤ w.heap.size) : Below B w w' := ⟨h.os, h.tape, h.output, h.size, fun k hk => h.block k (by omega) (.inl hk)⟩
theorem Kw.of_grown {B : Nat} {X : Nat → Prop} {o : Option Nat} {w w' : World} (h : w.grownBy w' o) (ho : ∀ k, o = some k → B ≤ k ∧ ¬ X k ∧ ∃ cs t z, w.heap[k]? = some (.cells cs t z) ∧ WT t) : Kw B X w w' :=
  ⟨h.os, h.tape, h.output, h.size, fun k hk h1 => h.block k hk fun e => by
    obtain ⟨h2, hx, cs, t, z, h3, h4⟩ := ho k e.symm
    rcases h1 with h1 | h1 | h1
    · omega
    · exact hx h1
    · exact h1 cs t z h3 h4⟩
theorem own_row {B : Nat} {X : Nat → Prop} {e : TypeId} {s n : Nat} {v : Value} {xs : List Value} {w : World} (h : w.ownsRow B e s v n xs) (he : WT e) (hX : ∀ k, v.ownBlock = some k → ¬ X k) : ∀ k, v.ownBlock = some k → B ≤ k ∧ ¬ X k ∧ ∃ cs t z, w.heap[k]? = some (.cells cs t z) ∧ WT t := by
  intro k hk
  rcases h.2 with ⟨rfl, _⟩ | ⟨g, cap, cur, rfl, hb, hg, _⟩
  · simp [Value.ownBlock] at hk
  · simp only [Value.ownBlock, Option.some.injEq] at hk
    subst hk
    exact ⟨hb, hX g rfl, _, _, _, hg, he⟩
theorem ne_row {B b : Nat} {e t : TypeId} {s n : Nat} {v : Value} {xs : List Value} {cs : Array Value} {z : Nat × Nat} {w : World} (h : w.ownsRow B e s v n xs) (hb : w.heap[b]? = some (.cells cs t z)) (hne : t ≠ e) : v.ownBlock = none ∨ v.ownBlock ≠ some b := by
  rcases h.2 with ⟨rfl, _⟩ | ⟨g, cap, cur, rfl, _, hg, _⟩
  · exact .inl rfl
  · refine .inr fun e2 => ?_
    simp only [Value.ownBlock, Option.some.injEq] at e2
    subst e2
    rw [hb] at hg
    simp only [Option.some.injEq, Obj.cells.injEq] at hg
    exact hne hg.2.1
theorem two_rows {B : Nat} {e f : TypeId} {s n s' n' : Nat} {v v' : Value} {xs xs' : List Value} {w : World} (h : w.ownsRow B e s v n xs) (k : w.ownsRow B f s' v' n' xs') (hne : e ≠ f) : v.ownBlock = none ∨ v.ownBlock ≠ v'.ownBlock := by
  rcases k.2 with ⟨rfl, _⟩ | ⟨g, cap, cur, rfl, _, hg, _⟩
  · rcases h.2 with ⟨rfl, _⟩ | ⟨g, cap, cur, rfl, _, hg, _⟩
    · exact .inl rfl
    · exact .inr (by simp [Value.ownBlock])
  · rcases ne_row h hg (Ne.symm hne) with h1 | h1
    · exact .inl h1
    · exact .inr (by simpa [Value.ownBlock] using h1)

theorem Kw.at_ {B : Nat} {X : Nat → Prop} {w w' : World} {b : Nat} {cs : Array Value} {t : TypeId} (h : Kw B X w w') (hb : w.heap[b]? = some (.cells cs t (0, 0))) (ht : ¬ WT t) : w'.heap[b]? = some (.cells cs t (0, 0)) :=
  (h.block b (Array.getElem?_eq_some_iff.1 hb).1 (.inr (.inr (fun _ _ _ e => by rw [hb] at e; cases e; exact ht)))).trans hb
theorem nwtS : ¬ WT 56 := by unfold WT; decide
theorem nwtN : ¬ WT 24 := by unfold WT; decide
theorem nwtB : ¬ WT 30 := by unfold WT; decide

/-- a walk in its box -/
structure WqAt (W : World) (B : Nat) (X : Nat → Prop) (b : Nat) (a : Int) (sv : Value) (n : Nat) (v : Value) (Q r : List Int) : Prop where
  box : ∃ rv, W.heap[b]? = some (.cells #[.int .i64 a, sv, .int .i64 (n : Nat), v, rv] 75 (0, 0)) ∧ W.ownsRow B 3 1 rv r.length (iV r) ∧ ∀ k, rv.ownBlock = some k → ¬ X k
  set : ∃ L, SetAt W B n v L ∧ ∀ m : Nat, memL L m = true ↔ (m : Int) ∈ Q
  le : B ≤ b
  ok : QOk n Q r
  low : ∀ k, X k → k < W.heap.size
  free : ¬ X b ∧ ∀ k, v.ownBlock = some k → ¬ X k
theorem WqAt.next {W W' : World} {B b : Nat} {X : Nat → Prop} {a : Int} {sv : Value} {n : Nat} {v : Value} {Q r : List Int} (h : WqAt W B X b a sv n v Q r) (hb : Below W.heap.size W W') : WqAt W' B X b a sv n v Q r := by
  obtain ⟨rv, h1, h2, hX⟩ := h.box
  obtain ⟨L, h3, h4⟩ := h.set
  exact ⟨⟨rv, (hb.block b (Array.getElem?_eq_some_iff.1 h1).1).trans h1, row_next h2 hb, hX⟩, ⟨L, h3.next hb, h4⟩, h.le, h.ok, fun k hk => Nat.lt_of_lt_of_le (h.low k hk) hb.size, h.free⟩
theorem WqAt.lt {W : World} {B b : Nat} {X : Nat → Prop} {a : Int} {sv : Value} {n : Nat} {v : Value} {Q r : List Int} (h : WqAt W B X b a sv n v Q r) : b < W.heap.size := by
  obtain ⟨rv, h1, h2⟩ := h.box
  exact (Array.getElem?_eq_some_iff.1 h1).1

theorem meetQ_no {n : Nat} {x : Int} {Q r : List Int} {L : List Nat} (hL : ∀ m : Nat, memL L m = true ↔ (m : Int) ∈ Q) (h : (fitB n x && !hasI L x) = false) : meetQ n x (Q, r) = (Q, r) := by
  simp only [meetQ]
  refine if_neg fun ⟨h1, h2⟩ => ?_
  have h3 := hasB_iff.1 h1
  have e : fitB n x = true := h1
  rw [e, Bool.true_and] at h
  simp only [Bool.not_eq_false', hasI, Bool.and_eq_true, decide_eq_true_eq, hL] at h
  rw [Int.toNat_of_nonneg h3.1] at h
  exact h2 h.2
theorem meetQ_yes {n : Nat} {x : Int} {Q r : List Int} {L : List Nat} (hL : ∀ m : Nat, memL L m = true ↔ (m : Int) ∈ Q) (h : (fitB n x && !hasI L x) = true) : meetQ n x (Q, r) = (Q ++ [x], r ++ [x]) := by
  simp only [meetQ]
  rw [Bool.and_eq_true, Bool.not_eq_true'] at h
  have h1 : hasB n x = true := h.1
  have h3 := hasB_iff.1 h1
  refine if_pos ⟨h1, fun hq => ?_⟩
  have := (hL x.toNat).2 (by rwa [Int.toNat_of_nonneg h3.1])
  simp [hasI, h3.1, this] at h
theorem mem_meet {n : Nat} {x : Int} {Q : List Int} {L L' : List Nat} (hL : ∀ m : Nat, memL L m = true ↔ (m : Int) ∈ Q) (h' : ∀ m : Nat, memL L' m = (memL L m || (fitB n x && decide ((m : Int) = x)))) (m : Nat) : memL L' m = true ↔ (m : Int) ∈ (meetQ n x (Q, [])).1 := by
  rw [h', Bool.or_eq_true, hL]
  simp only [meetQ]
  split
  · rename_i hc
    have e : fitB n x = true := hc.1
    simp [e]
  · rename_i hc
    constructor
    · rintro (h1 | h1)
      · exact h1
      · simp only [Bool.and_eq_true, decide_eq_true_eq] at h1
        obtain ⟨h1, h2⟩ := h1
        apply Classical.byContradiction
        intro hn
        exact hc ⟨h1, h2 ▸ hn⟩
    · exact .inl
theorem meetQ_fst (n : Nat) (x : Int) (Q r : List Int) : (meetQ n x (Q, r)).1 = (meetQ n x (Q, [])).1 := by
  simp only [meetQ]; split <;> rfl

/-- one more waits -/
theorem WqAt.pushed {W W1 W2 : World} {B b : Nat} {X : Nat → Prop} {a : Int} {sv : Value} {n : Nat} {v rv v2 : Value} {r Q' : List Int} {L' : List Nat} {x : Int} (hle : B ≤ b) (hok : QOk n Q' (r ++ [x]))
    (hbox : W.heap[b]? = some (.cells #[.int .i64 a, sv, .int .i64 (n : Nat), v, rv] 75 (0, 0))) (hrow : W.ownsRow B 3 1 rv r.length (iV r)) (hX : ∀ k, rv.ownBlock = some k → ¬ X k) (hX2 : ∀ k, v2.ownBlock = some k → ¬ X k) (hlow : ∀ k, X k → k < W.heap.size) (hfree : ¬ X b ∧ ∀ k, v.ownBlock = some k → ¬ X k) (hset : SetAt W B n v L') (hL : ∀ m : Nat, memL L' m = true ↔ (m : Int) ∈ Q')
    (h1 : Below W.heap.size W W1) (hown : W2.ownsRow B 3 1 v2 (r.length + 1) (iV (r ++ [x]))) (hg : W1.grownBy W2 rv.ownBlock) :
    WqAt (W2.setCell ⟨b, 4, none⟩ v2) B X b a sv n v Q' (r ++ [x]) ∧ Kw B X W (W2.setCell ⟨b, 4, none⟩ v2) := by
  have hrow1 := row_next hrow h1
  have hset1 := hset.next h1
  have hbox1 := (h1.block b (Array.getElem?_eq_some_iff.1 hbox).1).trans hbox
  have hbox2 : W2.heap[b]? = some (.cells #[.int .i64 a, sv, .int .i64 (n : Nat), v, rv] 75 (0, 0)) := (hg.block b (Array.getElem?_eq_some_iff.1 hbox1).1 (fun e => by
    rcases ne_row hrow1 hbox1 (by decide) with h2 | h2
    · rw [h2] at e; cases e
    · exact h2 e.symm)).trans hbox1
  have hset2 := hset1.kept hg (two_rows hset1.row hrow1 (by decide))
  have hs := grown_cell W2 b 4 v2
  refine ⟨⟨⟨v2, heap_setCell_same W2 b 4 _ _ v2 hbox2, ?_, hX2⟩, ⟨L', hset2.kept hs (ne_row hset2.row hbox2 (by decide)), hL⟩, hle, hok, fun k hk => Nat.lt_of_lt_of_le (hlow k hk) (Nat.le_trans h1.size (Nat.le_trans hg.size hs.size)), hfree⟩, ?_⟩
  · rw [List.length_append, List.length_cons, List.length_nil]
    exact hown.kept hs (ne_row hown hbox2 (by decide))
  · exact (Kw.of_below h1).trans ((Kw.of_grown hg (own_row hrow1 (.inr (.inr rfl)) hX)).trans (Kw.of_grown hs (fun k e => by cases e; exact ⟨hle, hfree.1, _, _, _, hbox2, .inl rfl⟩)))

/-- what a step of a walk tells -/
def WqOut (W : World) (B : Nat) (X : Nat → Prop) (b : Nat) (a : Int) (sv : Value) (n : Nat) (v : Value) (q : List Int × List Int) (e : Ending) (W' : World) : Prop := e = .returned (.tuple #[]) ∧ WqAt W' B X b a sv n v q.1 q.2 ∧ Kw B X W W'
/-- 'append' of a number, and where the row lies -/
theorem wpList_appL {W : World} {ops : Array Oper} {rest : List Oper} {o : Oper} {a : Act} {Q : Exit → Act → World → Prop} (hgd : o.guard = none) (s x : Operand)
    (ho : o.op = .call { callee := .builtin .append, args := #[s, x], argTypes := #[25, 25] }) (B : Nat) (v : Value) (n : Nat) (xs : List Int) (hs : a.eval s = v) (hown : W.ownsRow B 3 1 v n (iV xs))
    (y : Int) (g c : Nat) (hx : a.eval x = .slice (some ⟨g, 0, none⟩) 1 c) (hc : W.cell? ⟨g, 0, none⟩ = some (.int .i64 y)) (hM : n + 1 ≤ 1000000) (hB : B ≤ W.heap.size)
    (h : ∀ g cap w', w'.ownsRow B 3 1 (.slice (some ⟨g, 0, none⟩) (n + 1) cap) (n + 1) (iV (xs ++ [y])) → W.grownBy w' v.ownBlock → (v.ownBlock = some g ∨ g = W.heap.size) → wpList Tryd.prog ops Q rest (a.put o.dst (.slice (some ⟨g, 0, none⟩) (n + 1) cap)) w') : wpList Tryd.prog ops Q (o :: rest) a W := by
  obtain ⟨i0, hi, hz0, hz1, hz2⟩ := info_parts infoI
  refine wpList_append_lies _ hgd s x 25 ho B 3 i0 (.int .i64 0) 1 8 Tryd.underlying25 hi hz0 hz1 hz2 rfl (by decide) v n (iV xs) hs hown ⟨g, 0, none⟩ 1 c [.int .i64 y] hx (by simp) (fun j u hj => ?_) (by simp [Value.oneCell']) (by decide) (by unfold maxLen; omega) (by omega) hB _ rfl (fun g cap w' h1 h2 h3 _ => h g cap w' (by rw [iV, List.map_append]; exact h1) h2 h3)
  obtain rfl : j = 0 := by
    have := (List.getElem?_eq_some_iff.1 hj).1
    simpa using this
  rw [show (⟨g, 0, none⟩ : Addr).add 0 = ⟨g, 0, none⟩ from rfl, hc]
  simpa using hj
theorem pushed2 {W W1 W2 : World} {B b : Nat} {X : Nat → Prop} {a : Int} {sv : Value} {n : Nat} {v rv v2 : Value} {Q r : List Int} {L' : List Nat} {x : Int} (H : B ≤ b ∧ QOk n (meetQ n x (Q, r)).1 (meetQ n x (Q, r)).2) (E : meetQ n x (Q, r) = (Q ++ [x], r ++ [x]))
    (F : W1.heap[b]? = some (.cells #[.int .i64 a, sv, .int .i64 (n : Nat), v, rv] 75 (0, 0)) ∧ W1.ownsRow B 3 1 rv r.length (iV r) ∧ SetAt W1 B n v L' ∧ (∀ m : Nat, memL L' m = true ↔ (m : Int) ∈ (meetQ n x (Q, [])).1) ∧ Kw B X W W1)
    (hF : (∀ k, rv.ownBlock = some k → ¬ X k) ∧ (∀ k, X k → k < W.heap.size) ∧ ¬ X b ∧ ∀ k, v.ownBlock = some k → ¬ X k) (hv2 : ∀ k, v2.ownBlock = some k → rv.ownBlock = some k ∨ k = (W1.alloc (.cells #[.int .i64 x] 3)).heap.size)
    (ho : W2.ownsRow B 3 1 v2 (r.length + 1) (iV (r ++ [x]))) (hg : (W1.alloc (.cells #[.int .i64 x] 3)).grownBy W2 rv.ownBlock) :
    WqAt (W2.setCell ⟨b, 4, none⟩ v2) B X b a sv n v (Q ++ [x]) (r ++ [x]) ∧ Kw B X W1 (W2.setCell ⟨b, 4, none⟩ v2) := by
  have hok := H.2
  have hM := F.2.2.2.1
  rw [E] at hok
  have hsz := F.2.2.2.2.size
  have hlow : ∀ k, X k → k < W1.heap.size := fun k hk => Nat.lt_of_lt_of_le (hF.2.1 k hk) hsz
  exact WqAt.pushed H.1 hok F.1 F.2.1 hF.1 (fun k hk hx => by
    rcases hv2 k hk with h1 | h1
    · exact hF.1 k h1 hx
    · have := hlow k hx; rw [h1, World.size_alloc] at this; omega) hlow hF.2.2 F.2.2.1 (fun m => by rw [hM m, ← meetQ_fst n x Q r, E]) ((Below.refl _ W1).alloc (Nat.le_refl _) _) ho hg
set_option maxHeartbeats 1000000 in
theorem meet_any (B : Nat) (X : Nat → Prop) (b : Nat) (a : Int) (sv : Value) (n : Nat) (v : Value) (Q r : List Int) (x : Int) (hn : n ≤ 4096) (W : World) (h : WqAt W B X b a sv n v Q r) :
    Calls Tryd.prog 47 #[.pointer (some ⟨b, 0, none⟩), .int .i64 x] W fun e W' => WqOut W B X b a sv n v (meetQ n x (Q, r)) e W' := by
  obtain ⟨rv, hbox, hrow, hX⟩ := h.box
  have HF := Lib.hid (And.intro hX (And.intro h.low h.free))
  obtain ⟨L, hset, hL⟩ := h.set
  have hlt := h.lt
  have hrl := h.ok.rlen
  have hB : B ≤ W.heap.size := by have := h.le; omega
  have A := Lib.hid (add_any B n v L x W hset)
  have hok := h.ok.meets [x]
  rw [meets_cons, meets_nil] at hok
  have c2 : W.cell? ⟨b, 2, none⟩ = some (.int .i64 (n : Nat)) := by simp [World.cell?, hbox]
  have c3 : W.cell? ⟨b, 3, none⟩ = some v := by simp [World.cell?, hbox]
  have H := Lib.hid (And.intro hbox (And.intro hrow (And.intro hset (And.intro hL (And.intro h.le hok)))))
  have MM := Lib.hid (fun L' h' m => mem_meet (n := n) (x := x) (L' := L') hL h' m)
  have NEB := Lib.hid (ne_row hset.row hbox (by decide))
  have NER := Lib.hid (two_rows hrow hset.row (by decide))
  have OR := Lib.hid (own_row hset.row (.inr (.inl rfl)) h.free.2)
  obtain ⟨vo, vn, vc, rfl⟩ := hset.val
  obtain ⟨ro, rc, rfl⟩ := own_slice hrow
  clear hok hset hrow hX
  cases hb : fitB n x && !hasI L x
  · have E := Lib.hid (meetQ_no (r := r) hL hb)
    unfold AddOut at A
    rw [hb] at A
    clear hL hb h hbox
    unfold setV at A
    go_enter Tryd.func47, Tryd.ntmps47
    go_wp2_with (go_at_call 29; (with_reducible refine A.out.mono ?_); rintro e w1 ⟨L', rfl, h1, h2, h3⟩)
    go_end0
    obtain ⟨hbox, hrow, hset, hL, hle, hok⟩ := H.out
    rw [E.out] at hok ⊢
    refine ⟨rfl, ⟨⟨_, (h3.block b hlt (fun e => ?_)).trans hbox, hrow.kept h3 NER.out, HF.out.1⟩, ⟨L', h1, fun m => ?_⟩, hle, hok, fun k hk => Nat.lt_of_lt_of_le (HF.out.2.1 k hk) h3.size, HF.out.2.2⟩, Kw.of_grown h3 OR.out⟩
    · rcases NEB.out with h4 | h4
      · rw [h4] at e; cases e
      · exact h4 e.symm
    · have := MM.out L' h2 m
      rwa [← meetQ_fst n x Q r, E.out] at this
  · have E := Lib.hid (meetQ_yes (r := r) hL hb)
    unfold AddOut at A
    rw [hb] at A
    clear hL hb h hbox
    unfold setV at A
    go_enter Tryd.func47, Tryd.ntmps47
    go_wp2_with (first
      | (go_at_call 29; (with_reducible refine A.out.mono ?_); rintro e w1 ⟨L', rfl, h1, h2, h3⟩; go_must (have hbx := at_kept H.out.1 h3 NEB.out; have c4 := at_cell hbx 4; have hl1 := cell_lt c4; have hB1 : B ≤ w1.heap.size := Nat.le_trans hB h3.size; have F1 := Lib.hid (And.intro hbx (And.intro (H.out.2.1.kept h3 NER.out) (And.intro h1 (And.intro (MM.out L' h2) (Kw.of_grown h3 OR.out))))); clear h1 h2 h3 hbx c2 c3))
      | (at_builtin; (refine wpList_appL rfl _ _ rfl B _ r.length r rfl (F1.out.2.1.alloc _) x _ 1 rfl (by rw [World.cell?_alloc_new]; rfl) (by omega) (by simp only [World.size_alloc]; omega) ?_); intro g2 c2' w2 ho2 hg2 hl2'; go_must (have P := Lib.hid (pushed2 H.out.2.2.2.2 E.out F1.out HF.out (fun k hk => by { cases hk; exact hl2' }) ho2 hg2); have hbx2 := at_kept (at_next F1.out.1 ((Below.refl _ w1).alloc (Nat.le_refl _) (.cells #[.int .i64 x] 3))) hg2 (ne_row F1.out.2.1 F1.out.1 (by decide)); have c4' := at_cell hbx2 4; have f4 := at_froz hbx2 4; have hl2 := cell_lt c4'; clear ho2 hg2 hbx2 hl2'))
      | fail)
    go_end0
    exact ⟨rfl, by rw [E.out]; exact P.out.1, F1.out.2.2.2.2.trans P.out.2⟩

/-- the numbers of a state lie where a walk does not turn them -/
def EpsAt (B : Nat) (W : World) (s : St) (eo : Option Addr) (ec : Nat) : Prop := ∀ W', Below B W W' → IntsAt W' (.slice eo s.eps.length ec) s.eps
theorem EpsAt.next {B : Nat} {W W' : World} {s : St} {eo : Option Addr} {ec : Nat} (h : EpsAt B W s eo ec) (hb : Below B W W') : EpsAt B W' s eo ec := fun W2 h2 => h W2 (hb.trans h2)

set_option maxRecDepth 100000 in
set_option maxHeartbeats 1000000 in
theorem nothing_any (B : Nat) (X : Nat → Prop) (b : Nat) (a : Int) (sv : Value) (n : Nat) (v : Value) (Q r : List Int) (s : St) (eo : Option Addr) (ec : Nat) (hn : n ≤ 4096) (W : World) (hB : B ≤ W.heap.size) (h : WqAt W B X b a sv n v Q r) (he : EpsAt B W s eo ec) :
    Calls Tryd.prog 34 #[.pointer (some ⟨b, 0, none⟩), stV s eo ec] W fun e W' => WqOut W B X b a sv n v (meets n (nilF s) (Q, r)) e W' := by
  have MT := Lib.hid (fun q x W' (h' : WqAt W' B X b a sv n v q.1 q.2) => (show Calls _ _ _ _ (fun e W2 => WqOut W' B X b a sv n v (meetQ n x q) e W2) from meet_any B X b a sv n v q.1 q.2 x hn W' h'))
  have h1 := h.next ((Below.refl _ W).alloc (Nat.le_refl _) (.cells #[.int .i64 s.lo, .int .i64 s.hi, .int .i64 s.to, .slice eo s.eps.length ec, .int .i64 s.tag] 56))
  have k1 : Kw B X W (W.alloc (.cells #[.int .i64 s.lo, .int .i64 s.hi, .int .i64 s.to, .slice eo s.eps.length ec, .int .i64 s.tag] 56)) := Kw.of_below ((Below.refl _ W).alloc (Nat.le_refl _) _)
  have bx := at_new W (.cells #[.int .i64 s.lo, .int .i64 s.hi, .int .i64 s.to, .slice eo s.eps.length ec, .int .i64 s.tag] 56)
  have E1 := Lib.hid (he.next (k1.below hB))
  have R0 := Lib.hid (And.intro h1 (And.intro k1 bx))
  have TK := Lib.hid (fun j (hj : j < s.eps.length) => meets_take (n := n) (xs := s.eps) (q := (Q, r)) hj)
  have TA : Hid (meets n (nilF s) (Q, r) = meets n (s.eps.take s.eps.length) (Q, r)) := Lib.hid (by rw [List.take_length]; rfl)
  have hW1s : (W.alloc (.cells #[.int .i64 s.lo, .int .i64 s.hi, .int .i64 s.to, .slice eo s.eps.length ec, .int .i64 s.tag] 56)).heap.size = W.heap.size + 1 := World.size_alloc _ _
  clear h1 k1 bx h he
  unfold stV
  generalize meets n (nilF s) (Q, r) = q1 at *
  go_enter Tryd.func34, Tryd.ntmps34
  go_upto_region 1 with fail
  generalize W.alloc (.cells #[.int .i64 s.lo, .int .i64 s.hi, .int .i64 s.to, .slice eo s.eps.length ec, .int .i64 s.tag] 56) = W1 at *
  have c3 := at_cell R0.out.2.2 3
  have hl := cell_lt c3
  go_wp2
  clear c3
  obtain ⟨hv0, hk0, hbx0⟩ := R0.out
  obtain ⟨eo2, ec2, e2, he2, _⟩ := (E1.out W1 (Below.refl _ _)).shape
  have HE : Hid (∀ W', Below B W1 W' → ∀ i, i < s.eps.length → ∃ ad, eo = some ad ∧ W'.cell? (ad.add i) = some (.int .i64 (s.eps.getD i 0))) := Lib.hid (fun W' hW' => by
    obtain ⟨eo2, ec2, e2, he2, hc⟩ := (E1.out W' hW').shape
    simp only [Value.slice.injEq] at e2
    obtain ⟨rfl, _, rfl⟩ := e2
    exact hc)
  have R1 := Lib.hid (And.intro hv0 hk0)
  clear hv0 hk0 hbx0 e2
  go_loopw [9] (fun i wr => ∃ j : Nat, j ≤ s.eps.length ∧ i = .int .i64 j ∧ WqAt wr B X b a sv n v (meets n (s.eps.take j) (Q, r)).1 (meets n (s.eps.take j) (Q, r)).2 ∧ Kw B X W1 wr) (fun i _ => s.eps.length - (intOf i).toNat)
  case atStart => exact ⟨0, by omega, rfl, R1.out.1, Kw.refl _ _ _⟩
  case round =>
    obtain ⟨j, hj, rfl, hv, hk⟩ := hrel
    have HK := Lib.hid hk
    by_cases hlt : j < s.eps.length
    · obtain ⟨ad, rfl, hcell⟩ := HE.out wr (hk.below (by omega)) j hlt
      have T := Lib.hid (TK.out j hlt)
      have M := Lib.hid (fun x => MT.out _ x wr hv)
      clear hv hk
      generalize s.eps.getD j 0 = x at *
      generalize meets n (s.eps.take j) (Q, r) = q at *
      go_wp2_with (go_at_call 47; (with_reducible refine (M.out _).mono ?_); rintro e w2 ⟨rfl, h1, h2⟩)
      go_roundw
      case rel => exact ⟨j + 1, by omega, by go_num, by rw [T.out]; exact h1, HK.out.trans h2⟩
      case measure => simp [intOf]; omega
    · obtain rfl : j = s.eps.length := by omega
      rw [← TA.out] at hv
      have HV := Lib.hid hv
      clear hv hk
      go_wp2
      go_end0
      exact ⟨rfl, HV.out, R1.out.2.trans HK.out⟩

set_option maxHeartbeats 1000000 in
theorem all_any (B : Nat) (X : Nat → Prop) (b : Nat) (a : Int) (sv : Value) (n : Nat) (v : Value) (Q r : List Int) (s : St) (eo : Option Addr) (ec : Nat) (hn : n ≤ 4096) (W : World) (hB : B ≤ W.heap.size) (h : WqAt W B X b a sv n v Q r) (he : EpsAt B W s eo ec) :
    Calls Tryd.prog 41 #[.pointer (some ⟨b, 0, none⟩), stV s eo ec] W fun e W' => WqOut W B X b a sv n v (meets n (allF s) (Q, r)) e W' := by
  have h1 := h.next ((Below.refl _ W).alloc (Nat.le_refl _) (.cells #[.int .i64 s.lo, .int .i64 s.hi, .int .i64 s.to, .slice eo s.eps.length ec, .int .i64 s.tag] 56))
  have k1 : Kw B X W (W.alloc (.cells #[.int .i64 s.lo, .int .i64 s.hi, .int .i64 s.to, .slice eo s.eps.length ec, .int .i64 s.tag] 56)) := Kw.of_below ((Below.refl _ W).alloc (Nat.le_refl _) _)
  have bx := at_new W (.cells #[.int .i64 s.lo, .int .i64 s.hi, .int .i64 s.to, .slice eo s.eps.length ec, .int .i64 s.tag] 56)
  have hsz := k1.size
  have C1 := Lib.hid (nothing_any B X b a sv n v Q r s eo ec hn _ (Nat.le_trans hB hsz) h1 (he.next (k1.below hB)))
  have C2 := Lib.hid (fun q W' (h' : WqAt W' B X b a sv n v q.1 q.2) => (show Calls _ _ _ _ (fun e W2 => WqOut W' B X b a sv n v (meetQ n s.to q) e W2) from meet_any B X b a sv n v q.1 q.2 s.to hn W' h'))
  have TA : Hid (meets n (allF s) (Q, r) = meetQ n s.to (meets n (nilF s) (Q, r))) := Lib.hid (meets_snoc n s.to s.eps (Q, r))
  have R0 := Lib.hid (And.intro k1 bx)
  clear h1 k1 bx h he hsz
  unfold stV at *
  generalize meets n (nilF s) (Q, r) = q0 at *
  generalize meets n (allF s) (Q, r) = q1 at *
  go_enter Tryd.func41, Tryd.ntmps41
  go_upto_region 1 with fail
  generalize W.alloc (.cells #[.int .i64 s.lo, .int .i64 s.hi, .int .i64 s.to, .slice eo s.eps.length ec, .int .i64 s.tag] 56) = W1 at *
  have c0 := at_cell R0.out.2 0
  have c1 := at_cell R0.out.2 1
  have c2 := at_cell R0.out.2 2
  have c3 := at_cell R0.out.2 3
  have c4 := at_cell R0.out.2 4
  have hl := cell_lt c3
  go_wp2_with (first
    | (go_at_call 34; (with_reducible refine C1.out.mono ?_); rintro e w2 ⟨rfl, h1, h2⟩; go_must (have d2 := at_cell (h2.at_ R0.out.2 nwtS) 2; have hl2 := cell_lt d2; have H1 := Lib.hid h1; have H2 := Lib.hid h2; clear h1 h2 c0 c1 c2 c3 c4 hl))
    | (go_at_call 47; (with_reducible refine (C2.out q0 w2 H1.out).mono ?_); rintro e w3 ⟨rfl, h3, h4⟩)
    | fail)
  go_end0
  exact ⟨rfl, by rw [TA.out]; exact h3, R0.out.1.trans (H2.out.trans h4)⟩

end Go.Proofs.YtfbphiamelongaaDoor.Cl

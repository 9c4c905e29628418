/- What is built may be: where the kinds of a call meet. -/
import Derived.Test.YtdgpanofehfjdaaArLaid
namespace Go.Proofs.Ytdgpanofehfjdaa.Ar
open Go Go.RowKit Go.Shelf
open Go.Proofs.Ytdgpanofehfjdaa.Rg (R RngsAt RowsAt nthL nth add_zero own_next RowsOwn flatR infoS row_apart row_base SetOut inB hasB setFrom rngs_of_row rightB)

theorem own_block {w : World} {B : Nat} {e : TypeId} {s n : Nat} {v : Value} {xs : List Value} (h : w.ownsRow B e s v n xs) {k : Nat} (hk : v.ownBlock = some k) : ∃ cs fz, w.heap[k]? = some (.cells cs e fz) := by
  rcases h.2 with ⟨rfl, _⟩ | ⟨g, cap, cur, rfl, _, hg, _⟩
  · cases hk
  · simp only [Value.ownBlock, Option.some.injEq] at hk
    subst hk
    exact ⟨_, _, hg⟩
/-- a builder, and a box of a tree that shares no block with it -/
structure BW (B : Nat) (w : World) (bb T : Nat) (ns : List Nd) (S : List (List R)) (nv sv : Value) (xs : List Value) (ns' : List Nd) (S' : List (List R)) (vn vs : Value) (r : Int) (ys : List Value) : Prop where
  bd : Bd B w bb ns S nv sv xs
  ts : TSt B T w vn vs r ns' S' ys
  n : ∀ k, nv.ownBlock = some k → vn.ownBlock ≠ some k
  s : ∀ k, sv.ownBlock = some k → vs.ownBlock ≠ some k
section
variable {B bb T : Nat} {w w' W W1 : World} {ns ns' : List Nd} {S S' : List (List R)} {nv sv vn vs : Value} {r : Int} {xs ys : List Value}
theorem BW.next (h : BW B w bb T ns S nv sv xs ns' S' vn vs r ys) (hb : Below w.heap.size w w') : BW B w' bb T ns S nv sv xs ns' S' vn vs r ys := ⟨h.bd.next hb, h.ts.next hb, h.n, h.s⟩
theorem BW.lt (h : BW B w bb T ns S nv sv xs ns' S' vn vs r ys) {k : Nat} (hk : UB bb nv sv k) : B ≤ k ∧ k < w.heap.size := by
  rcases hk with rfl | hk | hk
  · exact ⟨h.bd.base, h.bd.lt⟩
  · exact h.bd.nodes.lt k hk
  · exact h.bd.sets.own.lt k hk
/-- the tree's box and rows are of other types than the builder's, or other blocks -/
theorem BW.keep {U : Nat → Prop} (h : TSt B T w vn vs r ns' S' ys) (k : Kx U w w') (hT : ¬ U T) (hn : ∀ k, vn.ownBlock = some k → ¬ U k) (hs : ∀ k, vs.ownBlock = some k → ¬ U k) (hr : ∀ b, U b → ∀ cs fz, w.heap[b]? ≠ some (.cells cs 55 fz)) : TSt B T w' vn vs r ns' S' ys where
  base := h.base
  box := (k.block T h.lt hT).trans h.box
  nodes := k.own h.nodes hn
  sets := by
    refine ⟨k.own h.sets.own hs, fun i hi => ?_⟩
    obtain ⟨x, h1, h2⟩ := h.sets.row i hi
    refine ⟨x, h1, k.own h2 fun g hg hu => ?_⟩
    obtain ⟨cs, fz, e⟩ := own_block h2 hg
    exact hr g hu _ _ e
theorem BW.type (h : Bd B w bb ns S nv sv xs) : ∀ b, UB bb nv sv b → ∀ cs fz, w.heap[b]? ≠ some (.cells cs 55 fz) := by
  rintro b (rfl | hb | hb) cs fz
  · rw [h.box]; simp
  · obtain ⟨cs', fz', e⟩ := own_block h.nodes hb
    rw [e]; simp
  · obtain ⟨cs', fz', e⟩ := own_block h.sets.own hb
    rw [e]; simp
theorem BW.call {ns2 : List Nd} {S2 : List (List R)} (h : BW B w bb T ns S nv sv xs ns' S' vn vs r ys) (hs : BStep B w bb nv sv ns2 S2 w') :
    ∃ nv' sv' xs', BW B w' bb T ns2 S2 nv' sv' xs' ns' S' vn vs r ys ∧ Kx (UB bb nv sv) w w' ∧ ∀ k, nv'.ownBlock = some k → nv.ownBlock = some k ∨ w.heap.size ≤ k := by
  obtain ⟨nv', sv', xs', h1, h2, h3, h4⟩ := hs
  have hn : ∀ k, vn.ownBlock = some k → ¬ UB bb nv sv k := by
    rintro k hk (rfl | hu | hu)
    · obtain ⟨cs, fz, e⟩ := own_block h.ts.nodes hk
      rw [h.bd.box] at e; simp at e
    · exact h.n k hu hk
    · obtain ⟨cs, fz, e⟩ := own_block h.ts.nodes hk
      obtain ⟨cs', fz', e'⟩ := own_block h.bd.sets.own hu
      rw [e] at e'; simp at e'
  have hsx : ∀ k, vs.ownBlock = some k → ¬ UB bb nv sv k := by
    rintro k hk (rfl | hu | hu)
    · obtain ⟨cs, fz, e⟩ := own_block h.ts.sets.own hk
      rw [h.bd.box] at e; simp at e
    · obtain ⟨cs, fz, e⟩ := own_block h.ts.sets.own hk
      obtain ⟨cs', fz', e'⟩ := own_block h.bd.nodes hu
      rw [e] at e'; simp at e'
    · exact h.s k hu hk
  have hT : ¬ UB bb nv sv T := by
    rintro (hu | hu | hu)
    · have e := h.ts.box
      rw [hu, h.bd.box] at e; simp at e
    · obtain ⟨cs', fz', e'⟩ := own_block h.bd.nodes hu
      rw [h.ts.box] at e'; simp at e'
    · obtain ⟨cs', fz', e'⟩ := own_block h.bd.sets.own hu
      rw [h.ts.box] at e'; simp at e'
  refine ⟨nv', sv', xs', ⟨h1, BW.keep h.ts h2 hT hn hsx (BW.type h.bd), fun k hk hv => ?_, fun k hk hv => ?_⟩, h2, h3⟩
  · rcases h3 k hk with h5 | h5
    · exact h.n k h5 hv
    · have := (h.ts.nodes.lt k hv).2; omega
  · rcases h4 k hk with h5 | h5
    · exact h.s k h5 hv
    · have := (h.ts.sets.own.lt k hv).2; omega
/-- the builder, where the tree's box and rows change -/
theorem BW.hold {U : Nat → Prop} (h : Bd B w bb ns S nv sv xs) (k : Kx U w w') (hb : ¬ U bb) (hn : ∀ k, nv.ownBlock = some k → ¬ U k) (hs : ∀ k, sv.ownBlock = some k → ¬ U k) (hr : ∀ b, U b → ∀ cs fz, w.heap[b]? ≠ some (.cells cs 55 fz)) : Bd B w' bb ns S nv sv xs where
  base := h.base
  box := (k.block bb h.lt hb).trans h.box
  nodes := k.own h.nodes hn
  sets := by
    refine ⟨k.own h.sets.own hs, fun i hi => ?_⟩
    obtain ⟨x, h1, h2⟩ := h.sets.row i hi
    refine ⟨x, h1, k.own h2 fun g hg hu => ?_⟩
    obtain ⟨cs, fz, e⟩ := own_block h2 hg
    exact hr g hu _ _ e
/-- the blocks of the tree's box -/
def UT (T : Nat) (vn vs : Value) : Nat → Prop := fun b => b = T ∨ vn.ownBlock = some b ∨ vs.ownBlock = some b
theorem BW.ltT (h : BW B w bb T ns S nv sv xs ns' S' vn vs r ys) {k : Nat} (hk : UT T vn vs k) : B ≤ k ∧ k < w.heap.size := by
  rcases hk with rfl | hk | hk
  · exact ⟨h.ts.base, h.ts.lt⟩
  · exact h.ts.nodes.lt k hk
  · exact h.ts.sets.own.lt k hk
theorem BW.wants (h : BW B w bb T ns S nv sv xs ns' S' vn vs r ys) (k : Kx (UT T vn vs) w w') : Bd B w' bb ns S nv sv xs := by
  refine BW.hold h.bd k ?_ ?_ ?_ ?_
  · rintro (hu | hu | hu)
    · have e := h.ts.box
      rw [← hu, h.bd.box] at e; simp at e
    · obtain ⟨cs', fz', e'⟩ := own_block h.ts.nodes hu
      rw [h.bd.box] at e'; simp at e'
    · obtain ⟨cs', fz', e'⟩ := own_block h.ts.sets.own hu
      rw [h.bd.box] at e'; simp at e'
  · rintro k hk (rfl | hu | hu)
    · obtain ⟨cs, fz, e⟩ := own_block h.bd.nodes hk
      rw [h.ts.box] at e; simp at e
    · exact h.n k hk hu
    · obtain ⟨cs, fz, e⟩ := own_block h.bd.nodes hk
      obtain ⟨cs', fz', e'⟩ := own_block h.ts.sets.own hu
      rw [e] at e'; simp at e'
  · rintro k hk (rfl | hu | hu)
    · obtain ⟨cs, fz, e⟩ := own_block h.bd.sets.own hk
      rw [h.ts.box] at e; simp at e
    · obtain ⟨cs, fz, e⟩ := own_block h.bd.sets.own hk
      obtain ⟨cs', fz', e'⟩ := own_block h.ts.nodes hu
      rw [e] at e'; simp at e'
    · exact h.s k hk hu
  · rintro b (rfl | hb | hb) cs fz
    · rw [h.ts.box]; simp
    · obtain ⟨cs', fz', e⟩ := own_block h.ts.nodes hb
      rw [e]; simp
    · obtain ⟨cs', fz', e⟩ := own_block h.ts.sets.own hb
      rw [e]; simp
/-- a box of another block turned: a node's box, which is younger -/
theorem BW.other {N : Nat} {cs : Array Value} (h : BW B w bb T ns S nv sv xs ns' S' vn vs r ys) (k : Kx (fun b => b = N) w w') (hN : w.heap[N]? = some (.cells cs 41 (0, 0))) (h1 : nv.ownBlock ≠ some N) (h2 : vn.ownBlock ≠ some N) : BW B w' bb T ns S nv sv xs ns' S' vn vs r ys := by
  have hr : ∀ b, b = N → ∀ cs fz, w.heap[b]? ≠ some (.cells cs 55 fz) := by
    rintro b rfl cs fz; rw [hN]; simp
  have hs : ∀ {B' : Nat} {n : Nat} {v : Value} {zs : List Value}, w.ownsRow B' 37 1 v n zs → ∀ k, v.ownBlock = some k → ¬ k = N := by
    rintro B' n v zs ho k hk rfl
    obtain ⟨cs', fz', e⟩ := own_block ho hk
    rw [hN] at e; simp at e
  refine ⟨BW.hold h.bd k ?_ (fun k hk e => h1 (e ▸ hk)) (hs h.bd.sets.own) hr, BW.keep h.ts k ?_ (fun k hk e => h2 (e ▸ hk)) (hs h.ts.sets.own) hr, h.n, h.s⟩
  · rintro rfl
    have e := h.bd.box
    rw [hN] at e; simp at e
  · rintro rfl
    have e := h.ts.box
    rw [hN] at e; simp at e
/-- a node's box, filled -/
theorem boxed6 {W : World} {N : Nat} {u0 u1 u2 u3 u4 u5 : Value} {t : TypeId} (h : W.heap[N]? = some (.cells #[u0, u1, u2, u3, u4, u5] t (0, 0))) (v0 v1 v2 v3 v4 v5 : Value) :
    ((((((W.setCell ⟨N, 0, none⟩ v0).setCell ⟨N, 1, none⟩ v1).setCell ⟨N, 2, none⟩ v2).setCell ⟨N, 3, none⟩ v3).setCell ⟨N, 4, none⟩ v4).setCell ⟨N, 5, none⟩ v5).heap[N]? = some (.cells #[v0, v1, v2, v3, v4, v5] t (0, 0)) ∧
    Kx (fun b => b = N) W ((((((W.setCell ⟨N, 0, none⟩ v0).setCell ⟨N, 1, none⟩ v1).setCell ⟨N, 2, none⟩ v2).setCell ⟨N, 3, none⟩ v3).setCell ⟨N, 4, none⟩ v4).setCell ⟨N, 5, none⟩ v5) := by
  have h0 := heap_setCell_same W N 0 #[u0, u1, u2, u3, u4, u5] t v0 h
  have h1 := heap_setCell_same _ N 1 _ t v1 h0
  have h2 := heap_setCell_same _ N 2 _ t v2 h1
  have h3 := heap_setCell_same _ N 3 _ t v3 h2
  have h4 := heap_setCell_same _ N 4 _ t v4 h3
  have h5 := heap_setCell_same _ N 5 _ t v5 h4
  have ks : ∀ (X : World) (o : Nat) (u : Value), Kx (fun b => b = N) X (X.setCell ⟨N, o, none⟩ u) := fun X o u => Kx.of_set (U := fun b => b = N) rfl
  refine ⟨?_, ((((((ks _ _ _).trans (ks _ _ _)).trans (ks _ _ _)).trans (ks _ _ _)).trans (ks _ _ _)).trans (ks _ _ _))⟩
  rw [h5]; simp
/-- what a change of the wanted tree gives -/
def WStep (B : Nat) (w : World) (bb T : Nat) (ns : List Nd) (S : List (List R)) (nv sv : Value) (xs : List Value) (ns' : List Nd) (S' : List (List R)) (vn vs vn' vs' : Value) (r' : Int) (ys' : List Value) (w' : World) : Prop :=
  BW B w' bb T ns S nv sv xs ns' S' vn' vs' r' ys' ∧ Kx (UT T vn vs) w w'
/-- a node more in the wanted tree -/
theorem BW.node {g cap : Nat} {n : Nd} (hp : BW B w bb T ns S nv sv xs ns' S' vn vs r ys) (hb : Below w.heap.size w W)
    (hown : W1.ownsRow B 41 6 (.slice (some ⟨g, 0, none⟩) (ns'.length + 1) cap) (ns'.length + 1) (flatN ns' ++ cellsN n)) (hg : W.grownBy W1 vn.ownBlock) (hat : vn.ownBlock = some g ∨ g = W.heap.size) :
    W1.cell? ⟨T, 0, none⟩ = some vn ∧ W1.frozen? ⟨T, 0, none⟩ = false ∧
      WStep B w bb T ns S nv sv xs (ns' ++ [n]) S' vn vs (.slice (some ⟨g, 0, none⟩) (ns'.length + 1) cap) vs r ys (W1.setCell ⟨T, 0, none⟩ (.slice (some ⟨g, 0, none⟩) (ns'.length + 1) cap)) := by
  have hW := hp.next hb
  have hlt := hW.ts.lt
  have hsz := hb.size
  have hbx : W1.heap[T]? = some (.cells #[vn, vs, .int .i64 r] 25 (0, 0)) := (hg.block T hlt (Ne.symm hW.ts.ne0)).trans hW.ts.box
  have hne : T ≠ g := by
    rintro rfl
    rcases hat with h | h
    · exact hW.ts.ne0 h
    · omega
  have hset := set_grown W1 T 0 (.slice (some ⟨g, 0, none⟩) (ns'.length + 1) cap)
  have hbox := heap_setCell_same W1 T 0 #[vn, vs, .int .i64 r] 25 (.slice (some ⟨g, 0, none⟩) (ns'.length + 1) cap) hbx
  have hk1 : Kx (UT T vn vs) W W1 := Kx.of_grown hg (fun k hk => .inr (.inl hk))
  have hk2 : Kx (UT T vn vs) W (W1.setCell ⟨T, 0, none⟩ (.slice (some ⟨g, 0, none⟩) (ns'.length + 1) cap)) := hk1.trans (Kx.of_set (.inl rfl))
  have hk : Kx (UT T vn vs) w (W1.setCell ⟨T, 0, none⟩ (.slice (some ⟨g, 0, none⟩) (ns'.length + 1) cap)) := (Kx.of_below hb).trans hk2
  refine ⟨by simp [World.cell?, hbx], frozen_of_row W1 T 0 _ _ hbx, ⟨hW.wants hk2, ⟨hp.ts.base, ?_, ?_, ?_⟩, fun k hk hv => ?_, hp.s⟩, hk⟩
  · simpa using hbox
  · rw [flatN_snoc, List.length_append, List.length_singleton]
    exact hown.kept hset (.inr (by simp [Value.ownBlock]; exact fun h => hne h.symm))
  · refine rows_kx hW.ts.sets (U := UN T vn) ((Kx.of_grown hg (fun k hk => .inr hk)).trans (Kx.of_set (.inl rfl))) ?_
    rintro b (rfl | hb) cs fz
    · rw [hW.ts.box]; exact ⟨by simp, by simp⟩
    · obtain ⟨cs', fz', e⟩ := own_block hW.ts.nodes hb
      rw [e]; exact ⟨by simp, by simp⟩
  · simp only [Value.ownBlock, Option.some.injEq] at hv
    subst hv
    rcases hat with h | h
    · exact hp.n _ hk h
    · have := (hp.bd.nodes.lt _ hk).2; omega
/-- a set more in the wanted tree -/
theorem BW.set {g cap : Nat} {x : Value} {L : List R} (hp : BW B w bb T ns S nv sv xs ns' S' vn vs r ys) (hb : Below w.heap.size w W)
    (hx : W.ownsRow B 55 2 x L.length (flatR L))
    (hown : W1.ownsRow B 37 1 (.slice (some ⟨g, 0, none⟩) (S'.length + 1) cap) (S'.length + 1) (ys ++ [x])) (hg : W.grownBy W1 vs.ownBlock) (hat : vs.ownBlock = some g ∨ g = W.heap.size) :
    W1.cell? ⟨T, 1, none⟩ = some vs ∧ W1.frozen? ⟨T, 1, none⟩ = false ∧
      WStep B w bb T ns S nv sv xs ns' (S' ++ [L]) vn vs vn (.slice (some ⟨g, 0, none⟩) (S'.length + 1) cap) r (ys ++ [x]) (W1.setCell ⟨T, 1, none⟩ (.slice (some ⟨g, 0, none⟩) (S'.length + 1) cap)) := by
  have hW := hp.next hb
  obtain ⟨y1, y2, y3, _⟩ := tadded (L := L) hp.ts hb hx hown hg hat
  have hk1 : Kx (UT T vn vs) W W1 := Kx.of_grown hg (fun k hk => .inr (.inr hk))
  have hk2 : Kx (UT T vn vs) W (W1.setCell ⟨T, 1, none⟩ (.slice (some ⟨g, 0, none⟩) (S'.length + 1) cap)) := hk1.trans (Kx.of_set (.inl rfl))
  have hsz := hb.size
  refine ⟨y1, y2, ⟨hW.wants hk2, y3, hp.n, fun k hk hv => ?_⟩, (Kx.of_below hb).trans hk2⟩
  simp only [Value.ownBlock, Option.some.injEq] at hv
  subst hv
  rcases hat with h | h
  · exact hp.s _ hk h
  · have := (hp.bd.sets.own.lt _ hk).2; omega
/-- another tree in the box -/
theorem BW.take {ns2 : List Nd} {S2 : List (List R)} {vn2 vs2 : Value} {r2 : Int} {ys2 : List Value} (hp : BW B w bb T ns S nv sv xs ns' S' vn vs r ys) (hb : Below w.heap.size w W)
    (h1 : NRow W w.heap.size vn2 ns2) (h2 : RowsOwn w.heap.size W vs2 S2 ys2) :
    WStep B w bb T ns S nv sv xs ns2 S2 vn vs vn2 vs2 r2 ys2 (((W.setCell ⟨T, 0, none⟩ vn2).setCell ⟨T, 1, none⟩ vs2).setCell ⟨T, 2, none⟩ (.int .i64 r2)) := by
  have hW := hp.next hb
  have hB : B ≤ w.heap.size := by have := hp.bd.base; have := hp.bd.lt; omega
  have hlt := hp.ts.lt
  obtain ⟨hbox, hk⟩ := boxed3 hW.ts.box vn2 vs2 (.int .i64 r2)
  have hk2 := hk.mono (V := UT T vn vs) (fun k _ e => .inl e)
  refine ⟨⟨hW.wants hk2, ⟨hp.ts.base, hbox, ?_, ?_⟩, fun k hk' hv => ?_, fun k hk' hv => ?_⟩, (Kx.of_below hb).trans hk2⟩
  · refine row_base (hk.own h1 fun k hk' e => ?_) hB
    have := (h1.lt k hk').1; omega
  · refine (RowsOwn.base (B := w.heap.size) ?_ hB)
    refine rows_kx h2 hk ?_
    rintro b rfl cs fz
    rw [hW.ts.box]; exact ⟨by simp, by simp⟩
  · have := (h1.lt k hv).1; have := (hp.bd.nodes.lt k hk').2; omega
  · have := (h2.own.lt k hv).1; have := (hp.bd.sets.own.lt k hk').2; omega
theorem BW.start (w : World) (hb : Bd B w bb [] [] (.slice none 0 0) (.slice none 0 0) []) (hB : B ≤ w.heap.size) : BW B (w.alloc (.cells #[.slice none 0 0, .slice none 0 0, .int .i64 0] 25)) bb w.heap.size [] [] (.slice none 0 0) (.slice none 0 0) [] [] [] (.slice none 0 0) (.slice none 0 0) 0 [] :=
  ⟨hb.next ((Below.refl _ _).alloc (Nat.le_refl _) _), ⟨hB, heap_alloc_new _ _, World.ownsRow_nil _ _ _ _, RowsOwn.nil _ _⟩, fun k hk => (by cases hk), fun k hk => (by cases hk)⟩
/-- a call that added a node -/
theorem BW.added {n : Nd} {e : Ending} (h : BW B w bb T ns S nv sv xs ns' S' vn vs r ys) (hq : AddOut B w bb ns S nv sv n e w') (hn : nodeB n ns.length S.length = true) :
    e = .returned (.int .i64 ns.length) ∧ ∃ nv' sv' xs', BW B w' bb T (ns ++ [n]) S nv' sv' xs' ns' S' vn vs r ys ∧ Kx (UB bb nv sv) w w' ∧ ∀ k, nv'.ownBlock = some k → nv.ownBlock = some k ∨ w.heap.size ≤ k := by
  rcases hq with ⟨_, he, hs⟩ | ⟨hf, _⟩
  · exact ⟨he, h.call hs⟩
  · rw [hn] at hf; cases hf
/-- a call that added nothing -/
theorem BW.unadded {n : Nd} {e : Ending} (hq : AddOut B w bb ns S nv sv n e w') (hn : nodeB n ns.length S.length = false) : e = .returned (.int .i64 (-1)) ∧ Below w.heap.size w w' := by
  rcases hq with ⟨hf, _⟩ | ⟨_, he, hs⟩
  · rw [hn] at hf; cases hf
  · exact ⟨he, hs⟩
end
theorem ABox.kx {U : Nat → Prop} {W W' : World} {b : Nat} {c0 c1 c2 c3 c4 c5 c6 c7 : Value} (h : ABox W b c0 c1 c2 c3 c4 c5 c6 c7) (k : Kx U W W') (hU : ¬ U b) : ABox W' b c0 c1 c2 c3 c4 c5 c6 c7 :=
  ⟨k.cell h.e0 hU, k.cell h.e1 hU, k.cell h.e2 hU, k.cell h.e3 hU, k.cell h.e4 hU, k.cell h.e5 hU, k.cell h.e6 hU, k.cell h.e7 hU⟩
/-- a node's box that may be written -/
structure ZBox (W : World) (N : Nat) : Prop where
  box : W.heap[N]? = some (.cells #[.int .i64 0, .int .i64 0, .int .i64 0, .int .i64 0, .int .i64 0, .int .i64 0] 41 (0, 0))
theorem ZBox.new (w : World) : ZBox (w.alloc (.cells #[.int .i64 0, .int .i64 0, .int .i64 0, .int .i64 0, .int .i64 0, .int .i64 0] 41)) w.heap.size := ⟨heap_alloc_new _ _⟩
theorem ZBox.kx {U : Nat → Prop} {W W' : World} {N : Nat} (h : ZBox W N) (k : Kx U W W') (hU : ¬ U N) : ZBox W' N := ⟨(k.block N (Array.getElem?_eq_some_iff.1 h.box).1 hU).trans h.box⟩
theorem ZBox.cells {W : World} {N : Nat} (h : ZBox W N) : (W.cell? ⟨N, 0, none⟩ = some (.int .i64 0) ∧ W.cell? ⟨N, 1, none⟩ = some (.int .i64 0) ∧ W.cell? ⟨N, 2, none⟩ = some (.int .i64 0) ∧ W.cell? ⟨N, 3, none⟩ = some (.int .i64 0) ∧ W.cell? ⟨N, 4, none⟩ = some (.int .i64 0) ∧ W.cell? ⟨N, 5, none⟩ = some (.int .i64 0)) ∧
    W.frozen? ⟨N, 0, none⟩ = false ∧ W.frozen? ⟨N, 1, none⟩ = false ∧ W.frozen? ⟨N, 2, none⟩ = false ∧ W.frozen? ⟨N, 3, none⟩ = false ∧ W.frozen? ⟨N, 4, none⟩ = false ∧ W.frozen? ⟨N, 5, none⟩ = false := by
  refine ⟨?_, frozen_of_row W N 0 _ _ h.box, frozen_of_row W N 1 _ _ h.box, frozen_of_row W N 2 _ _ h.box, frozen_of_row W N 3 _ _ h.box, frozen_of_row W N 4 _ _ h.box, frozen_of_row W N 5 _ _ h.box⟩
  simp [World.cell?, h.box]

end Go.Proofs.Ytdgpanofehfjdaa.Ar

namespace Go.Proofs.Ytdgpanofehfjdaa.Ar
open Go Go.RowKit Go.Shelf
open Go.Proofs.Ytdgpanofehfjdaa.Rg (R RngsAt RowsAt nthL nth add_zero own_next RowsOwn flatR infoS row_apart row_base SetOut inB hasB setFrom rngs_of_row rightB rsame_any)

/-- a call in a row of calls -/
structure ActIn (w : World) (g : Addr) (a : Actn) : Prop where
  mk' : ∃ (lo : Option Addr) (lcap : Nat) (no : Option Addr) (ncap : Nat) (so : Option Addr) (scap : Nat),
    w.cell? g = some (.int .i64 a.kind) ∧ w.cell? ⟨g.block, g.off + 1, none⟩ = some (.int .i64 a.x) ∧ w.cell? ⟨g.block, g.off + 2, none⟩ = some (.int .i64 a.y) ∧ w.cell? ⟨g.block, g.off + 3, none⟩ = some (.int .i64 a.z) ∧
    w.cell? ⟨g.block, g.off + 4, none⟩ = some (.slice lo a.l.length lcap) ∧ w.cell? ⟨g.block, g.off + 5, none⟩ = some (.slice no a.t.ns.length ncap) ∧ w.cell? ⟨g.block, g.off + 6, none⟩ = some (.slice so a.t.sets.length scap) ∧ w.cell? ⟨g.block, g.off + 7, none⟩ = some (.int .i64 a.t.root) ∧
    a.l.length ≤ 9223372036854775807 ∧ RngsAt w (.slice lo a.l.length lcap) a.l ∧ TreeAt w (.agg #[.slice no a.t.ns.length ncap, .slice so a.t.sets.length scap, .int .i64 a.t.root]) a.t
def acn (l : List Actn) (i : Nat) : Actn := l.getD i ⟨0, 0, 0, 0, [], ⟨[], [], 0⟩⟩
/-- a slice of calls -/
def ActsAt (w : World) (v : Value) (l : List Actn) : Prop :=
  (v = .slice none 0 0 ∧ l = []) ∨ ∃ a cap, v = .slice (some a) l.length cap ∧ l.length ≤ maxLen ∧ ∀ i, i < l.length → ActIn w (a.add (i * 8)) (acn l i)
theorem ActsAt.shape {w : World} {v : Value} {l : List Actn} (h : ActsAt w v l) : ∃ (ao : Option Addr) (cap : Nat), v = .slice ao l.length cap ∧ l.length ≤ 9223372036854775807 ∧ ∀ i, i < l.length → ∃ g, ao = some g ∧ ActIn w (g.add (i * 8)) (acn l i) := by
  rcases h with ⟨rfl, rfl⟩ | ⟨a, cap, rfl, hm, hi⟩
  · exact ⟨none, 0, rfl, by simp, fun i hi => by simp at hi⟩
  · exact ⟨some a, cap, rfl, by unfold maxLen at hm; omega, fun i h => ⟨a, rfl, hi i h⟩⟩
theorem cell_of_row6 {W : World} {N : Nat} {v0 v1 v2 v3 v4 v5 : Value} {t : TypeId} (o : Nat) (h : W.heap[N]? = some (.cells #[v0, v1, v2, v3, v4, v5] t (0, 0))) : W.cell? ⟨N, o, none⟩ = #[v0, v1, v2, v3, v4, v5][o]? := by
  simp [World.cell?, h]
theorem infoA : (Try.prog.info? 39).map (fun i => (i.zero.isSome, i.size)) = some (true, 8) := by kernel_rfl

/-- what stands when k calls have been gone through -/
structure Inv (k : Nat) (ns : List Nd) (S : List (List R)) : Prop where
  nl : ns.length ≤ 61 * k
  sl : S.length ≤ 61 * k
  node : ∀ i, i < ns.length → nodeB (nd ns i) i S.length = true
  right : ∀ s, s ∈ S → rightB s = true
  each : ∀ s, s ∈ S → s.length ≤ 1000
theorem Inv.start : Inv 0 [] [] := ⟨by simp, by simp, fun i hi => by simp at hi, fun s hs => by simp at hs, fun s hs => by simp at hs⟩
theorem Inv.same {k : Nat} {ns : List Nd} {S : List (List R)} (h : Inv k ns S) : Inv (k + 1) ns S := ⟨by have := h.nl; omega, by have := h.sl; omega, h.node, h.right, h.each⟩
theorem Inv.add {k : Nat} {ns : List Nd} {S : List (List R)} {n : Nd} (h : Inv k ns S) (hn : nodeB n ns.length S.length = true) : Inv (k + 1) (ns ++ [n]) S := by
  refine ⟨by have := h.nl; simp; omega, by have := h.sl; omega, fun i hi => ?_, h.right, h.each⟩
  rw [List.length_append, List.length_singleton] at hi
  by_cases hl : i < ns.length
  · rw [nd_left hl]; exact h.node i hl
  · obtain rfl : i = ns.length + 0 := by omega
    rw [nd_right]; exact hn
theorem Inv.addSet {k : Nat} {ns : List Nd} {S : List (List R)} {L : List R} (h : Inv k ns S) (h0 : setFrom 0 L) (hl : L.length ≤ 1000) : Inv (k + 1) (ns ++ [setN S.length]) (S ++ [L]) := by
  have h1 := h.nl
  have h2 := h.sl
  refine ⟨by simp; omega, by simp; omega, fun i hi => ?_, fun s hs => ?_, fun s hs => ?_⟩
  · rw [List.length_append, List.length_singleton] at hi ⊢
    by_cases hl : i < ns.length
    · rw [nd_left hl]; exact nodeB_mono (h.node i hl) (Int.le_refl _) (by omega)
    · obtain rfl : i = ns.length + 0 := by omega
      rw [nd_right]; exact setN_ok _ _
  · rcases List.mem_append.1 hs with hs | hs
    · exact h.right s hs
    · obtain rfl := List.mem_singleton.1 hs
      exact (Rg.rightB_iff _).2 h0
  · rcases List.mem_append.1 hs with hs | hs
    · exact h.each s hs
    · obtain rfl := List.mem_singleton.1 hs
      exact hl
theorem Inv.graft {k : Nat} {ns : List Nd} {S : List (List R)} {t : Tr} (h : Inv k ns S) (ht : Ok t) (hn : Near t) : Inv (k + 1) (Ar.graft ns S t).ns (Ar.graft ns S t).sets := by
  have h1 := h.nl
  have h2 := h.sl
  have h3 := hn.ns
  have h4 := hn.sets
  have ho := graft_ok (ns := ns) (S := S) ht h.right h.node
  refine ⟨by simp [Ar.graft]; omega, by simp [Ar.graft]; omega, ho.node, ho.sets, fun s hs => ?_⟩
  rcases List.mem_append.1 (show s ∈ S ++ t.sets from hs) with hs | hs
  · exact h.each s hs
  · obtain ⟨i, hi, rfl⟩ := List.mem_iff_getElem.1 hs
    have := hn.each i hi
    rw [Rg.nthL_eq hi] at this
    omega
theorem Inv.ok {k : Nat} {ns : List Nd} {S : List (List R)} {q : Nat} (h : Inv k ns S) (hq : q < ns.length) : Ok ⟨ns, S, q⟩ := ⟨show (0 : Int) ≤ (q : Int) by omega, show (q : Int) < (ns.length : Int) by omega, h.right, h.node⟩
theorem Inv.check {k : Nat} {ns : List Nd} {S : List (List R)} {q : Nat} (h : Inv k ns S) (hk : k ≤ 30) (hq : q < ns.length) : checkE ⟨ns, S, q⟩ = 0 := ok_check (h.ok hq) (by have := h.nl; show ns.length ≤ 4096; omega) (by have := h.sl; show S.length ≤ 4096; omega)
/-- the tree of all is the same as the one that was added -/
theorem Inv.grafted {k : Nat} {ns : List Nd} {S : List (List R)} {t : Tr} (h : Inv k ns S) (hk : k < 30) (ht : checkE t = 0) (hn : Near t) : SB ⟨(Ar.graft ns S t).ns, (Ar.graft ns S t).sets, (ns.length : Int) + t.root⟩ t = true := by
  have ho := (check_ok ht).1
  have hr := ho.root0
  have hr1 := ho.root1
  obtain ⟨q, hq⟩ := Int.eq_ofNat_of_zero_le hr
  have hI := h.graft ho hn
  have hg : checkE (Ar.graft ns S t) = 0 := by
    have := hI.check (q := ns.length + q) (by omega) (by simp [Ar.graft]; omega)
    have e : Ar.graft ns S t = ⟨(Ar.graft ns S t).ns, (Ar.graft ns S t).sets, ((ns.length + q : Nat) : Int)⟩ := by simp [Ar.graft, hq]
    rw [e]; exact this
  show SB (Ar.graft ns S t) t = true
  unfold SB
  rw [if_pos ⟨hg, ht⟩]
  have e2 : (Ar.graft ns S t).root.toNat = ns.length + t.root.toNat := by simp [Ar.graft]; omega
  rw [e2]
  exact graft_same ho _ (by omega)

set_option maxRecDepth 100000 in
set_option maxHeartbeats 4000000 in
theorem builds_many (l : List Actn) (q : Int) (v : Value) (w : World) (hv : ActsAt w v l) (h30 : 30 < l.length) : Calls Try.prog 4 #[v, .int .i64 q] w fun e w' => e = .returned (.bool true) ∧ Below w.heap.size w w' := by
  obtain ⟨ao, cap, rfl, hlm, hla⟩ := hv.shape
  have CA := Lib.hid (alive_any w)
  have h30' : (30 : Int) < (l.length : Int) := by omega
  clear hv hla
  go_enter Try.func4, Try.ntmps4
  go_wp2_with (go_at_call 7; (with_reducible refine CA.out.mono ?_); rintro e w9 ⟨rfl, hb9⟩; go_must (have B9 := Lib.hid hb9; clear hb9))
  go_ret
  exact ⟨rfl, B9.out⟩

section
open Go.ChangeShapes Go.WideShapes Go.Deep
set_option maxRecDepth 4000
theorem acts_of_trod {H : Type} {enc : TypeId × Value → H} {W : World} {v : Value} {d : DataW H} {ps : List MemPlace} {base b2 : Nat} {sp : Nat → Bool} {held : Bool} (ho : Value.okWide Try.prog W .any b2 34 v) (h : DataW.Trod enc Try.prog W base sp held 34 v d ps) : ∃ l, ActsAt W v l := by
  obtain ⟨a0, len0, cap0, rfl⟩ := okWide_slice Try.underlying34 ho
  obtain ⟨fuel, hf⟩ := h
  rcases open_slice Try.underlying34 hf with ⟨hcs, _⟩ | ⟨a, len, cap, m, n, D, Pl, hcs, _, hl, hm, hmm, _, hi⟩
  · exact ⟨[], .inl ⟨by simpa [Value.cells] using hcs, rfl⟩⟩
  · have hv : Value.slice a0 len0 cap0 = .slice (some a) len cap := by simpa [Value.cells] using hcs
    rw [hv]
    have hlm : len ≤ m := by rw [hmm]; split <;> omega
    have hex : ∀ i, ∃ x : Actn, i < len → ActIn W (a.add (i * 8)) x := fun i => by
      by_cases hil : i < len
      · obtain ⟨cs', h1, h2⟩ := hi i (by omega)
        obtain ⟨vl, vn, vs, x, rfl, r1, r2, r3⟩ := act_cells h2
        rw [show Try.prog.cellsOf 39 = 8 by kernel_rfl] at h1
        obtain ⟨_, _, hc⟩ := World.cells?_some h1
        have k0 := hc 0 (by omega)
        have k1 := hc 1 (by omega)
        have k2 := hc 2 (by omega)
        have k3 := hc 3 (by omega)
        have k4 := hc 4 (by omega)
        have k5 := hc 5 (by omega)
        have k6 := hc 6 (by omega)
        have k7 := hc 7 (by omega)
        rw [add_add] at k0 k1 k2 k3 k4 k5 k6 k7
        rw [Nat.add_zero] at k0
        rw [add_nxt] at k1 k2 k3 k4 k5 k6 k7
        obtain ⟨lo, lcap, rfl, hm1, _⟩ := r1.shape
        obtain ⟨no, ncap, rfl, _, _⟩ := r2.shape
        obtain ⟨so, scap, rfl, _, _⟩ := r3.shape
        exact ⟨x, fun _ => ⟨lo, lcap, no, ncap, so, scap, k0, k1, k2, k3, k4, k5, k6, k7, hm1, r1, ⟨_, _, rfl, r2, r3⟩⟩⟩
      · exact ⟨⟨0, 0, 0, 0, [], ⟨[], [], 0⟩⟩, fun h => absurd h hil⟩
    obtain ⟨f, hf'⟩ := Classical.skolem.1 hex
    refine ⟨(List.range len).map f, .inr ⟨a, cap, by simp, by simp; omega, fun i hil => ?_⟩⟩
    have hil' : i < len := by simpa using hil
    have : acn ((List.range len).map f) i = f i := by simp [acn, List.getD, hil']
    rw [this]
    exact hf' i hil'
end

end Go.Proofs.Ytdgpanofehfjdaa.Ar

namespace Go.Proofs.Ytdgpanofehfjdaa.Ar
open Go Go.RowKit Go.Shelf
open Go.Proofs.Ytdgpanofehfjdaa.Rg (R RngsAt RowsAt nthL nth add_zero own_next RowsOwn flatR infoS row_apart row_base SetOut inB hasB setFrom rngs_of_row rightB rsame_any)

/-- where the kinds of a call meet: what was told, whether it may be, and what stands -/
def Meets (B T N k : Nat) (w : World) (ns : List Nd) (S : List (List R)) (vn vs : Value) (r : Int) (ys : List Value) (s12 s13 : Value) (wx : World) : Prop :=
  Below B w wx ∧
    ((∃ (n : Nd) (S' : List (List R)) (nv' sv' : Value) (xs' : List Value) (vs' : Value) (ys' : List Value), s12 = .int .i64 ns.length ∧ s13 = .bool true ∧ wx.heap[N]? = some (.cells #[.int .i64 n.op, .int .i64 n.a, .int .i64 n.b, .int .i64 n.lo, .int .i64 n.hi, .int .i64 n.set] 41 (0, 0)) ∧ BW B wx B T (ns ++ [n]) S' nv' sv' xs' ns S' vn vs' r ys' ∧ Inv (k + 1) (ns ++ [n]) S') ∨
     (∃ (nv' sv' : Value) (xs' : List Value), s12 = .int .i64 (-1) ∧ s13 = .bool false ∧ BW B wx B T ns S nv' sv' xs' ns S vn vs r ys ∧ Inv (k + 1) ns S))
/-- what a call tells that adds a node where it may be, and what it leaves -/
def Told4 (B T N A : Nat) (Wn : World) (b : Bool) (g : Int) (n : Nd) (ns : List Nd) (S : List (List R)) (vn vs : Value) (r : Int) (ys : List Value) (c0 c1 c2 c3 c4 c5 c6 c7 : Value) (e : Ending) (w3 : World) : Prop :=
  e = .returned (.int .i64 g) ∧ (g = if b then (ns.length : Int) else -1) ∧ Below B Wn w3 ∧ ABox w3 A c0 c1 c2 c3 c4 c5 c6 c7 ∧ ZBox w3 N ∧ ∃ (nv' sv' : Value) (xs' : List Value), nv'.ownBlock ≠ some N ∧ BW B w3 B T (if b then ns ++ [n] else ns) S nv' sv' xs' ns S vn vs r ys
section
variable {B T N A k : Nat} {w Wn W w3 : World} {ns : List Nd} {S : List (List R)} {nv sv vn vs : Value} {r : Int} {xs ys : List Value} {c0 c1 c2 c3 c4 c5 c6 c7 : Value} {n : Nd} {b : Bool} {e : Ending}
theorem BW.below (h : BW B Wn B T ns S nv sv xs ns S vn vs r ys) (hW : Below Wn.heap.size Wn W) (hk : Kx (UB B nv sv) W w3) : Below B Wn w3 := by
  have h1 : B ≤ Wn.heap.size := by have := h.bd.base; have := h.bd.lt; omega
  have h2 := hW.size
  exact (hW.mono h1).trans (hk.below (by omega) (fun j hj hu => by have := (h.lt hu).1; omega))
theorem told_add {g : Int} (h : BW B Wn B T ns S nv sv xs ns S vn vs r ys) (hA : ABox Wn A c0 c1 c2 c3 c4 c5 c6 c7) (hZ : ZBox Wn N) (hlt : ∀ j, UB B nv sv j → j < A) (hAN : A + 1 ≤ N) (hn : nodeB n ns.length S.length = b) (hg : g = if b then (ns.length : Int) else -1) (hW : Below Wn.heap.size Wn W) (hq : AddOut B W B ns S nv sv n e w3) :
    Told4 B T N A Wn b g n ns S vn vs r ys c0 c1 c2 c3 c4 c5 c6 c7 e w3 := by
  have h1 : B ≤ Wn.heap.size := by have := h.bd.base; have := h.bd.lt; omega
  have h2 := hW.size
  have hZW : ZBox W N := hZ.kx (Kx.of_below (U := fun _ => False) hW) id
  have hNW : N < Wn.heap.size := (Array.getElem?_eq_some_iff.1 hZ.box).1
  cases b with
  | false =>
    obtain ⟨rfl, hb⟩ := BW.unadded hq hn
    refine ⟨by rw [hg]; rfl, hg, (hW.mono h1).trans (hb.mono (by omega)), (hA.next hW).next hb, hZW.kx (Kx.of_below (U := fun _ => False) hb) id, nv, sv, xs, fun hv => ?_, (h.next hW).next hb⟩
    have := hlt N (.inr (.inl hv)); omega
  | true =>
    obtain ⟨rfl, nv', sv', xs', hbw, hk, hage⟩ := BW.added (h.next hW) hq hn
    refine ⟨by rw [hg]; rfl, hg, h.below hW hk, (hA.next hW).kx hk (fun hu => by have := hlt _ hu; omega), hZW.kx hk (fun hu => by have := hlt _ hu; omega), nv', sv', xs', fun hv => ?_, hbw⟩
    rcases hage N hv with h5 | h5
    · have := hlt N (.inr (.inl h5)); omega
    · omega
/-- a cell of another box, where a node's box is filled -/
theorem six_cell {o : Nat} {v : Value} (h : w3.cell? ⟨A, o, none⟩ = some v) (hne : A + 1 ≤ N) {v0 v1 v2 v3 v4 v5 : Value} : ((((((w3.setCell ⟨N, 0, none⟩ v0).setCell ⟨N, 1, none⟩ v1).setCell ⟨N, 2, none⟩ v2).setCell ⟨N, 3, none⟩ v3).setCell ⟨N, 4, none⟩ v4).setCell ⟨N, 5, none⟩ v5).cell? ⟨A, o, none⟩ = some v := by
  have hk : Kx (fun b => b = N) w3 ((((((w3.setCell ⟨N, 0, none⟩ v0).setCell ⟨N, 1, none⟩ v1).setCell ⟨N, 2, none⟩ v2).setCell ⟨N, 3, none⟩ v3).setCell ⟨N, 4, none⟩ v4).setCell ⟨N, 5, none⟩ v5) :=
    (((((Kx.of_set (U := fun b => b = N) rfl).trans (Kx.of_set (U := fun b => b = N) rfl)).trans (Kx.of_set (U := fun b => b = N) rfl)).trans (Kx.of_set (U := fun b => b = N) rfl)).trans (Kx.of_set (U := fun b => b = N) rfl)).trans (Kx.of_set (U := fun b => b = N) rfl)
  exact hk.cell h (fun e : A = N => by omega)
/-- six cells turned in the node's box -/
def six (w3 : World) (N : Nat) (v0 v1 v2 v3 v4 v5 : Value) : World := (((((w3.setCell ⟨N, 0, none⟩ v0).setCell ⟨N, 1, none⟩ v1).setCell ⟨N, 2, none⟩ v2).setCell ⟨N, 3, none⟩ v3).setCell ⟨N, 4, none⟩ v4).setCell ⟨N, 5, none⟩ v5
theorem met_add {g : Int} (hw : Below B w Wn) (hB : Below B Wn w3) (hBN : B ≤ N) (hZ : ZBox w3 N) (hg : g = if b then (ns.length : Int) else -1) {nv' sv' : Value} {xs' : List Value} (h1 : nv'.ownBlock ≠ some N) (h2 : vn.ownBlock ≠ some N) (hbw : BW B w3 B T (if b then ns ++ [n] else ns) S nv' sv' xs' ns S vn vs r ys) (hI : Inv k ns S) (hn : nodeB n ns.length S.length = b) :
    Meets B T N k w ns S vn vs r ys (.int .i64 g) (.bool b) (six w3 N (.int .i64 n.op) (.int .i64 n.a) (.int .i64 n.b) (.int .i64 n.lo) (.int .i64 n.hi) (.int .i64 n.set)) := by
  obtain ⟨hb6, hk6⟩ := boxed6 hZ.box (.int .i64 n.op) (.int .i64 n.a) (.int .i64 n.b) (.int .i64 n.lo) (.int .i64 n.hi) (.int .i64 n.set)
  have hbw6 := hbw.other hk6 hZ.box h1 h2
  have hs : B ≤ w3.heap.size := by have := hbw.bd.base; have := hbw.bd.lt; omega
  refine ⟨(hw.trans hB).trans (hk6.below hs (fun j hj (e : j = N) => by omega)), ?_⟩
  cases b with
  | true => exact .inl ⟨n, S, nv', sv', xs', vs, ys, by rw [hg]; rfl, rfl, hb6, hbw6, hI.add hn⟩
  | false => exact .inr ⟨nv', sv', xs', by rw [hg]; rfl, rfl, hbw6, hI.same⟩
/-- what a call tells that adds a set, and what it leaves -/
def ToldS (B T N A : Nat) (Wn : World) (l : List R) (ns : List Nd) (S : List (List R)) (vn vs : Value) (r : Int) (ys : List Value) (c0 c1 c2 c3 c4 c5 c6 c7 : Value) (e : Ending) (w3 : World) : Prop :=
  e = .returned (.int .i64 ns.length) ∧ Below B Wn w3 ∧ ABox w3 A c0 c1 c2 c3 c4 c5 c6 c7 ∧ ZBox w3 N ∧ ∃ (L : List R) (nv' sv' : Value) (xs' : List Value), setFrom 0 L ∧ (∀ c, hasB L c = inB l c) ∧ L.length ≤ l.length ∧ nv'.ownBlock ≠ some N ∧ BW B w3 B T (ns ++ [setN S.length]) (S ++ [L]) nv' sv' xs' ns S vn vs r ys
theorem told_set {l : List R} (h : BW B Wn B T ns S nv sv xs ns S vn vs r ys) (hA : ABox Wn A c0 c1 c2 c3 c4 c5 c6 c7) (hZ : ZBox Wn N) (hlt : ∀ j, UB B nv sv j → j < A) (hAN : A + 1 ≤ N) (hW : Below Wn.heap.size Wn W) (hq : SetBd B W B ns S nv sv l e w3) :
    ToldS B T N A Wn l ns S vn vs r ys c0 c1 c2 c3 c4 c5 c6 c7 e w3 := by
  have h2 := hW.size
  have hNW : N < Wn.heap.size := (Array.getElem?_eq_some_iff.1 hZ.box).1
  have hZW : ZBox W N := hZ.kx (Kx.of_below (U := fun _ => False) hW) id
  obtain ⟨rfl, L, l1, l2, l3, hs⟩ := hq
  obtain ⟨nv', sv', xs', hbw, hk, hage⟩ := (h.next hW).call hs
  refine ⟨rfl, h.below hW hk, (hA.next hW).kx hk (fun hu => by have := hlt _ hu; omega), hZW.kx hk (fun hu => by have := hlt _ hu; omega), L, nv', sv', xs', l1, l2, l3, fun hv => ?_, hbw⟩
  rcases hage N hv with h5 | h5
  · have := hlt N (.inr (.inl h5)); omega
  · omega
theorem met_set {W4 w6 : World} {L : List R} {nv' sv' vs' : Value} {xs' ys' : List Value} (hw : Below B w W4) (hbw : BW B W4 B T (ns ++ [setN S.length]) (S ++ [L]) nv' sv' xs' ns S vn vs r ys) (hbox : W4.heap[N]? = some (.cells #[.int .i64 2, .int .i64 0, .int .i64 0, .int .i64 0, .int .i64 0, .int .i64 S.length] 41 (0, 0)))
    (hs : WStep B W4 B T (ns ++ [setN S.length]) (S ++ [L]) nv' sv' xs' ns (S ++ [L]) vn vs vn vs' r ys' w6) (hlt : ∀ j, UT T vn vs j → j < N) (hI : Inv k ns S) (h0 : setFrom 0 L) (hl : L.length ≤ 1000) :
    Meets B T N k w ns S vn vs r ys (.int .i64 ns.length) (.bool true) w6 := by
  have hsz : B ≤ W4.heap.size := by have := hbw.bd.base; have := hbw.bd.lt; omega
  have hNW : N < W4.heap.size := (Array.getElem?_eq_some_iff.1 hbox).1
  refine ⟨hw.trans (hs.2.below hsz (fun j hj hu => by have := (hbw.ltT hu).1; omega)), .inl ⟨setN S.length, S ++ [L], nv', sv', xs', vs', ys', rfl, rfl, ?_, hs.1, hI.addSet h0 hl⟩⟩
  rw [hs.2.block N hNW (fun hu => by have := hlt _ hu; omega)]; exact hbox
/-- nothing was added -/
theorem met_no (hw : Below B w Wn) (hb : Below Wn.heap.size Wn w3) (h : BW B Wn B T ns S nv sv xs ns S vn vs r ys) (hI : Inv k ns S) : Meets B T N k w ns S vn vs r ys (.int .i64 (-1)) (.bool false) w3 :=
  ⟨hw.trans (hb.mono (by have := h.bd.base; have := h.bd.lt; omega)), .inr ⟨nv, sv, xs, rfl, rfl, h.next hb, hI.same⟩⟩
/-- what Graft tells of a tree that may be, and what it leaves -/
def ToldG (B T A p : Nat) (Wn : World) (ns : List Nd) (S : List (List R)) (ns2 : List Nd) (S2 : List (List R)) (vn vs : Value) (r : Int) (ys : List Value) (c0 c1 c2 c3 c4 c5 c6 c7 : Value) (e : Ending) (w3 : World) : Prop :=
  e = .returned (.int .i64 p) ∧ Below B Wn w3 ∧ ABox w3 A c0 c1 c2 c3 c4 c5 c6 c7 ∧ ∃ (nv' sv' : Value) (xs' : List Value), BW B w3 B T ns2 S2 nv' sv' xs' ns S vn vs r ys
theorem told_graft {t : Tr} {p : Nat} {ns2 : List Nd} {S2 : List (List R)} (h : BW B Wn B T ns S nv sv xs ns S vn vs r ys) (hA : ABox Wn A c0 c1 c2 c3 c4 c5 c6 c7) (hlt : ∀ j, UB B nv sv j → j < A) (hp : (ns.length : Int) + t.root = p) (ht : checkE t = 0) (h1 : (graft ns S t).ns = ns2) (h2 : (graft ns S t).sets = S2) (hW : Below Wn.heap.size Wn W) (hq : GraftAny B W B ns S nv sv t e w3) :
    ToldG B T A p Wn ns S ns2 S2 vn vs r ys c0 c1 c2 c3 c4 c5 c6 c7 e w3 := by
  rcases hq with ⟨_, rfl, hs⟩ | ⟨hn, _⟩
  · obtain ⟨nv', sv', xs', hbw, hk, hage⟩ := (h.next hW).call hs
    rw [h1, h2] at hbw
    exact ⟨by rw [hp], h.below hW hk, (hA.next hW).kx hk (fun hu => by have := hlt _ hu; omega), nv', sv', xs', hbw⟩
  · exact absurd ht hn
theorem below_step (h : Below Wn.heap.size Wn W) (h3 : Below W.heap.size W w3) : Below Wn.heap.size Wn w3 := h.trans (h3.mono h.size)
theorem below_drawn (h : Below Wn.drew.heap.size Wn.drew w3) : Below Wn.heap.size Wn w3 := (below_drew Wn).trans h
theorem told_none {t : Tr} (ht : checkE t ≠ 0) (hq : GraftAny B W B ns S nv sv t e w3) : e = .returned (.int .i64 (-1)) ∧ Below W.heap.size W w3 := by
  rcases hq with ⟨h, _⟩ | ⟨_, he, hb⟩
  · exact absurd h ht
  · exact ⟨he, hb⟩
end

end Go.Proofs.Ytdgpanofehfjdaa.Ar

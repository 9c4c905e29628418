/- A range over a function at the wide fence, whose iterator may itself range over functions: what a round keeps, an iterator's contract, the statement. -/
import Derived.Test.YtenmjnopbbingaaDoorChecked
import Derived.WalkKit
import Derived.RangeFuncNested
import Derived.RangeFuncLeaves
import Derived.Lib.Hide
namespace Go.Proofs.YtenmjnopbbingaaDoor.Nm
open Go.RowKit

variable {P : Program} {Ty : TypeId → Prop} {n₀ n₁ : Nat}

/-- what a round that goes on keeps: all below n₀; whatever is no cells from n₁ on; the cells of certain types, wherever they lie -/
structure Keeps (Ty : TypeId → Prop) (n₀ n₁ : Nat) (A B : World) : Prop where
  below : Below n₀ A B
  other : KeepsFrom n₁ A B
  typed : ∀ (k : Nat) (cs : Array Value) (t : TypeId) (fz : Nat × Nat), A.heap[k]? = some (Obj.cells cs t fz) → Ty t → B.heap[k]? = some (Obj.cells cs t fz)

theorem keepsFrom_mono {m m' : Nat} {A B : World} (h : KeepsFrom m A B) (hm : m ≤ m') : KeepsFrom m' A B := ⟨h.size, fun k o hk => h.same k o (Nat.le_trans hm hk)⟩
theorem Keeps.refl (W : World) : Keeps Ty n₀ n₁ W W := ⟨Below.refl _ _, KeepsFrom.refl _ _, fun _ _ _ _ h _ => h⟩
theorem Keeps.trans {A B C : World} (h : Keeps Ty n₀ n₁ A B) (k : Keeps Ty n₀ n₁ B C) : Keeps Ty n₀ n₁ A C :=
  ⟨h.below.trans k.below, h.other.trans k.other, fun i cs t fz hi ht => k.typed i cs t fz (h.typed i cs t fz hi ht) ht⟩
theorem Keeps.later {n₂ : Nat} {A B : World} (h : Keeps Ty n₀ n₁ A B) (hn : n₁ ≤ n₂) : Keeps Ty n₀ n₂ A B := ⟨h.below, keepsFrom_mono h.other hn, h.typed⟩
theorem Keeps.box {A B : World} (h : Keeps Ty n₀ n₁ A B) {b : Nat} {t : TypeId} {v : Value} (ht : Ty t) (hb : Boxed A b t v) : Boxed B b t v := h.typed _ _ _ _ hb ht
theorem Keeps.obj {A B : World} (h : Keeps Ty n₀ n₁ A B) {k : Nat} {o : Obj} (hk : n₁ ≤ k) (ho : A.heap[k]? = some o) (hc : o.isCells = false) : B.heap[k]? = some o := h.other.same k o hk ho hc
/-- new memory alone -/
theorem Keeps.of_below {A B : World} (h : Below A.heap.size A B) (hn : n₀ ≤ A.heap.size) : Keeps Ty n₀ n₁ A B :=
  ⟨h.mono hn, ⟨h.size, fun k _ _ hk _ => (h.block k (Array.getElem?_eq_some_iff.1 hk).1).trans hk⟩, fun k _ _ _ hk _ => (h.block k (Array.getElem?_eq_some_iff.1 hk).1).trans hk⟩
theorem Keeps.putObj {W : World} {l : Nat} {o : Obj} (o' : Obj) (hl : W.heap[l]? = some o) (hc : o.isCells = false) (h0 : n₀ ≤ l) (h1 : l < n₁) : Keeps Ty n₀ n₁ W (W.putObj l o') :=
  ⟨(Below.refl n₀ W).grown (grownBy_putObj' W l o') (by have := (Array.getElem?_eq_some_iff.1 hl).1; omega) (fun k e => by cases e; omega),
   KeepsFrom.of_grownBy (grownBy_putObj' W l o') (fun j e => by cases e; exact h1),
   fun k _ _ _ hk _ => (World.putObj_heap_other (fun e => by subst e; rw [hl] at hk; cases hk; cases hc)).trans hk⟩
/-- one block of the call's own is turned, of a type of its own -/
theorem Keeps.of_grown {A B : World} {row : Option Nat} (hg : A.grownBy B row) (hn : n₀ ≤ A.heap.size) (hr : ∀ j, row = some j → n₀ ≤ j ∧ ∃ (cs : Array Value) (t : TypeId) (fz : Nat × Nat), A.heap[j]? = some (Obj.cells cs t fz) ∧ ¬ Ty t) : Keeps Ty n₀ n₁ A B :=
  ⟨(Below.refl n₀ A).grown hg hn (fun k e => (hr k e).1),
   ⟨hg.size, fun k _ _ hk ho => (hg.block k (Array.getElem?_eq_some_iff.1 hk).1 (fun e => by
      obtain ⟨_, cs, t, fz, hc, _⟩ := hr k e.symm
      rw [hk] at hc; cases hc; cases ho)).trans hk⟩,
   fun k _ _ _ hk ht => (hg.block k (Array.getElem?_eq_some_iff.1 hk).1 (fun e => by
      obtain ⟨_, cs', t', fz', hc, hnt⟩ := hr k e.symm
      rw [hk] at hc; cases hc; exact hnt ht)).trans hk⟩
theorem Keeps.setCell {W : World} {b : Nat} {t : TypeId} {v : Value} (hb : Boxed W b t v) (h0 : n₀ ≤ b) (ht : ¬ Ty t) (u : Value) : Keeps Ty n₀ n₁ W (W.setCell ⟨b, 0, none⟩ u) :=
  Keeps.of_grown (grownBy_setCell' W b u) (by have := hb.lt; omega) (fun j e => by cases e; exact ⟨h0, _, _, _, hb, ht⟩)

theorem yield_any {m m' : Nat} {l : Nat} {args : Array Value} {W : World} {R : Ending → World → Prop} (h : YieldAt Fence.wide m P l args W R) : YieldAt Fence.wide m' P l args W R := by
  obtain ⟨fn, tmps, assign, body, hy, h1, h2⟩ := h
  exact ⟨fn, tmps, assign, body, hy, h1, fun c cs _ => h2 c cs (fun d hd => by cases hd)⟩
theorem yield_mono {m : Nat} {l : Nat} {args : Array Value} {W : World} {R R' : Ending → World → Prop} (h : YieldAt Fence.wide m P l args W R) (hr : ∀ e w, R e w → R' e w) : YieldAt Fence.wide m P l args W R' := by
  obtain ⟨fn, tmps, assign, body, hy, hR⟩ := h
  exact ⟨fn, tmps, assign, body, hy, hR.mono hr⟩

theorem round_in {m l l' : Nat} {f : FuncId} {tmps : Array Value} {assign body : Code} {w : World} {R : Ending → World → Prop} (h : RoundIn Fence.wide m P l f tmps assign body w R) : RoundIn (Fence.wide.inRound l') m P l f tmps assign body w R := h
/-- what a call of yield must do -/
def RoundEnd {α : Type} (Ty : TypeId → Prop) (n₀ n₁ : Nat) (J Jx : List α → World → Prop) (xs : List α) (W : World) (e : Ending) (W' : World) : Prop :=
  (e = .returned (.bool true) ∧ J xs W' ∧ Keeps Ty n₀ n₁ W W') ∨ (e = .returned (.bool false) ∧ Jx xs W' ∧ KeepsFrom n₁ W W')
/-- what an iterator tells: whatever the caller says of memory that does not mind what is no cells and was laid since the iterator's call -/
def Seq {α : Type} (P : Program) (Ty : TypeId → Prop) (n₀ : Nat) (g : Nat) (lb : Array Value) (enc : α → Value) (X : List α) (W : World) : Prop :=
  ∀ (l : Nat) (J Jx : List α → World → Prop), l < W.heap.size → OwnFrom W.heap.size J → OwnFrom W.heap.size Jx →
    (∀ pre x W1, J pre W1 → pre.length < X.length → YieldAt Fence.wide 0 P l #[enc x] W1 (RoundEnd Ty n₀ W.heap.size J Jx (pre ++ [x]) W1)) → J [] W →
    Calls P g (#[.func (.yield l) #[] #[]] ++ lb) W fun e W' => (∃ v, e = .returned v) ∧ (J X W' ∨ ∃ pre, pre <+: X ∧ Jx pre W')

/-- how the body of a round may be left -/
def BodyEnd {α : Type} (Ty : TypeId → Prop) (n₀ n₁ : Nat) (I Ix : List α → World → Prop) (xs : List α) (W : World) : Exit → Act → World → Prop
  | .normal, _, W' => Keeps Ty n₀ n₁ W W' ∧ I xs W'
  | .ret, _, W' => KeepsFrom n₁ W W' ∧ Ix xs W'
  | _, _, _ => False

theorem own_later {β : Type} {B B' : Nat} {I : β → World → Prop} (h : OwnFrom B I) (hB : B ≤ B') : OwnFrom B' I := fun s A C row hs hg hr => h s A C row hs hg fun r e => ⟨Nat.le_trans hB (hr r e).1, (hr r e).2⟩
theorem own_obj {β : Type} {B k : Nat} {o : Obj} (hk : k < B) : OwnFrom B (fun (_ : β) W => W.heap[k]? = some o) := fun _ A C row hs hg hr =>
  (hg.block k (Array.getElem?_eq_some_iff.1 hs).1 (fun e => by have := (hr k e.symm).1; omega)).trans hs

set_option maxHeartbeats 1000000 in
/-- the statement -/
theorem range_law {α : Type} {n : Nat} {g : Operand} {ps : Array Tmp} {assign body : Code} {Q : Exit → Act → World → Prop} {a : Act} {w : World} {gf : Nat} {lb : Array Value}
    (hg : a.eval g = .func (.func gf) #[] lb) (eg : ∀ args w, (callFunc gf args).run P w = .ok (.enter gf args) w) {enc : α → Value} {X : List α}
    (hseq : ∀ W1, Below w.heap.size w W1 → Seq P Ty n₀ gf lb enc X W1) (hn₀ : n₀ ≤ w.heap.size) (hps : ps.size = 1)
    (I Ix : List α → World → Prop) (hI : OwnFrom w.heap.size I) (hIx : OwnFrom w.heap.size Ix) (h0 : I [] w) (Ax : α → Act → World → Prop) (hAx : ∀ x a', OwnFrom w.heap.size (fun (_ : Unit) W => Ax x a' W))
    (hassign : ∀ (l : Nat) (pre : List α) (x : α) (W : World) (K : Act → World → Prop), I pre W → (∀ a' W', Keeps Ty n₀ w.heap.size W W' → I pre W' → Ax x a' W' → K a' W') →
      assign.wpIn (Fence.wide.inRound l) n P (Exit.then K (fun _ _ _ => False)) { tmps := (ps.zip #[enc x]).foldl (fun t (p, v) => t.setIfInBounds p v) a.tmps, defers := [] } W)
    (hbody : ∀ (l : Nat) (pre : List α) (x : α) (a' : Act) (W : World), I pre W → Ax x a' W → pre.length < X.length → body.wpIn (Fence.wide.inRound l) n P (BodyEnd Ty n₀ w.heap.size I Ix (pre ++ [x]) W) a' W)
    (hdone : ∀ (W : World), I X W → W.heap[w.heap.size]? = some (.deferred (some [])) → Q .normal { a with defers := { target := .collected w.heap.size, args := #[] } :: a.defers } W)
    (hstop : ∀ (pre : List α) (W : World), pre <+: X → Ix pre W → W.heap[w.heap.size]? = some (.deferred (some [])) → Code.ret.wpIn Fence.wide n P Q { a with defers := { target := .collected w.heap.size, args := #[] } :: a.defers } W) :
    (Code.rangeFunc g ps assign body).wpIn Fence.wide n P Q a w := by
  refine wpIn_rangeFunc fun fn _ => ?_
  -- the loop's record, by its state
  let rc : LoopState → Option Code → Obj := fun st j => .loop { state := st, pending := j, fn := fn, tmps := a.tmps, params := ps, assign := assign, body := body, defers := w.heap.size }
  have hV : Below w.heap.size w ((w.alloc (.deferred (some []))).alloc (rc .ready none)) := ((Below.refl _ w).alloc (Nat.le_refl _) _).alloc (by simp) _
  have r0 : ((w.alloc (.deferred (some []))).alloc (rc .ready none)).heap[w.heap.size + 1]? = some (rc .ready none) := by
    have := World.alloc_heap_new (w.alloc (.deferred (some []))) (rc .ready none); rwa [World.size_alloc] at this
  have d0 : ((w.alloc (.deferred (some []))).alloc (rc .ready none)).heap[w.heap.size]? = some (.deferred (some [])) :=
    (Below.heap_alloc _ _ _ (by simp)).trans (World.alloc_heap_new w _)
  have i0 : I [] ((w.alloc (.deferred (some []))).alloc (rc .ready none)) := hI.alloc _ (hI.alloc _ h0)
  have hsz : ((w.alloc (.deferred (some []))).alloc (rc .ready none)).heap.size = w.heap.size + 2 := by simp
  have he := run_enterLoop_outer (P := P) (w := w) fn a.tmps ps assign body
  obtain ⟨V, eV⟩ : ∃ V, (w.alloc (.deferred (some []))).alloc (rc .ready none) = V := ⟨_, rfl⟩
  rw [eV] at hV r0 d0 i0 hsz
  refine ⟨w.heap.size + 1, [{ target := .collected w.heap.size, args := #[] }], V, { target := .fn (.func gf) lb, args := #[.func (.yield (w.heap.size + 1)) #[] #[]] }, V, gf, #[.func (.yield (w.heap.size + 1)) #[] #[]] ++ lb, V, ?_, ?_, fun _ _ => trivial, ?_, fun h => (by cases h), callsIn_wide.2 ?_⟩
  · rw [← eV]; exact he
  · simp only [resolve, hg]; simp [go_sem]
  · simp [invoke, go_sem, eg]
  clear he eV
  -- what is said between two rounds, and behind the one that stops
  refine (hseq V hV (w.heap.size + 1) (fun pre W => I pre W ∧ W.heap[w.heap.size + 1]? = some (rc .ready none) ∧ W.heap[w.heap.size]? = some (.deferred (some [])))
    (fun pre W => Ix pre W ∧ W.heap[w.heap.size + 1]? = some (rc .done (some .ret)) ∧ W.heap[w.heap.size]? = some (.deferred (some []))) (by omega)
    ((own_later hI (by omega)).and ((own_obj (by omega)).and (own_obj (by omega)))) ((own_later hIx (by omega)).and ((own_obj (by omega)).and (own_obj (by omega)))) ?_ ⟨i0, r0, d0⟩).mono ?_
  · rintro pre x W1 ⟨i1, r1, d1⟩ hlen
    refine yield_any (m := n) ⟨fn, _, assign, body, run_yield r1 (by simp [hps]), roundIn_of_wpIn trivial (hassign _ pre x W1 _ i1 ?_)⟩
    intro a2 W2 k2 i2 x2
    have r2 := k2.obj (Nat.le_succ _) r1 rfl
    have d2 := k2.obj (Nat.le_refl _) d1 rfl
    refine ⟨_, run_beginRound r2 rfl, ?_⟩
    have k3 : Keeps Ty n₀ V.heap.size W2 (W2.putObj (w.heap.size + 1) (rc .busy none)) := Keeps.putObj _ r2 rfl (by omega) (by omega)
    have r3 : (W2.putObj (w.heap.size + 1) (rc .busy none)).heap[w.heap.size + 1]? = some (rc .busy none) := World.putObj_heap_same (Array.getElem?_eq_some_iff.1 r2).1
    have d3 : (W2.putObj (w.heap.size + 1) (rc .busy none)).heap[w.heap.size]? = some (.deferred (some [])) := (World.putObj_heap_other (by omega)).trans d2
    refine wpIn_mono (hbody _ pre x a2 _ (hI.putObj _ i2 (by omega) r2 rfl) ((hAx x a2).putObj (s := ()) _ x2 (by omega) r2 rfl) hlen) ?_
    have k13 := (k2.later (n₂ := V.heap.size) (by omega)).trans k3
    show ∀ (e : Exit) (a3 : Act) (W4 : World), BodyEnd Ty n₀ w.heap.size I Ix (pre ++ [x]) (W2.putObj (w.heap.size + 1) (rc .busy none)) e a3 W4 → _
    generalize W2.putObj (w.heap.size + 1) (rc .busy none) = W3 at *
    rintro e a3 W4 hp
    cases e with
    | normal =>
      obtain ⟨k4, i4⟩ := hp
      have r4 := k4.obj (Nat.le_succ _) r3 rfl
      have d4 := k4.obj (Nat.le_refl _) d3 rfl
      exact ⟨_, _, run_endRound none r4, .inl ⟨rfl, ⟨hI.putObj _ i4 (by omega) r4 rfl, World.putObj_heap_same (Array.getElem?_eq_some_iff.1 r4).1, (World.putObj_heap_other (by omega)).trans d4⟩,
        k13.trans ((k4.later (by omega)).trans (Keeps.putObj _ r4 rfl (by omega) (by omega)))⟩⟩
    | ret =>
      obtain ⟨k4, i4⟩ := hp
      have r4 := k4.same _ _ (Nat.le_succ _) r3 rfl
      have d4 := k4.same _ _ (Nat.le_refl _) d3 rfl
      exact ⟨_, _, run_endRound (some .ret) r4, .inr ⟨rfl, ⟨hIx.putObj _ i4 (by omega) r4 rfl, World.putObj_heap_same (Array.getElem?_eq_some_iff.1 r4).1, (World.putObj_heap_other (by omega)).trans d4⟩,
        k13.other.trans ((keepsFrom_mono k4 (by omega)).trans (KeepsFrom.of_grownBy (grownBy_putObj' _ _ _) (fun j e => by cases e; omega)))⟩⟩
    | exit id => exact hp.elim
    | goto t => exact hp.elim
    | panic ch => exact hp.elim
    | outgrown => exact hp.elim
  · rintro e W2 ⟨⟨v, rfl⟩, ⟨i2, r2, d2⟩ | ⟨pre, hp, i2, r2, d2⟩⟩
    · exact ⟨none, _, run_endLoop r2 (by simp), hdone _ (hI.putObj _ i2 (by omega) r2 rfl) ((World.putObj_heap_other (by omega)).trans d2)⟩
    · exact ⟨some .ret, _, run_endLoop r2 (by simp), hstop pre _ hp (hIx.putObj _ i2 (by omega) r2 rfl) ((World.putObj_heap_other (by omega)).trans d2)⟩

/-- the marks that an activation's loops have left behind, the newest first -/
def MarksAt (B : Nat) : Nat → List Deferred → World → Prop
  | _, [], _ => True
  | T, d :: ds, W => ∃ D, d = { target := .collected D, args := #[] } ∧ B ≤ D ∧ D < T ∧ W.heap[D]? = some (.deferred (some [])) ∧ MarksAt B D ds W
theorem MarksAt.up {B : Nat} : ∀ {ds : List Deferred} {T T' : Nat} {W : World}, MarksAt B T ds W → T ≤ T' → MarksAt B T' ds W
  | [], _, _, _, _, _ => trivial
  | _ :: _, _, _, _, ⟨D, h1, h2, h3, h4, h5⟩, hT => ⟨D, h1, h2, by omega, h4, h5⟩
theorem MarksAt.kept {B : Nat} {A C : World} (h : ∀ (k : Nat) (o : Obj), B ≤ k → A.heap[k]? = some o → o.isCells = false → C.heap[k]? = some o) : ∀ {ds : List Deferred} {T : Nat}, MarksAt B T ds A → MarksAt B T ds C
  | [], _, _ => trivial
  | _ :: _, _, ⟨D, h1, h2, h3, h4, h5⟩ => ⟨D, h1, h2, h3, h D _ h2 h4 rfl, MarksAt.kept h h5⟩
theorem MarksAt.grown {B : Nat} {A C : World} {row : Option Nat} (hg : A.grownBy C row) : ∀ {ds : List Deferred} {T : Nat}, (∀ r, row = some r → T ≤ r) → MarksAt B T ds A → MarksAt B T ds C
  | [], _, _, _ => trivial
  | _ :: _, T, hr, ⟨D, h1, h2, h3, h4, h5⟩ => ⟨D, h1, h2, h3, (hg.block D (Array.getElem?_eq_some_iff.1 h4).1 (fun e => by have := hr D e.symm; omega)).trans h4, MarksAt.grown hg (fun r e => by have := hr r e; omega) h5⟩
/-- they are all taken over, one by one: what minds none of that stands at the end -/
theorem leave_marks {n B : Nat} {fn : Func} {tmps : Array Value} {R : Ending → World → Prop} {K : World → Prop} (hK : ∀ W D, K W → B ≤ D → W.heap[D]? = some (.deferred (some [])) → K (W.putObj D (.deferred none)))
    (hR : ∀ W, K W → ∃ v, (results fn tmps).run P W = .ok v W ∧ R (.returned v) W) : ∀ {ds : List Deferred} {T : Nat} {W : World}, MarksAt B T ds W → K W → LeavesInM Fence.wide n P fn tmps R ds .returning W
  | [], _, W, _, hk => hR W hk
  | _ :: ds, _, W, ⟨D, h1, h2, h3, h4, h5⟩, hk => by
    subst h1
    refine ⟨by simp, .inl ⟨_, _, rfl, run_takeDeferred h4, leave_marks hK hR (T := D) ?_ (hK W D hk h2 h4)⟩⟩
    exact MarksAt.grown (grownBy_putObj' W D _) (fun r e => by cases e; omega) h5

end Go.Proofs.YtenmjnopbbingaaDoor.Nm

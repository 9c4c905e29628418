/- A range over a method that is handed on with its receiver, at the wide fence: an iterator's contract, the statement (of any program). -/
import Derived.Test.YtemmaoapicaloaaDoorChecked
import Derived.WalkKit
import Derived.RangeFuncNested
import Derived.RangeFuncLeaves
import Derived.Lib.Hide
namespace Go.Proofs.YtemmaoapicaloaaDoor.Bt
open Go.RowKit

variable {P : Program}

theorem keepsFrom_mono {m m' : Nat} {A B : World} (h : KeepsFrom m A B) (hm : m ≤ m') : KeepsFrom m' A B := ⟨h.size, fun k o hk => h.same k o (Nat.le_trans hm hk)⟩
theorem own_later {β : Type} {B B' : Nat} {I : β → World → Prop} (h : OwnFrom B I) (hB : B ≤ B') : OwnFrom B' I := fun s A C row hs hg hr => h s A C row hs hg fun r e => ⟨Nat.le_trans hB (hr r e).1, (hr r e).2⟩
theorem own_obj {β : Type} {B k : Nat} {o : Obj} (hk : k < B) : OwnFrom B (fun (_ : β) W => W.heap[k]? = some o) := fun _ A C row hs hg hr =>
  (hg.block k (Array.getElem?_eq_some_iff.1 hs).1 (fun e => by have := (hr k e.symm).1; omega)).trans hs
theorem yield_any {m m' : Nat} {l : Nat} {args : Array Value} {W : World} {R : Ending → World → Prop} (h : YieldAt Fence.wide m P l args W R) : YieldAt Fence.wide m' P l args W R := by
  obtain ⟨fn, tmps, assign, body, hy, h1, h2⟩ := h
  exact ⟨fn, tmps, assign, body, hy, h1, fun c cs _ => h2 c cs (fun d hd => by cases hd)⟩

/-- what a call of yield must do -/
def RoundEnd {α : Type} (J Jx : List α → World → Prop) (xs : List α) (e : Ending) (W' : World) : Prop :=
  (e = .returned (.bool true) ∧ J xs W') ∨ (e = .returned (.bool false) ∧ Jx xs W')
/-- what an iterator tells: whatever the caller says of memory that does not mind what is no cells and was laid since the iterator's call -/
def Seq {α : Type} (P : Program) (g : Nat) (rc : Value) (enc : α → Array Value) (X : List α) (Rd : World → Prop) (W : World) : Prop :=
  ∀ (l : Nat) (J Jx : List α → World → Prop), l < W.heap.size → OwnFrom W.heap.size J → OwnFrom W.heap.size Jx → (∀ pre W1, J pre W1 → Rd W1) →
    (∀ pre x W1, J pre W1 → pre ++ [x] <+: X → YieldAt Fence.wide 0 P l (enc x) W1 (RoundEnd J Jx (pre ++ [x]))) → J [] W →
    Calls P g #[rc, .func (.yield l) #[] #[]] W fun e W' => (∃ v, e = .returned v) ∧ (J X W' ∨ ∃ pre, pre <+: X ∧ Jx pre W')

/-- how the body of a round may be left -/
def BodyEnd {α : Type} (n₁ : Nat) (I Ix : List α → World → Prop) (xs : List α) (W : World) : Exit → Act → World → Prop
  | .normal, _, W' => KeepsFrom n₁ W W' ∧ I xs W'
  | .ret, _, W' => KeepsFrom n₁ W W' ∧ Ix xs W'
  | _, _, _ => False

set_option maxHeartbeats 1000000 in
/-- the statement -/
theorem range_law {α : Type} {n : Nat} {g : Operand} {ps : Array Tmp} {assign body : Code} {Q : Exit → Act → World → Prop} {a : Act} {w : World} {gf : Nat} {rc : Value}
    (hg : a.eval g = .func (.func gf) #[rc] #[]) (eg : ∀ args w, (callFunc gf args).run P w = .ok (.enter gf args) w) {enc : α → Array Value} {X : List α} {Rd : World → Prop}
    (hseq : ∀ W1, Below w.heap.size w W1 → Seq P gf rc enc X Rd W1) (hps : ∀ x, (enc x).size = ps.size)
    (I Ix : List α → World → Prop) (hI : OwnFrom w.heap.size I) (hIx : OwnFrom w.heap.size Ix) (hRd : ∀ pre W, I pre W → Rd W) (h0 : I [] w) (a₁ : α → Act)
    (hassign : ∀ (l : Nat) (x : α) (W : World) (K : Act → World → Prop), K (a₁ x) W →
      assign.wpIn (Fence.wide.inRound l) n P (Exit.then K (fun _ _ _ => False)) { tmps := (ps.zip (enc x)).foldl (fun t (p, v) => t.setIfInBounds p v) a.tmps, defers := [] } W)
    (hbody : ∀ (l : Nat) (pre : List α) (x : α) (W : World), I pre W → pre ++ [x] <+: X → body.wpIn (Fence.wide.inRound l) n P (BodyEnd w.heap.size I Ix (pre ++ [x]) W) (a₁ x) W)
    (hdone : ∀ (W : World), I X W → W.heap[w.heap.size]? = some (.deferred (some [])) → Q .normal { a with defers := { target := .collected w.heap.size, args := #[] } :: a.defers } W)
    (hstop : ∀ (pre : List α) (W : World), pre <+: X → Ix pre W → W.heap[w.heap.size]? = some (.deferred (some [])) → Code.ret.wpIn Fence.wide n P Q { a with defers := { target := .collected w.heap.size, args := #[] } :: a.defers } W) :
    (Code.rangeFunc g ps assign body).wpIn Fence.wide n P Q a w := by
  refine wpIn_rangeFunc fun fn _ => ?_
  -- the loop's record, by its state
  let rd : LoopState → Option Code → Obj := fun st j => .loop { state := st, pending := j, fn := fn, tmps := a.tmps, params := ps, assign := assign, body := body, defers := w.heap.size }
  have hV : Below w.heap.size w ((w.alloc (.deferred (some []))).alloc (rd .ready none)) := ((Below.refl _ w).alloc (Nat.le_refl _) _).alloc (by simp) _
  have r0 : ((w.alloc (.deferred (some []))).alloc (rd .ready none)).heap[w.heap.size + 1]? = some (rd .ready none) := by
    have := World.alloc_heap_new (w.alloc (.deferred (some []))) (rd .ready none); rwa [World.size_alloc] at this
  have d0 : ((w.alloc (.deferred (some []))).alloc (rd .ready none)).heap[w.heap.size]? = some (.deferred (some [])) :=
    (Below.heap_alloc _ _ _ (by simp)).trans (World.alloc_heap_new w _)
  have i0 : I [] ((w.alloc (.deferred (some []))).alloc (rd .ready none)) := hI.alloc _ (hI.alloc _ h0)
  have hsz : ((w.alloc (.deferred (some []))).alloc (rd .ready none)).heap.size = w.heap.size + 2 := by simp
  have he := run_enterLoop_outer (P := P) (w := w) fn a.tmps ps assign body
  obtain ⟨V, eV⟩ : ∃ V, (w.alloc (.deferred (some []))).alloc (rd .ready none) = V := ⟨_, rfl⟩
  rw [eV] at hV r0 d0 i0 hsz
  refine ⟨w.heap.size + 1, [{ target := .collected w.heap.size, args := #[] }], V, { target := .fn (.func gf) #[], args := #[rc, .func (.yield (w.heap.size + 1)) #[] #[]] }, V, gf, #[rc, .func (.yield (w.heap.size + 1)) #[] #[]], V, ?_, ?_, fun _ _ => trivial, ?_, fun h => (by cases h), callsIn_wide.2 ?_⟩
  · rw [← eV]; exact he
  · simp only [resolve, hg]; simp [go_sem]
  · simp [invoke, go_sem, eg]
  clear he eV
  -- what is said between two rounds, and behind the one that stops
  refine (hseq V hV (w.heap.size + 1) (fun pre W => I pre W ∧ W.heap[w.heap.size + 1]? = some (rd .ready none) ∧ W.heap[w.heap.size]? = some (.deferred (some [])))
    (fun pre W => Ix pre W ∧ W.heap[w.heap.size + 1]? = some (rd .done (some .ret)) ∧ W.heap[w.heap.size]? = some (.deferred (some []))) (by omega)
    ((own_later hI (by omega)).and ((own_obj (by omega)).and (own_obj (by omega)))) ((own_later hIx (by omega)).and ((own_obj (by omega)).and (own_obj (by omega)))) (fun pre W h => hRd pre W h.1) ?_ ⟨i0, r0, d0⟩).mono ?_
  · rintro pre x W1 ⟨i1, r1, d1⟩ hlen
    refine yield_any (m := n) ⟨fn, _, assign, body, run_yield r1 (by simpa using hps x), roundIn_of_wpIn trivial (hassign _ x W1 _ ?_)⟩
    refine ⟨_, run_beginRound r1 rfl, ?_⟩
    have r3 : (W1.putObj (w.heap.size + 1) (rd .busy none)).heap[w.heap.size + 1]? = some (rd .busy none) := World.putObj_heap_same (Array.getElem?_eq_some_iff.1 r1).1
    have d3 : (W1.putObj (w.heap.size + 1) (rd .busy none)).heap[w.heap.size]? = some (.deferred (some [])) := (World.putObj_heap_other (by omega)).trans d1
    refine wpIn_mono (hbody _ pre x _ (hI.putObj _ i1 (by omega) r1 rfl) hlen) ?_
    show ∀ (e : Exit) (a3 : Act) (W4 : World), BodyEnd w.heap.size I Ix (pre ++ [x]) (W1.putObj (w.heap.size + 1) (rd .busy none)) e a3 W4 → _
    generalize W1.putObj (w.heap.size + 1) (rd .busy none) = W3 at *
    rintro e a3 W4 hp
    cases e with
    | normal =>
      obtain ⟨k4, i4⟩ := hp
      have r4 := k4.same _ _ (Nat.le_succ _) r3 rfl
      have d4 := k4.same _ _ (Nat.le_refl _) d3 rfl
      exact ⟨_, _, run_endRound none r4, .inl ⟨rfl, hI.putObj _ i4 (by omega) r4 rfl, World.putObj_heap_same (Array.getElem?_eq_some_iff.1 r4).1, (World.putObj_heap_other (by omega)).trans d4⟩⟩
    | ret =>
      obtain ⟨k4, i4⟩ := hp
      have r4 := k4.same _ _ (Nat.le_succ _) r3 rfl
      have d4 := k4.same _ _ (Nat.le_refl _) d3 rfl
      exact ⟨_, _, run_endRound (some .ret) r4, .inr ⟨rfl, hIx.putObj _ i4 (by omega) r4 rfl, World.putObj_heap_same (Array.getElem?_eq_some_iff.1 r4).1, (World.putObj_heap_other (by omega)).trans d4⟩⟩
    | exit id => exact hp.elim
    | goto t => exact hp.elim
    | panic ch => exact hp.elim
    | outgrown => exact hp.elim
  · rintro e W2 ⟨⟨v, rfl⟩, ⟨i2, r2, d2⟩ | ⟨pre, hp, i2, r2, d2⟩⟩
    · exact ⟨none, _, run_endLoop r2 (by simp), hdone _ (hI.putObj _ i2 (by omega) r2 rfl) ((World.putObj_heap_other (by omega)).trans d2)⟩
    · exact ⟨some .ret, _, run_endLoop r2 (by simp), hstop pre _ hp (hIx.putObj _ i2 (by omega) r2 rfl) ((World.putObj_heap_other (by omega)).trans d2)⟩

end Go.Proofs.YtemmaoapicaloaaDoor.Bt

/- Tables of sets in memory. -/
import Derived.Test.YtemmaoapicaloaaDoorSbPlain
import Derived.Test.YtemmaoapicaloaaDoorAtKit
namespace Go.Proofs.YtemmaoapicaloaaDoor.Sb
open Go Go.RowKit Go.Proofs.YtemmaoapicaloaaDoor.At
open Go.Proofs.YtemmaoapicaloaaDoor.Bt (SetAt setV memL nums)

def enV (e : En) : Value := .agg #[.int .i64 (e.room : Nat), e.v, .int .u64 (e.h : Nat)]
def enC (e : En) : List Value := [.int .i64 (e.room : Nat), e.v, .int .u64 (e.h : Nat)]
def flatE (E : List En) : List Value := E.flatMap enC
theorem flatE_snoc (E : List En) (e : En) : flatE (E ++ [e]) = flatE E ++ enC e := by simp [flatE]
theorem flatE_len : ∀ E : List En, (flatE E).length = E.length * 3
  | [] => rfl
  | e :: E => by
    have := flatE_len E
    simp only [flatE, List.flatMap_cons, List.length_append, enC, List.length_cons, List.length_nil] at this ⊢
    omega
theorem flatE_at : ∀ (E : List En) (i : Nat), i < E.length → (flatE E)[i * 3]? = some (.int .i64 ((ent E i).room : Nat)) ∧ (flatE E)[i * 3 + 1]? = some (ent E i).v ∧ (flatE E)[i * 3 + 2]? = some (.int .u64 ((ent E i).h : Nat))
  | [], i, h => by simp at h
  | e :: E, 0, h => by simp [flatE, enC, ent]
  | e :: E, i + 1, h => by
    have := flatE_at E i (by simpa using h)
    rw [show (i + 1) * 3 = (i * 3) + 1 + 1 + 1 by omega]
    simpa [flatE, enC, ent] using this
theorem flatE_set : ∀ (E : List En) (i : Nat) (x : En), i < E.length → (((flatE E).set (i * 3) (.int .i64 (x.room : Nat))).set (i * 3 + 1) x.v).set (i * 3 + 2) (.int .u64 (x.h : Nat)) = flatE (List.set E i x)
  | [], i, x, h => by simp at h
  | e :: E, 0, x, h => by simp [flatE, enC]
  | e :: E, i + 1, x, h => by
    have := flatE_set E i x (by simpa using h)
    rw [show (i + 1) * 3 = (i * 3) + 1 + 1 + 1 by omega]
    simpa [flatE, enC] using this
def pV (P : List Nat) : List Value := P.map fun x => Value.int .i64 (x : Nat)
theorem pV_len (P : List Nat) : (pV P).length = P.length := by simp [pV]
theorem pV_get {P : List Nat} {i : Nat} (h : i < P.length) : (pV P)[i]? = some (.int .i64 (P.getD i 0 : Nat)) := by simp [pV, h, List.getD]
theorem pV_set (P : List Nat) (i x : Nat) : (pV P).set i (.int .i64 (x : Nat)) = pV (P.set i x) := by simp [pV, List.map_set]
theorem pV_zero (m : Nat) : List.replicate m (Value.int .i64 0) = pV (List.replicate m 0) := by simp [pV]

/-- the method in the field -/
def fullV : Value := .func (.func 21) #[] #[]
/-- the table's box -/
def tbC (T : Tb) : Array Value := #[.int .i64 (T.most : Nat), .int .i64 (T.wide : Nat), T.sv, T.pv, fullV]

/-- a table, from a base on -/
structure TbIn (W : World) (B tb : Nat) (T : Tb) : Prop where
  base : B ≤ tb
  box : W.heap[tb]? = some (.cells (tbC T) 47 (0, 0))
  sets : W.ownsRow B 57 3 T.sv T.E.length (flatE T.E)
  each : ∀ i, i < T.E.length → SetAt W T.bw (ent T.E i).room (ent T.E i).v (ent T.E i).L
  plcs : W.ownsRow B 3 1 T.pv T.P.length (pV T.P)

theorem TbIn.next {W W' : World} {B tb : Nat} {T : Tb} (h : TbIn W B tb T) (hb : Below W.heap.size W W') : TbIn W' B tb T :=
  ⟨h.base, at_next h.box hb, row_same h.sets fun k e => hb.block k (h.sets.lt k e).2, fun i hi => (h.each i hi).next hb, row_same h.plcs fun k e => hb.block k (h.plcs.lt k e).2⟩
theorem TbIn.cells {W : World} {B tb : Nat} {T : Tb} (h : TbIn W B tb T) :
    W.cell? ⟨tb, 0, none⟩ = some (.int .i64 (T.most : Nat)) ∧ W.cell? ⟨tb, 1, none⟩ = some (.int .i64 (T.wide : Nat)) ∧ W.cell? ⟨tb, 2, none⟩ = some T.sv ∧ W.cell? ⟨tb, 3, none⟩ = some T.pv ∧ W.cell? ⟨tb, 4, none⟩ = some fullV := by
  simp [at_cell h.box, tbC]
theorem TbIn.lt {W : World} {B tb : Nat} {T : Tb} (h : TbIn W B tb T) : tb < W.heap.size := at_lt h.box
theorem TbIn.size {W : World} {B tb : Nat} {T : Tb} (h : TbIn W B tb T) : B ≤ W.heap.size := by have := h.lt; have := h.base; omega

/-- a slice of elements that may be none -/
theorem own_shape {w : World} {B s n : Nat} {e : TypeId} {v : Value} {xs : List Value} (h : w.ownsRow B e s v n xs) : ∃ ao c, v = .slice ao n c ∧ n ≤ maxLen ∧ ∀ i u, xs[i]? = some u → ∃ g, ao = some ⟨g, 0, none⟩ ∧ w.cell? ⟨g, i, none⟩ = some u := by
  rcases h.2 with ⟨rfl, rfl⟩ | ⟨g, cap, cur, rfl, hb, hg, hn, hm, hcs, ht⟩
  · refine ⟨none, 0, rfl, by simp, fun i u hu => ?_⟩
    have := (List.getElem?_eq_some_iff.1 hu).1
    rw [h.1] at this; omega
  · refine ⟨_, _, rfl, by omega, fun i u hu => ⟨g, rfl, ?_⟩⟩
    have hc := h.cells (g := g) (by simp [Value.ownBlock]) i u hu
    rwa [add_zero] at hc

/-- what a table's call turns: its box, its sets' row, its places' row -/
def Cool (tb : Nat) (T : Tb) (k : Nat) : Prop := k ≠ tb ∧ some k ≠ T.sv.ownBlock ∧ some k ≠ T.pv.ownBlock
def Moved (W : World) (u v : Value) : Prop := v.ownBlock = u.ownBlock ∨ ∀ k, v.ownBlock = some k → W.heap.size ≤ k
theorem Moved.refl (W : World) (u : Value) : Moved W u u := .inl rfl
/-- a step of a table -/
structure Step (tb : Nat) (T : Tb) (W : World) (T' : Tb) (W' : World) : Prop where
  os : W'.os = W.os
  tape : W'.tape = W.tape
  output : W'.output = W.output
  size : W.heap.size ≤ W'.heap.size
  block : ∀ k, k < W.heap.size → Cool tb T k → W'.heap[k]? = W.heap[k]?
  mv1 : Moved W T.sv T'.sv
  mv2 : Moved W T.pv T'.pv
theorem Step.cool {tb k : Nat} {T T' : Tb} {W W' : World} (h : Step tb T W T' W') (hk : k < W.heap.size) (hc : Cool tb T k) : Cool tb T' k := by
  refine ⟨hc.1, fun e => ?_, fun e => ?_⟩
  · rcases h.mv1 with h1 | h1
    · exact hc.2.1 (by rw [e, h1])
    · have := h1 k e.symm; omega
  · rcases h.mv2 with h1 | h1
    · exact hc.2.2 (by rw [e, h1])
    · have := h1 k e.symm; omega
theorem Moved.trans {W W' : World} {u v x : Value} (h : Moved W u v) (k : Moved W' v x) (hs : W.heap.size ≤ W'.heap.size) : Moved W u x := by
  rcases k with k | k
  · rcases h with h | h
    · exact .inl (k.trans h)
    · exact .inr fun j e => h j (by rw [← k]; exact e)
  · exact .inr fun j e => Nat.le_trans hs (k j e)
theorem Step.trans {tb : Nat} {T T' T'' : Tb} {W W' W'' : World} (h : Step tb T W T' W') (k : Step tb T' W' T'' W'') : Step tb T W T'' W'' :=
  ⟨k.os.trans h.os, k.tape.trans h.tape, k.output.trans h.output, Nat.le_trans h.size k.size,
    fun j hj hc => (k.block j (Nat.lt_of_lt_of_le hj h.size) (h.cool hj hc)).trans (h.block j hj hc), h.mv1.trans k.mv1 h.size, h.mv2.trans k.mv2 h.size⟩
theorem Step.below {tb : Nat} {T : Tb} {W W' : World} (h : Below W.heap.size W W') : Step tb T W T W' :=
  ⟨h.os, h.tape, h.output, h.size, fun k hk _ => h.block k hk, .refl _ _, .refl _ _⟩
theorem Step.refl {tb : Nat} {T : Tb} {W : World} : Step tb T W T W := .below (Below.refl _ _)
/-- what lay below the table's base is as it was -/
theorem Step.base {tb B : Nat} {T T' : Tb} {W W' : World} (h : Step tb T W T' W') (ht : TbIn W B tb T) : Below B W W' := by
  refine ⟨h.os, h.tape, h.output, h.size, fun k hk => ?_⟩
  have := ht.size
  refine h.block k (by omega) ⟨?_, fun e => ?_, fun e => ?_⟩
  · have := ht.base; omega
  · have := (ht.sets.lt k e.symm).1; omega
  · have := (ht.plcs.lt k e.symm).1; omega
/-- a set's words are as they were -/
theorem Step.set {tb B Bs room : Nat} {T T' : Tb} {W W' : World} {v : Value} {L : List Nat} (h : Step tb T W T' W') (ht : TbIn W B tb T) (hs : SetAt W Bs room v L) : SetAt W' Bs room v L := by
  refine ⟨row_same hs.row fun k e => ?_, hs.len, hs.lim, hs.word, hs.inn⟩
  refine h.block k (hs.row.lt k e).2 ⟨fun e2 => ?_, row_not_row hs.row ht.sets (by decide) k e, row_not_row hs.row ht.plcs (by decide) k e⟩
  subst e2
  exact at_not_row ht.box hs.row (by decide) e.symm
/-- a row of another type -/
theorem Step.row {tb Bs s n : Nat} {e : TypeId} {T T' : Tb} {W W' : World} {v : Value} {xs : List Value} (h : Step tb T W T' W') (hs : W.ownsRow Bs e s v n xs) (hc : ∀ k, v.ownBlock = some k → Cool tb T k) : W'.ownsRow Bs e s v n xs :=
  row_same hs fun k e => h.block k (hs.lt k e).2 (hc k e)
/-- a block -/
theorem Step.at {tb k : Nat} {T T' : Tb} {W W' : World} {o : Obj} (h : Step tb T W T' W') (ho : W.heap[k]? = some o) (hc : Cool tb T k) : W'.heap[k]? = some o := (h.block k (at_lt ho) hc).trans ho
/-- a block of another type than the table's three -/
theorem TbIn.cool {W : World} {B tb k : Nat} {T : Tb} {cs : Array Value} {t : TypeId} {fz : Nat × Nat} (h : TbIn W B tb T) (ho : W.heap[k]? = some (.cells cs t fz)) (h1 : t ≠ 47) (h2 : t ≠ 57) (h3 : t ≠ 3) : Cool tb T k := by
  refine ⟨fun e => ?_, at_not_row ho h.sets h2, at_not_row ho h.plcs h3⟩
  subst e
  have := h.box
  rw [ho] at this
  simp at this
  exact h1 this.2.1

end Go.Proofs.YtemmaoapicaloaaDoor.Sb

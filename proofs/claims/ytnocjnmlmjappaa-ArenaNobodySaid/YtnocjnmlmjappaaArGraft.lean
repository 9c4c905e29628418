/- A tree added to a builder: its nodes; all of it. -/
import Derived.Test.YtnocjnmlmjappaaArTree
import Derived.Test.YtnocjnmlmjappaaArChk
namespace Go.Proofs.Ytnocjnmlmjappaa.Ar
open Go Go.RowKit Go.Shelf
open Go.Proofs.Ytnocjnmlmjappaa.Rg (R RngsAt RowsAt nthL add_zero own_next RowsOwn flatR infoS row_apart row_base rngs_of_row)

theorem bd_kx {U : Nat → Prop} {B bb : Nat} {w w' : World} {ns : List Nd} {S : List (List R)} {nv sv : Value} {xs : List Value} (h : Bd B w bb ns S nv sv xs) (k : Kx U w w')
    (hU : ∀ b, U b → ∃ cs fz, w.heap[b]? = some (.cells cs 3 fz)) : Bd B w' bb ns S nv sv xs := by
  refine ⟨h.base, (k.block bb h.lt fun hb => ?_).trans h.box, k.own h.nodes fun b hb hu => ?_, rows_kx h.sets k fun b hu cs fz => ?_⟩
  · obtain ⟨cs, fz, e⟩ := hU _ hb
    rw [h.box] at e; simp at e
  · obtain ⟨cs, fz, e⟩ := hU _ hu
    rcases h.nodes.2 with ⟨rfl, _⟩ | ⟨g, cap, cur, rfl, _, hg, _⟩
    · cases hb
    · simp only [Value.ownBlock, Option.some.injEq] at hb
      subst hb
      rw [hg] at e; simp at e
  · obtain ⟨cs', fz', e⟩ := hU _ hu
    rw [e]; exact ⟨by simp, by simp⟩
theorem ints_block {w : World} {B s n : Nat} {v : Value} {xs : List Value} (h : w.ownsRow B 3 s v n xs) : ∀ b, v.ownBlock = some b → ∃ cs fz, w.heap[b]? = some (.cells cs 3 fz) := by
  intro b hb
  rcases h.2 with ⟨rfl, _⟩ | ⟨g, cap, cur, rfl, _, hg, _⟩
  · cases hb
  · simp only [Value.ownBlock, Option.some.injEq] at hb
    subst hb
    exact ⟨_, _, hg⟩
/-- a row of numbers stands beside a builder's step -/
theorem ints_us {B bb : Nat} {w : World} {ns : List Nd} {S : List (List R)} {nv sv : Value} {xs : List Value} (h : Bd B w bb ns S nv sv xs) {b : Nat} {cs : Array Value} {fz : Nat × Nat} (hb : w.heap[b]? = some (.cells cs 3 fz)) : ¬ US bb sv b := by
  rintro (rfl | hu)
  · rw [h.box] at hb; simp at hb
  · rcases h.sets.own.2 with ⟨rfl, _⟩ | ⟨g, cap, cur, rfl, _, hg, _⟩
    · cases hu
    · simp only [Value.ownBlock, Option.some.injEq] at hu
      subst hu
      rw [hg] at hb; simp at hb
/-- numbers from s on -/
def numI (s k : Nat) : List Int := (List.range k).map fun (i : Nat) => (s : Int) + i
theorem numI_len (s k : Nat) : (numI s k).length = k := by simp [numI]
theorem numI_succ (s k : Nat) : numI s (k + 1) = numI s k ++ [(s : Int) + k] := by simp [numI, List.range_succ]
theorem numI_at {s k i : Nat} (h : i < k) : (numI s k).getD i 0 = (s : Int) + i := by simp [numI, List.getD, h]

/-- the sets that are added, so far -/
structure GSt (B : Nat) (w : World) (bb : Nat) (ns : List Nd) (S : List (List R)) (nv sv : Value) (t : Tr) (vn vs : Value) (k : Nat) (o : Value) (wr : World) : Prop where
  st : ∃ sv' xs', Bd B wr bb ns (S ++ t.sets.take k) nv sv' xs' ∧ (∀ b, sv'.ownBlock = some b → sv.ownBlock = some b ∨ w.heap.size + 1 ≤ b)
  row : wr.ownsRow (w.heap.size + 1) 3 1 o k ((numI S.length k).map (Value.int .i64))
  box : TBox wr w.heap.size vn vs t.root
  kx : Kx (US bb sv) w wr

/-- a number more in the row -/
theorem gst_num {B bb : Nat} {w wr W7 : World} {ns : List Nd} {S : List (List R)} {nv sv sv' : Value} {xs' : List Value} {t : Tr} {vn vs o o' : Value} {k : Nat} {ob : Obj} (hbd : Bd B wr bb ns (S ++ t.sets.take k) nv sv' xs')
    (hrow : wr.ownsRow (w.heap.size + 1) 3 1 o k ((numI S.length k).map (Value.int .i64))) (hbox : TBox wr w.heap.size vn vs t.root) (hkx : Kx (US bb sv) w wr) (hs : w.heap.size + 1 ≤ wr.heap.size)
    (hown : W7.ownsRow (w.heap.size + 1) 3 1 o' (k + 1) ((numI S.length k).map (Value.int .i64) ++ [.int .i64 ((S.length : Int) + k)])) (hg : (wr.alloc ob).grownBy W7 o.ownBlock) :
    Bd B W7 bb ns (S ++ t.sets.take k) nv sv' xs' ∧ W7.ownsRow (w.heap.size + 1) 3 1 o' (k + 1) ((numI S.length (k + 1)).map (Value.int .i64)) ∧ TBox W7 w.heap.size vn vs t.root ∧ Kx (US bb sv) w W7 ∧ wr.heap.size ≤ W7.heap.size := by
  have b1 : Below wr.heap.size wr (wr.alloc ob) := (Below.refl _ _).alloc (Nat.le_refl _) _
  have hbd1 := hbd.next b1
  have hrow1 := hrow.alloc ob
  have k7 : Kx (fun b => o.ownBlock = some b) (wr.alloc ob) W7 := Kx.of_grown hg fun _ h => h
  refine ⟨bd_kx hbd1 k7 fun b hb => ints_block hrow1 b hb, ?_, (hbox.next b1).kx k7 fun hb => ?_, ?_, ?_⟩
  · rw [numI_succ, List.map_append]; exact hown
  · have := (hrow1.lt _ hb).1; omega
  · refine ⟨(k7.os.trans b1.os).trans hkx.os, (k7.tape.trans b1.tape).trans hkx.tape, (k7.output.trans b1.output).trans hkx.output, ?_, fun b hb hn => ?_⟩
    · have := k7.size; simp at this; omega
    · have hs2 := hkx.size
      rw [k7.block b (by simp; omega) (fun h => by have := (hrow1.lt _ h).1; omega), b1.block b (by omega)]
      exact hkx.block b hb hn
  · have := k7.size; simp at this; omega
/-- a set more, behind it -/
theorem gst_set {B bb g cap : Nat} {w W7 W8 W9 : World} {ns : List Nd} {S : List (List R)} {nv sv sv' x : Value} {xs' : List Value} {t : Tr} {vn vs o' : Value} {k : Nat} {L : List R} (hk : t.sets.take (k + 1) = t.sets.take k ++ [L]) (hlen : (S ++ t.sets.take k).length = S.length + k)
    (hbd : Bd B W7 bb ns (S ++ t.sets.take k) nv sv' xs') (hsv : ∀ b, sv'.ownBlock = some b → sv.ownBlock = some b ∨ w.heap.size + 1 ≤ b) (hsv0 : ∀ b, sv.ownBlock = some b → b < w.heap.size) (hbb : bb < w.heap.size)
    (hrow : W7.ownsRow (w.heap.size + 1) 3 1 o' (k + 1) ((numI S.length (k + 1)).map (Value.int .i64))) (hbox : TBox W7 w.heap.size vn vs t.root) (hkx : Kx (US bb sv) w W7) (hb : Below W7.heap.size W7 W8)
    (hx : W8.ownsRow B 55 2 x L.length (flatR L))
    (hown : W9.ownsRow B 37 1 (.slice (some ⟨g, 0, none⟩) (S.length + k + 1) cap) (S.length + k + 1) (xs' ++ [x])) (hg : W8.grownBy W9 sv'.ownBlock) (hat : sv'.ownBlock = some g ∨ g = W8.heap.size) (hN : w.heap.size + 1 ≤ W7.heap.size) :
    W9.cell? ⟨bb, 1, none⟩ = some sv' ∧ W9.frozen? ⟨bb, 1, none⟩ = false ∧ GSt B w bb ns S nv sv t vn vs (k + 1) o' (W9.setCell ⟨bb, 1, none⟩ (.slice (some ⟨g, 0, none⟩) (S.length + k + 1) cap)) := by
  rw [← hlen] at hown ⊢
  obtain ⟨c1, c2, c3, c4, c5⟩ := setted hbd hb hx hown hg hat
  have hw := hkx.size
  refine ⟨c1, c2, ⟨⟨_, _, by rw [hk, ← List.append_assoc]; exact c3, fun b hb => ?_⟩, c4.own hrow fun b hb => ?_, hbox.kx c4 ?_, ?_⟩⟩
  · simp only [Value.ownBlock, Option.some.injEq] at hb
    subst hb
    rcases c5 with h | h
    · exact hsv _ h
    · exact .inr (by omega)
  · obtain ⟨cs, fz, e⟩ := ints_block hrow b hb
    exact ints_us hbd e
  · rintro (h | h)
    · omega
    · rcases hsv _ h with h | h
      · have := hsv0 _ h; omega
      · omega
  · refine ⟨c4.os.trans hkx.os, c4.tape.trans hkx.tape, c4.output.trans hkx.output, by have := c4.size; omega, fun b hbl hn => ?_⟩
    rw [c4.block b (by omega) ?_]
    · exact hkx.block b hbl hn
    · rintro (h | h)
      · exact hn (.inl h)
      · rcases hsv _ h with h | h
        · exact hn (.inr h)
        · omega

end Go.Proofs.Ytnocjnmlmjappaa.Ar

namespace Go.Proofs.Ytnocjnmlmjappaa.Ar
open Go Go.RowKit Go.Shelf
open Go.Proofs.Ytnocjnmlmjappaa.Rg (R RngsAt RowsAt nthL add_zero own_next RowsOwn flatR infoS row_apart row_base rngs_of_row)

theorem ints_un {B bb : Nat} {w : World} {ns : List Nd} {S : List (List R)} {nv sv : Value} {xs : List Value} (h : Bd B w bb ns S nv sv xs) {b : Nat} {cs : Array Value} {fz : Nat × Nat} (hb : w.heap[b]? = some (.cells cs 3 fz)) : ¬ UN bb nv b := by
  rintro (rfl | hu)
  · rw [h.box] at hb; simp at hb
  · rcases h.nodes.2 with ⟨rfl, _⟩ | ⟨g, cap, cur, rfl, _, hg, _⟩
    · cases hu
    · simp only [Value.ownBlock, Option.some.injEq] at hu
      subst hu
      rw [hg] at hb; simp at hb
theorem map_take_succ {α β : Type} (f : α → β) {l : List α} {k : Nat} (h : k < l.length) : (l.take (k + 1)).map f = (l.take k).map f ++ [f l[k]] := by
  rw [List.take_succ_eq_append_getElem h, List.map_append]; rfl
/-- a node with the numbers of its parts is the node moved -/
theorem mapN_move {s n k i : Nat} {m : Nd} {S : List (List R)} (h : nodeB m i S.length = true) (hi : i = k) : mapN (numI s S.length) (numI n k) m = moveN n s m := by
  subst hi
  rcases nodeB_ways h with ⟨h1, h2⟩ | ⟨h1, h2⟩ | ⟨h1, h2⟩ | ⟨h1, h2⟩
  · rw [mapN_1 h1]; unfold moveN; rw [if_neg (by omega), if_neg (by omega), if_neg (by omega)]
  · rw [mapN_2 h1, numI_at (by omega)]; unfold moveN; rw [if_pos h1, show ((m.set.toNat : Nat) : Int) = m.set by omega]
  · rw [mapN_3 h1, numI_at (by omega), numI_at (by omega)]; unfold moveN; rw [if_neg (by omega), if_pos h1, show ((m.a.toNat : Nat) : Int) = m.a by omega, show ((m.b.toNat : Nat) : Int) = m.b by omega]
  · rw [mapN_5 h1, numI_at (by omega)]; unfold moveN; rw [if_neg (by omega), if_neg (by omega), if_pos h1, show ((m.a.toNat : Nat) : Int) = m.a by omega]

/-- a builder's state when some nodes of a tree are added -/
def JG (B bb : Nat) (w : World) (ns : List Nd) (S : List (List R)) (nv sv : Value) (xs : List Value) (n s : Nat) (t : Tr) (l : List Int) (W : World) : Prop :=
  l = numI n l.length ∧ l.length ≤ t.ns.length ∧ ∃ nv', Bd B W bb (ns ++ (t.ns.take l.length).map (moveN n s)) S nv' sv xs ∧ Kx (UN bb nv) w W ∧ ∀ k, nv'.ownBlock = some k → nv.ownBlock = some k ∨ w.heap.size + 2 ≤ k
/-- what the builder has behind all nodes -/
def GThr (B bb : Nat) (w : World) (ns : List Nd) (S : List (List R)) (nv sv : Value) (xs : List Value) (s : Nat) (t : Tr) (e : Ending) (W : World) : Prop :=
  e = .returned (.int .i64 ((ns.length : Int) + t.root)) ∧ ∃ nv', Bd B W bb (ns ++ t.ns.map (moveN ns.length s)) S nv' sv xs ∧ Kx (UN bb nv) w W ∧ ∀ k, nv'.ownBlock = some k → nv.ownBlock = some k ∨ w.heap.size ≤ k

theorem graft_thr {B bb : Nat} {ns : List Nd} {S0 : List (List R)} {nv sv : Value} {xs : List Value} (t : Tr) (ht : Ok t) (v o : Value) (w : World) (h : Bd B w bb ns (S0 ++ t.sets) nv sv xs) (hsz : ns.length + t.ns.length ≤ 4096) (hsz2 : S0.length + t.sets.length ≤ 4096)
    (HV : ∀ W, Kx (UN bb nv) w W → TreeAt W v t) {C : Nat} (ho : w.ownsRow C 3 1 o t.sets.length ((numI S0.length t.sets.length).map (Value.int .i64))) :
    Calls Try.prog 38 #[v, o, .func (.func 41) #[.pointer (some ⟨bb, 0, none⟩)] #[]] w (GThr B bb w ns (S0 ++ t.sets) nv sv xs S0.length t) := by
  have hE : Enters Try.prog 41 := enters_of Try.func41 (by kernel_rfl) rfl
  refine (through_any t ht v o (numI S0.length t.sets.length) (numI_len _ _) (by omega) 41 (.pointer (some ⟨bb, 0, none⟩)) hE w (UN bb nv) (JG B bb w ns (S0 ++ t.sets) nv sv xs ns.length S0.length t) ?_ HV ?_ ?_ ?_ ?_).mono ?_
  · rintro b (rfl | hb)
    · exact h.lt
    · exact (h.nodes.lt _ hb).2
  · intro W hk
    have := hk.own ho (fun b hb => by
      obtain ⟨cs, fz, e⟩ := ints_block ho b hb
      exact ints_un h e)
    exact ints_of_row (by rw [numI_len]; exact this)
  · rintro l W W' ⟨hl, hn, nv', hbd, hk, hat⟩ hk2
    have hs := hk.size
    have hlt := h.lt
    refine ⟨hl, hn, nv', ⟨hbd.base, (hk2.block _ hbd.lt (by omega)).trans hbd.box, hk2.own hbd.nodes fun b hb => ?_, ?_⟩, ?_, hat⟩
    · rcases hat b hb with h1 | h1
      · have := (h.nodes.lt _ h1).2; omega
      · omega
    · have hk3 : Kx (UN bb nv) w W' := ((hk.mono (V := fun b => UN bb nv b ∨ b = w.heap.size ∨ b = w.heap.size + 1) (fun _ _ h => .inl h)).trans (hk2.mono fun _ _ h => .inr h)).mono (fun b hb h => h.elim id fun h => by omega)
      exact rows_kx h.sets hk3 (UN.type h)
    · exact ((hk.mono (V := fun b => UN bb nv b ∨ b = w.heap.size ∨ b = w.heap.size + 1) (fun _ _ h => .inl h)).trans (hk2.mono fun _ _ h => .inr h)).mono (fun b hb h => h.elim id fun h => by omega)
  · rintro l W hlt ⟨hl, hn, nv', hbd, hk, hat⟩ hkw hN
    have hnode := ht.node l.length hlt
    have hlen : (ns ++ (t.ns.take l.length).map (moveN ns.length S0.length)).length = ns.length + l.length := by simp; omega
    have hm : mapN (numI S0.length t.sets.length) l (nd t.ns l.length) = moveN ns.length S0.length (nd t.ns l.length) := by
      rw [hl, numI_len]; exact mapN_move hnode rfl
    rw [hm]
    have hok : nodeB (moveN ns.length S0.length (nd t.ns l.length)) (ns ++ (t.ns.take l.length).map (moveN ns.length S0.length)).length (S0 ++ t.sets).length = true := by
      rw [hlen, List.length_append]; exact moveN_ok hnode
    refine (node_ok _ W hbd (by rw [hlen]; omega) (by rw [List.length_append]; omega) hok).mono ?_
    rintro e W' ⟨rfl, nv2, hbd2, hk2, hat2⟩
    have hs2 := hk2.size
    have hkU : Kx (fun b => UN bb nv b ∨ w.heap.size + 2 ≤ b) W W' := hk2.mono fun b _ hb => by
      rcases hb with hb | hb
      · exact .inl (.inl hb)
      · rcases hat b hb with h1 | h1
        · exact .inl (.inr h1)
        · exact .inr h1
    refine ⟨(ns.length : Int) + l.length, by rw [hlen]; simp, ⟨?_, ?_, nv2, ?_, ?_, ?_⟩, hkU⟩
    · rw [List.length_append, List.length_singleton, numI_succ, ← hl]
    · rw [List.length_append, List.length_singleton]; omega
    · rw [List.length_append, List.length_singleton, map_take_succ _ hlt, ← List.append_assoc, ← nd_eq hlt]
      exact hbd2
    · exact ((hk.mono (V := fun b => UN bb nv b ∨ w.heap.size + 2 ≤ b) (fun _ _ h => .inl h)).trans hkU).mono (fun b hb h => h.elim id fun h => by omega)
    · intro b hb
      rcases hat2 b hb with h1 | h1
      · exact hat b h1
      · exact .inr (by omega)
  · exact ⟨rfl, Nat.zero_le _, nv, by simpa using h, Kx.refl _ _, fun k hk => .inl hk⟩
  · rintro e W ⟨l, hl, rfl, ⟨hl2, _, nv', hbd, hk, hat⟩, _⟩
    have hr0 := ht.root0
    have hr1 := ht.root1
    refine ⟨?_, nv', ?_, hk, fun k hk => (hat k hk).imp id (fun h => by omega)⟩
    · rw [hl2, numI_at (by omega), show ((t.root.toNat : Nat) : Int) = t.root by omega]
    · rw [hl, List.take_length] at hbd; exact hbd

end Go.Proofs.Ytnocjnmlmjappaa.Ar

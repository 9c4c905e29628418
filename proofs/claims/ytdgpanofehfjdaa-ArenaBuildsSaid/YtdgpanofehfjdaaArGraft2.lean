/- A tree added to a builder: the call. -/
import Derived.Test.YtdgpanofehfjdaaArTree
import Derived.Test.YtdgpanofehfjdaaArChk
namespace Go.Proofs.Ytdgpanofehfjdaa.Ar
open Go Go.RowKit Go.Shelf
open Go.Proofs.Ytdgpanofehfjdaa.Rg (R RngsAt RowsAt nthL add_zero own_next RowsOwn flatR infoS row_apart row_base rngs_of_row)

theorem bd_kx {U : Nat → Prop} {B bb : Nat} {w w' : World} {ns : List Nd} {S : List (List R)} {nv sv : Value} {xs : List Value} (h : Bd B w bb ns S nv sv xs) (k : Kx U w w')
    (hU : ∀ b, U b → ∃ cs fz, w.heap[b]? = some (.cells cs 3 fz)) : Bd B w' bb ns S nv sv xs := by
  refine ⟨h.base, (k.block bb h.lt fun hb => ?_).trans h.box, k.own h.nodes fun b hb hu => ?_, rows_kx h.sets k fun b hu cs fz => ?_⟩
  · obtain ⟨cs, fz, e⟩ := hU _ hb
    rw [h.box] at e; simp at e
  · obtain ⟨cs, fz, e⟩ := hU _ hu
    rcases h.nodes.2 with ⟨rfl, _⟩ | ⟨g, cap, cur, rfl, _, hg, _⟩
    · cases hb
    · simp only [Value.ownBlock, Option.some.injEq] at hb
      subst hb
      rw [hg] at e; simp at e
  · obtain ⟨cs', fz', e⟩ := hU _ hu
    rw [e]; exact ⟨by simp, by simp⟩
theorem ints_block {w : World} {B s n : Nat} {v : Value} {xs : List Value} (h : w.ownsRow B 3 s v n xs) : ∀ b, v.ownBlock = some b → ∃ cs fz, w.heap[b]? = some (.cells cs 3 fz) := by
  intro b hb
  rcases h.2 with ⟨rfl, _⟩ | ⟨g, cap, cur, rfl, _, hg, _⟩
  · cases hb
  · simp only [Value.ownBlock, Option.some.injEq] at hb
    subst hb
    exact ⟨_, _, hg⟩
/-- a row of numbers stands beside a builder's step -/
theorem ints_us {B bb : Nat} {w : World} {ns : List Nd} {S : List (List R)} {nv sv : Value} {xs : List Value} (h : Bd B w bb ns S nv sv xs) {b : Nat} {cs : Array Value} {fz : Nat × Nat} (hb : w.heap[b]? = some (.cells cs 3 fz)) : ¬ US bb sv b := by
  rintro (rfl | hu)
  · rw [h.box] at hb; simp at hb
  · rcases h.sets.own.2 with ⟨rfl, _⟩ | ⟨g, cap, cur, rfl, _, hg, _⟩
    · cases hu
    · simp only [Value.ownBlock, Option.some.injEq] at hu
      subst hu
      rw [hg] at hb; simp at hb
/-- numbers from s on -/
def numI (s k : Nat) : List Int := (List.range k).map fun (i : Nat) => (s : Int) + i
theorem numI_len (s k : Nat) : (numI s k).length = k := by simp [numI]
theorem numI_succ (s k : Nat) : numI s (k + 1) = numI s k ++ [(s : Int) + k] := by simp [numI, List.range_succ]
theorem numI_at {s k i : Nat} (h : i < k) : (numI s k).getD i 0 = (s : Int) + i := by simp [numI, List.getD, h]

/-- the sets that are added, so far -/
structure GSt (B : Nat) (w : World) (bb : Nat) (ns : List Nd) (S : List (List R)) (nv sv : Value) (t : Tr) (vn vs : Value) (k : Nat) (o : Value) (wr : World) : Prop where
  st : ∃ sv' xs', Bd B wr bb ns (S ++ t.sets.take k) nv sv' xs' ∧ (∀ b, sv'.ownBlock = some b → sv.ownBlock = some b ∨ w.heap.size + 1 ≤ b)
  row : wr.ownsRow (w.heap.size + 1) 3 1 o k ((numI S.length k).map (Value.int .i64))
  box : TBox wr w.heap.size vn vs t.root
  kx : Kx (US bb sv) w wr

/-- a number more in the row -/
theorem gst_num {B bb : Nat} {w wr W7 : World} {ns : List Nd} {S : List (List R)} {nv sv sv' : Value} {xs' : List Value} {t : Tr} {vn vs o o' : Value} {k : Nat} {ob : Obj} (hbd : Bd B wr bb ns (S ++ t.sets.take k) nv sv' xs')
    (hrow : wr.ownsRow (w.heap.size + 1) 3 1 o k ((numI S.length k).map (Value.int .i64))) (hbox : TBox wr w.heap.size vn vs t.root) (hkx : Kx (US bb sv) w wr) (hs : w.heap.size + 1 ≤ wr.heap.size)
    (hown : W7.ownsRow (w.heap.size + 1) 3 1 o' (k + 1) ((numI S.length k).map (Value.int .i64) ++ [.int .i64 ((S.length : Int) + k)])) (hg : (wr.alloc ob).grownBy W7 o.ownBlock) :
    Bd B W7 bb ns (S ++ t.sets.take k) nv sv' xs' ∧ W7.ownsRow (w.heap.size + 1) 3 1 o' (k + 1) ((numI S.length (k + 1)).map (Value.int .i64)) ∧ TBox W7 w.heap.size vn vs t.root ∧ Kx (US bb sv) w W7 ∧ wr.heap.size ≤ W7.heap.size := by
  have b1 : Below wr.heap.size wr (wr.alloc ob) := (Below.refl _ _).alloc (Nat.le_refl _) _
  have hbd1 := hbd.next b1
  have hrow1 := hrow.alloc ob
  have k7 : Kx (fun b => o.ownBlock = some b) (wr.alloc ob) W7 := Kx.of_grown hg fun _ h => h
  refine ⟨bd_kx hbd1 k7 fun b hb => ints_block hrow1 b hb, ?_, (hbox.next b1).kx k7 fun hb => ?_, ?_, ?_⟩
  · rw [numI_succ, List.map_append]; exact hown
  · have := (hrow1.lt _ hb).1; omega
  · refine ⟨(k7.os.trans b1.os).trans hkx.os, (k7.tape.trans b1.tape).trans hkx.tape, (k7.output.trans b1.output).trans hkx.output, ?_, fun b hb hn => ?_⟩
    · have := k7.size; simp at this; omega
    · have hs2 := hkx.size
      rw [k7.block b (by simp; omega) (fun h => by have := (hrow1.lt _ h).1; omega), b1.block b (by omega)]
      exact hkx.block b hb hn
  · have := k7.size; simp at this; omega
/-- a set more, behind it -/
theorem gst_set {B bb g cap : Nat} {w W7 W8 W9 : World} {ns : List Nd} {S : List (List R)} {nv sv sv' x : Value} {xs' : List Value} {t : Tr} {vn vs o' : Value} {k : Nat} {L : List R} (hk : t.sets.take (k + 1) = t.sets.take k ++ [L]) (hlen : (S ++ t.sets.take k).length = S.length + k)
    (hbd : Bd B W7 bb ns (S ++ t.sets.take k) nv sv' xs') (hsv : ∀ b, sv'.ownBlock = some b → sv.ownBlock = some b ∨ w.heap.size + 1 ≤ b) (hsv0 : ∀ b, sv.ownBlock = some b → b < w.heap.size) (hbb : bb < w.heap.size)
    (hrow : W7.ownsRow (w.heap.size + 1) 3 1 o' (k + 1) ((numI S.length (k + 1)).map (Value.int .i64))) (hbox : TBox W7 w.heap.size vn vs t.root) (hkx : Kx (US bb sv) w W7) (hb : Below W7.heap.size W7 W8)
    (hx : W8.ownsRow B 55 2 x L.length (flatR L))
    (hown : W9.ownsRow B 37 1 (.slice (some ⟨g, 0, none⟩) (S.length + k + 1) cap) (S.length + k + 1) (xs' ++ [x])) (hg : W8.grownBy W9 sv'.ownBlock) (hat : sv'.ownBlock = some g ∨ g = W8.heap.size) (hN : w.heap.size + 1 ≤ W7.heap.size) :
    W9.cell? ⟨bb, 1, none⟩ = some sv' ∧ W9.frozen? ⟨bb, 1, none⟩ = false ∧ GSt B w bb ns S nv sv t vn vs (k + 1) o' (W9.setCell ⟨bb, 1, none⟩ (.slice (some ⟨g, 0, none⟩) (S.length + k + 1) cap)) := by
  rw [← hlen] at hown ⊢
  obtain ⟨c1, c2, c3, c4, c5⟩ := setted hbd hb hx hown hg hat
  have hw := hkx.size
  refine ⟨c1, c2, ⟨⟨_, _, by rw [hk, ← List.append_assoc]; exact c3, fun b hb => ?_⟩, c4.own hrow fun b hb => ?_, hbox.kx c4 ?_, ?_⟩⟩
  · simp only [Value.ownBlock, Option.some.injEq] at hb
    subst hb
    rcases c5 with h | h
    · exact hsv _ h
    · exact .inr (by omega)
  · obtain ⟨cs, fz, e⟩ := ints_block hrow b hb
    exact ints_us hbd e
  · rintro (h | h)
    · omega
    · rcases hsv _ h with h | h
      · have := hsv0 _ h; omega
      · omega
  · refine ⟨c4.os.trans hkx.os, c4.tape.trans hkx.tape, c4.output.trans hkx.output, by have := c4.size; omega, fun b hbl hn => ?_⟩
    rw [c4.block b (by omega) ?_]
    · exact hkx.block b hbl hn
    · rintro (h | h)
      · exact hn (.inl h)
      · rcases hsv _ h with h | h
        · exact hn (.inr h)
        · omega

end Go.Proofs.Ytdgpanofehfjdaa.Ar

namespace Go.Proofs.Ytdgpanofehfjdaa.Ar
open Go Go.RowKit Go.Shelf
open Go.Proofs.Ytdgpanofehfjdaa.Rg (R RngsAt RowsAt nthL add_zero own_next RowsOwn flatR infoS row_apart row_base rngs_of_row)

theorem ints_un {B bb : Nat} {w : World} {ns : List Nd} {S : List (List R)} {nv sv : Value} {xs : List Value} (h : Bd B w bb ns S nv sv xs) {b : Nat} {cs : Array Value} {fz : Nat × Nat} (hb : w.heap[b]? = some (.cells cs 3 fz)) : ¬ UN bb nv b := by
  rintro (rfl | hu)
  · rw [h.box] at hb; simp at hb
  · rcases h.nodes.2 with ⟨rfl, _⟩ | ⟨g, cap, cur, rfl, _, hg, _⟩
    · cases hu
    · simp only [Value.ownBlock, Option.some.injEq] at hu
      subst hu
      rw [hg] at hb; simp at hb
theorem map_take_succ {α β : Type} (f : α → β) {l : List α} {k : Nat} (h : k < l.length) : (l.take (k + 1)).map f = (l.take k).map f ++ [f l[k]] := by
  rw [List.take_succ_eq_append_getElem h, List.map_append]; rfl
/-- a node with the numbers of its parts is the node moved -/
theorem mapN_move {s n k i : Nat} {m : Nd} {S : List (List R)} (h : nodeB m i S.length = true) (hi : i = k) : mapN (numI s S.length) (numI n k) m = moveN n s m := by
  subst hi
  rcases nodeB_ways h with ⟨h1, h2⟩ | ⟨h1, h2⟩ | ⟨h1, h2⟩ | ⟨h1, h2⟩
  · rw [mapN_1 h1]; unfold moveN; rw [if_neg (by omega), if_neg (by omega), if_neg (by omega)]
  · rw [mapN_2 h1, numI_at (by omega)]; unfold moveN; rw [if_pos h1, show ((m.set.toNat : Nat) : Int) = m.set by omega]
  · rw [mapN_3 h1, numI_at (by omega), numI_at (by omega)]; unfold moveN; rw [if_neg (by omega), if_pos h1, show ((m.a.toNat : Nat) : Int) = m.a by omega, show ((m.b.toNat : Nat) : Int) = m.b by omega]
  · rw [mapN_5 h1, numI_at (by omega)]; unfold moveN; rw [if_neg (by omega), if_neg (by omega), if_pos h1, show ((m.a.toNat : Nat) : Int) = m.a by omega]

/-- a builder's state when some nodes of a tree are added -/
def JG (B bb : Nat) (w : World) (ns : List Nd) (S : List (List R)) (nv sv : Value) (xs : List Value) (n s : Nat) (t : Tr) (l : List Int) (W : World) : Prop :=
  l = numI n l.length ∧ l.length ≤ t.ns.length ∧ ∃ nv', Bd B W bb (ns ++ (t.ns.take l.length).map (moveN n s)) S nv' sv xs ∧ Kx (UN bb nv) w W ∧ ∀ k, nv'.ownBlock = some k → nv.ownBlock = some k ∨ w.heap.size + 2 ≤ k
/-- what the builder has behind all nodes -/
def GThr (B bb : Nat) (w : World) (ns : List Nd) (S : List (List R)) (nv sv : Value) (xs : List Value) (s : Nat) (t : Tr) (e : Ending) (W : World) : Prop :=
  e = .returned (.int .i64 ((ns.length : Int) + t.root)) ∧ ∃ nv', Bd B W bb (ns ++ t.ns.map (moveN ns.length s)) S nv' sv xs ∧ Kx (UN bb nv) w W ∧ ∀ k, nv'.ownBlock = some k → nv.ownBlock = some k ∨ w.heap.size ≤ k

theorem graft_thr {B bb : Nat} {ns : List Nd} {S0 : List (List R)} {nv sv : Value} {xs : List Value} (t : Tr) (ht : Ok t) (v o : Value) (w : World) (h : Bd B w bb ns (S0 ++ t.sets) nv sv xs) (hsz : ns.length + t.ns.length ≤ 4096) (hsz2 : S0.length + t.sets.length ≤ 4096)
    (HV : ∀ W, Kx (UN bb nv) w W → TreeAt W v t) {C : Nat} (ho : w.ownsRow C 3 1 o t.sets.length ((numI S0.length t.sets.length).map (Value.int .i64))) :
    Calls Try.prog 38 #[v, o, .func (.func 41) #[.pointer (some ⟨bb, 0, none⟩)] #[]] w (GThr B bb w ns (S0 ++ t.sets) nv sv xs S0.length t) := by
  have hE : Enters Try.prog 41 := enters_of Try.func41 (by kernel_rfl) rfl
  refine (through_any t ht v o (numI S0.length t.sets.length) (numI_len _ _) (by omega) 41 (.pointer (some ⟨bb, 0, none⟩)) hE w (UN bb nv) (JG B bb w ns (S0 ++ t.sets) nv sv xs ns.length S0.length t) ?_ HV ?_ ?_ ?_ ?_).mono ?_
  · rintro b (rfl | hb)
    · exact h.lt
    · exact (h.nodes.lt _ hb).2
  · intro W hk
    have := hk.own ho (fun b hb => by
      obtain ⟨cs, fz, e⟩ := ints_block ho b hb
      exact ints_un h e)
    exact ints_of_row (by rw [numI_len]; exact this)
  · rintro l W W' ⟨hl, hn, nv', hbd, hk, hat⟩ hk2
    have hs := hk.size
    have hlt := h.lt
    refine ⟨hl, hn, nv', ⟨hbd.base, (hk2.block _ hbd.lt (by omega)).trans hbd.box, hk2.own hbd.nodes fun b hb => ?_, ?_⟩, ?_, hat⟩
    · rcases hat b hb with h1 | h1
      · have := (h.nodes.lt _ h1).2; omega
      · omega
    · have hk3 : Kx (UN bb nv) w W' := ((hk.mono (V := fun b => UN bb nv b ∨ b = w.heap.size ∨ b = w.heap.size + 1) (fun _ _ h => .inl h)).trans (hk2.mono fun _ _ h => .inr h)).mono (fun b hb h => h.elim id fun h => by omega)
      exact rows_kx h.sets hk3 (UN.type h)
    · exact ((hk.mono (V := fun b => UN bb nv b ∨ b = w.heap.size ∨ b = w.heap.size + 1) (fun _ _ h => .inl h)).trans (hk2.mono fun _ _ h => .inr h)).mono (fun b hb h => h.elim id fun h => by omega)
  · rintro l W hlt ⟨hl, hn, nv', hbd, hk, hat⟩ hkw hN
    have hnode := ht.node l.length hlt
    have hlen : (ns ++ (t.ns.take l.length).map (moveN ns.length S0.length)).length = ns.length + l.length := by simp; omega
    have hm : mapN (numI S0.length t.sets.length) l (nd t.ns l.length) = moveN ns.length S0.length (nd t.ns l.length) := by
      rw [hl, numI_len]; exact mapN_move hnode rfl
    rw [hm]
    have hok : nodeB (moveN ns.length S0.length (nd t.ns l.length)) (ns ++ (t.ns.take l.length).map (moveN ns.length S0.length)).length (S0 ++ t.sets).length = true := by
      rw [hlen, List.length_append]; exact moveN_ok hnode
    refine (node_ok _ W hbd (by rw [hlen]; omega) (by rw [List.length_append]; omega) hok).mono ?_
    rintro e W' ⟨rfl, nv2, hbd2, hk2, hat2⟩
    have hs2 := hk2.size
    have hkU : Kx (fun b => UN bb nv b ∨ w.heap.size + 2 ≤ b) W W' := hk2.mono fun b _ hb => by
      rcases hb with hb | hb
      · exact .inl (.inl hb)
      · rcases hat b hb with h1 | h1
        · exact .inl (.inr h1)
        · exact .inr h1
    refine ⟨(ns.length : Int) + l.length, by rw [hlen]; simp, ⟨?_, ?_, nv2, ?_, ?_, ?_⟩, hkU⟩
    · rw [List.length_append, List.length_singleton, numI_succ, ← hl]
    · rw [List.length_append, List.length_singleton]; omega
    · rw [List.length_append, List.length_singleton, map_take_succ _ hlt, ← List.append_assoc, ← nd_eq hlt]
      exact hbd2
    · exact ((hk.mono (V := fun b => UN bb nv b ∨ w.heap.size + 2 ≤ b) (fun _ _ h => .inl h)).trans hkU).mono (fun b hb h => h.elim id fun h => by omega)
    · intro b hb
      rcases hat2 b hb with h1 | h1
      · exact hat b h1
      · exact .inr (by omega)
  · exact ⟨rfl, Nat.zero_le _, nv, by simpa using h, Kx.refl _ _, fun k hk => .inl hk⟩
  · rintro e W ⟨l, hl, rfl, ⟨hl2, _, nv', hbd, hk, hat⟩, _⟩
    have hr0 := ht.root0
    have hr1 := ht.root1
    refine ⟨?_, nv', ?_, hk, fun k hk => (hat k hk).imp id (fun h => by omega)⟩
    · rw [hl2, numI_at (by omega), show ((t.root.toNat : Nat) : Int) = t.root by omega]
    · rw [hl, List.take_length] at hbd; exact hbd

end Go.Proofs.Ytdgpanofehfjdaa.Ar

namespace Go.Proofs.Ytdgpanofehfjdaa.Ar
open Go Go.RowKit Go.Shelf
open Go.Proofs.Ytdgpanofehfjdaa.Rg (R RngsAt RowsAt nthL add_zero own_next RowsOwn flatR infoS row_apart row_base rngs_of_row)

/-- what Graft tells -/
def GraftOut (B : Nat) (w : World) (bb : Nat) (ns : List Nd) (S : List (List R)) (nv sv : Value) (t : Tr) (e : Ending) (w' : World) : Prop :=
  e = .returned (.int .i64 ((ns.length : Int) + t.root)) ∧ BStep B w bb nv sv (graft ns S t).ns (graft ns S t).sets w'

theorem graft_fin {B bb : Nat} {w wo w' : World} {ns : List Nd} {S : List (List R)} {nv sv sv' : Value} {xs' : List Value} {t : Tr} {e : Ending} (hk : Kx (US bb sv) w wo) (hs : ∀ b, sv'.ownBlock = some b → sv.ownBlock = some b ∨ w.heap.size + 1 ≤ b)
    (h : GThr B bb wo ns (S ++ t.sets) nv sv' xs' S.length t e w') : GraftOut B w bb ns S nv sv t e w' := by
  obtain ⟨he, nv', h1, h2, h3⟩ := h
  have hz := hk.size
  refine ⟨he, nv', sv', xs', h1, (hk.mono (fun k _ h => h.elim .inl fun h => .inr (.inr h))).trans (h2.mono fun k _ h => h.elim .inl fun h => .inr (.inl h)), fun k hk => (h3 k hk).imp id (fun h => by omega), fun k hk => (hs k hk).imp id (fun h => by omega)⟩

set_option maxRecDepth 100000 in
set_option maxHeartbeats 16000000 in
theorem graft_any {B bb : Nat} {ns : List Nd} {S : List (List R)} {nv sv : Value} {xs : List Value} (t : Tr) (v : Value) (w W0 : World) (h : Bd B w bb ns S nv sv xs) (hv : TreeAt W0 v t) (hB0 : Below W0.heap.size W0 w) (hB : W0.heap.size ≤ B) (hok : checkE t = 0) (h1 : ns.length + t.ns.length ≤ 4096) (h2 : S.length + t.sets.length ≤ 4096) (hS : ∀ s, s ∈ t.sets → s.length ≤ 1000000) :
    Calls Try.prog 47 #[.pointer (some ⟨bb, 0, none⟩), v] w (GraftOut B w bb ns S nv sv t) := by
  obtain ⟨i0, hi, hz0, hz1, hz2⟩ := info_parts infoI
  obtain ⟨j0, hj, hy0, hy1, hy2⟩ := info_parts infoS
  have hlt := h.lt
  have hbase := h.base
  have HB := Lib.hid h
  obtain ⟨ao, cap, so, scap, rfl, hm, hm2, _, _⟩ := hv.shape
  have BW := Lib.hid (fun o => (Below.refl w.heap.size w).alloc (Nat.le_refl _) o)
  have HT := Lib.hid (fun W (hb : Below W0.heap.size W0 W) => hv.next hb)
  have H0 := Lib.hid hB0
  have HS0 := Lib.hid hB0.size
  have CC := Lib.hid (fun W (hb : Below w.heap.size w W) => (show Calls Try.prog 9 #[.agg #[.slice ao t.ns.length cap, .slice so t.sets.length scap, .int .i64 t.root]] W (fun e w' => e = .returned (.int .i64 0) ∧ Below W.heap.size W w') by
    have := check_any t _ W (hv.next (hB0.trans (hb.mono hB0.size)))
    rw [hok] at this; exact this))
  have CR := Lib.hid (fun W (hb : Below w.heap.size w W) => room_any t.ns.length t.sets.length W (h.next hb) h1 h2)
  have HR := Lib.hid (fun W (hb : Below W0.heap.size W0 W) i (hi : i < t.sets.length) => show ∃ g x, so = some g ∧ W.cell? (g.add i) = some x ∧ RngsAt W x (nthL t.sets i) by
    obtain ⟨ao', cap', so', scap', he, _, _, _, hs⟩ := (hv.next hb).shape
    simp only [Value.agg.injEq, Array.mk.injEq, List.cons.injEq, Value.slice.injEq] at he
    rw [he.2.1.1]; exact hs i hi)
  have HUB := Lib.hid (fun (b : Nat) (hb : US bb sv b) => show B ≤ b by
    rcases hb with rfl | hb
    · exact h.base
    · exact (h.sets.own.lt _ hb).1)
  have HSV := Lib.hid (fun (b : Nat) (hb : sv.ownBlock = some b) => (h.sets.own.lt _ hb).2)
  have T0 := Lib.hid (TBox.new w (.slice ao t.ns.length cap) (.slice so t.sets.length scap) t.root)
  have OK := Lib.hid (check_ok hok)
  have HLS := Lib.hid hS
  clear h hv hB0 hok hS
  go_enter Try.func47, Try.ntmps47
  go_wp2_with (first
    | (go_at_call 9; (with_reducible refine (CC.out _ (BW.out _)).mono ?_); rintro e w1 ⟨rfl, hb1⟩; go_must (obtain ⟨r0, r1, r2⟩ := T0.out.next hb1; have B1 := Lib.hid ((BW.out (.cells #[.slice ao t.ns.length cap, .slice so t.sets.length scap, .int .i64 t.root] 25)).trans (hb1.mono (by simp))); have hs1 : w.heap.size + 1 ≤ w1.heap.size := (by have := hb1.size; simp at this; omega); clear hb1))
    | (go_at_call 56; (with_reducible refine (CR.out _ B1.out).mono ?_); rintro e w2 ⟨rfl, hw⟩; subst w2)
    | fail)
  have hst : GSt B w bb ns S nv sv t (.slice ao t.ns.length cap) (.slice so t.sets.length scap) 0 (.slice none 0 0) w1 :=
    ⟨⟨sv, xs, by rw [List.take_zero, List.append_nil]; exact HB.out.next B1.out, fun b hb => .inl hb⟩, World.ownsRow_nil _ _ _ _, ⟨r0, r1, r2⟩, Kx.of_below B1.out⟩
  have HST := Lib.hid hst
  clear hst CC CR T0
  go_loopw [5, 25] (fun o i wr => ∃ (k : Nat) (vo : Value), i = .int .i64 k ∧ vo = o ∧ k ≤ t.sets.length ∧ GSt B w bb ns S nv sv t (.slice ao t.ns.length cap) (.slice so t.sets.length scap) k vo wr) (fun _ i _ => t.sets.length - (intOf i).toNat)
  case atStart => exact ⟨0, _, rfl, rfl, Nat.zero_le _, HST.out⟩
  case round =>
    clear r0 r1 r2
    obtain ⟨k, o, rfl, rfl, hk, hst⟩ := hrel
    obtain ⟨wo, rfl⟩ : ∃ x, x = wr := ⟨_, rfl⟩
    obtain ⟨⟨sv', xs', hbd, hsv⟩, hrow, ⟨r0, r1, r2⟩, hkx⟩ := hst
    have hwz := hkx.size
    have hbT : Below W0.heap.size W0 wo := H0.out.trans (hkx.below HS0.out (fun b hb hu => by have := HUB.out b hu; omega))
    have HBT := Lib.hid hbT
    have HBD := Lib.hid hbd
    have HSV2 := Lib.hid hsv
    have HROW := Lib.hid hrow
    have HBOX := Lib.hid (TBox.mk r0 r1 r2)
    have HKX := Lib.hid hkx
    have hN := cell_lt r0
    have hN1 : w.heap.size + 1 ≤ wo.heap.size := hN
    have c1 := hbd.cell1
    have hlen : (S ++ t.sets.take k).length = S.length + k := by simp; omega
    have hbl := hbd.lt
    obtain ⟨uo, ucap, hue⟩ := hbd.shapeS
    rw [hlen] at hue
    subst hue
    have HLEN := Lib.hid hlen
    clear hbd hsv hrow hkx hlen hbT hN
    by_cases hlt2 : k < t.sets.length
    · obtain ⟨gs, y, rfl, y0, y2⟩ := HR.out W0 (Below.refl _ _) k hlt2
      have y1 := cell_next y0 HBT.out
      have hgs := cell_lt y1
      have HTK := Lib.hid (nthL_eq' hlt2)
      have HLL := Lib.hid (show (nthL t.sets k).length ≤ 1000000 from HLS.out _ (by rw [Rg.nthL_eq hlt2]; exact List.getElem_mem hlt2))
      obtain ⟨yo, ycap, rfl, _, _⟩ := y2.shape
      generalize nthL t.sets k = L at *
      have CL := Lib.hid (fun W (hb : Below W0.heap.size W0 W) => clone_rngs L _ W (y2.next hb) HLL.out)
      clear y2 y0
      go_wp2_with (at_builtin; refine wpList_append_own _ rfl _ _ 53 rfl (w.heap.size + 1) 3 i0 (.int .i64 0) 1 8 Try.underlying53 hi hz0 hz1 hz2 rfl (by decide) o k ((numI S.length k).map (Value.int .i64)) rfl (HROW.out.alloc _) ⟨wo.heap.size, 0, none⟩ 1 1 [.int .i64 ((S.length : Int) + k)] rfl rfl (by simpa using cell_one_new wo _ _) (by simp [Value.oneCell']) (by unfold maxLen; omega) (by omega) (by simp; omega) ?_; intro v' w7 hown hg _; go_must (obtain ⟨z1, z2, z3, z4, z5⟩ := gst_num HBD.out HROW.out HBOX.out HKX.out hN1 hown hg; have q1 := z1.cell1; have ql := z1.lt; have Z1 := Lib.hid z1; have Z2 := Lib.hid z2; have Z3 := Lib.hid z3; have Z4 := Lib.hid z4; have Z7 := Lib.hid (show Below W0.heap.size W0 w7 from H0.out.trans (Z4.out.below HS0.out (fun b hb hu => by have := HUB.out b hu; omega))); clear z1 z2 z3 z4 hown hg))
      go_region_law (first
        | (refine step_append_lies _ rfl (.tmp 41) (.tmp 44) 23 rfl B 37 j0 (.slice none 0 0) 1 24 Try.underlying23 hj hy0 hy1 hy2 rfl (by decide) (.slice uo (S.length + k) ucap) (S.length + k) xs' (by rfl) (by have hq := own_next Z1.out.sets.own (B3.out (.cells #[.slice xo L.length xcap] 37)); rw [HLEN.out] at hq; exact hq) ⟨w2.heap.size, 0, none⟩ 1 1 [.slice xo L.length xcap] (by rfl) rfl (World.news_of_block (World.alloc_heap_new w2 _)) (by simp [Value.oneCell']) (by decide) (by unfold maxLen; omega) (by omega) (by have := B2.out.size; simp; omega) _ rfl ?_; intro g cap2 w3 hown hg hat _; go_must (obtain ⟨u1, u2, u3⟩ := gst_set HTK.out HLEN.out Z1.out HSV2.out HSV.out hlt Z2.out Z3.out Z4.out (B3.out _) ((row_base HX.out (show B ≤ w7.heap.size by omega)).alloc _) hown hg hat (by omega); have U3 := Lib.hid u3; clear u3 hown hg hat))
        | ((have hg := CL); clear hg; go_simp; go_wp2_with (go_at_call 49; (with_reducible refine (CL.out _ (by first | exact Z7.out.trans (below_drew _) | exact Z7.out)).mono ?_); rintro e w2 ⟨x, rfl, hx, h3⟩; go_must (obtain ⟨xo, xcap, rfl, _, _⟩ := (rngs_of_row hx).shape; have HX := Lib.hid hx; have hb2 : Below w7.heap.size w7 w2 := (below_drew _).trans h3; have q3 := cell_next q1 hb2; have q6 : ∀ (cs : Array Value) (t : TypeId), (w2.alloc (.cells cs t)).cell? ⟨bb, 1, none⟩ = some (.slice uo (S.length + k) ucap) := (fun cs t => cell_next q3 ((Below.refl _ _).alloc (Nat.le_refl _) _)); have B2 := Lib.hid hb2; have B3 := Lib.hid (fun o => hb2.trans (((Below.refl w2.heap.size w2).alloc (Nat.le_refl _) o).mono hb2.size)); clear hx h3 hb2 CL)))
        | fail)
      all_goals (
        go_wp2
        go_roundw
        case rel => exact ⟨k + 1, _, by go_num, rfl, by omega, U3.out⟩
        case measure => simp [intOf]; omega)
    · obtain rfl : k = t.sets.length := by omega
      rw [List.take_length] at HBD
      have CT := Lib.hid (graft_thr t OK.out.1 (.agg #[.slice ao t.ns.length cap, .slice so t.sets.length scap, .int .i64 t.root]) o wo HBD.out h1 h2 (fun W hW => HT.out W (HBT.out.trans (hW.below (show W0.heap.size ≤ wo.heap.size from HBT.out.size) (fun b hb hu => by
        rcases hu with rfl | hu
        · omega
        · have := (HBD.out.nodes.lt _ hu).1; omega)))) HROW.out)
      go_wp2_with (go_at_call 38; (with_reducible refine CT.out.mono ?_); intro e w9 hg; go_must (have G9 := Lib.hid (graft_fin HKX.out HSV2.out hg); have hge := hg.1; clear hg); subst hge)
      go_ret
      exact G9.out

end Go.Proofs.Ytdgpanofehfjdaa.Ar

/- The third law: what stands between its steps. -/
import Derived.Test.YtemmaoapicaloaaDoorSbAlive
import Derived.Test.YtemmaoapicaloaaDoorSbGet
import Derived.Test.YtemmaoapicaloaaDoorSbFind
import Derived.Test.YtemmaoapicaloaaDoorSbFull
import Derived.Test.YtemmaoapicaloaaDoorSbNobody
import Derived.Test.YtemmaoapicaloaaDoorBtAll
import Derived.Test.YtemmaoapicaloaaDoorBtDrop
import Derived.Test.YtemmaoapicaloaaDoorUtSm
namespace Go.Proofs.YtemmaoapicaloaaDoor.Sb
open Go Go.RowKit Go.Proofs.YtemmaoapicaloaaDoor.At
open Go.Proofs.YtemmaoapicaloaaDoor.Bt (SetAt setV memL nums roomF iV own_slice Tab all_any AddOut DropOut hasI fitB)

theorem row_low {w : World} {B B' s n : Nat} {e : TypeId} {v : Value} {xs : List Value} (h : w.ownsRow B e s v n xs) (hb : B' ≤ B) : w.ownsRow B' e s v n xs := by
  refine ⟨h.1, ?_⟩
  rcases h.2 with hn | ⟨g, cap, cur, e1, h1, h2⟩
  · exact .inl hn
  · exact .inr ⟨g, cap, cur, e1, Nat.le_trans hb h1, h2⟩
/-- another set's words are turned -/
theorem TbIn.words {W W' : World} {B tb Bs room : Nat} {T : Tb} {v : Value} {L : List Nat} (h : TbIn W B tb T) (hs : SetAt W Bs room v L) (hd : ∀ i, i < T.E.length → (Sb.ent T.E i).v.ownBlock = none ∨ (Sb.ent T.E i).v.ownBlock ≠ v.ownBlock) (hg : W.grownBy W' v.ownBlock) : TbIn W' B tb T := by
  have hr : ∀ {B1 s1 n1 : Nat} {e1 : TypeId} {v1 : Value} {x1 : List Value}, W.ownsRow B1 e1 s1 v1 n1 x1 → e1 ≠ 55 → v1.ownBlock = none ∨ v1.ownBlock ≠ v.ownBlock := fun {_ _ _ _ v1 _} h1 hne => by
    rcases hv : v1.ownBlock with _ | k
    · exact .inl rfl
    · exact .inr fun e => row_not_row h1 hs.row hne k hv e
  exact ⟨h.base, at_kept h.box hg (.inr (at_not_row h.box hs.row (by decide)).symm), h.sets.kept hg (hr h.sets (by decide)), fun i hi => (h.each i hi).kept hg (hd i hi), h.plcs.kept hg (hr h.plcs (by decide))⟩
theorem TK.words {W W' : World} {B tb Bs room m : Nat} {ks : List (List Int)} {T : Tb} {v : Value} {L : List Nat} (h : TK W B tb ks m T) (hs : SetAt W Bs room v L) (hd : ∀ i, i < T.E.length → (ent T.E i).v.ownBlock = none ∨ (ent T.E i).v.ownBlock ≠ v.ownBlock) (hg : W.grownBy W' v.ownBlock) : TK W' B tb ks m T :=
  ⟨h.inn.words hs hd hg, h.good, h.keys, h.most, Nat.le_trans h.bw hg.size⟩
theorem row_words {W W' : World} {Bs B room n : Nat} {v wv : Value} {L : List Nat} {xs : List Value} (h : W.ownsRow B 3 1 wv n xs) (hs : SetAt W Bs room v L) (hg : W.grownBy W' v.ownBlock) : W'.ownsRow B 3 1 wv n xs :=
  h.kept hg (by
    rcases hv : wv.ownBlock with _ | k
    · exact .inl rfl
    · exact .inr fun e => row_not_row h hs.row (by decide) k hv e)
/-- an empty table's sets may lie anywhere -/
theorem TK.from {W : World} {B tb m : Nat} {T : Tb} (h : TK W B tb [] m T) : TK W B tb [] m { T with bw := W.heap.size } := by
  have h0 : T.E.length = 0 := h.len
  exact ⟨⟨h.inn.base, h.inn.box, h.inn.sets, fun i hi => absurd hi (by show ¬ i < T.E.length; omega), h.inn.plcs⟩, ⟨h.good.m1, h.good.m2, h.good.w1, h.good.w2, h.good.hs, h.good.uq, h.good.st, h.good.ld, h.good.pl, h.good.le⟩, h.keys, h.most, Nat.le_refl _⟩

/-- the set in its box, the table, and the wanted row -/
structure SA (w W : World) (tb ps : Nat) (v : Value) (L : List Nat) (wv : Value) (N : List Int) (ks : List (List Int)) (T : Tb) : Prop where
  tk : TK W w.heap.size tb ks 5 T
  below : Below w.heap.size w W
  box : W.heap[ps]? = some (.cells #[.int .i64 (100 : Nat), v] 34 (0, 0))
  set : SetAt W w.heap.size 100 v L
  want : W.ownsRow w.heap.size 3 1 wv N.length (iV N)
  low : ∀ k, v.ownBlock = some k → k < T.bw
theorem SA.next {w W W' : World} {tb ps : Nat} {v wv : Value} {L : List Nat} {N : List Int} {ks : List (List Int)} {T : Tb} (h : SA w W tb ps v L wv N ks T) (hb : Below W.heap.size W W') : SA w W' tb ps v L wv N ks T :=
  ⟨h.tk.next hb, h.below.trans (hb.mono h.below.size), at_next h.box hb, h.set.next hb, row_next h.want hb, h.low⟩
theorem sa_put {w W : World} {tb ps : Nat} {v wv : Value} {L : List Nat} {N : List Int} {T : Tb} (h : SA w W tb ps v L wv N [] T) (hN : nums L = N) (hc : ∀ k, wv.ownBlock = some k → some k ≠ T.pv.ownBlock) :
    Calls Tryd.prog 11 #[ptr tb, setV 100 v] W fun e W' => ∃ T', e = .returned (.tuple #[.int .i64 0, .bool true]) ∧ SA w W' tb ps v L wv N [N] T' := by
  refine (put_fresh h.tk h.set hN (idx0 _) (by decide)).mono ?_
  rintro e W' ⟨T', rfl, h', hbw, st⟩
  refine ⟨T', rfl, h', ⟨st.os.trans h.below.os, st.tape.trans h.below.tape, st.output.trans h.below.output, Nat.le_trans h.below.size st.size, fun k hk => ((st.base h.tk.inn).block k hk).trans (h.below.block k hk)⟩, st.at h.box (h.tk.inn.cool h.box (by decide) (by decide) (by decide)), st.set h.tk.inn h.set, st.row h.want fun k e => ⟨fun e2 => ?_, row_not_row h.want h.tk.inn.sets (by decide) k e, hc k e⟩, by rw [hbw]; exact h.low⟩
  subst e2
  exact at_not_row h.tk.inn.box h.want (by decide) e.symm
theorem SA.turn {w W W' : World} {tb ps : Nat} {v wv : Value} {L L' : List Nat} {N : List Int} {ks : List (List Int)} {T : Tb} (h : SA w W tb ps v L wv N ks T) (hs : SetAt W' w.heap.size 100 v L') (hg : W.grownBy W' v.ownBlock) : SA w W' tb ps v L' wv N ks T :=
  ⟨h.tk.words h.set (fun i hi => by
    rcases hv : (ent T.E i).v.ownBlock with _ | k
    · exact .inl rfl
    · refine .inr fun e => ?_
      have h1 := ((h.tk.inn.each i hi).row.lt k hv).1
      have h2 := h.low k e.symm
      omega) hg, h.below.grown hg h.below.size (fun k e => (h.set.row.lt k e).1), at_kept h.box hg (.inr (at_not_row h.box h.set.row (by decide)).symm), hs, row_words h.want h.set hg, h.low⟩
theorem sa_add {w W : World} {tb ps : Nat} {v wv : Value} {L : List Nat} {N : List Int} {ks : List (List Int)} {T : Tb} (n : Int) (h : SA w W tb ps v L wv N ks T) :
    Calls Tryd.prog 18 #[setV 100 v, .int .i64 n] W fun e W' => ∃ b L', e = .returned (.bool b) ∧ SA w W' tb ps v L' wv N ks T := by
  refine (Bt.add_any w.heap.size 100 v L n W h.set).mono ?_
  rintro e W' ⟨L', rfl, h1, _, h3⟩
  exact ⟨_, L', rfl, h.turn h1 h3⟩
theorem sa_drop {w W : World} {tb ps : Nat} {v wv : Value} {L : List Nat} {N : List Int} {ks : List (List Int)} {T : Tb} (n : Int) (h : SA w W tb ps v L wv N ks T) :
    Calls Tryd.prog 19 #[setV 100 v, .int .i64 n] W fun e W' => ∃ b L', e = .returned (.bool b) ∧ SA w W' tb ps v L' wv N ks T := by
  refine (Bt.drop_any w.heap.size 100 v L n W h.set).mono ?_
  rintro e W' ⟨L', rfl, h1, _, h3⟩
  exact ⟨_, L', rfl, h.turn h1 h3⟩

/-- a number's set -/
theorem get_as {W : World} {B tb m : Nat} {ks : List (List Int)} {T : Tb} (k : Nat) (h : TK W B tb ks m T) (hk : k < ks.length) :
    Calls Tryd.prog 14 #[ptr tb, .int .i64 ((k : Nat) : Int)] W fun e W' => ∃ r ao n c L, e = .returned (.tuple #[setV r (.slice ao n c), .bool true]) ∧ SetAt W' W.heap.size r (.slice ao n c) L ∧ nums L = ks.getD k [] ∧ Below W.heap.size W W' := by
  have hk' : k < T.E.length := by rw [h.len]; exact hk
  refine (get_some W h.inn hk').mono ?_
  rintro e W' ⟨u, rfl, hs, hb⟩
  obtain ⟨ao, n, c, rfl⟩ := hs.val
  exact ⟨_, ao, n, c, _, rfl, hs, by rw [← keys_get _ _ hk', h.keys], hb⟩

/-- the table, another set in its box, and the wanted row -/
structure SB (w W : World) (tb pg r : Nat) (u : Value) (L : List Nat) (wv : Value) (N : List Int) (T : Tb) : Prop where
  tk : TK W w.heap.size tb [N] 5 T
  below : Below w.heap.size w W
  box : W.heap[pg]? = some (.cells #[.int .i64 (r : Nat), u] 34 (0, 0))
  set : SetAt W w.heap.size r u L
  want : W.ownsRow w.heap.size 3 1 wv N.length (iV N)
  far : ∀ i, i < T.E.length → (ent T.E i).v.ownBlock = none ∨ (ent T.E i).v.ownBlock ≠ u.ownBlock
theorem SB.next {w W W' : World} {tb pg r : Nat} {u wv : Value} {L : List Nat} {N : List Int} {T : Tb} (h : SB w W tb pg r u L wv N T) (hb : Below W.heap.size W W') : SB w W' tb pg r u L wv N T :=
  ⟨h.tk.next hb, h.below.trans (hb.mono h.below.size), at_next h.box hb, h.set.next hb, row_next h.want hb, h.far⟩
theorem SA.got {w W W' : World} {tb ps r : Nat} {v wv u : Value} {L M : List Nat} {N : List Int} {T : Tb} (h : SA w W tb ps v L wv N [N] T) (hs : SetAt W' W.heap.size r u M) (hb : Below W.heap.size W W') : SB w (W'.alloc (.cells #[.int .i64 (r : Nat), u] 34)) tb W'.heap.size r u M wv N T := by
  have A := (Below.refl W'.heap.size W').alloc (Nat.le_refl _) (.cells #[.int .i64 (r : Nat), u] 34)
  have h2 := (h.next hb).next A
  exact ⟨h2.tk, h2.below, at_new W' _, (hs.next A).base h.below.size, h2.want, fun i hi => words_apart (h.tk.inn.each i hi) hs (Nat.le_refl _)⟩
theorem SB.turn {w W W' : World} {tb pg r : Nat} {u wv : Value} {L L' : List Nat} {N : List Int} {T : Tb} (h : SB w W tb pg r u L wv N T) (hs : SetAt W' w.heap.size r u L') (hg : W.grownBy W' u.ownBlock) : SB w W' tb pg r u L' wv N T :=
  ⟨h.tk.words h.set h.far hg, h.below.grown hg h.below.size (fun k e => (h.set.row.lt k e).1), at_kept h.box hg (.inr (at_not_row h.box h.set.row (by decide)).symm), hs, row_words h.want h.set hg, h.far⟩
theorem sb_add {w W : World} {tb pg r : Nat} {u wv : Value} {L : List Nat} {N : List Int} {T : Tb} (n : Int) (h : SB w W tb pg r u L wv N T) :
    Calls Tryd.prog 18 #[setV r u, .int .i64 n] W fun e W' => ∃ b L', e = .returned (.bool b) ∧ SB w W' tb pg r u L' wv N T := by
  refine (Bt.add_any w.heap.size r u L n W h.set).mono ?_
  rintro e W' ⟨L', rfl, h1, _, h3⟩
  exact ⟨_, L', rfl, h.turn h1 h3⟩
theorem sb_drop {w W : World} {tb pg r : Nat} {u wv : Value} {L : List Nat} {N : List Int} {T : Tb} (n : Int) (h : SB w W tb pg r u L wv N T) :
    Calls Tryd.prog 19 #[setV r u, .int .i64 n] W fun e W' => ∃ b L', e = .returned (.bool b) ∧ SB w W' tb pg r u L' wv N T := by
  refine (Bt.drop_any w.heap.size r u L n W h.set).mono ?_
  rintro e W' ⟨L', rfl, h1, _, h3⟩
  exact ⟨_, L', rfl, h.turn h1 h3⟩

/-- what is told at last, in its box, and the wanted row -/
structure SC (w W : World) (ph r : Nat) (u : Value) (L : List Nat) (wv : Value) (N : List Int) : Prop where
  below : Below w.heap.size w W
  box : W.heap[ph]? = some (.cells #[.int .i64 (r : Nat), u] 34 (0, 0))
  set : SetAt W w.heap.size r u L
  want : W.ownsRow w.heap.size 3 1 wv N.length (iV N)
theorem SC.next {w W W' : World} {ph r : Nat} {u wv : Value} {L : List Nat} {N : List Int} (h : SC w W ph r u L wv N) (hb : Below W.heap.size W W') : SC w W' ph r u L wv N :=
  ⟨h.below.trans (hb.mono h.below.size), at_next h.box hb, h.set.next hb, row_next h.want hb⟩
theorem SB.got {w W W' : World} {tb pg r r2 : Nat} {u wv u2 : Value} {L M : List Nat} {N : List Int} {T : Tb} (h : SB w W tb pg r u L wv N T) (hs : SetAt W' W.heap.size r2 u2 M) (hb : Below W.heap.size W W') : SC w (W'.alloc (.cells #[.int .i64 (r2 : Nat), u2] 34)) W'.heap.size r2 u2 M wv N := by
  have A := (Below.refl W'.heap.size W').alloc (Nat.le_refl _) (.cells #[.int .i64 (r2 : Nat), u2] 34)
  have h2 := (h.next hb).next A
  exact ⟨h2.below, at_new W' _, (hs.next A).base h.below.size, h2.want⟩

/-- where the table, the set and the wanted row are made -/
theorem sa_start {w w1 w2 w4 : World} {tb : Nat} {pv v wv : Value} {L : List Nat} {N : List Int} (h1 : TbIn w1 w.heap.size tb (tb0 5 pv)) (b1 : Below w.heap.size w w1) (hs : SetAt w2 w1.heap.size 100 v L) (b2 : Below w1.heap.size w1 w2)
    (hw : w4.ownsRow (w2.alloc (.cells #[.int .i64 (100 : Nat), v] 34)).heap.size 3 1 wv N.length (iV N)) (b4 : Below (w2.alloc (.cells #[.int .i64 (100 : Nat), v] 34)).heap.size (w2.alloc (.cells #[.int .i64 (100 : Nat), v] 34)) w4) :
    (∃ T, SA w w4 tb w2.heap.size v L wv N [] T ∧ ∀ k, wv.ownBlock = some k → some k ≠ T.pv.ownBlock) := by
  have A := (Below.refl w2.heap.size w2).alloc (Nat.le_refl _) (.cells #[.int .i64 (100 : Nat), v] 34)
  have b24 := A.trans (b4.mono A.size)
  have b14 := b2.trans (b24.mono b2.size)
  have k1 : TK w1 w.heap.size tb [] 5 (tb0 5 pv) := TK.new h1
  have k4 := (k1.next b14).from
  have hs4 := hs.next b24
  refine ⟨_, ⟨k4, b1.trans (b14.mono b1.size), at_next (at_new w2 _) b4, hs4.base b1.size, row_low hw (by have := b1.size; have := b2.size; simp; omega), fun k e => (hs4.row.lt k e).2⟩, fun k e e2 => ?_⟩
  have h3 := (hw.lt k e).1
  have h4 := (h1.plcs.lt k e2.symm).2
  have := b2.size
  simp at h3
  omega

end Go.Proofs.YtemmaoapicaloaaDoor.Sb

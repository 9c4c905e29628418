/- The wanted rows beside a table. -/
import Derived.Test.YtemmaoapicaloaaDoorSbDoc
import Derived.Test.YtemmaoapicaloaaDoorSbFind
import Derived.Test.YtemmaoapicaloaaDoorSbGet
import Derived.Test.YtemmaoapicaloaaDoorBtAll
namespace Go.Proofs.YtemmaoapicaloaaDoor.Sb
open Go Go.RowKit Go.Proofs.YtemmaoapicaloaaDoor.At
open Go.Proofs.YtemmaoapicaloaaDoor.Bt (SetAt setV memL nums roomF iV own_slice ofF of_any OfOut nums_of Tab all_any)

/-- a row of another type than the table's is turned -/
theorem TbIn.other {W W' : World} {B B2 tb s n : Nat} {e : TypeId} {T : Tb} {v : Value} {xs : List Value} (h : TbIn W B tb T) (hr : W.ownsRow B2 e s v n xs) (h1 : 47 ≠ e) (h2 : 57 ≠ e) (h3 : 3 ≠ e) (h4 : 55 ≠ e) (hg : W.grownBy W' v.ownBlock) : TbIn W' B tb T := by
  have hk : ∀ {B1 s1 n1 : Nat} {e1 : TypeId} {v1 : Value} {x1 : List Value}, W.ownsRow B1 e1 s1 v1 n1 x1 → e1 ≠ e → v1.ownBlock = none ∨ v1.ownBlock ≠ v.ownBlock := fun {_ _ _ _ v1 _} q hne => by
    rcases hv : v1.ownBlock with _ | k
    · exact .inl rfl
    · exact .inr fun e2 => row_not_row q hr hne k hv e2
  exact ⟨h.base, at_kept h.box hg (.inr (at_not_row h.box hr h1).symm), h.sets.kept hg (hk h.sets h2), fun i hi => (h.each i hi).kept hg (hk (h.each i hi).row h4), h.plcs.kept hg (hk h.plcs h3)⟩

theorem row_low {w : World} {B B' s n : Nat} {e : TypeId} {v : Value} {xs : List Value} (h : w.ownsRow B e s v n xs) (hb : B' ≤ B) : w.ownsRow B' e s v n xs := by
  refine ⟨h.1, ?_⟩
  rcases h.2 with hn | ⟨g, cap, cur, e1, h1, h2⟩
  · exact .inl hn
  · exact .inr ⟨g, cap, cur, e1, Nat.le_trans hb h1, h2⟩
/-- one wanted row -/
def One (W : World) (B : Nat) (x : Value) (N : List Int) (pv : Value) : Prop := W.ownsRow B 3 1 x N.length (iV N) ∧ ∀ k, x.ownBlock = some k → some k ≠ pv.ownBlock
/-- the wanted rows, beside a table's places -/
def Wants (W : World) (B : Nat) (v : Value) (ks : List (List Int)) (pv : Value) : Prop :=
  ∃ xs : List Value, W.ownsRow B 27 1 v ks.length xs ∧ ∀ i, i < ks.length → ∃ x, xs[i]? = some x ∧ One W B x (ks.getD i []) pv
theorem Wants.nil (W : World) (B : Nat) (pv : Value) : Wants W B (.slice none 0 0) [] pv := ⟨[], World.ownsRow_nil _ _ _ _, fun i hi => absurd hi (by simp)⟩
theorem One.next {W W' : World} {B : Nat} {x pv : Value} {N : List Int} (h : One W B x N pv) (hb : Below W.heap.size W W') : One W' B x N pv := ⟨row_next h.1 hb, h.2⟩
theorem Wants.next {W W' : World} {B : Nat} {v pv : Value} {ks : List (List Int)} (h : Wants W B v ks pv) (hb : Below W.heap.size W W') : Wants W' B v ks pv := by
  obtain ⟨xs, h1, h2⟩ := h
  exact ⟨xs, row_next h1 hb, fun i hi => by obtain ⟨x, h3, h4⟩ := h2 i hi; exact ⟨x, h3, h4.next hb⟩⟩
theorem One.step {W W' : World} {B tb : Nat} {x : Value} {N : List Int} {T T' : Tb} (h : One W B x N T.pv) (ht : TbIn W B tb T) (st : Step tb T W T' W') : One W' B x N T'.pv := by
  have hc : ∀ k, x.ownBlock = some k → Cool tb T k := fun k e => ⟨fun e2 => by
    subst e2
    exact at_not_row ht.box h.1 (by decide) e.symm, row_not_row h.1 ht.sets (by decide) k e, h.2 k e⟩
  exact ⟨st.row h.1 hc, fun k e => (st.cool (h.1.lt k e).2 (hc k e)).2.2⟩
theorem Wants.step {W W' : World} {B tb : Nat} {v : Value} {ks : List (List Int)} {T T' : Tb} (h : Wants W B v ks T.pv) (ht : TbIn W B tb T) (st : Step tb T W T' W') : Wants W' B v ks T'.pv := by
  obtain ⟨xs, h1, h2⟩ := h
  refine ⟨xs, st.row h1 fun k e => ⟨fun e2 => ?_, row_not_row h1 ht.sets (by decide) k e, row_not_row h1 ht.plcs (by decide) k e⟩, fun i hi => by obtain ⟨x, h3, h4⟩ := h2 i hi; exact ⟨x, h3, h4.step ht st⟩⟩
  subst e2
  exact at_not_row ht.box h1 (by decide) e.symm
theorem Wants.ls {W : World} {B : Nat} {v pv : Value} {ks : List (List Int)} (h : Wants W B v ks pv) : LsAt W v ks := by
  obtain ⟨xs, h1, h2⟩ := h
  rcases h1.2 with ⟨rfl, h0⟩ | ⟨g, cap, cur, rfl, hb, hg, hn, hm, hcs, ht⟩
  · exact .inl ⟨rfl, List.eq_nil_of_length_eq_zero h0⟩
  · refine .inr ⟨⟨g, 0, none⟩, cap, rfl, by omega, fun i hi => ?_⟩
    obtain ⟨x, h3, h4⟩ := h2 i hi
    exact ⟨x, h1.cells (g := g) (by simp [Value.ownBlock]) i x h3, ints_of_row h4.1⟩
/-- one more wanted row -/
theorem Wants.app {W W' : World} {B : Nat} {v v' x pv : Value} {ks : List (List Int)} {xs : List Value} {N : List Int} (h1 : W.ownsRow B 27 1 v ks.length xs) (h2 : ∀ i, i < ks.length → ∃ x, xs[i]? = some x ∧ One W B x (ks.getD i []) pv) (hx : One W B x N pv) (ho : W'.ownsRow B 27 1 v' (ks.length + 1) (xs ++ [x])) (hg : W.grownBy W' v.ownBlock) : Wants W' B v' (ks ++ [N]) pv := by
  have hl : xs.length = ks.length := by have := h1.1; omega
  have one : ∀ {y M}, One W B y M pv → One W' B y M pv := fun {y M} q => ⟨q.1.kept hg (by
    rcases hv : y.ownBlock with _ | k
    · exact .inl rfl
    · exact .inr fun e2 => row_not_row q.1 h1 (by decide) k hv e2), q.2⟩
  refine ⟨xs ++ [x], by rw [List.length_append]; exact ho, fun i hi => ?_⟩
  have hi' : i < ks.length + 1 := by simpa using hi
  by_cases hin : i < ks.length
  · obtain ⟨y, h3, h4⟩ := h2 i hin
    refine ⟨y, ?_, ?_⟩
    · rw [List.getElem?_append_left (by omega)]; exact h3
    · have e : (ks ++ [N]).getD i [] = ks.getD i [] := by simp [List.getD, List.getElem?_append, hin]
      rw [e]; exact one h4
  · obtain rfl : i = ks.length := by omega
    refine ⟨x, ?_, ?_⟩
    · rw [← hl]; simp
    · have e : (ks ++ [N]).getD ks.length [] = N := by simp [List.getD]
      rw [e]; exact one hx

/-- what stands between two rounds -/
def PlayRel (w : World) (tb m k : Nat) (v : Value) (wr : World) : Prop :=
  ∃ T ks, TK wr w.heap.size tb ks m T ∧ Wants wr w.heap.size v ks T.pv ∧ Below w.heap.size w wr ∧ ks.length ≤ k

/-- the table, the wanted rows, and the row that is asked for -/
structure PS (w W : World) (tb m : Nat) (v : Value) (ks ts : List (List Int)) (x : Value) (N : List Int) (T : Tb) : Prop where
  tk : TK W w.heap.size tb ts m T
  wants : Wants W w.heap.size v ks T.pv
  one : One W w.heap.size x N T.pv
  below : Below w.heap.size w W
theorem PS.next {w W W' : World} {tb m : Nat} {v x : Value} {ks ts : List (List Int)} {N : List Int} {T : Tb} (h : PS w W tb m v ks ts x N T) (hb : Below W.heap.size W W') : PS w W' tb m v ks ts x N T :=
  ⟨h.tk.next hb, h.wants.next hb, h.one.next hb, h.below.trans (hb.mono h.below.size)⟩
theorem ps_start {w wr w2 : World} {tb m : Nat} {v x : Value} {ks : List (List Int)} {N : List Int} {T : Tb} (h : TK wr w.heap.size tb ks m T) (hW : Wants wr w.heap.size v ks T.pv) (hb : Below w.heap.size w wr) (hx : w2.ownsRow wr.heap.size 3 1 x N.length (iV N)) (h2 : Below wr.heap.size wr w2) : PS w w2 tb m v ks ks x N T :=
  ⟨h.next h2, hW.next h2, ⟨row_low hx hb.size, fun k e e2 => by
    have h3 := (hx.lt k e).1
    have h4 := (h.inn.plcs.lt k e2.symm).2
    omega⟩, hb.trans (h2.mono hb.size)⟩
theorem PS.put {w W W' : World} {tb m : Nat} {v x : Value} {ks ts ts' : List (List Int)} {N : List Int} {T T' : Tb} (h : PS w W tb m v ks ts x N T) (h' : TK W' w.heap.size tb ts' m T') (st : Step tb T W T' W') : PS w W' tb m v ks ts' x N T' := by
  have hb := st.base h.tk.inn
  exact ⟨h', h.wants.step h.tk.inn st, h.one.step h.tk.inn st, h.below.trans hb⟩
theorem PS.rel {w W : World} {tb m k : Nat} {v x : Value} {ks : List (List Int)} {N : List Int} {T : Tb} (h : PS w W tb m v ks ks x N T) (hk : ks.length ≤ k) : PlayRel w tb m (k + 1) v W := ⟨T, ks, h.tk, h.wants, h.below, by omega⟩
theorem play_app {w W W8 : World} {tb m k : Nat} {v v' x : Value} {ks : List (List Int)} {xs : List Value} {N : List Int} {T : Tb} {o : Obj} (h : PS w W tb m v ks (ks ++ [N]) x N T) (ho : W.ownsRow w.heap.size 27 1 v ks.length xs) (hxs : ∀ i, i < ks.length → ∃ x, xs[i]? = some x ∧ One W w.heap.size x (ks.getD i []) T.pv)
    (o8 : W8.ownsRow w.heap.size 27 1 v' (ks.length + 1) (xs ++ [x])) (hg : (W.alloc o).grownBy W8 v.ownBlock) (hk : ks.length ≤ k) : PlayRel w tb m (k + 1) v' W8 := by
  have A := (Below.refl W.heap.size W).alloc (Nat.le_refl _) o
  have hA := h.next A
  have oA := ho.alloc o
  have xA : ∀ i, i < ks.length → ∃ x, xs[i]? = some x ∧ One (W.alloc o) w.heap.size x (ks.getD i []) T.pv := fun i hi => by
    obtain ⟨y, h1, h2⟩ := hxs i hi
    exact ⟨y, h1, h2.next A⟩
  refine ⟨T, ks ++ [N], ⟨hA.tk.inn.other oA (by decide) (by decide) (by decide) (by decide) hg, hA.tk.good, hA.tk.keys, hA.tk.most, Nat.le_trans hA.tk.bw hg.size⟩, Wants.app oA xA hA.one o8 hg, hA.below.grown hg hA.below.size (fun j e => (oA.lt j e).1), by simp; omega⟩

theorem find_as {W : World} {B tb m room Bs : Nat} {ks : List (List Int)} {T : Tb} {v : Value} {L : List Nat} {N : List Int} (r : Int) (b : Bool) (h : TK W B tb ks m T) (hs : SetAt W Bs room v L) (hN : nums L = N) (hr : IdxOut ks N r) (hb : b = decide (0 ≤ r)) :
    Calls Tryd.prog 9 #[ptr tb, setV room v] W fun e W' => e = .returned (.tuple #[.int .i64 r, .bool b]) ∧ Below W.heap.size W W' := by
  rw [hb]; exact find_any r W h.inn h.good hs (by rw [h.keys, hN]; exact hr)
theorem put_full_as {W : World} {B tb m room Bs : Nat} {ks : List (List Int)} {T : Tb} {v : Value} {L : List Nat} {N : List Int} (h : TK W B tb ks m T) (hs : SetAt W Bs room v L) (hN : nums L = N) (hr : IdxOut ks N (-1)) (hm : m ≤ ks.length) :
    Calls Tryd.prog 11 #[ptr tb, setV room v] W fun e W' => e = .returned (.tuple #[.int .i64 (-1), .bool false]) ∧ Below W.heap.size W W' :=
  put_full W h.inn h.good hs (by rw [h.keys, hN]; exact hr) (by rw [h.len, h.most]; exact hm)
theorem full_as {W : World} {B tb m : Nat} {ks : List (List Int)} {T : Tb} (b : Bool) (h : TK W B tb ks m T) (hb : b = decide (m ≤ ks.length)) : Calls Tryd.prog 13 #[ptr tb] W fun e W' => e = .returned (.bool b) ∧ Below W.heap.size W W' := by
  rw [hb, ← h.len, ← h.most]; exact full_any W h.inn
/-- a set of such numbers -/
theorem of_as (W : World) (r : Nat) (hr : r ≤ 65536) (lv : Value) (l : List Int) (N : List Int) (hN : N = ofF l (r : Nat)) (hl : IntsAt W lv l) : Calls Tryd.prog 10 #[.int .i64 (r : Nat), lv] W fun e w' => ∃ ao n c L, e = .returned (setV r (.slice ao n c)) ∧ SetAt w' W.heap.size r (.slice ao n c) L ∧ nums L = N ∧ Below W.heap.size W w' := by
  have o := of_any (r : Int) lv l W hl
  rw [Bt.roomF_nat hr] at o
  refine o.mono ?_
  rintro e w' ⟨v, L, rfl, hs, hm, hb⟩
  obtain ⟨ao, n, c, rfl⟩ := hs.val
  exact ⟨ao, n, c, L, rfl, hs, by rw [hN]; exact (nums_of hm).symm, hb⟩

theorem all_own (B room : Nat) (v : Value) (L : List Nat) (N : List Int) (hN : nums L = N) (w : World) (hT : Tab w) (h : SetAt w B room v L) : Calls Tryd.prog 16 #[setV room v] w fun e w' => (∃ ao c, e = .returned (.slice ao N.length c) ∧ IntsAt w' (.slice ao N.length c) N) ∧ Below w.heap.size w w' := by
  subst hN
  refine (all_any B room v L w hT h).mono ?_
  rintro e w' ⟨v', rfl, h1, h2⟩
  obtain ⟨ao, c, rfl⟩ := own_slice h1
  exact ⟨⟨ao, c, rfl, ints_of_row h1⟩, h2⟩
theorem same_true (a b : Value) (xs : List Int) (w : World) (ha : IntsAt w a xs) (hb : IntsAt w b xs) : Calls Tryd.prog 15 #[a, b] w fun e w' => e = .returned (.bool true) ∧ Below w.heap.size w w' := by
  refine (Ut.same_any a b xs xs w ha hb).mono ?_
  rintro e w' ⟨rfl, h⟩
  exact ⟨by simp, h⟩
/-- a number's set -/
theorem get_as {W : World} {B tb m : Nat} {ks : List (List Int)} {T : Tb} (k : Nat) (h : TK W B tb ks m T) (hk : k < ks.length) :
    Calls Tryd.prog 14 #[ptr tb, .int .i64 ((k : Nat) : Int)] W fun e W' => ∃ r ao n c L, e = .returned (.tuple #[setV r (.slice ao n c), .bool true]) ∧ SetAt W' W.heap.size r (.slice ao n c) L ∧ nums L = ks.getD k [] ∧ Below W.heap.size W W' := by
  have hk' : k < T.E.length := by rw [h.len]; exact hk
  refine (get_some W h.inn hk').mono ?_
  rintro e W' ⟨u, rfl, hs, hb⟩
  obtain ⟨ao, n, c, rfl⟩ := hs.val
  exact ⟨_, ao, n, c, _, rfl, hs, by rw [← keys_get _ _ hk', h.keys], hb⟩

theorem over_as {W : World} {B tb m : Nat} {ks : List (List Int)} {T : Tb} (h : TK W B tb ks m T) : Calls Tryd.prog 14 #[ptr tb, .int .i64 (ks.length : Nat)] W fun e W' => e = .returned (.tuple #[setV 0 (.slice none 0 0), .bool false]) ∧ Below W.heap.size W W' :=
  get_none (ptr tb) (ks.length : Nat) ks.length W (fun W' hW => len_as (h.next hW)) (by omega) (by omega)

/-- bytes' rooms -/
def U8At (w : World) (v : Value) (l : List Nat) : Prop :=
  (v = .slice none 0 0 ∧ l = []) ∨ ∃ (a : Addr) (cap : Nat), v = .slice (some a) l.length cap ∧ l.length ≤ maxLen ∧ ∀ i, i < l.length → w.cell? (a.add i) = some (.int .u8 (l.getD i 0 : Nat)) ∧ l.getD i 0 ≤ 255
theorem U8At.next {w w' : World} {v : Value} {l : List Nat} (h : U8At w v l) (hb : Below w.heap.size w w') : U8At w' v l := by
  rcases h with h | ⟨a, cap, hv, hm, hc⟩
  · exact .inl h
  · exact .inr ⟨a, cap, hv, hm, fun i hi => ⟨cell_next (hc i hi).1 hb, (hc i hi).2⟩⟩
theorem U8At.shape {w : World} {v : Value} {l : List Nat} (h : U8At w v l) : ∃ (ao : Option Addr) (cap : Nat), v = .slice ao l.length cap ∧ l.length ≤ 9223372036854775807 ∧ ∀ i, i < l.length → ∃ g, ao = some g ∧ w.cell? (g.add i) = some (.int .u8 (l.getD i 0 : Nat)) ∧ l.getD i 0 ≤ 255 := by
  rcases h with ⟨rfl, rfl⟩ | ⟨a, cap, hv, hm, hc⟩
  · exact ⟨none, 0, rfl, by simp, fun i hi => by simp at hi⟩
  · exact ⟨some a, cap, hv, by unfold maxLen at hm; omega, fun i hi => ⟨a, rfl, hc i hi⟩⟩

end Go.Proofs.YtemmaoapicaloaaDoor.Sb

/- The pile's methods by value. -/
import Derived.Test.YtdmceapbobkklaaDoorRgPile
import Derived.BigRegion
import Derived.RegionTactic
import Derived.Deep.QuietTactic
import Derived.BigQuiet
import Derived.Deep.AppendLies
import Derived.Deep.RegionLaw
namespace Go.Proofs.YtdmceapbobkklaaDoor.Rg
open Go.RowKit

/-- the pile: a box that holds a slice of ranges that the call owns -/
structure Pile (B pb : Nat) (v : Value) (xs : List R) (w : World) : Prop where
  base : B ≤ pb
  box : w.heap[pb]? = some (.cells #[v] 92 (0, 0))
  row : w.ownsRow B 75 2 v xs.length (flatR xs)
/-- nothing that stood has changed but the box and the row -/
structure Fr (pb : Nat) (row : Option Nat) (w w' : World) : Prop where
  os : w'.os = w.os
  tape : w'.tape = w.tape
  output : w'.output = w.output
  size : w.heap.size ≤ w'.heap.size
  block : ∀ k, k < w.heap.size → k ≠ pb → some k ≠ row → w'.heap[k]? = w.heap[k]?

theorem Fr.refl (pb : Nat) (row : Option Nat) (w : World) : Fr pb row w w := ⟨rfl, rfl, rfl, Nat.le_refl _, fun _ _ _ _ => rfl⟩
theorem Fr.trans {pb : Nat} {row : Option Nat} {a b c : World} (h : Fr pb row a b) (k : Fr pb row b c) : Fr pb row a c :=
  ⟨k.os.trans h.os, k.tape.trans h.tape, k.output.trans h.output, Nat.le_trans h.size k.size, fun i hi h1 h2 => (k.block i (Nat.lt_of_lt_of_le hi h.size) h1 h2).trans (h.block i hi h1 h2)⟩
theorem Fr.of_below {pb : Nat} {row : Option Nat} {a b : World} (h : Below a.heap.size a b) : Fr pb row a b := ⟨h.os, h.tape, h.output, h.size, fun k hk _ _ => h.block k hk⟩
theorem Fr.of_grown {pb : Nat} {row : Option Nat} {a b : World} (h : a.grownBy b row) : Fr pb row a b := ⟨h.os, h.tape, h.output, h.size, fun k hk _ h2 => h.block k hk h2⟩
theorem below_drewN (w : World) (k : Nat) : Below w.heap.size w (w.drewN k) := ⟨rfl, rfl, rfl, Nat.le_refl _, fun _ _ => rfl⟩
theorem Pile.lt {B pb : Nat} {v : Value} {xs : List R} {w : World} (h : Pile B pb v xs w) : pb < w.heap.size := (Array.getElem?_eq_some_iff.1 h.box).1
theorem Pile.cell {B pb : Nat} {v : Value} {xs : List R} {w : World} (h : Pile B pb v xs w) : w.cell? ⟨pb, 0, none⟩ = some v := by simp [World.cell?, h.box]
theorem Pile.frozen {B pb : Nat} {v : Value} {xs : List R} {w : World} (h : Pile B pb v xs w) : w.frozen? ⟨pb, 0, none⟩ = false := frozen_of_row w pb 0 _ _ h.box
theorem Pile.ne {B pb : Nat} {v : Value} {xs : List R} {w : World} (h : Pile B pb v xs w) : some pb ≠ v.ownBlock := by
  rcases h.row.2 with ⟨rfl, _⟩ | ⟨g, cap, cur, rfl, _, hg, _⟩
  · simp [Value.ownBlock]
  · intro e
    obtain rfl : pb = g := by simpa [Value.ownBlock] using e
    rw [h.box] at hg
    simp at hg
theorem Pile.next {B pb : Nat} {v : Value} {xs : List R} {w w' : World} (h : Pile B pb v xs w) (hb : Below w.heap.size w w') : Pile B pb v xs w' :=
  ⟨h.base, (hb.block _ h.lt).trans h.box, rowR_next h.row hb⟩
theorem Pile.rngs {B pb : Nat} {v : Value} {xs : List R} {w : World} (h : Pile B pb v xs w) : RngsAt w v xs := rngs_of_row h.row
theorem Pile.below {B pb : Nat} {v : Value} {xs : List R} {w w' : World} (h : Pile B pb v xs w) (hf : Fr pb v.ownBlock w w') : Below B w w' := by
  have := h.lt
  have hb := h.base
  refine ⟨hf.os, hf.tape, hf.output, hf.size, fun k hk => hf.block k (by omega) (by omega) fun e => ?_⟩
  have := (h.row.lt k e.symm).1
  omega
/-- another row of the call's own stands -/
theorem Fr.row {pb : Nat} {row : Option Nat} {w w' : World} (h : Fr pb row w w') {B : Nat} {e : TypeId} {s : Nat} {v : Value} {n : Nat} {xs : List Value} (hr : w.ownsRow B e s v n xs) (h1 : pb < B) (h2 : ∀ g, row = some g → g < B) : w'.ownsRow B e s v n xs := by
  refine ⟨hr.1, ?_⟩
  rcases hr.2 with hn | ⟨g, cap, cur, rfl, hb, hgg, rest⟩
  · exact .inl hn
  · refine .inr ⟨g, cap, cur, rfl, hb, ?_, rest⟩
    rw [h.block g (Array.getElem?_eq_some_iff.1 hgg).1 (by omega) (fun e => by have := h2 g e.symm; omega)]
    exact hgg

theorem flatR_set : ∀ (l : List R) (i : Nat) (a b : Int), ((flatR l).set (i * 2) (.int .i64 a)).set (i * 2 + 1) (.int .i64 b) = flatR (l.set i (a, b))
  | [], i, a, b => by simp [flatR]
  | p :: r, 0, a, b => by simp [flatR]
  | p :: r, i + 1, a, b => by
    have := flatR_set r i a b
    rw [show (i + 1) * 2 = (i * 2) + 1 + 1 by omega]
    simp only [flatR, List.flatMap_cons, List.cons_append, List.nil_append, List.set_cons_succ] at this ⊢
    rw [this]
/-- a range of a row that the call owns, stored anew -/
theorem rowR_store {W : World} {B g cap n : Nat} {l : List R} (h : W.ownsRow B 75 2 (.slice (some ⟨g, 0, none⟩) n cap) n (flatR l)) (i : Nat) (a b : Int) :
    ((W.setCell ⟨g, i * 2, none⟩ (.int .i64 a)).setCell ⟨g, i * 2 + 1, none⟩ (.int .i64 b)).ownsRow B 75 2 (.slice (some ⟨g, 0, none⟩) n cap) n (flatR (l.set i (a, b))) ∧
    W.grownBy ((W.setCell ⟨g, i * 2, none⟩ (.int .i64 a)).setCell ⟨g, i * 2 + 1, none⟩ (.int .i64 b)) (some g) := by
  have h1 := h.stored (i * 2) (.int .i64 a)
  have h2 := h1.1.stored (i * 2 + 1) (.int .i64 b)
  rw [flatR_set] at h2
  exact ⟨h2.1, h1.2.trans h2.2⟩
theorem grown_drew (w : World) (row : Option Nat) : w.grownBy w.drew row := ⟨rfl, rfl, rfl, Nat.le_refl _, fun _ _ _ => rfl⟩

set_option maxHeartbeats 800000 in
theorem len_any (ao : Option Addr) (n cap : Nat) (w : World) : Calls Tryd.prog 101 #[.slice ao n cap] w fun e w' => e = .returned (.int .i64 n) ∧ w' = w := by
  go_enter Tryd.func101, Tryd.ntmps101
  go_wp2
  go_ret
  exact ⟨rfl, rfl⟩

set_option maxHeartbeats 800000 in
theorem less_any (xs : List R) (v : Value) (i j : Nat) (w : World) (hv : RngsAt w v xs) (hi : i < xs.length) (hj : j < xs.length) :
    Calls Tryd.prog 102 #[v, .int .i64 i, .int .i64 j] w fun e w' => e = .returned (.bool (decide ((nth xs i).1 < (nth xs j).1))) ∧ ∃ q, w' = w.drewN q := by
  obtain ⟨ao, cap, rfl, hm, hcs⟩ := hv.shape
  obtain ⟨g, rfl, c1, c2⟩ := hcs i hi
  obtain ⟨g', hg, d1, d2⟩ := hcs j hj
  simp only [Option.some.injEq] at hg
  subst hg
  clear hcs hv c2 d2
  go_enter Tryd.func102, Tryd.ntmps102
  go_wp2
  go_quiet (fail)
  go_wp2
  go_ret
  exact ⟨rfl, _, rfl⟩

set_option maxHeartbeats 800000 in
theorem swap_any (xs : List R) (g cap B : Nat) (i j : Nat) (w : World) (hv : w.ownsRow B 75 2 (.slice (some ⟨g, 0, none⟩) xs.length cap) xs.length (flatR xs)) (hi : i < xs.length) (hj : j < xs.length) :
    Calls Tryd.prog 103 #[.slice (some ⟨g, 0, none⟩) xs.length cap, .int .i64 i, .int .i64 j] w fun e w' => e = .returned (.tuple #[]) ∧
      w'.ownsRow B 75 2 (.slice (some ⟨g, 0, none⟩) xs.length cap) xs.length (flatR (swapL xs i j)) ∧ w.grownBy w' (some g) := by
  obtain ⟨c1, c2⟩ := flatR_at xs i hi
  obtain ⟨d1, d2⟩ := flatR_at xs j hj
  rw [← hv.cellAt _ (by omega)] at c1 c2 d1 d2
  have fz := hv.frozenAt
  have HV := Lib.hid hv
  have hm : xs.length ≤ 9223372036854775807 := by
    obtain ⟨ao, c, he, hm, _⟩ := (rngs_of_row hv).shape
    exact hm
  obtain ⟨r1, g1⟩ := rowR_store hv i (nth xs j).1 (nth xs j).2
  obtain ⟨r2, g2⟩ := rowR_store r1 j (nth xs i).1 (nth xs i).2
  have HR := Lib.hid r2
  have HG := Lib.hid ((g1.trans g2).trans (grown_drew _ _))
  clear hv r1 g1 r2 g2
  have out : ∀ W : World, W = (((w.setCell ⟨g, i * 2, none⟩ (.int .i64 (nth xs j).1)).setCell ⟨g, i * 2 + 1, none⟩ (.int .i64 (nth xs j).2)).setCell ⟨g, j * 2, none⟩ (.int .i64 (nth xs i).1)).setCell ⟨g, j * 2 + 1, none⟩ (.int .i64 (nth xs i).2) →
      W.drew.ownsRow B 75 2 (.slice (some ⟨g, 0, none⟩) xs.length cap) xs.length (flatR (swapL xs i j)) ∧ w.grownBy W.drew (some g) := fun W hW => by
    subst hW; exact ⟨HR.out, HG.out⟩
  have OUT := Lib.hid out
  clear out HR HG
  go_enter Tryd.func103, Tryd.ntmps103
  go_wp2
  rcases Nat.lt_trichotomy i j with hij | rfl | hij
  · go_region
    all_goals (go_end0; exact ⟨rfl, OUT.out _ rfl⟩)
  · go_region
    all_goals (go_end0; exact ⟨rfl, OUT.out _ rfl⟩)
  · go_region
    all_goals (go_end0; exact ⟨rfl, OUT.out _ rfl⟩)

theorem assertR (w : World) (x : Value) : Sem.run Tryd.prog (Instr.typeAssert (.iface 75 x) 20 75 false) w = .ok x w := by kernel_rfl

theorem pushed {B pb : Nat} {v : Value} {xs : List R} {r : R} {w w1 : World} {o : Obj} {g cap : Nat} (hp : Pile B pb v xs w)
    (hown : w1.ownsRow B 75 2 (.slice (some ⟨g, 0, none⟩) (xs.length + 1) cap) (xs.length + 1) (flatR xs ++ [.int .i64 r.1, .int .i64 r.2])) (hg : (w.alloc o).drew.grownBy w1 v.ownBlock) :
    w1.cell? ⟨pb, 0, none⟩ = some v ∧ w1.frozen? ⟨pb, 0, none⟩ = false ∧ Pile B pb (.slice (some ⟨g, 0, none⟩) (xs.length + 1) cap) (xs ++ [r]) (w1.setCell ⟨pb, 0, none⟩ (.slice (some ⟨g, 0, none⟩) (xs.length + 1) cap)) ∧
      Below B w (w1.setCell ⟨pb, 0, none⟩ (.slice (some ⟨g, 0, none⟩) (xs.length + 1) cap)) := by
  have hlt := hp.lt
  have hbx : w1.heap[pb]? = some (.cells #[v] 92 (0, 0)) := by
    rw [hg.block pb (by simp; omega) hp.ne]
    exact ((World.grownBy_alloc w o none).block pb hlt (by simp)).trans hp.box
  have hne : pb ≠ g := by
    rintro rfl
    rcases hown.2 with ⟨h, _⟩ | ⟨g', cap', cur, h, _, hgg, _⟩
    · simp at h
    · simp at h
      rw [← h.1, hbx] at hgg
      simp at hgg
  have hset : w1.grownBy (w1.setCell ⟨pb, 0, none⟩ (.slice (some ⟨g, 0, none⟩) (xs.length + 1) cap)) (some pb) := ⟨rfl, rfl, rfl, by simp, fun k _ hk => heap_setCell_other w1 ⟨pb, 0, none⟩ k _ (fun e => hk (by simp [e]))⟩
  refine ⟨by simp [World.cell?, hbx], frozen_of_row w1 pb 0 _ _ hbx, ⟨hp.base, ?_, ?_⟩, ?_⟩
  · have := heap_setCell_same w1 pb 0 #[v] 92 (.slice (some ⟨g, 0, none⟩) (xs.length + 1) cap) hbx
    simpa using this
  · rw [flatR_snoc, List.length_append, List.length_cons, List.length_nil]
    exact hown.kept hset (.inr (by simp [Value.ownBlock]; exact fun h => hne h.symm))
  · have b1 : Below B w w1 := by
      refine ⟨hg.os, hg.tape, hg.output, Nat.le_trans (by simp) hg.size, fun k hk => ?_⟩
      have hkw : k < w.heap.size := Nat.lt_of_lt_of_le hk (Nat.le_trans hp.base (Nat.le_of_lt hlt))
      rw [hg.block k (by simp; omega) (fun e => by have := (hp.row.lt k e.symm).1; omega)]
      exact (World.grownBy_alloc w o none).block k hkw (by simp)
    exact b1.setCell (p := ⟨pb, 0, none⟩) hp.base _

set_option maxHeartbeats 800000 in
theorem push_any (B pb : Nat) (v : Value) (xs : List R) (r : R) (w : World) (hp : Pile B pb v xs w) (hn : xs.length ≤ 1000000) :
    Calls Tryd.prog 105 #[.pointer (some ⟨pb, 0, none⟩), .iface 75 (.agg #[.int .i64 r.1, .int .i64 r.2])] w fun e w' => e = .returned (.tuple #[]) ∧ ∃ v', Pile B pb v' (xs ++ [r]) w' ∧ Below B w w' := by
  obtain ⟨i0, hi, hz0, hz1, hz2⟩ := info_parts infoR
  have c1 := hp.cell
  have f1 := hp.frozen
  have hlt := hp.lt
  have HP := Lib.hid hp
  clear hp
  have ta := assertR
  go_enter Tryd.func105, Tryd.ntmps105
  go_wp2
  go_region_law (refine step_append_lies _ rfl (.tmp 7) (.tmp 10) 92 rfl B 75 i0 (.agg #[.int .i64 0, .int .i64 0]) 2 16 Tryd.underlying92 hi hz0 hz1 hz2 rfl (by decide) v xs.length (flatR xs) rfl (HP.out.row.alloc _) ⟨w.heap.size, 0, none⟩ 1 1 [.int .i64 r.1, .int .i64 r.2] rfl rfl (World.news_of_block (heap_alloc_new _ _)) (by simp [Value.oneCell']) (by decide) (by unfold maxLen; omega) (by omega) (by simp; have := HP.out.base; omega) _ rfl ?_; intro g cap w1 hown hgrow _ _; obtain ⟨k1, k2, k3, k4⟩ := pushed HP.out hown hgrow; have K3 := Lib.hid k3; have K4 := Lib.hid k4; clear k3 k4 hown hgrow)
  all_goals (go_end0; exact ⟨rfl, _, K3.out, K4.out⟩)

theorem set_grown (w : World) (pb : Nat) (v : Value) : w.grownBy (w.setCell ⟨pb, 0, none⟩ v) (some pb) := ⟨rfl, rfl, rfl, by simp, fun k _ hk => heap_setCell_other w ⟨pb, 0, none⟩ k _ (fun e => hk (by simp [e]))⟩
/-- the box set to another value that the call owns -/
theorem Pile.set {B pb : Nat} {v v' : Value} {xs ys : List R} {w : World} (hp : Pile B pb v xs w) (hr : w.ownsRow B 75 2 v' ys.length (flatR ys)) (hb : v'.ownBlock = v.ownBlock) (row : Option Nat) (o : Obj) :
    Pile B pb v' ys ((w.setCell ⟨pb, 0, none⟩ v').alloc o) ∧ Fr pb row w ((w.setCell ⟨pb, 0, none⟩ v').alloc o) := by
  have hg := set_grown w pb v'
  have hp2 : Pile B pb v' ys (w.setCell ⟨pb, 0, none⟩ v') := by
    refine ⟨hp.base, ?_, hr.kept hg ?_⟩
    · have := heap_setCell_same w pb 0 #[v] 92 v' hp.box
      simpa using this
    · exact .inr (by rw [hb]; exact Ne.symm hp.ne)
  have hb2 : Below (w.setCell ⟨pb, 0, none⟩ v').heap.size (w.setCell ⟨pb, 0, none⟩ v') ((w.setCell ⟨pb, 0, none⟩ v').alloc o) := (Below.refl _ _).alloc (Nat.le_refl _) _
  refine ⟨hp2.next hb2, Fr.trans ⟨hg.os, hg.tape, hg.output, hg.size, fun k hk h1 _ => hg.block k hk (by simpa using h1)⟩ (Fr.of_below hb2)⟩

theorem rowR_shrink {W : World} {B g cap : Nat} {ys : List R} {r : R} (h : W.ownsRow B 75 2 (.slice (some ⟨g, 0, none⟩) (ys ++ [r]).length cap) (ys ++ [r]).length (flatR (ys ++ [r]))) :
    W.ownsRow B 75 2 (.slice (some ⟨g, 0, none⟩) ys.length cap) ys.length (flatR ys) := by
  refine ⟨by rw [flatR_len], ?_⟩
  rcases h.2 with ⟨h', _⟩ | ⟨g', cap', cur, h', hb, hg, hn, hm, hcs, ht⟩
  · simp at h'
  · simp only [Value.slice.injEq, Option.some.injEq, Addr.mk.injEq, and_true, true_and] at h'
    obtain ⟨rfl, rfl⟩ := h'
    refine .inr ⟨g, cap, cur, rfl, hb, hg, by simp at hn; omega, hm, hcs, ?_⟩
    have hk := congrArg (List.take (ys.length * 2)) ht
    rw [List.take_take, flatR_append, ← flatR_len ys, List.take_left, flatR_len] at hk
    rwa [Nat.min_eq_left (by simp; omega)] at hk

set_option maxHeartbeats 800000 in
theorem pop_any (B pb g cap : Nat) (ys : List R) (r : R) (w : World) (hp : Pile B pb (.slice (some ⟨g, 0, none⟩) (ys ++ [r]).length cap) (ys ++ [r]) w) :
    Calls Tryd.prog 104 #[.pointer (some ⟨pb, 0, none⟩)] w fun e w' => e = .returned (.iface 75 (.agg #[.int .i64 r.1, .int .i64 r.2])) ∧ Pile B pb (.slice (some ⟨g, 0, none⟩) ys.length cap) ys w' ∧ Fr pb (some g) w w' := by
  have c1 := hp.cell
  have f1 := hp.frozen
  have hlt := hp.lt
  obtain ⟨d1, d2⟩ := flatR_at (ys ++ [r]) ys.length (by simp)
  rw [nth_last] at d1 d2
  rw [← hp.row.cellAt _ (by simp)] at d1
  rw [← hp.row.cellAt _ (by simp; omega)] at d2
  obtain ⟨ao, cc, he, hm, _⟩ := (rngs_of_row hp.row).shape
  have hcap : ys.length ≤ cap := by
    rcases (rowR_shrink hp.row).2 with ⟨h', _⟩ | ⟨g', cap', cur, h', hb, hg, hn, _⟩
    · simp at h'
    · simp at h'; omega
  simp only [List.length_append, List.length_cons, List.length_nil, Nat.zero_add] at hm
  have HP := Lib.hid hp
  rw [show (ys ++ [r]).length = ys.length + 1 by simp] at c1
  clear hp he
  rw [show (ys ++ [r]).length = ys.length + 1 by simp] at HP
  go_enter Tryd.func104, Tryd.ntmps104
  go_wp2
  go_ret
  have h := HP.out.set (ys := ys) (v' := .slice (some ⟨g, 0, none⟩) ys.length cap) (rowR_shrink (by rw [show (ys ++ [r]).length = ys.length + 1 by simp]; have := HP.out.row; rwa [show (ys ++ [r]).length = ys.length + 1 by simp] at this)) rfl (some g)
  exact ⟨rfl, h _⟩

end Go.Proofs.YtdmceapbobkklaaDoor.Rg

/- What a call may turn besides what it makes: one box; two results out of boxes; the table of steps; the reader's next word. -/
import Derived.Test.YtleejfkononjgaaDoorAcNum
import Derived.Test.YtleejfkononjgaaDoorWdNx
import Derived.Test.YtleejfkononjgaaDoorShelf
import Derived.Laws.Rows
import Derived.Deep.RegionHeld3
import Derived.Deep.SlicePairs
import Derived.Deep.DeepMust
import Derived.Laws.ResultCell
import Derived.Deep.DeepCutAuto
import Derived.Deep.CutBlock
namespace Go.Proofs.YtleejfkononjgaaDoor.Ac
open Go Go.RowKit Go.Shelf Go.Proofs.YtleejfkononjgaaDoor.Wd

/-- nothing that stood has changed but block A -/
structure Nx (A : Nat) (w w' : World) : Prop where
  below : Below A w w'
  old : ∀ b, b < w.heap.size → b ≠ A → w'.heap[b]? = w.heap[b]?
theorem Nx.refl (A : Nat) (w : World) : Nx A w w := ⟨Below.refl _ _, fun _ _ _ => rfl⟩
theorem Nx.size {A : Nat} {w w' : World} (h : Nx A w w') : w.heap.size ≤ w'.heap.size := h.below.size
theorem Nx.trans {A : Nat} {a b c : World} (h : Nx A a b) (k : Nx A b c) : Nx A a c :=
  ⟨h.below.trans k.below, fun i hi hne => (k.old i (Nat.lt_of_lt_of_le hi h.size) hne).trans (h.old i hi hne)⟩
theorem Nx.of_below {A : Nat} {w w' : World} (h : Below w.heap.size w w') (hA : A ≤ w.heap.size) : Nx A w w' := ⟨h.mono hA, fun b hb _ => h.block b hb⟩
theorem Nx.set {A : Nat} (w : World) (o : Nat) (v : Value) : Nx A w (w.setCell ⟨A, o, none⟩ v) :=
  ⟨(Below.refl A w).setCell (p := ⟨A, o, none⟩) (Nat.le_refl _) v, fun _ _ hne => Below.heap_setCell _ _ _ _ (fun e => hne e)⟩
theorem Nx.put {A n : Nat} {w w' : World} (h : Nx A w w') (hn : w.heap.size ≤ n) (hA : A ≤ n) (o : Nat) (v : Value) : Nx A w (w'.setCell ⟨n, o, none⟩ v) :=
  ⟨h.below.setCell (p := ⟨n, o, none⟩) hA v, fun b hb hne => (Below.heap_setCell w' ⟨n, o, none⟩ v b (fun e => by simp at e; omega)).trans (h.old b hb hne)⟩
theorem Nx.alloc {A : Nat} {w w' : World} (h : Nx A w w') (hA : A ≤ w.heap.size) (o : Obj) : Nx A w (w'.alloc o) := h.trans (Nx.of_below ((Below.refl _ w').alloc (Nat.le_refl _) o) (Nat.le_trans hA h.size))
theorem Nx.box {A b : Nat} {w w' : World} {o : Obj} (h : Nx A w w') (hb : w.heap[b]? = some o) (hne : b ≠ A) : w'.heap[b]? = some o :=
  (h.old b (Array.getElem?_eq_some_iff.1 hb).1 hne).trans hb
theorem Nx.cell {A b : Nat} {i : Nat} {w w' : World} {v : Value} (h : Nx A w w') (hb : w.cell? ⟨b, i, none⟩ = some v) (hne : b ≠ A) : w'.cell? ⟨b, i, none⟩ = some v := by
  have hlt : b < w.heap.size := cell_lt (a := ⟨b, i, none⟩) hb
  unfold World.cell? at *
  rw [h.old b hlt hne]
  exact hb

/-- two results, both out of boxes -/
theorem results_rows {P : Program} {fn : Func} {p u : Tmp} {ty uy : TypeId} (h : fn.results = #[.cell p ty, .cell u uy]) (tmps : Array Value) (w : World) (g : Nat) (t : TypeId) (cs : Array Value) (fr : Nat × Nat) (d : TypeDesc)
    (hp : tmps.getD p undef = .pointer (some ⟨g, 0, none⟩)) (hg : w.heap[g]? = some (.cells cs t fr))
    (hu : P.underlying ty = some d) (hd : (match d with | .struct _ | .array _ _ => true | _ => false) = true) (hi : (P.info? ty).map (·.size) = some cs.size)
    (g' : Nat) (t' : TypeId) (cs' : Array Value) (fr' : Nat × Nat) (d' : TypeDesc)
    (hp' : tmps.getD u undef = .pointer (some ⟨g', 0, none⟩)) (hg' : w.heap[g']? = some (.cells cs' t' fr'))
    (hu' : P.underlying uy = some d') (hd' : (match d' with | .struct _ | .array _ _ => true | _ => false) = true) (hi' : (P.info? uy).map (·.size) = some cs'.size) :
    (results fn tmps).run P w = .ok (.tuple #[.agg cs, .agg cs']) w := by
  have hq : tmps[p]?.getD undef = .pointer (some ⟨g, 0, none⟩) := by simpa using hp
  have hq' : tmps[u]?.getD undef = .pointer (some ⟨g', 0, none⟩) := by simpa using hp'
  simp [results, h, hq, hq', asAddr, run_loadVar_row w g t ty cs fr d hg hu hd hi, run_loadVar_row w g' t' uy cs' fr' d' hg' hu' hd' hi']

/-- a box of two cells, of three -/
theorem set_two {w : World} {b : Nat} {x y : Value} {t : TypeId} (h : w.heap[b]? = some (.cells #[x, y] t (0, 0))) (z : Value) :
    (w.setCell ⟨b, 0, none⟩ z).heap[b]? = some (.cells #[z, y] t (0, 0)) ∧ (w.setCell ⟨b, 1, none⟩ z).heap[b]? = some (.cells #[x, z] t (0, 0)) := by
  refine ⟨?_, ?_⟩
  · rw [heap_setCell_same w b 0 _ t z h]; rfl
  · rw [heap_setCell_same w b 1 _ t z h]; rfl
theorem cells_two {w : World} {b : Nat} {x y : Value} {t : TypeId} (h : w.heap[b]? = some (.cells #[x, y] t (0, 0))) : w.cell? ⟨b, 0, none⟩ = some x ∧ w.cell? ⟨b, 1, none⟩ = some y := by
  unfold World.cell?; simp [h]

theorem set_cell {X : World} {k o : Nat} {b : Addr} {u v : Value} (h : X.cell? b = some v) (hn : b.block ≠ k) : (X.setCell ⟨k, o, none⟩ u).cell? b = some v := by
  unfold World.cell? at *
  rw [Below.heap_setCell _ _ _ _ hn]
  exact h

/-- the table of steps -/
def stp : List (Int × ByteArray × Int) := [(1, bSkip, 3), (1, bEmit, 2), (2, bE, 3), (3, bGoto, 4), (4, bE, 5)]
def stpCells : List Value := stp.flatMap fun r => [.int .i64 r.1, .string r.2.1, .int .i64 r.2.2]
def Tab (w : World) : Prop := w.rangeAt 0 0 stpCells
theorem Tab.next {w w' : World} (h : Tab w) (hb : Below w.heap.size w w') : Tab w' := fun j v hj => cell_next (h j v hj) hb
def nthS (k : Nat) : Int × ByteArray × Int := stp.getD k (0, bE, 0)
theorem index_stp (k : Nat) (hk : k < 5) (w : World) : (Instr.index 69 (.agg stpCells.toArray) (.int .i64 (k : Nat))).run Tryd.prog w = .ok (.agg #[.int .i64 (nthS k).1, .string (nthS k).2.1, .int .i64 (nthS k).2.2]) w := by
  obtain rfl | rfl | rfl | rfl | rfl : k = 0 ∨ k = 1 ∨ k = 2 ∨ k = 3 ∨ k = 4 := by omega
  all_goals kernel_rfl

set_option maxRecDepth 100000 in
set_option maxHeartbeats 1600000 in
theorem next_m (R : Nat) (s : ByteArray) (K a b : Nat) (w : World) (hs : s.size ≤ 1000000) (hK : K ≤ s.size) (hbx : w.heap[R]? = some (.cells #[.string s, .int .i64 (K : Nat)] 37 (0, 0))) (hn : nextL s.data.toList K = (a, b)) (hab : a ≤ b) (hbs : b ≤ s.size) :
    Calls Tryd.prog 14 #[.pointer (some ⟨R, 0, none⟩)] w fun e w' => e = .returned (.agg #[.string (s.extract a b), .int .i64 (a : Nat)]) ∧ w'.heap[R]? = some (.cells #[.string s, .int .i64 (b : Nat)] 37 (0, 0)) ∧ Nx R w w' := by
  have hlt := (Array.getElem?_eq_some_iff.1 hbx).1
  have C := Lib.hid (fun W => next_any s hs (K : Nat) W)
  have hcl : cl (K : Nat) s.size = K := by unfold cl; omega
  rw [hcl] at C
  unfold vNext at C
  rw [hn] at C
  clear hcl hn
  have BX := Lib.hid hbx
  obtain ⟨c0, c1⟩ := cells_two hbx
  have KP := Lib.hid (fun (W : World) (h : Below w.heap.size w W) => And.intro (cell_next c0 h) (cell_next c1 h))
  clear hbx
  go_enter Tryd.func14, Tryd.ntmps14
  go_wp2
  have hb1 := (Below.refl w.heap.size w).alloc (Nat.le_refl _) (.cells #[.string ⟨#[]⟩, .int .i64 0] 48)
  have hr1 := World.alloc_heap_new w (.cells #[.string ⟨#[]⟩, .int .i64 0] 48)
  have hz1 : (w.alloc (.cells #[.string ⟨#[]⟩, .int .i64 0] 48)).heap.size = w.heap.size + 1 := by simp
  generalize w.alloc (.cells #[.string ⟨#[]⟩, .int .i64 0] 48) = w1 at *
  have k1 := KP.out w1 hb1
  have B1 := Lib.hid hb1
  have H1 := Lib.hid hr1
  clear hb1 hr1 KP
  go_region_held3 (fun W => W.cell? ⟨R, 0, none⟩ = some (.string s) ∧ W.cell? ⟨R, 1, none⟩ = some (.int .i64 (K : Nat))) (first | exact k2 | exact k1)
    (first
      | (go_at_call 23; ((with_reducible refine (C.out _).mono ?_); rintro e w2 ⟨rfl, hb⟩); go_must (have hz2 : w1.heap.size ≤ w2.heap.size := hb.size; have hb2 : Below w.heap.size w w2 := B1.out.drew.trans (hb.mono B1.out.size); have hw := (hb.block w.heap.size (by simp; omega)).trans H1.out; have k2 := And.intro (cell_next c0 hb2) (cell_next c1 hb2); clear hb))
      | fail)
  clear k1 H1 hz1 C
  have hz3 : w.heap.size < w2.heap.size := (Array.getElem?_eq_some_iff.1 hw).1
  obtain ⟨d0, d1⟩ := k2
  have hR2 : R < w2.heap.size := by omega
  have BR := Lib.hid ((hb2.block R hlt).trans BX.out)
  have NE : R ≠ w.heap.size := by omega
  have N1 := Lib.hid ((Nx.of_below (A := R) hb2 (by omega)).trans (Nx.set w2 1 (.int .i64 (b : Nat))))
  have HW := Lib.hid hw
  clear hb2 hz2 hw
  have f1 := frozen_of_row w2 R 1 _ _ BR.out
  go_upto_region 3 with fail
  clear f1
  have BR3 := Lib.hid (set_two BR.out (.int .i64 (b : Nat))).2
  have HW3 := Lib.hid ((Below.heap_setCell w2 ⟨R, 1, none⟩ (.int .i64 (b : Nat)) w.heap.size NE.symm).trans HW.out)
  clear BR HW d0 d1
  generalize w2.setCell ⟨R, 1, none⟩ (.int .i64 (b : Nat)) = w3 at *
  obtain ⟨d0, d1⟩ := cells_two BR3.out
  obtain ⟨e0, e1⟩ := cells_two HW3.out
  have hz4 := (Array.getElem?_eq_some_iff.1 HW3.out).1
  have f2 := frozen_of_row w3 w.heap.size 0 _ _ HW3.out
  have f3 := frozen_of_row w3 w.heap.size 1 _ _ HW3.out
  have ha0 : (0 : Int) ≤ a := by omega
  have hab' : (a : Int) ≤ b := by omega
  have hbs' : (b : Int) ≤ s.size := by omega
  have L1 := Lib.hid (fun (x y : Value) => (set_two (set_two HW3.out x).1 y).2)
  have L2 := Lib.hid (fun (x y : Value) => (N1.out.put (n := w.heap.size) (Nat.le_refl _) (by omega) 0 x).put (n := w.heap.size) (Nat.le_refl _) (by omega) 1 y)
  have L3 := Lib.hid (fun (x y : Value) => ((Below.heap_setCell (w3.setCell ⟨w.heap.size, 0, none⟩ x) ⟨w.heap.size, 1, none⟩ y R NE).trans (Below.heap_setCell w3 ⟨w.heap.size, 0, none⟩ x R NE)).trans BR3.out)
  go_wp2
  (try simp only [Exit.inBlock, Exit.then])
  refine bodyPost_ret (results_cell_row rfl _ _ w.heap.size 48 #[.string (s.extract a b), .int .i64 (a : Nat)] (0, 0) _ rfl (L1.out _ _) Tryd.underlying48 rfl (by kernel_rfl)) rfl ?_
  exact ⟨rfl, L3.out _ _, L2.out _ _⟩

end Go.Proofs.YtleejfkononjgaaDoor.Ac

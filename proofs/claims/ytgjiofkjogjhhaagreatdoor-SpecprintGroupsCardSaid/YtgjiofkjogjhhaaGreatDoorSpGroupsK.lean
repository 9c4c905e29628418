/- What every card with an argument in memory wants. A slice of numbers among a row's arguments: what it gives to a walk. A spec that grows: its modes, then its rules. The law of specprint's Grouped, walked. What a row's numbers and listed variables give to the walk of SpecprintGroups. -/
import Derived.Test.YtgjiofkjogjhhaaGreatDoorChecked
import Derived.Carry
import Derived.Test.YtgjiofkjogjhhaaGreatDoorPk01
import Derived.ChangeSlices
import Derived.WideShapes
import Derived.OpenShut
import Derived.Test.YtgjiofkjogjhhaaGreatDoorPk04
import Derived.Test.YtgjiofkjogjhhaaGreatDoorPk16
import Derived.Test.YtgjiofkjogjhhaaGreatDoorPk19
import Derived.Deep.AppendLies
import Derived.BigQuiet
import Derived.RegionTactic
import Derived.BigRegion
import Derived.Test.YtgjiofkjogjhhaaGreatDoorPk20

namespace Go.Proofs.YtgjiofkjogjhhaaGreatDoor
open Go.RowKit
theorem laidOut : laidOutB Tryz.prog = true := by kernel_rfl
end Go.Proofs.YtgjiofkjogjhhaaGreatDoor

namespace Go.Proofs.YtgjiofkjogjhhaaGreatDoor
open Go.RowKit Go.ChangeShapes Go.WideShapes

theorem cellsInt : Tryz.prog.cellsOf 3 = 1 := by kernel_rfl
theorem wf_i64 {x : Int} (h : (Lit.int .i64 x).wf = true) : -9223372036854775808 ≤ x ∧ x ≤ 9223372036854775807 := bounds_i64 h

set_option maxRecDepth 100000 in
theorem ints_of_trod {H : Type} {enc : TypeId × Value → H} {W : World} {v : Value} {d : DataW H} {ps : List MemPlace} {base b2 : Nat} (ho : Value.okWide Tryz.prog W .any b2 32 v)
    (h : DataW.Trod enc Tryz.prog W base (fun _ => true) true 32 v d ps) : ∃ l : List Int, IntsAt W v l ∧ ∀ x ∈ l, -9223372036854775808 ≤ x ∧ x ≤ 9223372036854775807 := by
  obtain ⟨a0, len, cap, rfl⟩ := okWide_slice Tryz.underlying32 ho
  obtain ⟨fuel, hf⟩ := h
  rcases open_ints Tryz.underlying32 Tryz.underlying3 cellsInt hf with ⟨hcs, hx⟩ | ⟨a, len', cap', zs, hcs, _, hl, hm, hz, hx, hcell, hw⟩
  · refine ⟨[], .inl ⟨?_, rfl⟩, by simp⟩
    simpa [Value.cells] using hcs
  · have hv : Value.slice a0 len cap = .slice (some a) len' cap' := by simpa [Value.cells] using hcs
    have hzl : zs.length = cap' := by simpa using hz
    have hll : (zs.take len').length = len' := by rw [List.length_take]; omega
    refine ⟨zs.take len', .inr ⟨a, cap', by rw [hv, hll], by omega, fun i hi => ?_⟩, fun x hx => wf_i64 (hw x (List.mem_of_mem_take hx))⟩
    rw [hcell i (by omega)]
    rw [hll] at hi
    simp [List.getD, hi]

end Go.Proofs.YtgjiofkjogjhhaaGreatDoor

namespace Go.Proofs.YtgjiofkjogjhhaaGreatDoor.Sp
open Go Go.RowKit Go.Shelf
open Go.Proofs.YtgjiofkjogjhhaaGreatDoor.Ar (Nd nd Tr TreeAt)
open Go.Proofs.YtgjiofkjogjhhaaGreatDoor.Rg (add_zero)
open Go.Proofs.YtgjiofkjogjhhaaGreatDoor.Ac (bE)

def bA : ByteArray := ⟨#[97]⟩
/-- the rules of these modes, numbered -/
def rG (l : List Int) (k : Nat) : Rl := ⟨l.getD k 0, ⟨[], [], 0⟩, bE, (k : Int)⟩
def lG (l : List Int) (n : Nat) : List Rl := (List.range n).map (rG l)
theorem lG_len (l : List Int) (n : Nat) : (lG l n).length = n := by simp [lG]
theorem lG_at {l : List Int} {n k : Nat} (h : k < n) : rl (lG l n) k = rG l k := by simp [rl, lG, List.getD, h]
def cellsG (x : Int) (k : Nat) : List Value := [.int .i64 x, .slice none 0 0, .slice none 0 0, .int .i64 0, .string bE, .int .i64 (k : Int)]
def flatG (l : List Int) (n : Nat) : List Value := (List.range n).flatMap fun k => cellsG (l.getD k 0) k
theorem flatG_succ (l : List Int) (n : Nat) : flatG l (n + 1) = flatG l n ++ cellsG (l.getD n 0) n := by simp [flatG, List.range_succ]
theorem flatG_len (l : List Int) : ∀ n, (flatG l n).length = n * 6
  | 0 => rfl
  | n + 1 => by rw [flatG_succ, List.length_append, flatG_len l n]; simp [cellsG]; omega
theorem flatG_at (l : List Int) {k : Nat} {c : Nat} (hc : c < 6) : ∀ {n : Nat}, k < n → (flatG l n)[k * 6 + c]? = (cellsG (l.getD k 0) k)[c]?
  | 0, h => by omega
  | n + 1, h => by
    rw [flatG_succ]
    rcases Nat.lt_or_ge k n with h' | h'
    · rw [List.getElem?_append_left (by rw [flatG_len]; omega)]
      exact flatG_at l hc h'
    · obtain rfl : k = n := by omega
      rw [List.getElem?_append_right (by rw [flatG_len]; omega), flatG_len]
      congr 1; omega
theorem own_apart {w : World} {B B' : Nat} {e e' : TypeId} {s s' n n' : Nat} {v v' : Value} {xs xs' : List Value} (h : w.ownsRow B e s v n xs) (h' : w.ownsRow B' e' s' v' n' xs') (hne : e ≠ e') : v.ownBlock = none ∨ v.ownBlock ≠ v'.ownBlock := by
  rcases h.2 with ⟨rfl, _⟩ | ⟨g, cap, cur, rfl, _, hg, _⟩
  · exact .inl rfl
  · rcases h'.2 with ⟨rfl, _⟩ | ⟨g', cap', cur', rfl, _, hg', _⟩
    · right; simp [Value.ownBlock]
    · right
      intro e1
      simp only [Value.ownBlock, Option.some.injEq] at e1
      subst e1
      rw [hg] at hg'
      simp only [Option.some.injEq, Obj.cells.injEq] at hg'
      exact hne hg'.2.1
theorem own_base {w : World} {B : Nat} {e : TypeId} {s n : Nat} {v : Value} {xs : List Value} (h : w.ownsRow B e s v n xs) (k : Nat) (hk : v.ownBlock = some k) : B ≤ k := (h.lt k hk).1
theorem own_set {w : World} {B S o : Nat} {e : TypeId} {s n : Nat} {v x : Value} {xs : List Value} (h : w.ownsRow B e s v n xs) (hS : S < B) : (w.setCell ⟨S, o, none⟩ x).ownsRow B e s v n xs :=
  h.kept (grown_set w ⟨S, o, none⟩ x) (by
    rcases own_block h with e1 | ⟨g, e1, hb, _⟩
    · exact .inl e1
    · right; rw [e1]; intro e2; simp at e2; omega)
/-- the spec's box while it grows -/
structure GB (w : World) (S m k : Nat) (l : List Int) (vm vr : Value) (wr : World) : Prop where
  box : wr.heap[S]? = some (.cells #[vm, vr] 25 (0, 0))
  mods : wr.ownsRow (S + 1) 9 1 vm m (List.replicate m (.string bA))
  rules : wr.ownsRow (S + 1) 40 6 vr k (flatG l k)
  below : Below S w wr
section
variable {w wo w5 : World} {S m k : Nat} {l : List Int} {vm vr v5 : Value} {o : Obj}
theorem GB.lt (h : GB w S m k l vm vr wo) : S < wo.heap.size := (Array.getElem?_eq_some_iff.1 h.box).1
theorem GB.cells (h : GB w S m k l vm vr wo) : wo.cell? ⟨S, 0, none⟩ = some vm ∧ wo.cell? ⟨S, 1, none⟩ = some vr := by
  constructor <;> (rw [Lib.cell_of_heap h.box]; rfl)
theorem GB.next {X : World} (h : GB w S m k l vm vr wo) (hb : Below wo.heap.size wo X) : GB w S m k l vm vr X :=
  ⟨(hb.block S h.lt).trans h.box, Rg.own_next h.mods hb, Rg.own_next h.rules hb, h.below.trans (hb.mono (Nat.le_of_lt h.lt))⟩
theorem GB.new (w : World) (l : List Int) : GB w w.heap.size 0 0 l (.slice none 0 0) (.slice none 0 0) (w.alloc (.cells #[.slice none 0 0, .slice none 0 0] 25)) :=
  ⟨heap_alloc_new _ _, World.ownsRow_nil _ _ _ _, World.ownsRow_nil _ _ _ _, (Below.refl _ w).alloc (Nat.le_refl _) _⟩
/-- a mode more -/
theorem GB.pushM (h : GB w S m k l vm vr wo) (hown : w5.ownsRow (S + 1) 9 1 v5 (m + 1) (List.replicate m (.string bA) ++ [.string bA])) (hg : (wo.alloc o).grownBy w5 vm.ownBlock) :
    (w5.cell? ⟨S, 0, none⟩ = some vm ∧ w5.frozen? ⟨S, 0, none⟩ = false ∧ S < w5.heap.size) ∧ GB w S (m + 1) k l v5 vr (w5.setCell ⟨S, 0, none⟩ v5) := by
  have hL : w5.heap[S]? = some (.cells #[vm, vr] 25 (0, 0)) := (hg.block S (by have := h.lt; simp; omega) (fun e => by
    have := own_base h.mods S e.symm; omega)).trans ((heap_alloc_old _ _ h.lt).trans h.box)
  have hr : w5.ownsRow (S + 1) 40 6 vr k (flatG l k) := (h.rules.alloc o).kept hg (own_apart h.rules h.mods (by decide))
  refine ⟨⟨by rw [Lib.cell_of_heap hL]; rfl, Lib.frozen_of_heap hL 0, (Array.getElem?_eq_some_iff.1 hL).1⟩, ?_, ?_, own_set hr (by omega), ?_⟩
  · rw [heap_setCell_same w5 S 0 _ _ _ hL]; rfl
  · rw [List.replicate_succ']
    exact own_set hown (by omega)
  · exact ((h.below.alloc (Nat.le_of_lt h.lt) o).grown hg (by have := h.lt; simp; omega) (fun j hj => by have := own_base h.mods j hj; omega)).setCell (p := ⟨S, 0, none⟩) (Nat.le_refl _) _
/-- a rule more -/
theorem GB.pushR (h : GB w S m k l vm vr wo) (hown : w5.ownsRow (S + 1) 40 6 v5 (k + 1) (flatG l k ++ cellsG (l.getD k 0) k)) (hg : (wo.alloc o).grownBy w5 vr.ownBlock) :
    (w5.cell? ⟨S, 1, none⟩ = some vr ∧ w5.frozen? ⟨S, 1, none⟩ = false ∧ S < w5.heap.size) ∧ GB w S m (k + 1) l vm v5 (w5.setCell ⟨S, 1, none⟩ v5) := by
  have hL : w5.heap[S]? = some (.cells #[vm, vr] 25 (0, 0)) := (hg.block S (by have := h.lt; simp; omega) (fun e => by
    have := own_base h.rules S e.symm; omega)).trans ((heap_alloc_old _ _ h.lt).trans h.box)
  have hr : w5.ownsRow (S + 1) 9 1 vm m (List.replicate m (.string bA)) := (h.mods.alloc o).kept hg (own_apart h.mods h.rules (by decide))
  refine ⟨⟨by rw [Lib.cell_of_heap hL]; rfl, Lib.frozen_of_heap hL 1, (Array.getElem?_eq_some_iff.1 hL).1⟩, ?_, own_set hr (by omega), ?_, ?_⟩
  · rw [heap_setCell_same w5 S 1 _ _ _ hL]; rfl
  · rw [flatG_succ]
    exact own_set hown (by omega)
  · exact ((h.below.alloc (Nat.le_of_lt h.lt) o).grown hg (by have := h.lt; simp; omega) (fun j hj => by have := own_base h.rules j hj; omega)).setCell (p := ⟨S, 1, none⟩) (Nat.le_refl _) _
/-- it reads as a spec -/
theorem GB.spec (h : GB w S m k l vm vr wo) (hm : m ≤ 1000) (hk : k ≤ 1000) : SpecAt wo (.agg #[vm, vr]) (List.replicate m bA) (lG l k) := by
  refine ⟨vm, vr, rfl, ?_, ?_, ?_⟩
  · rcases h.mods.2 with ⟨e, e2⟩ | ⟨g, cap, cur, e, _⟩
    · subst e2; exact .inl ⟨e, rfl⟩
    · refine .inr ⟨⟨g, 0, none⟩, cap, by rw [e, List.length_replicate], by rw [List.length_replicate]; unfold maxLen; omega, fun i hi => ?_⟩
      rw [List.length_replicate] at hi
      have := h.mods.cells (g := g) (by rw [e]; rfl) i (.string bA) (by simp [hi])
      rw [this]
      simp [List.getD, hi]
  · rcases h.rules.2 with ⟨e, e2⟩ | ⟨g, cap, cur, e, _⟩
    · subst e2; exact .inl ⟨e, rfl⟩
    · refine .inr ⟨⟨g, 0, none⟩, cap, by rw [e, lG_len], by rw [lG_len]; unfold maxLen; omega, fun i hi => ?_⟩
      rw [lG_len] at hi
      have hc : ∀ c v, c < 6 → (cellsG (l.getD i 0) i)[c]? = some v → wo.cell? ⟨g, i * 6 + c, none⟩ = some v := fun c v hc hv => by
        have := h.rules.cells (g := g) (by rw [e]; rfl) (i * 6 + c) v (by rw [flatG_at l hc hi]; exact hv)
        rwa [add_zero] at this
      rw [lG_at hi, add_zero]
      exact ⟨none, 0, none, 0, hc 0 _ (by omega) rfl, hc 1 _ (by omega) rfl, hc 2 _ (by omega) rfl, hc 3 _ (by omega) rfl, hc 4 _ (by omega) rfl, hc 5 _ (by omega) rfl, ⟨_, _, rfl, .inl ⟨rfl, rfl⟩, .inl ⟨rfl, rfl⟩⟩⟩
  · intro ao n c e
    rcases h.mods.2 with ⟨e1, _⟩ | ⟨g, cap, cur, e1, _, _, hn, _⟩
    · rw [e1] at e; cases e; exact Nat.le_refl _
    · rw [e1] at e; cases e; exact hn
end
end Go.Proofs.YtgjiofkjogjhhaaGreatDoor.Sp

namespace Go.Proofs.YtgjiofkjogjhhaaGreatDoor.Sp
open Go Go.RowKit Go.Shelf
open Go.Proofs.YtgjiofkjogjhhaaGreatDoor.Rg (add_zero)
open Go.Proofs.YtgjiofkjogjhhaaGreatDoor.Ac (bE)

def cntG (l : List Int) (m n : Nat) : Nat := ((List.range n).filter fun k => isM (l.getD k 0) m).length
theorem cntG_le (l : List Int) (m n : Nat) : cntG l m n ≤ n := by unfold cntG; exact Nat.le_trans (List.length_filter_le _ _) (by simp)
theorem cntG_yes {l : List Int} {m n : Nat} (h : isM (l.getD n 0) m = true) : cntG l m (n + 1) = cntG l m n + 1 := by
  unfold cntG; rw [List.range_succ, List.filter_append, List.length_append]; simp only [List.filter_cons, h, List.filter_nil]; rfl
theorem cntG_no {l : List Int} {m n : Nat} (h : isM (l.getD n 0) m = false) : cntG l m (n + 1) = cntG l m n := by
  unfold cntG; rw [List.range_succ, List.filter_append, List.length_append]; simp only [List.filter_cons, h, List.filter_nil]; rfl
theorem grpG_len (l : List Int) (m n : Nat) : (grpL (lG l n) m).length = cntG l m n := by
  rw [grpL_len, lG_len]
  unfold cntG
  congr 1
  refine List.filter_congr fun k hk => ?_
  rw [lG_at (List.mem_range.1 hk)]; rfl
structure GrpG (l : List Int) (m n : Nat) (cs : List Cp) : Prop where
  len : cs.length = cntG l m n
  rise : ∀ i (h : i + 1 < cs.length), l.getD cs[i].k 0 < l.getD cs[i + 1].k 0 ∨ (l.getD cs[i].k 0 = l.getD cs[i + 1].k 0 ∧ cs[i].k < cs[i + 1].k)
  mem : ∀ i (h : i < cs.length), cs[i].k < n ∧ 0 ≤ l.getD cs[i].k 0 ∧ l.getD cs[i].k 0 < m
theorem grpG {l : List Int} {m n : Nat} {cs : List Cp} (h : cs.map (·.k) = grpL (lG l n) m) : GrpG l m n cs := by
  have hmem : ∀ i (hi : i < cs.length), cs[i].k < n ∧ 0 ≤ l.getD cs[i].k 0 ∧ l.getD cs[i].k 0 < m := fun i hi => by
    have hx : cs[i].k ∈ grpL (lG l n) m := by rw [← h]; exact List.mem_map.2 ⟨cs[i], List.getElem_mem hi, rfl⟩
    have := grpL_mem hx
    rw [lG_len] at this
    rw [lG_at this.1] at this
    exact this
  refine ⟨by rw [← grpG_len, ← h, List.length_map], fun i hi => ?_, hmem⟩
  have hp := grpL_rise (lG l n) m
  rw [← h, List.pairwise_map, List.pairwise_iff_getElem] at hp
  have := hp i (i + 1) (by omega) hi (by omega)
  rw [lG_at (hmem i (by omega)).1, lG_at (hmem (i + 1) hi).1] at this
  exact this
theorem row6 {w : World} {B m : Nat} {l : List Int} {cs : List Cp} {ga : Option Addr} {gc : Nat} (h : w.ownsRow B 40 6 (.slice ga cs.length gc) cs.length (flatC (lG l l.length) cs)) (hk : GrpG l m l.length cs) :
    cs.length ≤ gc ∧ ∀ i (hi : i < cs.length), ∃ a : Addr, ga = some a ∧ w.cell? (a.add (i * 6)) = some (.int .i64 (l.getD cs[i].k 0)) ∧ w.cell? ⟨(a.add (i * 6)).block, (a.add (i * 6)).off + 1, none⟩ = some (.slice cs[i].no cs[i].nl cs[i].nc) ∧ w.cell? ⟨(a.add (i * 6)).block, (a.add (i * 6)).off + 2, none⟩ = some (.slice cs[i].so cs[i].sl cs[i].sc) ∧
      w.cell? ⟨(a.add (i * 6)).block, (a.add (i * 6)).off + 3, none⟩ = some (.int .i64 0) ∧ w.cell? ⟨(a.add (i * 6)).block, (a.add (i * 6)).off + 4, none⟩ = some (.string bE) ∧ w.cell? ⟨(a.add (i * 6)).block, (a.add (i * 6)).off + 5, none⟩ = some (.int .i64 (cs[i].k : Nat)) := by
  refine ⟨?_, fun i hi => ?_⟩
  · rcases h.2 with ⟨e, e2⟩ | ⟨g, cap, cur, e, _, _, hn, _⟩
    · omega
    · simp only [Value.slice.injEq] at e; omega
  · rcases h.2 with ⟨e, e2⟩ | ⟨g, cap, cur, e, _⟩
    · omega
    · have hc := h.cells (g := g) (by rw [e]; rfl)
      simp only [Value.slice.injEq] at e
      obtain ⟨rfl, _, _⟩ := e
      obtain ⟨f0, f1, f2, f3, f4, f5⟩ := flatC_at (lG l l.length) cs i hi
      rw [lG_at (hk.mem i hi).1] at f0 f3 f4 f5
      have g0 := hc _ _ f0
      have g1 := hc _ _ f1
      have g2 := hc _ _ f2
      have g3 := hc _ _ f3
      have g4 := hc _ _ f4
      have g5 := hc _ _ f5
      rw [add_zero] at g0 g1 g2 g3 g4 g5
      refine ⟨_, rfl, ?_⟩
      rw [add_zero]
      exact ⟨g0, g1, g2, g3, g4, g5⟩
theorem two_six (W : World) (a b : Array Value) (t u : TypeId) :
    (∀ j v, a[j]? = some v → (((W.alloc (.cells a t)).alloc (.cells b u)).drew).cell? ⟨W.heap.size, j, none⟩ = some v) ∧ (∀ j v, b[j]? = some v → (((W.alloc (.cells a t)).alloc (.cells b u)).drew).cell? ⟨W.heap.size + 1, j, none⟩ = some v) ∧ Below W.heap.size W ((W.alloc (.cells a t)).alloc (.cells b u)).drew := by
  have x0 : (((W.alloc (.cells a t)).alloc (.cells b u)).drew).heap[W.heap.size]? = some (.cells a t (0, 0)) := Rp.heapB (Rp.heapA rfl)
  have x1 : (((W.alloc (.cells a t)).alloc (.cells b u)).drew).heap[W.heap.size + 1]? = some (.cells b u (0, 0)) := Rp.heapA (by simp)
  refine ⟨fun j v h => by rw [Lib.cell_of_heap x0]; exact h, fun j v h => by rw [Lib.cell_of_heap x1]; exact h, ?_⟩
  have hb : Below W.heap.size W ((W.alloc (.cells a t)).alloc (.cells b u)) := Rp.belA (Rp.belA (Below.refl _ _))
  exact ⟨hb.os, hb.tape, hb.output, hb.size, hb.block⟩
theorem infoStr : (Tryz.prog.info? 9).map (fun i => (i.zero, i.size, i.bytes)) = some (some (.string ⟨#[]⟩), 1, 16) := by kernel_rfl
theorem fitG {l : List Int} {n : Nat} (i : Nat) (hi : i < (lG l n).length) : FitC (rl (lG l n) i) := by
  rw [lG_len] at hi
  rw [lG_at hi]
  exact ⟨by show bE.size ≤ _; decide, by simp [rG], by simp [rG], fun k hk => by simp [rG] at hk⟩
theorem rem5 {x : Int} (h0 : 0 ≤ x) : x.tmod 5 = ((x.toNat % 5 : Nat) : Int) := by
  obtain ⟨n, rfl⟩ := Int.eq_ofNat_of_zero_le h0
  rw [Int.tmod_eq_emod_of_nonneg (by omega)]; simp

set_option maxRecDepth 100000 in
set_option maxHeartbeats 8000000 in
theorem law_groups (x : Int) (l : List Int) (v : Value) (w : World) (h0 : 0 ≤ x) (hi : IntsAt w v l) (hst : Dg.St w) :
    Calls Tryz.prog 4 #[.int .u8 x, v] w fun e w' => e = .returned (.bool true) ∧ Below w.heap.size w w' := by
  have CA := Lib.hid (fun W (hb : Below w.heap.size w W) => alive_any W (hst.next hb))
  obtain ⟨ao, cap, rfl, hm, hc⟩ := hi.shape
  have HC := Lib.hid hc
  have hrem := rem5 h0
  clear hst hi hc
  by_cases h40 : 40 < l.length
  · have d40 : (40 : Int) < (l.length : Int) := by omega
    clear h40 hrem
    go_enter Tryz.func4, Tryz.ntmps4
    go_wp2_with (first
      | (go_at_call 6; (with_reducible refine (CA.out _ (Below.refl _ _)).mono ?_); rintro e w9 ⟨rfl, hb⟩; go_must (have B9 := Lib.hid hb; clear hb))
      | fail)
    go_ret
    exact ⟨rfl, B9.out⟩
  · have d40 : ¬ (40 : Int) < (l.length : Int) := by omega
    have hl40 : l.length ≤ 40 := by omega
    have hm5 : x.toNat % 5 < 5 := Nat.mod_lt _ (by omega)
    obtain ⟨i0, hi, hz0, hz1, hz2⟩ := info_parts infoStr
    obtain ⟨j0, hj, jz0, jz1, jz2⟩ := info_parts infoRl
    generalize x.toNat % 5 = m at *
    have G0 := Lib.hid (GB.new w l)
    clear h40
    go_enter Tryz.func4, Tryz.ntmps4
    go_upto_region 5 with fail
    generalize w.alloc (.cells #[.slice none 0 0, .slice none 0 0] 25) = W1 at *
    go_loopw [24] (fun i wr => ∃ (k : Nat) (vm : Value), i = .int .u8 k ∧ k ≤ m ∧ GB w w.heap.size k 0 l vm (.slice none 0 0) wr) (fun i _ => m - (intOf i).toNat)
    case atStart => exact ⟨0, _, rfl, Nat.zero_le _, G0.out⟩
    case round =>
      obtain ⟨k, vm, rfl, hk, hg⟩ := hrel
      obtain ⟨wo, rfl⟩ : ∃ x, x = wr := ⟨_, rfl⟩
      have HG := Lib.hid hg
      have hlt := hg.lt
      obtain ⟨c0, c1⟩ := hg.cells
      obtain ⟨ma, mc, e, _⟩ := own_slice hg.mods
      subst e
      clear hg
      by_cases hlk : k < m
      · have hki : (k : Int) < (m : Int) := by omega
        have hk5 : (k : Int) < 5 := by omega
        go_wp2_with (first
          | (at_builtin; refine wpList_append_own _ rfl _ _ 22 rfl (w.heap.size + 1) 9 i0 (.string ⟨#[]⟩) 1 16 Tryz.underlying22 hi hz0 hz1 hz2 rfl (by decide) (.slice ma k mc) k (List.replicate k (.string bA)) rfl (HG.out.mods.alloc _) ⟨wo.heap.size, 0, none⟩ 1 1 [.string ⟨#[97]⟩] rfl rfl (World.news_of_block (World.alloc_heap_new wo _)) (by simp [Value.oneCell']) (by unfold maxLen; omega) (by omega) (by simp; omega) ?_; intro v5 w5 hown hgr _; go_must (obtain ⟨va5, vc5, rfl, _⟩ := own_slice hown; obtain ⟨⟨y0, y1, y2⟩, y3⟩ := HG.out.pushM hown hgr; have Y3 := Lib.hid y3; clear y3 hown hgr))
          | fail)
        go_roundw
        case rel => exact ⟨k + 1, _, by go_num, by omega, Y3.out⟩
        case measure => simp [intOf]; omega
      · obtain rfl : k = m := by omega
        have HGM := HG
        clear HG G0 hlk c0 c1 hlt hi hz0 hz1 hz2 hk hrem
        go_wp2
        go_loopw [34] (fun i wr => ∃ (q : Nat) (vr : Value), i = .int .i64 q ∧ q ≤ l.length ∧ GB w w.heap.size k q l (.slice ma k mc) vr wr) (fun i _ => l.length - (intOf i).toNat)
        case atStart => exact ⟨0, _, rfl, Nat.zero_le _, HGM.out⟩
        case round =>
          clear HGM
          obtain ⟨q, vr, rfl, hq, hg⟩ := hrel
          obtain ⟨wo, rfl⟩ : ∃ x, x = wr := ⟨_, rfl⟩
          have HG := Lib.hid hg
          have hlt := hg.lt
          obtain ⟨c0, c1⟩ := hg.cells
          obtain ⟨ra, rc, e, _⟩ := own_slice hg.rules
          subst e
          by_cases hlq : q < l.length
          · obtain ⟨ad, rfl, cl⟩ := HC.out q hlq
            have cl1 := cell_next cl hg.below
            have h0q : (0 : Int) ≤ q := by omega
            have h1q : (q : Int) < (l.length : Int) := by omega
            clear hg cl
            have HGP := Lib.hid (fun w5 v5 (o : Obj) => HG.out.pushR (w5 := w5) (v5 := v5) (o := o))
            have HR := Lib.hid HG.out.rules
            clear HG
            generalize l.getD q 0 = y at *
            go_wp2_with (first
              | (at_builtin; refine wpList_append_own _ rfl _ _ 23 rfl (w.heap.size + 1) 40 j0 (.agg #[.int .i64 0, .slice none 0 0, .slice none 0 0, .int .i64 0, .string ⟨#[]⟩, .int .i64 0]) 6 88 Tryz.underlying23 hj jz0 jz1 jz2 rfl (by decide) (.slice ra q rc) q (flatG l q) rfl (HR.out.alloc _) ⟨wo.heap.size, 0, none⟩ 1 1 [.int .i64 y, .slice none 0 0, .slice none 0 0, .int .i64 0, .string ⟨#[]⟩, .int .i64 q] rfl rfl (World.news_of_block (World.alloc_heap_new wo _)) (by simp [Value.oneCell']) (by unfold maxLen; omega) (by omega) (by simp; omega) ?_; intro v5 w5 hown hgr _; go_must (obtain ⟨va5, vc5, rfl, _⟩ := own_slice hown; obtain ⟨⟨y0, y1, y2⟩, y3⟩ := HGP.out _ _ _ hown hgr; have Y3 := Lib.hid y3; clear y3 hown hgr))
              | fail)
            go_roundw
            case rel => exact ⟨q + 1, _, by go_num, by omega, Y3.out⟩
            case measure => simp [intOf]; omega
          · obtain rfl : q = l.length := by omega
            have CG := Lib.hid (grouped_any _ _ _ _ (hg.spec (by omega) (by omega)) (by rw [List.length_replicate]; omega) (by rw [lG_len]; omega) fitG)
            rw [List.length_replicate] at CG
            unfold GrdOut at CG
            have HG := Lib.hid hg
            have hb7 := Lib.hid hg.below
            clear hg hj jz0 jz1 jz2 hlq hq
            go_wp2_with (first
              | (go_at_call 11; (with_reducible refine CG.out.mono ?_); rintro e w2 ⟨vg, cs, rfl, hrow, hcs, hb⟩; go_must (obtain ⟨ga, gc, rfl⟩ := own_shape hrow; have GG := Lib.hid (grpG hcs); have ROW := Lib.hid hrow; have G2 := Lib.hid (HG.out.next hb); have B2 := Lib.hid (hb7.out.trans (hb.mono hb7.out.size)); have BO := Lib.hid hb; have d0 := (HG.out.next hb).cells.1; have e0 := (HG.out.next hb).lt; clear hb hrow hcs))
              | fail)
            clear c0 c1 hlt CG HG hb7 G2
            go_loop [9, 53] (fun nv i => ∃ j : Nat, i = .int .i64 j ∧ j ≤ l.length ∧ nv = .int .i64 (cntG l k j : Nat)) (fun _ i => l.length - (intOf i).toNat)
            case atStart => exact ⟨0, rfl, Nat.zero_le _, rfl⟩
            case round =>
              obtain ⟨j, rfl, hj, rfl⟩ := hrel
              by_cases hlj : j < l.length
              · obtain ⟨ad, rfl, cl⟩ := HC.out j hlj
                have cl1 := cell_next cl B2.out
                have h0j : (0 : Int) ≤ j := by omega
                have h1j : (j : Int) < (l.length : Int) := by omega
                have hcj := cntG_le l k j
                have Y1 := Lib.hid (@cntG_yes l k j)
                have N1 := Lib.hid (@cntG_no l k j)
                clear cl
                generalize l.getD j 0 = y at *
                by_cases hy0 : 0 ≤ y
                · by_cases hy1 : y < (k : Int)
                  · have hC := Lib.hid (Y1.out (isM_iff.2 ⟨hy0, hy1⟩))
                    clear Y1 N1
                    generalize cntG l k j = c at *
                    go_wp2
                    go_round
                    case rel => exact ⟨j + 1, by go_num, by omega, by rw [hC.out]; go_num⟩
                    case measure => simp [intOf]; omega
                  · have hC := Lib.hid (N1.out (by rw [Bool.eq_false_iff, ne_eq, isM_iff]; omega))
                    clear Y1 N1
                    generalize cntG l k j = c at *
                    go_wp2
                    go_round
                    case rel => exact ⟨j + 1, by go_num, by omega, by rw [hC.out]⟩
                    case measure => simp [intOf]; omega
                · have hC := Lib.hid (N1.out (by rw [Bool.eq_false_iff, ne_eq, isM_iff]; omega))
                  clear Y1 N1
                  generalize cntG l k j = c at *
                  go_wp2
                  go_round
                  case rel => exact ⟨j + 1, by go_num, by omega, by rw [hC.out]⟩
                  case measure => simp [intOf]; omega
              · obtain rfl : j = l.length := by omega
                have ROWS := Lib.hid (row6 ROW.out GG.out)
                obtain ⟨hlen, hrise, hmem⟩ := GG.out
                rw [← hlen]
                have HM := Lib.hid hmem
                have HR := Lib.hid hrise
                have hcl : cs.length ≤ 40 := by have := cntG_le l k l.length; omega
                clear hrise hmem hlj hj ROW GG
                go_wp2
                go_loopw [12] (fun i wr => ∃ j : Nat, i = .int .i64 ((j : Int) + 1) ∧ j ≤ cs.length ∧ Below w2.heap.size w2 wr) (fun i _ => cs.length + 1 - (intOf i).toNat)
                case atStart => exact ⟨0, rfl, Nat.zero_le _, Below.refl _ _⟩
                case round =>
                  obtain ⟨j, rfl, hj, hb⟩ := hrel
                  obtain ⟨wo, rfl⟩ : ∃ x, x = wr := ⟨_, rfl⟩
                  have HB := Lib.hid hb
                  by_cases hlj : j + 1 < cs.length
                  · obtain ⟨a, rfl, m0, m1, m2, m3, m4, m5⟩ := ROWS.out.2 j (by omega)
                    obtain ⟨a2, e, n0, n1, n2, n3, n4, n5⟩ := ROWS.out.2 (j + 1) hlj
                    simp only [Option.some.injEq] at e
                    subst e
                    replace m0 := cell_next m0 hb
                    replace m1 := cell_next m1 hb
                    replace m2 := cell_next m2 hb
                    replace m3 := cell_next m3 hb
                    replace m4 := cell_next m4 hb
                    replace m5 := cell_next m5 hb
                    replace n0 := cell_next n0 hb
                    replace n1 := cell_next n1 hb
                    replace n2 := cell_next n2 hb
                    replace n3 := cell_next n3 hb
                    replace n4 := cell_next n4 hb
                    replace n5 := cell_next n5 hb
                    have lm := cell_lt m0
                    have ln := cell_lt n0
                    have hr := HR.out j hlj
                    have i0 : (0 : Int) ≤ j := by omega
                    have i1 : (j : Int) < (cs.length : Int) := by omega
                    have i2 : (j : Int) + 1 < (cs.length : Int) := by omega
                    clear hb d0
                    generalize cs[j] = c1 at *
                    generalize cs[j + 1] = c2 at *
                    generalize l.getD c1.k 0 = y1 at *
                    generalize l.getD c2.k 0 = y2 at *
                    go_wp2
                    go_big_region
                    all_goals clear m0 m1 m2 m3 m4 m5 n0 n1 n2 n3 n4 n5 lm ln
                    · obtain ⟨za, zb, zw⟩ := two_six wo #[.int .i64 y1, .slice c1.no c1.nl c1.nc, .slice c1.so c1.sl c1.sc, .int .i64 0, .string bE, .int .i64 c1.k] #[.int .i64 y2, .slice c2.no c2.nl c2.nc, .slice c2.so c2.sl c2.sc, .int .i64 0, .string bE, .int .i64 c2.k] 40 40
                      have p0 := za 0 _ rfl
                      have p5 := za 5 _ rfl
                      have q0 := zb 0 _ rfl
                      have q5 := zb 5 _ rfl
                      have BX := Lib.hid (HB.out.trans (zw.mono HB.out.size))
                      have lp := cell_lt p0
                      have lq := cell_lt q0
                      clear za zb zw
                      rcases hr with hr | ⟨rfl, hr⟩
                      · have e1 : ¬ y2 < y1 := by omega
                        have e2 : (y1 == y2) = false := by simp; omega
                        go_wp2
                        go_roundw
                        case rel => exact ⟨j + 1, by go_num, by omega, BX.out⟩
                        case measure => simp [intOf]; omega
                      · have e1 : ((c1.k : Nat) : Int) < ((c2.k : Nat) : Int) := by omega
                        go_wp2
                        go_roundw
                        case rel => exact ⟨j + 1, by go_num, by omega, BX.out⟩
                        case measure => simp [intOf]; omega
                    · obtain ⟨za, zb, zw⟩ := two_six wo #[.int .i64 y2, .slice c2.no c2.nl c2.nc, .slice c2.so c2.sl c2.sc, .int .i64 0, .string bE, .int .i64 c2.k] #[.int .i64 y1, .slice c1.no c1.nl c1.nc, .slice c1.so c1.sl c1.sc, .int .i64 0, .string bE, .int .i64 c1.k] 40 40
                      have p0 := za 0 _ rfl
                      have p5 := za 5 _ rfl
                      have q0 := zb 0 _ rfl
                      have q5 := zb 5 _ rfl
                      have BX := Lib.hid (HB.out.trans (zw.mono HB.out.size))
                      have lp := cell_lt p0
                      have lq := cell_lt q0
                      clear za zb zw
                      rcases hr with hr | ⟨rfl, hr⟩
                      · have e1 : ¬ y2 < y1 := by omega
                        have e2 : (y1 == y2) = false := by simp; omega
                        go_wp2
                        go_roundw
                        case rel => exact ⟨j + 1, by go_num, by omega, BX.out⟩
                        case measure => simp [intOf]; omega
                      · have e1 : ((c1.k : Nat) : Int) < ((c2.k : Nat) : Int) := by omega
                        go_wp2
                        go_roundw
                        case rel => exact ⟨j + 1, by go_num, by omega, BX.out⟩
                        case measure => simp [intOf]; omega
                  · have i2 : ¬ (j : Int) + 1 < (cs.length : Int) := by omega
                    have hs0 := cell_next d0 hb
                    have BW := Lib.hid (B2.out.trans (hb.mono B2.out.size))
                    clear HR hj hlj hb d0
                    go_wp2
                    go_loopw [110] (fun i wr => ∃ j : Nat, i = .int .i64 j ∧ j ≤ cs.length ∧ Below wo.heap.size wo wr) (fun i _ => cs.length - (intOf i).toNat)
                    case atStart => exact ⟨0, rfl, Nat.zero_le _, Below.refl _ _⟩
                    case round =>
                      obtain ⟨q, rfl, hq, hb⟩ := hrel
                      obtain ⟨wp, rfl⟩ : ∃ x, x = wr := ⟨_, rfl⟩
                      have BP := Lib.hid (BW.out.trans (hb.mono BW.out.size))
                      have HBP := Lib.hid hb
                      by_cases hlq : q < cs.length
                      · obtain ⟨a, rfl, m0, m1, m2, m3, m4, m5⟩ := ROWS.out.2 q hlq
                        have hb2 := HB.out.trans (hb.mono HB.out.size)
                        replace m0 := cell_next m0 hb2
                        replace m1 := cell_next m1 hb2
                        replace m2 := cell_next m2 hb2
                        replace m3 := cell_next m3 hb2
                        replace m4 := cell_next m4 hb2
                        replace m5 := cell_next m5 hb2
                        have lm := cell_lt m0
                        have hs1 := cell_next hs0 hb
                        have ls := cell_lt hs1
                        obtain ⟨t0, t1, t2⟩ := HM.out q hlq
                        have i0 : (0 : Int) ≤ q := by omega
                        have i1 : (q : Int) < (cs.length : Int) := by omega
                        obtain ⟨ad, rfl, cl⟩ := HC.out cs[q].k t0
                        have cl1 := cell_next cl BP.out
                        have lc := cell_lt cl1
                        clear hb hb2 cl
                        generalize cs[q] = c1 at *
                        generalize l.getD c1.k 0 = y1 at *
                        have t0i : ((c1.k : Nat) : Int) < (l.length : Int) := by omega
                        have t0j : (0 : Int) ≤ (c1.k : Nat) := by omega
                        go_upto_region 32 with fail
                        have zb : Below wp.heap.size wp (wp.alloc (.cells #[.int .i64 y1, .slice c1.no c1.nl c1.nc, .slice c1.so c1.sl c1.sc, .int .i64 0, .string bE, .int .i64 c1.k] 40)) := Rp.belA (Below.refl _ _)
                        have x0 : (wp.alloc (.cells #[.int .i64 y1, .slice c1.no c1.nl c1.nc, .slice c1.so c1.sl c1.sc, .int .i64 0, .string bE, .int .i64 c1.k] 40)).heap[wp.heap.size]? = some (.cells #[.int .i64 y1, .slice c1.no c1.nl c1.nc, .slice c1.so c1.sl c1.sc, .int .i64 0, .string bE, .int .i64 c1.k] 40 (0, 0)) := Rp.heapA rfl
                        obtain ⟨p0, _, _, _, _, p5⟩ := cells6 x0
                        replace cl1 := cell_next cl1 zb
                        replace hs1 := cell_next hs1 zb
                        have lp := cell_lt p0
                        replace lc := cell_lt cl1
                        replace ls := cell_lt hs1
                        have BX := Lib.hid (HBP.out.trans (zb.mono HBP.out.size))
                        clear m0 m1 m2 m3 m4 m5 lm x0 zb hs0
                        generalize wp.alloc (.cells #[.int .i64 y1, .slice c1.no c1.nl c1.nc, .slice c1.so c1.sl c1.sc, .int .i64 0, .string bE, .int .i64 c1.k] 40) = X at *
                        obtain ⟨z, hz⟩ : ∃ z, z = c1.k := ⟨_, rfl⟩
                        rw [← hz] at cl1 p5 t0i t0j lc t0
                        clear hz
                        have g1 : decide ((z : Int) < 0) = false := by simp
                        have g2 : decide ((l.length : Int) ≤ (z : Int)) = false := by simp; omega
                        have g3 : (y1 != y1) = false := by simp
                        have g4 : decide (y1 < 0) = false := by simp; omega
                        have g5 : decide ((k : Int) ≤ y1) = false := by simp; omega
                        go_quiet (fail)
                        go_wp2
                        go_roundw
                        case rel => exact ⟨q + 1, by go_num, by omega, BX.out.trans ((Rg.below_drewN _ _).mono BX.out.size)⟩
                        case measure => simp [intOf]; omega
                      · obtain rfl : q = cs.length := by omega
                        clear hb
                        go_wp2_with (first
                          | (go_at_call 6; (with_reducible refine (CA.out _ BP.out).mono ?_); rintro e w9 ⟨rfl, hb⟩; go_must (have B9 := Lib.hid (BP.out.trans (hb.mono BP.out.size)); clear hb))
                          | fail)
                        go_ret
                        exact ⟨rfl, B9.out⟩
end Go.Proofs.YtgjiofkjogjhhaaGreatDoor.Sp

namespace Go.Proofs.YtgjiofkjogjhhaaGreatDoor.Sg
open Go Go.RowKit Go.Shelf
set_option maxRecDepth 100000 in
theorem st_of_laid {W : World} (h : laidMet Tryz.prog [("math/bits.deBruijn32tab", Rows.laid_math_bits_deBruijn32tab), ("math/bits.deBruijn64tab", Rows.laid_math_bits_deBruijn64tab), ("internal/strconv.uint64pow10", Rows.laid_internal_strconv_uint64pow10), ("spool/digit.digits16", Rows.laid_spool_digit_digits16)] W) : Dg.St W := Dg.st_of_laid h
theorem walkGroups (x : Int) (v : Value) (l : List Int) (w : World) (h0 : 0 ≤ x) (_ : x ≤ 255) (hi : IntsAt w v l) (hst : Dg.St w) :
    Calls Tryz.prog 4 #[.int .u8 x, v] w fun e w' => e = .returned (.bool true) ∧ Below w.heap.size w w' := Sp.law_groups x l v w h0 hi hst
end Go.Proofs.YtgjiofkjogjhhaaGreatDoor.Sg

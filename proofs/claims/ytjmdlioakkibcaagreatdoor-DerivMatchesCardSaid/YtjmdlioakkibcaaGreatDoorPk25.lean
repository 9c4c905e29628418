/- The document's All, Valid, Join; whether numbers are the same. The document's Row and Has. The example of the laws of regprint and of deriv: its tree, in plain words and in memory. What a tree tells by its parts, in numbers; trees that are near. -/
import Derived.Test.YtjmdlioakkibcaaGreatDoorPk19
import Derived.Test.YtjmdlioakkibcaaGreatDoorPk24
import Derived.Test.YtjmdlioakkibcaaGreatDoorPk04
import Derived.Laws.ResultCell
import Derived.Deep.DeepMust

namespace Go.Proofs.YtjmdlioakkibcaaGreatDoor.Ut
open Go.RowKit

def szOf : Value → Nat
  | .string t => t.size
  | _ => 0
theorem cons_at {t : ByteArray} (h : 0 < t.size) : allL t.data.toList = (getL t.data.toList).1 :: allL (t.extract (getL t.data.toList).2 t.size).data.toList ∧ 1 ≤ (getL t.data.toList).2 ∧ (getL t.data.toList).2 ≤ t.size := by
  have hl : 0 < t.data.toList.length := by rw [← Lib.size_eq]; exact h
  have h1 := all_step hl
  have h2 := get_at hl
  rw [List.drop_zero, Nat.zero_add] at h1 h2
  rw [drop_extract, Lib.size_eq t]
  exact ⟨h1, by omega, by omega⟩

set_option maxRecDepth 100000 in
set_option maxHeartbeats 1000000 in
theorem rall_any (s : ByteArray) (w : World) (hs : s.size ≤ 17592186044000) :
    Calls Tryz.prog 12 #[.string s] w fun e W' => ∃ v, e = .returned v ∧ IntsAt W' v (allL s.data.toList) ∧ Below w.heap.size w W' := by
  obtain ⟨i0, hi, hz0, hz1, hz2⟩ := info_parts infoI
  go_enter Tryz.func12, Tryz.ntmps12
  go_wp2
  go_loopw [0, 3] (fun x v wr => ∃ (t : ByteArray) (pre : List Int), x = .string t ∧ pre.length + t.size ≤ s.size ∧ allL s.data.toList = pre ++ allL t.data.toList ∧ wr.ownsRow w.heap.size 3 1 v pre.length (pre.map (Value.int .i64)) ∧ Below w.heap.size w wr) (fun x _ _ => szOf x)
  case atStart => exact ⟨s, [], rfl, by simp, rfl, World.ownsRow_nil _ _ _ _, Below.refl _ _⟩
  case round =>
    obtain ⟨t, pre, rfl, hpl, ha, hrow, hb⟩ := hrel
    have HA := Lib.hid ha
    clear ha
    by_cases ht : 0 < t.size
    · obtain ⟨hc1, hc2, hc3⟩ := cons_at ht
      have hg := Lib.hid (fun w => rget_any t w (by unfold maxLen; omega))
      simp only [vGet] at hg
      have HC := Lib.hid hc1
      clear hc1
      generalize (getL t.data.toList).1 = c at *
      generalize (getL t.data.toList).2 = m at *
      go_wp2_with (first
        | (go_at_call 25; refine (hg.out _).mono ?_; rintro e W ⟨rfl, hbw⟩; have hrow1 := row_next hrow hbw; have hb1 := hb.trans (hbw.mono hb.size); have hsz1 := hb1.size)
        | (at_builtin; refine wpList_append_own _ rfl _ _ 36 rfl w.heap.size 3 i0 (.int .i64 0) 1 8 Tryz.underlying36 hi hz0 hz1 hz2 rfl (by decide) _ _ _ rfl (hrow1.alloc _) ⟨W.heap.size, 0, none⟩ 1 1 [.int .i64 c] rfl rfl (cell_one_new _ _ _) (by simp [Value.oneCell']) (by unfold maxLen; omega) (by omega) (by simp; omega) ?_; intro v' w2 hown' hgrow _))
      have hz : (t.extract m t.size).size = t.size - m := by rw [ByteArray.size_extract]; omega
      go_roundw
      case rel => exact ⟨t.extract m t.size, pre ++ [c], rfl, by simp; omega, by rw [HA.out, HC.out]; simp, by simpa using hown', (hb1.alloc hsz1 _).grown hgrow (by simp; omega) (fun k hk => ((World.ownsRowF_of hrow1).lt k hk).1)⟩
      case measure => simp only [szOf, hz]; omega
    · have h0 : t.data.toList = [] := List.eq_nil_of_length_eq_zero (by rw [← Lib.size_eq]; omega)
      have H0 := Lib.hid h0
      clear h0
      go_wp2
      go_ret
      exact ⟨_, rfl, by rw [HA.out, H0.out, allL_nil, List.append_nil]; exact ints_of_row hrow, hb⟩


theorem valid_drop {l : List Int} {k : Nat} (h : l.length ≤ k) : ((l.drop k).all fun c => decide (0 ≤ c)) = true := by
  rw [List.drop_eq_nil_of_le h]; rfl
theorem valid_at {l : List Int} {k : Nat} {c : Int} (h : k < l.length) (hc : l.getD k 0 = c) : ((l.drop k).all fun c => decide (0 ≤ c)) = (decide (0 ≤ c) && (l.drop (k + 1)).all fun c => decide (0 ≤ c)) := by
  have e : l.getD k 0 = l[k] := by simp [List.getD, h]
  rw [List.drop_eq_getElem_cons h, List.all_cons, ← e, hc]

set_option maxRecDepth 100000 in
set_option maxHeartbeats 1000000 in
theorem rvalid_any (s : ByteArray) (w : World) (hs : s.size ≤ 17592186044000) :
    Calls Tryz.prog 14 #[.string s] w fun e W' => e = .returned (.bool (validL s.data.toList)) ∧ Below w.heap.size w W' := by
  have hal := Lib.hid (rall_any s w hs)
  have hvl : ((allL s.data.toList).drop 0).all (fun c => decide (0 ≤ c)) = validL s.data.toList := rfl
  generalize allL s.data.toList = l at *
  generalize validL s.data.toList = V at *
  have HV := Lib.hid hvl
  clear hvl
  go_enter Tryz.func14, Tryz.ntmps14
  go_wp2_with (go_at_call 12; refine hal.out.mono ?_; rintro e w1 ⟨v, rfl, hv, hb⟩; obtain ⟨ao, cap, rfl, hm, hcl⟩ := hv.shape)
  have HC := Lib.hid hcl
  clear hcl hv
  go_loop [4] (fun i => ∃ k : Nat, k ≤ l.length ∧ ((l.drop k).all fun c => decide (0 ≤ c)) = V ∧ i = .int .i64 k) (fun i => l.length - (intOf i).toNat)
  case atStart => exact ⟨0, by omega, HV.out, rfl⟩
  case round =>
    obtain ⟨k, hk, hx, rfl⟩ := hrel
    by_cases hlt : k < l.length
    · have hy := fun c h => (valid_at (l := l) (k := k) (c := c) hlt h).symm.trans hx
      have HY := Lib.hid hy
      clear hx hy
      obtain ⟨ad, rfl, hcell⟩ := HC.out k hlt
      generalize hc : l.getD k 0 = c at *
      go_wp2
      · have h0 : c < 0 := by assumption
        have hz := HY.out c rfl
        rw [decide_eq_false (by omega), Bool.false_and] at hz
        go_ret
        exact ⟨ret_bool hz, hb⟩
      · have h0 : 0 ≤ c := by assumption
        have hz := HY.out c rfl
        rw [decide_eq_true h0, Bool.true_and] at hz
        go_round
        case rel => exact ⟨k + 1, by omega, hz, by go_num⟩
        case measure => simp [intOf]; omega
    · rw [valid_drop (by omega)] at hx
      have HX := Lib.hid hx
      clear hx
      go_wp2
      go_ret
      exact ⟨ret_bool HX.out, hb⟩

end Go.Proofs.YtjmdlioakkibcaaGreatDoor.Ut

namespace Go.Proofs.YtjmdlioakkibcaaGreatDoor.Dv
open Go Go.RowKit Go.Shelf
open Go.Proofs.YtjmdlioakkibcaaGreatDoor.Ar (Nd nd nodeB Tr Ok TreeAt)
open Go.Proofs.YtjmdlioakkibcaaGreatDoor.Rg (R RngsAt RowsAt nthL add_zero own_next)
open Go.Proofs.YtjmdlioakkibcaaGreatDoor.Ut (allL validL rall_any rvalid_any)
noncomputable def rowB (t : Tr) (l : List Int) : Bool := mat (den t.ns t.sets t.root.toNat) l 0 l.length
theorem rowB_iff {t : Tr} {l : List Int} : rowB t l = true ↔ den t.ns t.sets t.root.toNat l := by
  unfold rowB
  rw [mat_iff, sub_all]
  exact ⟨fun h => h.2, fun h => ⟨Nat.zero_le _, h⟩⟩
noncomputable def hasB' (t : Tr) (s : List UInt8) : Bool := validL s && rowB t (allL s)
section
variable {w : World} {t : Tr} {v vl : Value} {l : List Int} {s : ByteArray}
set_option maxRecDepth 100000 in
set_option maxHeartbeats 8000000 in
theorem rrow_any (ht : Ok t) (hT : TreeAt w v t) (hN : t.ns.length ≤ 4096) (hI : IntsAt w vl l) (hl : l.length ≤ 10000) :
    Calls Tryz.prog 10 #[v, vl] w fun e w' => e = .returned (.bool (rowB t l)) ∧ Below w.heap.size w w' := by
  obtain ⟨ao, cap, so, scap, rfl, hm, hm2, _, _⟩ := hT.shape
  obtain ⟨lo', lcap, rfl, hlm, _⟩ := hI.shape
  have b1 : Below w.heap.size w (w.alloc (.cells #[.slice ao t.ns.length cap, .slice so t.sets.length scap, .int .i64 t.root] 25)) := (Below.refl w.heap.size w).alloc (Nat.le_refl _) _
  have B1 := Lib.hid b1
  have SP := Lib.hid (spans_any ht (hT.next b1) hN (hI.next b1) hl)
  have HR := Lib.hid (show mat (den t.ns t.sets t.root.toNat) l 0 l.length = rowB t l from rfl)
  have n1 : (0 : Int) < (l.length : Int) + 1 := by omega
  have n2 : (l.length : Int) < (l.length : Int) + 1 := by omega
  clear hT hI b1
  generalize rowB t l = y at *
  generalize mat (den t.ns t.sets t.root.toNat) l = M at *
  clear ht
  go_enter Tryz.func10, Tryz.ntmps10
  go_wp2_with (first
    | (go_at_call 13; ((with_reducible refine SP.out.mono ?_); rintro e w1 ⟨x, rfl, hx, hb⟩; obtain ⟨g, c, rfl, _, _, _, _, hro⟩ := hx.at' (Nat.succ_pos _)); go_must (obtain ⟨r, c', ds, a1, _, _, _, a5⟩ := hro 0 (Nat.succ_pos _); have a6 := a5 l.length (Nat.lt_succ_self _); rw [HR.out] at a6; have B2 := Lib.hid (B1.out.trans (hb.mono B1.out.size)); clear hx hb hro a5))
    | fail)
  go_ret
  exact ⟨rfl, B2.out⟩
set_option maxRecDepth 100000 in
set_option maxHeartbeats 8000000 in
theorem rhasT_any (ht : Ok t) (hT : TreeAt w v t) (hN : t.ns.length ≤ 4096) (hs : s.size ≤ 10000) :
    Calls Tryz.prog 11 #[v, .string s] w fun e w' => e = .returned (.bool (hasB' t s.data.toList)) ∧ Below w.heap.size w w' := by
  obtain ⟨ao, cap, so, scap, rfl, hm, hm2, _, _⟩ := hT.shape
  have b1 : Below w.heap.size w (w.alloc (.cells #[.slice ao t.ns.length cap, .slice so t.sets.length scap, .int .i64 t.root] 25)) := (Below.refl w.heap.size w).alloc (Nat.le_refl _) _
  have B1 := Lib.hid b1
  have HA := Lib.hid (rall_any s (w.alloc (.cells #[.slice ao t.ns.length cap, .slice so t.sets.length scap, .int .i64 t.root] 25)) (by omega))
  have HV := Lib.hid (fun X => rvalid_any s X (by omega))
  have HT := Lib.hid (fun X (hX : Below w.heap.size w X) => hT.next hX)
  have hlen : (allL s.data.toList).length ≤ 10000 := by
    have := Ut.allL_le s.data.toList
    rw [← Lib.size_eq] at this
    omega
  have RW := Lib.hid (fun (X : World) (vl : Value) (hX : Below w.heap.size w X) (hI : IntsAt X vl (allL s.data.toList)) => rrow_any ht (hT.next hX) hN hI hlen)
  have t0 : ∀ X, Below (w.alloc (.cells #[.slice ao t.ns.length cap, .slice so t.sets.length scap, .int .i64 t.root] 25)).heap.size (w.alloc (.cells #[.slice ao t.ns.length cap, .slice so t.sets.length scap, .int .i64 t.root] 25)) X → X.cell? ⟨w.heap.size, 0, none⟩ = some (.slice ao t.ns.length cap) ∧ X.cell? ⟨w.heap.size, 1, none⟩ = some (.slice so t.sets.length scap) ∧ X.cell? ⟨w.heap.size, 2, none⟩ = some (.int .i64 t.root) := fun X hX => ⟨cell_next (by simp) hX, cell_next (by simp) hX, cell_next (by simp) hX⟩
  have T0 := Lib.hid t0
  have hM : hasB' t s.data.toList = (validL s.data.toList && rowB t (allL s.data.toList)) := rfl
  rw [hM]
  clear hT t0 ht hM hlen
  generalize validL s.data.toList = V at *
  generalize rowB t (allL s.data.toList) = Y at *
  generalize allL s.data.toList = LL at *
  cases V
  · rw [Bool.false_and]
    go_enter Tryz.func11, Tryz.ntmps11
    go_upto_region 1 with fail
    clear b1
    generalize w.alloc (.cells #[.slice ao t.ns.length cap, .slice so t.sets.length scap, .int .i64 t.root] 25) = W1 at *
    go_wp2_with (first
      | (go_at_call 12; ((with_reducible refine HA.out.mono ?_); rintro e w2 ⟨vl, rfl, hv, hb⟩); go_must (have HL := Lib.hid hv; have B2 := Lib.hid hb; clear hv hb))
      | (go_at_call 14; ((with_reducible refine (HV.out _).mono ?_); rintro e w3 ⟨rfl, hb⟩); go_must (have B3 := Lib.hid (B2.out.trans (hb.mono B2.out.size)); clear hb))
      | fail)
    go_ret
    exact ⟨rfl, B1.out.trans (B3.out.mono B1.out.size)⟩
  · rw [Bool.true_and]
    go_enter Tryz.func11, Tryz.ntmps11
    go_upto_region 1 with fail
    clear b1
    generalize w.alloc (.cells #[.slice ao t.ns.length cap, .slice so t.sets.length scap, .int .i64 t.root] 25) = W1 at *
    go_wp2_with (first
      | (go_at_call 12; ((with_reducible refine HA.out.mono ?_); rintro e w2 ⟨vl, rfl, hv, hb⟩); go_must (have HL := Lib.hid hv; have B2 := Lib.hid hb; clear hv hb))
      | (go_at_call 14; ((with_reducible refine (HV.out _).mono ?_); rintro e w3 ⟨rfl, hb⟩); go_must (have B3 := Lib.hid (B2.out.trans (hb.mono B2.out.size)); obtain ⟨t1, t2, t3⟩ := T0.out _ B3.out; have g1 := cell_lt t1; have HL3 := Lib.hid (HL.out.next hb); have B4 := Lib.hid (B1.out.trans (B3.out.mono B1.out.size)); clear hb))
      | (go_at_call 10; ((with_reducible refine (RW.out _ _ B4.out HL3.out).mono ?_); rintro e w5 ⟨rfl, hb⟩); go_must (have B5 := Lib.hid (B4.out.trans (hb.mono B4.out.size)); clear hb))
      | fail)
    go_ret
    exact ⟨rfl, B5.out⟩
end
end Go.Proofs.YtjmdlioakkibcaaGreatDoor.Dv

namespace Go.Proofs.YtjmdlioakkibcaaGreatDoor.Rp
open Go Go.RowKit Go.Shelf
open Go.Proofs.YtjmdlioakkibcaaGreatDoor.Ar (Nd nd Tr Ok TreeAt TBox NodesAt NodeAt checkE ok_check)
open Go.Proofs.YtjmdlioakkibcaaGreatDoor.Rg (R RngsAt RowsAt nthL nth rightB rightB_iff setFrom add_zero)
theorem heapA {W : World} {o : Obj} {B : Nat} (hB : B = W.heap.size) : (W.alloc o).heap[B]? = some o := by subst hB; exact heap_alloc_new _ _
theorem belA {w W : World} {C : Obj} (h : Below w.heap.size w W) : Below w.heap.size w (W.alloc C) := h.alloc h.size C

set_option maxRecDepth 100000 in
set_option maxHeartbeats 1600000 in
theorem rone_any (c : Int) (w : World) : Calls Tryz.prog 33 #[.int .i64 c] w fun e w' => e = .returned (.slice (some ⟨w.heap.size, 0, none⟩) 1 1) ∧ w' = w.alloc (.cells #[.int .i64 c, .int .i64 c] 92) := by
  go_enter Tryz.func33, Tryz.ntmps33
  go_wp2
  go_ret
  exact ⟨rfl, rfl⟩

/-- the example -/
def exT : Tr := ⟨[⟨2, 0, 0, 0, 0, 0⟩, ⟨2, 0, 0, 0, 0, 1⟩, ⟨2, 0, 0, 0, 0, 2⟩, ⟨3, 1, 2, 0, 0, 0⟩, ⟨5, 3, 0, 0, -1, 0⟩, ⟨4, 0, 4, 0, 0, 0⟩], [[(97, 97)], [(98, 98)], [(99, 99)]], 5⟩
theorem ex_ok : Ok exT where
  root0 := by decide
  root1 := by decide
  sets := fun s hs => by
    have h : s = [(97, 97)] ∨ s = [(98, 98)] ∨ s = [(99, 99)] := by simpa [exT] using hs
    rw [rightB_iff]
    rcases h with rfl | rfl | rfl <;> simp [setFrom]
  node := fun i hi => by
    have h : i = 0 ∨ i = 1 ∨ i = 2 ∨ i = 3 ∨ i = 4 ∨ i = 5 := by simp [exT] at hi; omega
    rcases h with rfl | rfl | rfl | rfl | rfl | rfl <;> decide
theorem ex_check : checkE exT = 0 := ok_check ex_ok (by decide) (by decide)
def SomeOut (w : World) (e : Ending) (w' : World) : Prop := ∃ v, e = .returned v ∧ TreeAt w' v exT ∧ Below w.heap.size w w'

theorem heapB {W : World} {o x : Obj} {B : Nat} (h : W.heap[B]? = some x) : (W.alloc o).heap[B]? = some x := (heap_alloc_old _ _ (Array.getElem?_eq_some_iff.1 h).1).trans h
/-- a set of one number, in memory -/
theorem rngs_one {W : World} {B : Nat} {c : Int} (h : W.heap[B]? = some (.cells #[.int .i64 c, .int .i64 c] 92 (0, 0))) : RngsAt W (.slice (some ⟨B, 0, none⟩) 1 1) [(c, c)] :=
  .inr ⟨_, 1, rfl, by unfold maxLen; simp, fun i hi => by
    have e : i = 0 := by simpa using hi
    subst e
    rw [add_zero, Lib.cell_of_heap h, Lib.cell_of_heap h]
    exact ⟨rfl, rfl⟩⟩
theorem ex_at {W : World} {b1 b2 b3 b4 b5 : Nat} (h1 : W.heap[b1]? = some (.cells #[.int .i64 97, .int .i64 97] 92 (0, 0))) (h2 : W.heap[b2]? = some (.cells #[.int .i64 98, .int .i64 98] 92 (0, 0))) (h3 : W.heap[b3]? = some (.cells #[.int .i64 99, .int .i64 99] 92 (0, 0)))
    (h4 : W.heap[b4]? = some (.cells #[.slice (some ⟨b1, 0, none⟩) 1 1, .slice (some ⟨b2, 0, none⟩) 1 1, .slice (some ⟨b3, 0, none⟩) 1 1] 51 (0, 0)))
    (h5 : W.heap[b5]? = some (.cells #[.int .i64 2, .int .i64 0, .int .i64 0, .int .i64 0, .int .i64 0, .int .i64 0, .int .i64 2, .int .i64 0, .int .i64 0, .int .i64 0, .int .i64 0, .int .i64 1, .int .i64 2, .int .i64 0, .int .i64 0, .int .i64 0, .int .i64 0, .int .i64 2, .int .i64 3, .int .i64 1, .int .i64 2, .int .i64 0, .int .i64 0, .int .i64 0, .int .i64 5, .int .i64 3, .int .i64 0, .int .i64 0, .int .i64 (-1), .int .i64 0, .int .i64 4, .int .i64 0, .int .i64 4, .int .i64 0, .int .i64 0, .int .i64 0] 35 (0, 0))) : TreeAt W (.agg #[.slice (some ⟨b5, 0, none⟩) 6 6, .slice (some ⟨b4, 0, none⟩) 3 3, .int .i64 5]) exT := by
  refine ⟨_, _, rfl, .inr ⟨_, 6, rfl, by unfold maxLen; decide, fun i hi => ?_⟩, .inr ⟨_, 3, rfl, by unfold maxLen; decide, fun i hi => ?_⟩⟩
  · have h : i = 0 ∨ i = 1 ∨ i = 2 ∨ i = 3 ∨ i = 4 ∨ i = 5 := by simp [exT] at hi; omega
    rw [add_zero]
    rcases h with rfl | rfl | rfl | rfl | rfl | rfl
    all_goals (constructor <;> (rw [Lib.cell_of_heap h5]; rfl))
  · have h : i = 0 ∨ i = 1 ∨ i = 2 := by simp [exT] at hi; omega
    rw [add_zero]
    rcases h with rfl | rfl | rfl
    · exact ⟨_, by rw [Lib.cell_of_heap h4]; rfl, rngs_one h1⟩
    · exact ⟨_, by rw [Lib.cell_of_heap h4]; rfl, rngs_one h2⟩
    · exact ⟨_, by rw [Lib.cell_of_heap h4]; rfl, rngs_one h3⟩

set_option maxRecDepth 100000 in
set_option maxHeartbeats 4000000 in
theorem some_any (w : World) : Calls Tryz.prog 16 #[] w (SomeOut w) := by
  have C := Lib.hid rone_any
  go_enter Tryz.func16, Tryz.ntmps16
  go_wp2_with (go_at_call 33; (with_reducible refine (C.out _ _).mono ?_); rintro e w1 ⟨rfl, hw⟩; subst hw)
  (try simp only [Exit.inBlock, Exit.then])
  refine bodyPost_ret (results_cell_row rfl _ _ w.heap.size 25 #[.slice (some ⟨w.heap.size + 1 + 1 + 1 + 1 + 1, 0, none⟩) 6 6, .slice (some ⟨w.heap.size + 1 + 1 + 1 + 1, 0, none⟩) 3 3, .int .i64 5] (0, 0) _ rfl (by repeat (first | (refine heapA ?_; simp; done) | refine heapB ?_)) Tryz.underlying25 rfl (by kernel_rfl)) rfl ?_
  refine ⟨_, rfl, ex_at (b1 := w.heap.size + 1) (b2 := w.heap.size + 1 + 1) (b3 := w.heap.size + 1 + 1 + 1) ?_ ?_ ?_ ?_ ?_, ?_⟩
  · repeat (first | (refine heapA ?_; simp; done) | refine heapB ?_)
  · repeat (first | (refine heapA ?_; simp; done) | refine heapB ?_)
  · repeat (first | (refine heapA ?_; simp; done) | refine heapB ?_)
  · repeat (first | (refine heapA ?_; simp; done) | refine heapB ?_)
  · repeat (first | (refine heapA ?_; simp; done) | refine heapB ?_)
  · exact belA (belA (belA (belA (belA (belA (Below.refl _ _))))))

end Go.Proofs.YtjmdlioakkibcaaGreatDoor.Rp

namespace Go.Proofs.YtjmdlioakkibcaaGreatDoor.Ar
open Go Go.RowKit Go.Shelf
open Go.Proofs.YtjmdlioakkibcaaGreatDoor.Rg (R RngsAt RowsAt nthL add_zero own_next)

theorem gD_two (a b : Int) (ha : 0 ≤ a) (hb : 0 ≤ b) : gD [a, b] = max a b + 1 := by simp [gD]; omega
theorem gD_one (a : Int) (ha : 0 ≤ a) : gD [a] = a + 1 := by simp [gD]; omega
theorem gD_none : gD [] = 1 := rfl
theorem gZ_two (a b : Int) : gZ [a, b] = 1 + a + b := by simp [gZ]
theorem gZ_one (a : Int) : gZ [a] = 1 + a := by simp [gZ]
theorem gZ_none : gZ [] = 1 := rfl
/-- what a tree tells lies between -/
def Bnd (g : List Int → Int) (l : List Nd) : Prop := ∀ i, i < l.length → 1 ≤ reck g l i ∧ reck g l i ≤ 1048576

theorem ret_int {a b : Int} (h : a = b) : Ending.returned (.int .i64 a) = .returned (.int .i64 b) := by rw [h]

theorem bnd_gD {t : Tr} (ht : Ok t) (hl : t.ns.length ≤ 4096) : Bnd gD t.ns := by
  have h : ∀ i, i < t.ns.length → 1 ≤ reck gD t.ns i ∧ reck gD t.ns i ≤ (i : Int) + 1 := by
    intro i
    induction i using Nat.strongRecOn with
    | ind i ih =>
      intro hi
      rcases nodeB_ways (ht.node i hi) with ⟨h1, _⟩ | ⟨h1, _⟩ | ⟨h1, h2⟩ | ⟨h1, h2⟩
      · rw [reck_none (by omega) (by omega), gD_none]; omega
      · rw [reck_none (by omega) (by omega), gD_none]; omega
      · have e1 := ih (nd t.ns i).a.toNat (by omega) (by omega)
        have e2 := ih (nd t.ns i).b.toNat (by omega) (by omega)
        rw [reck_two h1 (by omega) (by omega), gD_two _ _ (by omega) (by omega)]; omega
      · have e1 := ih (nd t.ns i).a.toNat (by omega) (by omega)
        rw [reck_one h1 (by omega), gD_one _ (by omega)]; omega
  exact fun i hi => by have := h i hi; omega
theorem gS_two (a b : Int) : gS [a, b] = min (1 + a + b) 1048576 := by simp [gS]
theorem gS_one (a : Int) : gS [a] = min (1 + a) 1048576 := by simp [gS]
theorem gS_none : gS [] = 1 := rfl
theorem bnd_gS {t : Tr} (ht : Ok t) : Bnd gS t.ns := by
  intro i
  induction i using Nat.strongRecOn with
  | ind i ih =>
    intro hi
    rcases nodeB_ways (ht.node i hi) with ⟨h1, _⟩ | ⟨h1, _⟩ | ⟨h1, h2⟩ | ⟨h1, h2⟩
    · rw [reck_none (by omega) (by omega), gS_none]; omega
    · rw [reck_none (by omega) (by omega), gS_none]; omega
    · have e1 := ih (nd t.ns i).a.toNat (by omega) (by omega)
      have e2 := ih (nd t.ns i).b.toNat (by omega) (by omega)
      rw [reck_two h1 (by omega) (by omega), gS_two]; omega
    · have e1 := ih (nd t.ns i).a.toNat (by omega) (by omega)
      rw [reck_one h1 (by omega), gS_one]; omega

/-- how many nodes are counted, whatever the kinds -/
def farK (l : List Nd) (i : Nat) : Int :=
  1 + (if 0 ≤ (nd l i).a then (if (nd l i).a.toNat < i then farK l (nd l i).a.toNat else 0) else 0) + (if 0 ≤ (nd l i).b then (if (nd l i).b.toNat < i then farK l (nd l i).b.toNat else 0) else 0)
  termination_by i
  decreasing_by all_goals omega
theorem farK_pos (l : List Nd) (i : Nat) : 1 ≤ farK l i := by
  induction i using Nat.strongRecOn with
  | ind i ih =>
    rw [farK]
    have e1 : ∀ x : Nat, 0 ≤ (if x < i then farK l x else 0) := fun x => by
      split
      · have := ih x (by omega); omega
      · omega
    have a1 := e1 (nd l i).a.toNat
    have a2 := e1 (nd l i).b.toNat
    split <;> split <;> omega
/-- no tree is far: what the document's Far tells apart -/
structure Near (t : Tr) : Prop where
  ns : t.ns.length ≤ 60
  sets : t.sets.length ≤ 60
  size : ∀ i, i < t.ns.length → farK t.ns i ≤ 3000
  each : ∀ k, k < t.sets.length → (Rg.nthL t.sets k).length ≤ 30
theorem gZ_far {t : Tr} (ht : Ok t) : ∀ i, i < t.ns.length → 1 ≤ reck gZ t.ns i ∧ reck gZ t.ns i ≤ farK t.ns i := by
  intro i
  induction i using Nat.strongRecOn with
  | ind i ih =>
    intro hi
    have hp := farK_pos t.ns
    have h0 := hp i
    rcases nodeB_ways (ht.node i hi) with ⟨h1, _⟩ | ⟨h1, _⟩ | ⟨h1, h2⟩ | ⟨h1, h2⟩
    · rw [reck_none (by omega) (by omega), gZ_none]; omega
    · rw [reck_none (by omega) (by omega), gZ_none]; omega
    · have e1 := ih (nd t.ns i).a.toNat (by omega) (by omega)
      have e2 := ih (nd t.ns i).b.toNat (by omega) (by omega)
      rw [reck_two h1 (by omega) (by omega), gZ_two, farK, if_pos (by omega), if_pos (by omega), if_pos (by omega), if_pos (by omega)]; omega
    · have e1 := ih (nd t.ns i).a.toNat (by omega) (by omega)
      rw [reck_one h1 (by omega), gZ_one, farK, if_pos (by omega), if_pos (by omega)]
      have hq := hp (nd t.ns i).b.toNat
      split
      · split <;> omega
      · omega
theorem bnd_gZ {t : Tr} (ht : Ok t) (hn : Near t) : Bnd gZ t.ns := fun i hi => by
  have h1 := gZ_far ht i hi
  have h2 := hn.size i hi
  omega
theorem gS_gZ {t : Tr} (ht : Ok t) (hn : Near t) : ∀ i, i < t.ns.length → reck gS t.ns i = reck gZ t.ns i := by
  intro i
  induction i using Nat.strongRecOn with
  | ind i ih =>
    intro hi
    have hb := bnd_gZ ht hn
    have h0 := hb i hi
    have h00 := gZ_far ht i hi
    have h01 := hn.size i hi
    rcases nodeB_ways (ht.node i hi) with ⟨h1, _⟩ | ⟨h1, _⟩ | ⟨h1, h2⟩ | ⟨h1, h2⟩
    · rw [reck_none (by omega) (by omega), reck_none (by omega) (by omega)]; rfl
    · rw [reck_none (by omega) (by omega), reck_none (by omega) (by omega)]; rfl
    · rw [reck_two h1 (by omega) (by omega), gZ_two] at h00
      rw [reck_two h1 (by omega) (by omega), reck_two h1 (by omega) (by omega), gS_two, gZ_two, ih _ (by omega) (by omega), ih _ (by omega) (by omega)]; omega
    · rw [reck_one h1 (by omega), gZ_one] at h00
      rw [reck_one h1 (by omega), reck_one h1 (by omega), gS_one, gZ_one, ih _ (by omega) (by omega)]; omega

end Go.Proofs.YtjmdlioakkibcaaGreatDoor.Ar

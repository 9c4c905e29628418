/- A map of numbers: what was told. The library's Equal of two lists of ranges. A set's number: where it stands among the sets, and behind them if it does not. The book's Set. A tree read into a book, in memory. A tree's node read into a book: each kind. -/
import Derived.Test.YtbkafoaoddajoaaGreatDoorPk05
import Derived.Test.YtbkafoaoddajoaaGreatDoorPk04
import Derived.Maps.Keyed
import Derived.Test.YtbkafoaoddajoaaGreatDoorPk01
import Derived.Deep.DeepMust
import Derived.Test.YtbkafoaoddajoaaGreatDoorPk08
import Derived.Test.YtbkafoaoddajoaaGreatDoorPk06
import Derived.Test.YtbkafoaoddajoaaGreatDoorPk07

namespace Go.Proofs.YtbkafoaoddajoaaGreatDoor.Dv
open Go Go.RowKit Go.Shelf Go.Maps
open Go.Proofs.YtbkafoaoddajoaaGreatDoor.Ar (Nd nd zeroInt wf_nat lit_inj Wf)

theorem lawI : Keyed Tryz.prog 3 := int_keyed Tryz.underlying3
def ki (i : Nat) : Lit := .int .i64 (i : Nat)
theorem key_i {i : Nat} (h : i < 1000000) : keyOf Tryz.prog 3 (.int .i64 (i : Nat)) = some (ki i) := keyOf_int_mk Tryz.underlying3 (wf_nat (by omega))
theorem ki_inj {i j : Nat} (h : ki i = ki j) : i = j := by
  simp only [ki, Lit.int.injEq] at h
  omega

/-- a map in which these numbers stand -/
structure IMap (Md : Nat) (D : Mm) (w : World) : Prop where
  map : ∃ E : DataW Unit, w.ownsMap Tryz.prog 3 (plainElem Tryz.prog 3) Md D.length E ∧ (∀ i, i < 1000000 → (Maps.has E (ki i) = true ↔ D.lookup i ≠ none)) ∧ (∀ i x, i < 1000000 → D.lookup i = some x → E.atKey (ki i) (.lit (.int .i64 0)) = .lit (.int .i64 ((x : Nat) : Int))) ∧ Maps.size E = D.length
theorem imap_new (w : World) : IMap w.heap.size [] (w.alloc (.map #[] 0)) :=
  ⟨.map [], World.ownsMap_made _ _ _ _, fun n _ => by simp [Maps.has], fun i n _ h => by simp at h, rfl⟩
theorem IMap.lt {Md : Nat} {D : Mm} {w : World} (h : IMap Md D w) : Md < w.heap.size := by
  obtain ⟨E, h1, _⟩ := h.map
  exact h1.lt
theorem IMap.kg {Md : Nat} {D : Mm} {w w' : World} {N0 : Nat} {U : Nat → Prop} {T : TypeId → Prop} (h : IMap Md D w) (k : Kg N0 U T w w') (hU : ¬ U Md) : IMap Md D w' := by
  obtain ⟨E, h1, h2⟩ := h.map
  exact ⟨E, k.map h1 hU, h2⟩
theorem imap_put {Md : Nat} {D : Mm} {w3 : World} {E : DataW Unit} {i x : Nat} (hi : i < 1000000) (hT : Tidy E) (hn : D.lookup i = none)
    (hhas : ∀ i, i < 1000000 → (Maps.has E (ki i) = true ↔ D.lookup i ≠ none)) (hat : ∀ i x, i < 1000000 → D.lookup i = some x → E.atKey (ki i) (.lit (.int .i64 0)) = .lit (.int .i64 ((x : Nat) : Int))) (hsize : Maps.size E = D.length)
    (hown : w3.ownsMap Tryz.prog 3 (plainElem Tryz.prog 3) Md (D.length + 1) (E.put (ki i) (.lit (.int .i64 ((x : Nat) : Int))))) : IMap Md ((i, x) :: D) w3 := by
  have hK : WideAt.IsKeyLit (ki i) := lawI.key (key_i hi)
  have hh : Maps.has E (ki i) = false := by rw [← Bool.not_eq_true, hhas i hi]; simp [hn]
  refine ⟨_, by rw [List.length_cons]; exact hown, fun j hj => ?_, fun j y hj hy => ?_, by rw [size_put hT, hh, hsize]; simp⟩
  · rw [List.lookup_cons]
    by_cases e : j = i
    · subst e
      rw [has_put_same hT.isMap hK]; simp
    · rw [has_put_other (fun h => e (ki_inj h)), hhas j hj, show (j == i) = false by simpa using e]
  · rw [List.lookup_cons] at hy
    by_cases e : j = i
    · subst e
      simp at hy
      subst hy
      rw [atKey_put_same hT.isMap hK]
    · rw [show (j == i) = false by simpa using e] at hy
      rw [atKey_put_other (fun h => e (ki_inj h))]
      exact hat j y hj hy
theorem ilook_in {Md : Nat} {D : Mm} {W : World} {i x : Nat} (h : IMap Md D W) (hi : i < 1000000) (hx : D.lookup i = some x) :
    (Instr.lookup 83 (.map (some Md)) (.int .i64 (i : Nat)) true).run Tryz.prog W = .ok (.tuple #[.int .i64 ((x : Nat) : Int), .bool true]) W := by
  obtain ⟨E, hown, hhas, hat, _⟩ := h.map
  obtain ⟨v, ps, h1, h2⟩ := hown.look_ok lawI Tryz.underlying83 (zeroInt W) (zd := .lit (.int .i64 0)) (zp := []) (plainElem_int Tryz.underlying3 (by decide)) (key_i hi)
  obtain ⟨c, rfl, hc, _⟩ := plainElem_int_inv Tryz.underlying3 h2
  rw [hat i x hi hx] at hc
  have hc' : ((x : Nat) : Int) = c := by have := (Prod.mk.inj hc).1; simpa using this
  have hh : Maps.has E (ki i) = true := (hhas i hi).2 (by simp [hx])
  rw [h1, hh, hc']
theorem ilook_out {Md : Nat} {D : Mm} {w : World} {i : Nat} (h : IMap Md D w) (hi : i < 1000000) (hx : D.lookup i = none) :
    ∃ c, ∀ W, Below w.heap.size w W → (Instr.lookup 83 (.map (some Md)) (.int .i64 (i : Nat)) true).run Tryz.prog W = .ok (.tuple #[.int .i64 c, .bool false]) W := by
  obtain ⟨E, hown, hhas, hat, _⟩ := h.map
  have hh : Maps.has E (ki i) = false := by rw [← Bool.not_eq_true, hhas i hi]; simp [hx]
  have key : ∀ W, Below w.heap.size w W → ∃ c ps, (Instr.lookup 83 (.map (some Md)) (.int .i64 (i : Nat)) true).run Tryz.prog W = .ok (.tuple #[.int .i64 c, .bool false]) W ∧ (E.atKey (ki i) (.lit (.int .i64 0)), ps) = ((DataW.lit (.int .i64 c) : DataW Unit), ([] : List MemPlace)) := fun W hb => by
    have hown' := ((Kg.of_below hb : Kg 0 (fun _ => False) (fun _ => False) w W)).map hown id
    obtain ⟨v, ps, h1, h2⟩ := hown'.look_ok lawI Tryz.underlying83 (zeroInt W) (zd := .lit (.int .i64 0)) (zp := []) (plainElem_int Tryz.underlying3 (by decide)) (key_i hi)
    obtain ⟨c, rfl, hc, _⟩ := plainElem_int_inv Tryz.underlying3 h2
    exact ⟨c, ps, by rw [h1, hh], hc⟩
  obtain ⟨c, ps, _, hc⟩ := key w (Below.refl _ _)
  refine ⟨c, fun W hb => ?_⟩
  obtain ⟨d, ps', h1, hd⟩ := key W hb
  have e1 := (Prod.mk.inj hc).1
  rw [(Prod.mk.inj hd).1] at e1
  have e2 : d = c := by simpa using e1
  rw [h1, e2]
/-- one more is told: the map's update -/
theorem istore {Md : Nat} {D : Mm} {w : World} {i x : Nat} (h : IMap Md D w) (hi : i < 1000000) (hx : x < 1000000) (hl : D.length < 1000000) (hn : D.lookup i = none) :
    ∃ w3, (Instr.mapUpdate 83 (.map (some Md)) (.int .i64 (i : Nat)) (.int .i64 (x : Nat))).run Tryz.prog w = .ok () w3 ∧ IMap Md ((i, x) :: D) w3 ∧ w.mapTurned w3 Md := by
  obtain ⟨E, hown, hhas, hat, hsize⟩ := h.map
  obtain ⟨w3, hrun, hown3, hturn⟩ := hown.store lawI Tryz.underlying83 (by unfold maxLen; omega) (key_i hi) (plainElem_int Tryz.underlying3 (wf_nat (n := x) (by omega)))
  exact ⟨w3, hrun, imap_put hi (hown.tidy lawI) hn hhas hat hsize hown3, hturn⟩
end Go.Proofs.YtbkafoaoddajoaaGreatDoor.Dv

namespace Go.Proofs.YtbkafoaoddajoaaGreatDoor.Rg
open Go.RowKit Go.Shelf

set_option maxHeartbeats 1600000 in
theorem equal_any (a b : List R) (va vb : Value) (w : World) (ha : RngsAt w va a) (hb : RngsAt w vb b) :
    Calls Tryz.prog 66 #[va, vb] w fun e w' => e = .returned (.bool (decide (a = b))) ∧ Below w.heap.size w w' := by
  obtain ⟨ao, cap, rfl, hm, hcs⟩ := ha.shape
  obtain ⟨bo, cbp, rfl, hm2, hds⟩ := hb.shape
  have HC := Lib.hid hcs
  have HD := Lib.hid hds
  clear hcs hds ha hb
  by_cases hlen : a.length = b.length
  · go_enter Tryz.func66, Tryz.ntmps66
    go_wp2
    go_loopw [13] (fun i wr => ∃ k : Nat, i = .int .i64 k ∧ k ≤ a.length ∧ decide (a = b) = decide (a.drop k = b.drop k) ∧ Below w.heap.size w wr) (fun i _ => a.length - (intOf i).toNat)
    case atStart => exact ⟨0, rfl, Nat.zero_le _, rfl, Below.refl _ _⟩
    case round =>
      obtain ⟨k, rfl, hk, he, hb⟩ := hrel
      by_cases hlt : k < a.length
      · obtain ⟨g, rfl, c1, c2⟩ := HC.out k hlt
        obtain ⟨g', rfl, d1, d2⟩ := HD.out k (by omega)
        replace c1 := cell_next c1 hb
        replace c2 := cell_next c2 hb
        replace d1 := cell_next d1 hb
        replace d2 := cell_next d2 hb
        have n1 : (k : Int) < a.length := by omega
        have n2 : (k : Int) < b.length := by omega
        have hst := eq_step hlt (by omega) he
        by_cases hel : (nth a k).1 = (nth b k).1 ∧ (nth a k).2 = (nth b k).2
        · rw [decide_eq_true hel, Bool.true_and] at hst
          obtain ⟨q1, q2⟩ := hel
          rw [q1] at c1
          rw [q2] at c2
          have HE := Lib.hid hst
          have HB := Lib.hid hb
          clear he hb hst q1 q2
          go_wp2
          go_quiet (fail)
          go_wp2
          go_roundw
          case rel => exact ⟨k + 1, by go_num, by omega, HE.out, HB.out.trans ((below_drewN _ _).mono HB.out.size)⟩
          case measure => simp [intOf]; omega
        · rw [decide_eq_false hel, Bool.false_and] at hst
          have HE := Lib.hid hst
          have HB := Lib.hid hb
          clear he hb hst
          by_cases q1 : (nth a k).1 = (nth b k).1
          · have q2 : ((nth a k).2 == (nth b k).2) = false := by simp; exact fun h => hel ⟨q1, h⟩
            rw [q1] at c1
            clear hel q1
            go_wp2
            go_quiet (fail)
            go_wp2
            go_ret
            exact ⟨retB HE.out.symm, HB.out.trans ((below_drewN _ _).mono HB.out.size)⟩
          · have q2 : ((nth a k).1 == (nth b k).1) = false := by simpa using q1
            clear hel q1
            go_wp2
            go_quiet (fail)
            go_wp2
            go_ret
            exact ⟨retB HE.out.symm, HB.out.trans ((below_drewN _ _).mono HB.out.size)⟩
      · obtain rfl : k = a.length := by omega
        have he2 : decide (a = b) = true := by rw [he, List.drop_length, hlen, List.drop_length]; simp
        have HE := Lib.hid he2
        clear he he2
        go_wp2
        go_ret
        exact ⟨retB HE.out.symm, hb⟩
  · have HL := Lib.hid (eq_len hlen)
    go_enter Tryz.func66, Tryz.ntmps66
    go_wp2
    go_ret
    exact ⟨retB HL.out.symm, Below.refl _ _⟩

end Go.Proofs.YtbkafoaoddajoaaGreatDoor.Rg

namespace Go.Proofs.YtbkafoaoddajoaaGreatDoor.Dv
open Go Go.RowKit Go.Shelf Go.Maps
open Go.Proofs.YtbkafoaoddajoaaGreatDoor.Ar (timesB Nd nd nodeB nodeB_ways NRow cellsN aggN flatN Book WfN Wf NodeAt node_new nodes_of_row)
open Go.Proofs.YtbkafoaoddajoaaGreatDoor.Rg (R RngsAt RowsAt nthL add_zero own_next has_any inB equal_any)

set_option maxHeartbeats 1600000 in
theorem set1_any (l m : List R) (vl vm : Value) (N : Nat) (w : World) (hl : RngsAt w vl l) (hm : RngsAt w vm m) (hc : w.cell? ⟨N, 0, none⟩ = some vl) :
    Calls Tryz.prog 65 #[vm, .pointer (some ⟨N, 0, none⟩)] w fun e w' => e = .returned (.bool (decide (l = m))) ∧ Below w.heap.size w w' := by
  have C := Lib.hid (equal_any l m vl vm w hl hm)
  go_enter Tryz.func65, Tryz.ntmps65
  go_wp2_with (go_at_call 66; (with_reducible refine C.out.mono ?_); rintro e w1 ⟨rfl, hb⟩; go_must (have HB := Lib.hid hb; clear hb))
  go_ret
  exact ⟨rfl, HB.out⟩

/-- where a set stands -/
def idxZ (L : List (List R)) (l : List R) : Int := if l ∈ L then (L.idxOf l : Nat) else -1
theorem idx_none {L : List (List R)} {l : List R} (h : ∀ j, j < L.length → l ≠ nthL L j) : idxZ L l = -1 := by
  unfold idxZ
  rw [if_neg]
  intro hm
  obtain ⟨j, hj, rfl⟩ := List.mem_iff_getElem.1 hm
  exact h j hj (by simp [nthL, hj])
theorem idx_at {L : List (List R)} {l : List R} {k : Nat} (hk : k < L.length) (h : ∀ j, j < k → l ≠ nthL L j) (e : l = nthL L k) : idxZ L l = (k : Nat) := by
  have hm : l ∈ L := by rw [e]; simp [nthL, hk]
  unfold idxZ
  rw [if_pos hm]
  have : L.idxOf l = k := by
    have h1 : L.idxOf l < L.length := List.idxOf_lt_length_iff.2 hm
    have h2 : L[L.idxOf l] = l := List.getElem_idxOf h1
    rcases Nat.lt_trichotomy (L.idxOf l) k with h3 | h3 | h3
    · exact absurd (show l = nthL L (L.idxOf l) by simp [nthL, h1, h2]) (h _ h3)
    · exact h3
    · have h4 := List.not_of_lt_findIdx (p := (· == l)) (xs := L) (i := k) h3
      simp at h4
      exact absurd ((show nthL L k = L[k] by simp [nthL, hk]).symm.trans e.symm) h4
  rw [this]

set_option maxRecDepth 100000 in
set_option maxHeartbeats 4000000 in
theorem index_any (L : List (List R)) (l : List R) (vs vl : Value) (N : Nat) (w : World) (hs : RowsAt w vs L) (hl : RngsAt w vl l) (hc : w.cell? ⟨N, 0, none⟩ = some vl) (hlen : L.length ≤ 1000000) :
    Calls Tryz.prog 64 #[vs, .func (.func 65) #[] #[.pointer (some ⟨N, 0, none⟩)]] w fun e w' => e = .returned (.int .i64 (idxZ L l)) ∧ Below w.heap.size w w' := by
  have hE : ∀ (args : Array Value) (w : World), (callFunc 65 args).run Tryz.prog w = .ok (.enter 65 args) w := enters_of Tryz.func65 (by kernel_rfl) rfl
  obtain ⟨so, scap, rfl, hm, hcs⟩ := hs.shape
  have HS := Lib.hid hcs
  have HL := Lib.hid hl
  have HC := Lib.hid hc
  clear hcs hs hl hc
  go_enter Tryz.func64, Tryz.ntmps64
  go_wp2
  go_loopw [8] (fun i wr => ∃ k : Nat, i = .int .i64 k ∧ k ≤ L.length ∧ (∀ j, j < k → l ≠ nthL L j) ∧ Below w.heap.size w wr) (fun i _ => L.length - (intOf i).toNat)
  case atStart => exact ⟨0, rfl, by omega, fun j hj => by omega, Below.refl _ _⟩
  case round =>
    obtain ⟨k, rfl, hk, hz, hb⟩ := hrel
    have HZ := Lib.hid hz
    have HB := Lib.hid hb
    have hsz := hb.size
    clear hz hb
    by_cases hlt : k < L.length
    · obtain ⟨g, x, rfl, c1, hx⟩ := HS.out k hlt
      replace c1 := cell_next c1 HB.out
      have n1 : (k : Int) < L.length := by omega
      have C := Lib.hid (set1_any l (nthL L k) vl x N wr (HL.out.next HB.out) (hx.next HB.out) (cell_next HC.out HB.out))
      clear hx
      by_cases e : l = nthL L k
      · rw [decide_eq_true e] at C
        have HR := Lib.hid (idx_at hlt HZ.out e)
        clear e
        go_wp2_with (go_at_fn 65; (with_reducible refine C.out.mono ?_); rintro e w1 ⟨rfl, hb1⟩; go_must (have B1 := Lib.hid (HB.out.trans (hb1.mono hsz)); clear hb1))
        go_ret
        exact ⟨by rw [HR.out]; rfl, B1.out⟩
      · rw [decide_eq_false e] at C
        have HN := Lib.hid e
        clear e
        go_wp2_with (go_at_fn 65; (with_reducible refine C.out.mono ?_); rintro e w1 ⟨rfl, hb1⟩; go_must (have B1 := Lib.hid (HB.out.trans (hb1.mono hsz)); clear hb1))
        go_roundw
        case rel => exact ⟨k + 1, by go_num, by omega, fun j hj => if h : j < k then HZ.out j h else (show j = k by omega) ▸ HN.out, B1.out⟩
        case measure => simp [intOf]; omega
    · obtain rfl : k = L.length := by omega
      have HR := Lib.hid (idx_none HZ.out)
      go_wp2
      go_ret
      exact ⟨by rw [HR.out]; rfl, HB.out⟩

section
variable {w0 w : World} {bb M : Nat} {B : Bk} {pv sv bv : Value} {xs : List Value} {l : List R} {vl : Value}
theorem BkAt.rowsAt (h : BkAt w0 bb M B pv sv bv xs w) : RowsAt w sv B.sets := by
  have hs := h.sets
  rcases h.sets.2 with ⟨rfl, h0⟩ | ⟨g, cap, cur, rfl, _, hg, hc, hm, _, ht⟩
  · exact .inl ⟨rfl, List.eq_nil_of_length_eq_zero h0⟩
  · refine .inr ⟨⟨g, 0, none⟩, cap, rfl, by omega, fun i hi => ?_⟩
    obtain ⟨x, h3, h4⟩ := h.row i hi
    refine ⟨x, ?_, h4.next h.below⟩
    rw [add_zero, hs.cellAt i (by omega), h3]
theorem bk_set {X Z : World} {g cap : Nat} (h : BkAt w0 bb M B pv sv bv xs w) (hX : Below w.heap.size w X) (hl : RngsAt w0 vl l) (hown : Z.ownsRow w0.heap.size 51 1 (.slice (some ⟨g, 0, none⟩) (B.sets.length + 1) cap) (B.sets.length + 1) (xs ++ [vl])) (hg : X.grownBy Z sv.ownBlock) (hat : sv.ownBlock = some g ∨ X.heap.size ≤ g) :
    (Z.cell? ⟨bb, 1, none⟩ = some sv ∧ Z.frozen? ⟨bb, 1, none⟩ = false) ∧
    BookAt w0 bb M { B with sets := B.sets ++ [l] } (Z.setCell ⟨bb, 1, none⟩ (.slice (some ⟨g, 0, none⟩) (B.sets.length + 1) cap)) ∧
    Fz bb M w (Z.setCell ⟨bb, 1, none⟩ (.slice (some ⟨g, 0, none⟩) (B.sets.length + 1) cap)) := by
  have hx := h.next hX
  have kZ : Kg w0.heap.size (fun _ => False) (fun t => t = 51) X Z := Kg.of_grown hg fun g hv => by
    obtain ⟨h1, cs, hh⟩ := row_block hx.sets hv
    exact ⟨h1, .inr ⟨cs, _, _, hh, rfl⟩⟩
  have boxZ := kZ.heap hx.box id (fun _ _ _ e => by cases e; decide)
  have kS : Kg w0.heap.size (fun k => k = bb) (fun _ => False) Z (Z.setCell ⟨bb, 1, none⟩ (.slice (some ⟨g, 0, none⟩) (B.sets.length + 1) cap)) := Kg.of_set hx.base rfl
  have hbox := heap_setCell_same Z bb 1 _ 58 (.slice (some ⟨g, 0, none⟩) (B.sets.length + 1) cap) boxZ
  have hz : ∀ {e : TypeId} {s m : Nat} {v : Value} {ys : List Value}, Z.ownsRow w0.heap.size e s v m ys → e ≠ 58 → ∀ g, v.ownBlock = some g → ¬ g = bb := fun hr he g hv e => by
    obtain ⟨_, cs, hh⟩ := row_block hr hv
    rw [e, boxZ] at hh
    simp only [Option.some.injEq, Obj.cells.injEq] at hh
    exact he hh.2.1.symm
  have partsZ := kZ.own hx.parts (by decide) (fun _ _ => id)
  have bareZ := kZ.own hx.bare (by decide) (fun _ _ => id)
  have hbbX := hx.lt
  have hbw : ∀ k, k < w.heap.size → ¬ sv.ownBlock = some k → k ≠ bb → (Z.setCell ⟨bb, 1, none⟩ (.slice (some ⟨g, 0, none⟩) (B.sets.length + 1) cap)).heap[k]? = w.heap[k]? := fun k hk h1 h2 =>
    (Below.heap_setCell _ _ _ _ h2).trans ((hg.block k (Nat.lt_of_lt_of_le hk hX.size) (fun e => h1 e.symm)).trans (hX.block k hk))
  have hlen : xs.length = B.sets.length := by have := h.sets.1; omega
  refine ⟨⟨by simp [World.cell?, boxZ], frozen_of_row Z bb 1 _ _ boxZ⟩, ⟨pv, .slice (some ⟨g, 0, none⟩) (B.sets.length + 1) cap, bv, xs ++ [vl], ?_⟩, ?_⟩
  · refine ⟨?_, hx.base, hx.baseM, by simpa using hbox, kS.own partsZ id (hz partsZ (by decide)), ?_, fun i hi => ?_, kS.own bareZ id (hz bareZ (by decide)), ?_⟩
    · exact kS.since (kZ.since hx.below rfl) rfl
    · have := kS.own hown id (hz hown (by decide))
      simpa using this
    · simp only [List.length_append, List.length_cons, List.length_nil] at hi
      by_cases e : i < B.sets.length
      · obtain ⟨x, h1, h2⟩ := h.row i e
        refine ⟨x, by rw [List.getElem?_append_left (by omega)]; exact h1, ?_⟩
        rw [show nthL (B.sets ++ [l]) i = nthL B.sets i by simp [nthL, List.getElem?_append_left e]]
        exact h2
      · obtain rfl : i = B.sets.length := by omega
        refine ⟨vl, by rw [← hlen]; simp, ?_⟩
        rw [show nthL (B.sets ++ [l]) B.sets.length = l by simp [nthL]]
        exact hl
    · refine ⟨hx.map.nodup, hx.map.wf, ?_⟩
      obtain ⟨D, h1, h2⟩ := hx.map.map
      exact ⟨D, kS.map (kZ.map h1 id) (fun e => hx.ne e.symm), h2⟩
  · refine ⟨?_, ?_, ?_, ?_, fun k hk h1 h2 h3 => hbw k hk (fun e => h3 ((h.rows k).2 (.inr (.inl e)))) h1, fun k hk => ?_⟩
    · exact (kS.os.trans kZ.os).trans hX.os
    · exact (kS.tape.trans kZ.tape).trans hX.tape
    · exact (kS.output.trans kZ.output).trans hX.output
    · exact Nat.le_trans hX.size (Nat.le_trans kZ.size kS.size)
    · obtain ⟨p, s, b, m, f, t, z, e, hr⟩ := hk
      rw [hbox] at e
      simp at e
      obtain ⟨⟨rfl, rfl, rfl, _⟩, _⟩ := e
      rcases hr with hr | hr | hr
      · exact .inl ((h.rows k).2 (.inl hr))
      · simp only [Value.ownBlock, Option.some.injEq] at hr
        subst hr
        rcases hat with hat | hat
        · exact .inl ((h.rows g).2 (.inr (.inl hat)))
        · exact .inr (Nat.le_trans hX.size hat)
      · exact .inl ((h.rows k).2 (.inr (.inr hr)))
end
end Go.Proofs.YtbkafoaoddajoaaGreatDoor.Dv

namespace Go.Proofs.YtbkafoaoddajoaaGreatDoor.Dv
open Go Go.RowKit Go.Shelf Go.Maps
open Go.Proofs.YtbkafoaoddajoaaGreatDoor.Ar (timesB Nd nd nodeB nodeB_ways NRow cellsN aggN flatN Book WfN Wf NodeAt node_new nodes_of_row)
open Go.Proofs.YtbkafoaoddajoaaGreatDoor.Rg (R RngsAt RowsAt nthL add_zero own_next has_any inB equal_any)

theorem infoS : (Tryz.prog.info? 51).map (fun i => (i.zero, i.size, i.bytes)) = some (some (.slice none 0 0), 1, 24) := by kernel_rfl
theorem wf_set {i : Nat} (h : i ≤ 1000000) : WfN (nSet i) := by
  constructor <;> (refine WalkArith.wf_i64 ?_; simp [nSet]; try omega)

theorem number0_any {w0 w : World} {bb M : Nat} {B : Bk} (n : Nd) (e : Bool) (h : BookAt w0 bb M B w) (g1 : B.bare.length = B.parts.length) (g2 : B.parts.length ≤ 12288) (hn : WfN n) :
    Calls Tryz.prog 46 #[.pointer (some ⟨bb, 0, none⟩), aggN n, .bool e] w (OpAt w0 bb M w (number B n e)) := by
  unfold number
  split
  · exact number_old n e h hn (by assumption)
  · split
    · exact number_full n e h hn (by assumption) (by assumption)
    · exact number_new n e h hn (by omega) g1 (by assumption)

section
variable {w0 w : World} {bb M : Nat} {B : Bk} {l : List R} {vl : Value}
set_option maxRecDepth 100000 in
set_option maxHeartbeats 4000000 in
theorem bset_any (h : BookAt w0 bb M B w) (g1 : B.bare.length = B.parts.length) (g2 : B.parts.length ≤ 12288) (hl : RngsAt w0 vl l) (hn : B.sets.length ≤ 100000) :
    Calls Tryz.prog 45 #[.pointer (some ⟨bb, 0, none⟩), vl] w (OpAt w0 bb M w (setF B l)) := by
  obtain ⟨i0, hi, hz0, hz1, hz2⟩ := info_parts infoS
  obtain ⟨vo, vcap, hv, _, _⟩ := hl.shape
  subst hv
  obtain ⟨pv, sv, bv, xs, h⟩ := h
  have HB := Lib.hid h
  have c1 := h.cell1
  have hlt := h.lt
  have hw0 := h.below.size
  have BW := Lib.hid (fun o => (Below.refl w.heap.size w).alloc (Nat.le_refl _) o)
  have hvl := hl.next h.below
  have b1 : (w.alloc (.cells #[.slice vo l.length vcap] 51)).cell? ⟨w.heap.size, 0, none⟩ = some (.slice vo l.length vcap) := by simp
  have HBX := Lib.hid b1
  have hs1 : w.heap.size < (w.alloc (.cells #[.slice vo l.length vcap] 51)).heap.size := by simp
  have C1 := Lib.hid (index_any B.sets l sv (.slice vo l.length vcap) w.heap.size (w.alloc (.cells #[.slice vo l.length vcap] 51)) (h.rowsAt.next (BW.out _)) (hvl.next (BW.out _)) b1 (by omega))
  have HVL := Lib.hid hl
  clear b1 hvl hl
  by_cases hm : l ∈ B.sets
  · have hidx := List.idxOf_lt_length_of_mem hm
    have hp : setF B l = number B (nSet (B.sets.idxOf l)) false := by unfold setF; rw [if_pos hm]
    have hq : idxZ B.sets l = (B.sets.idxOf l : Nat) := by unfold idxZ; rw [if_pos hm]
    rw [hp]
    rw [hq] at C1
    generalize B.sets.idxOf l = i at *
    have CN := Lib.hid (fun X (hX : BookAt w0 bb M B X) => number0_any (nSet i) false hX g1 g2 (wf_set (by omega)))
    have n1 : decide ((i : Int) < 0) = false := decide_eq_false (by omega)
    have n2 : ¬ ((i : Int) < 0) := by omega
    clear hp hq h hm
    unfold aggN nSet at CN
    dsimp only at CN
    unfold OpAt at CN ⊢
    go_enter Tryz.func45, Tryz.ntmps45
    go_wp2_with (first
      | (go_at_call 64; (with_reducible refine C1.out.mono ?_); rintro e w1 ⟨rfl, hb1⟩; go_must (have B1 := Lib.hid ((BW.out (.cells #[.slice vo l.length vcap] 51)).trans (hb1.mono (by simp))); have H1 := Lib.hid (show BookAt w0 bb M B w1 from ⟨_, _, _, _, HB.out.next B1.out⟩); clear hb1))
      | (go_at_call 46; (with_reducible refine (CN.out _ H1.out).mono ?_); rintro e w2 ⟨rfl, h2, k2⟩; go_must (have H2 := Lib.hid h2; have K2 := Lib.hid k2; clear h2 k2))
      | fail)
    go_ret
    exact ⟨rfl, H2.out, (Fz.of_below B1.out hlt).trans K2.out⟩
  · have hp : setF B l = number { B with sets := B.sets ++ [l] } (nSet B.sets.length) false := by unfold setF; rw [if_neg hm]
    have hq : idxZ B.sets l = -1 := by unfold idxZ; rw [if_neg hm]
    rw [hp]
    rw [hq] at C1
    have CN := Lib.hid (fun X (hX : BookAt w0 bb M { B with sets := B.sets ++ [l] } X) => number0_any (nSet B.sets.length) false hX g1 g2 (wf_set (by omega)))
    clear hp hq hm
    unfold aggN nSet at CN
    dsimp only at CN
    unfold OpAt at CN ⊢
    have hso : ∃ so scap, sv = .slice so B.sets.length scap := by
      obtain ⟨so, scap, e, _⟩ := h.rowsAt.shape
      exact ⟨so, scap, e⟩
    obtain ⟨so, scap, rfl⟩ := hso
    clear h
    go_enter Tryz.func45, Tryz.ntmps45
    go_wp2_with (first
      | (go_at_call 64; (with_reducible refine C1.out.mono ?_); rintro e w1 ⟨rfl, hb1⟩; go_must (have B1 := Lib.hid ((BW.out (.cells #[.slice vo l.length vcap] 51)).trans (hb1.mono (by simp))); have d1 := cell_next c1 B1.out; have d2 := cell_next HBX.out hb1; have hw1 := B1.out.size; have hw1' : w.heap.size < w1.heap.size := Nat.lt_of_lt_of_le hs1 hb1.size; clear hb1))
      | fail)
    have q6 : ∀ (cs : Array Value) (t : TypeId), (w1.alloc (.cells cs t)).cell? ⟨bb, 1, none⟩ = some (.slice so B.sets.length scap) := fun cs t => cell_next d1 ((Below.refl _ _).alloc (Nat.le_refl _) _)
    have hbb1 := cell_lt d1
    have B3 := Lib.hid (fun o => B1.out.trans ((((Below.refl w1.heap.size w1).alloc (Nat.le_refl _) o).trans (below_drew _)).mono hw1) : ∀ o, Below w.heap.size w ((w1.alloc o).drew))
    have HN := Lib.hid hn
    go_region_law (first
      | (refine step_append_lies _ rfl (.tmp 23) (.tmp 25) 23 rfl w0.heap.size 51 i0 (.slice none 0 0) 1 24 Tryz.underlying23 hi hz0 hz1 hz2 rfl (by decide) (.slice so B.sets.length scap) B.sets.length xs (by rfl) (own_next HB.out.sets (B3.out _)) ⟨w1.heap.size, 0, none⟩ 1 1 [.slice vo l.length vcap] (by rfl) rfl (World.news_of_block (World.alloc_heap_new w1 _)) (by simp [Value.oneCell']) (by decide) (by unfold maxLen; omega) (by omega) (by simp; omega) _ rfl ?_; intro g cap2 w3 hown hg hat _; go_must (obtain ⟨⟨y1, y2⟩, y3, y4⟩ := bk_set HB.out (B3.out _) HVL.out hown hg (hat.imp id (fun e => Nat.le_of_eq e.symm)); have Y3 := Lib.hid y3; have Y4 := Lib.hid y4; clear y3 y4 hown hg hat))
      | fail)
    all_goals
      generalize w3.setCell ⟨bb, 1, none⟩ (.slice (some ⟨g, 0, none⟩) (B.sets.length + 1) cap2) = W3 at *
      go_wp2_with (go_at_call 46; (with_reducible refine (CN.out _ Y3.out).mono ?_); rintro e w4 ⟨rfl, h2, k2⟩; go_must (have H2 := Lib.hid h2; have K2 := Lib.hid k2; clear h2 k2))
      go_ret
      exact ⟨rfl, H2.out, Y4.out.trans K2.out⟩
end
end Go.Proofs.YtbkafoaoddajoaaGreatDoor.Dv

namespace Go.Proofs.YtbkafoaoddajoaaGreatDoor.Dv
open Go Go.RowKit Go.Shelf Go.Maps
open Go.Proofs.YtbkafoaoddajoaaGreatDoor.Ar (timesB Nd nd nodeB nodeB_ways NRow cellsN aggN flatN Book WfN Wf NodeAt node_new nodes_of_row Tr Ok TreeAt NodesAt)
open Go.Proofs.YtbkafoaoddajoaaGreatDoor.Rg (R RngsAt RowsAt nthL add_zero own_next)

/-- nothing that stood has changed but a book's own blocks and a map -/
structure Fm (bb M Md : Nat) (w w' : World) : Prop where
  os : w'.os = w.os
  tape : w'.tape = w.tape
  output : w'.output = w.output
  size : w.heap.size ≤ w'.heap.size
  block : ∀ k, k < w.heap.size → k ≠ bb → k ≠ M → k ≠ Md → ¬ rowsOf w bb k → w'.heap[k]? = w.heap[k]?
  rows : ∀ k, rowsOf w' bb k → rowsOf w bb k ∨ w.heap.size ≤ k
section
variable {w0 w w' w1 w2 : World} {bb M Md : Nat} {B : Bk}
theorem Fm.trans (h : Fm bb M Md w w1) (k : Fm bb M Md w1 w2) : Fm bb M Md w w2 :=
  ⟨k.os.trans h.os, k.tape.trans h.tape, k.output.trans h.output, Nat.le_trans h.size k.size, fun i hi h1 h2 h4 h3 => (k.block i (Nat.lt_of_lt_of_le hi h.size) h1 h2 h4 (fun hr => (h.rows i hr).elim h3 (fun hge => by omega))).trans (h.block i hi h1 h2 h4 h3),
    fun i hi => (k.rows i hi).elim (fun h' => h.rows i h') (fun h' => .inr (Nat.le_trans h.size h'))⟩
theorem Fm.of_fz (h : Fz bb M w w') : Fm bb M Md w w' := ⟨h.os, h.tape, h.output, h.size, fun k hk h1 h2 _ h3 => h.block k hk h1 h2 h3, h.rows⟩
theorem Fm.of_below (h : Below w.heap.size w w') (hb : bb < w.heap.size) : Fm bb M Md w w' := Fm.of_fz (Fz.of_below h hb)
theorem Fm.of_turned (h : w.mapTurned w' Md) (hb : bb ≠ Md) : Fm bb M Md w w' := by
  have k : Kg 0 (fun k => k = Md) (fun _ => False) w w' := Kg.of_turned h (Nat.zero_le _) rfl
  have hx : ∀ i, i ≠ Md → w'.heap[i]? = w.heap[i]? := fun i hi => by
    obtain ⟨es, clock, es', clock', hb, rfl⟩ := h
    exact ChangeMaps.heap_setBlock_other hb _ hi
  exact ⟨k.os, k.tape, k.output, k.size, fun i hi _ _ h3 _ => hx i h3, fun i hi => .inl ((rowsOf_same (hx bb hb) i).1 hi)⟩

/-- what a reading stands on: the book, what was told, and the boxes of both, of the tree and of the function itself -/
structure MkAt (w0 : World) (bb M Md gd gt gm gn : Nat) (vn vs : Value) (t : Tr) (B : Bk) (D : Mm) (w : World) : Prop where
  book : BookAt w0 bb M B w
  done : IMap Md D w
  base : w0.heap.size ≤ Md
  neM : Md ≠ M
  tree : TreeAt w0 (.agg #[vn, vs, .int .i64 t.root]) t
  bd : w.heap[gd]? = some (.cells #[.map (some Md)] 83 (0, 0))
  bt : w.heap[gt]? = some (.cells #[vn, vs, .int .i64 t.root] 25 (0, 0))
  bm : w.heap[gm]? = some (.cells #[.iface 53 (.pointer (some ⟨bb, 0, none⟩))] 82 (0, 0))
  bn : w.heap[gn]? = some (.cells #[.func (.func 47) #[] #[.pointer (some ⟨gd, 0, none⟩), .pointer (some ⟨gt, 0, none⟩), .pointer (some ⟨gm, 0, none⟩), .pointer (some ⟨gn, 0, none⟩)]] 84 (0, 0))
theorem BookAt.neU (h : BookAt w0 bb M B w) {k : Nat} {cs : Array Value} {t : TypeId} {z : Nat × Nat} (hk : w.heap[k]? = some (.cells cs t z)) (ht : t ≠ 58) : ¬ Ub bb M k := by
  obtain ⟨pv, sv, bv, xs, h⟩ := h
  rintro (rfl | rfl)
  · rw [h.box] at hk
    simp only [Option.some.injEq, Obj.cells.injEq] at hk
    exact ht hk.2.1.symm
  · obtain ⟨D, h1, _⟩ := h.map.map
    obtain ⟨es, clock, hh, _⟩ := h1
    rw [hk] at hh; cases hh
variable {gd gt gm gn : Nat} {vn vs : Value} {t : Tr} {D : Mm}
theorem MkAt.ltAll (h : MkAt w0 bb M Md gd gt gm gn vn vs t B D w) : bb < w.heap.size ∧ M < w.heap.size ∧ Md < w.heap.size ∧ bb ≠ Md ∧ w0.heap.size ≤ bb ∧ Below w0.heap.size w0 w := by
  obtain ⟨pv, sv, bv, xs, hb⟩ := h.book
  refine ⟨hb.lt, hb.ltM, h.done.lt, ?_, hb.base, hb.below⟩
  rintro rfl
  obtain ⟨E, h1, _⟩ := h.done.map
  obtain ⟨es, clock, hh, _⟩ := h1
  rw [hb.box] at hh; cases hh
theorem MkAt.kb (h : MkAt w0 bb M Md gd gt gm gn vn vs t B D w) {B' : Bk} (hb : BookAt w0 bb M B' w') (k : Fz bb M w w') : MkAt w0 bb M Md gd gt gm gn vn vs t B' D w' := by
  have kk := k.kb h.book
  have hd : ¬ Ub bb M Md := by
    obtain ⟨_, _, _, h4, _⟩ := h.ltAll
    rintro (e | e)
    · exact h4 e.symm
    · exact h.neM e
  have keep : ∀ {k : Nat} {cs : Array Value} {t : TypeId}, w.heap[k]? = some (.cells cs t (0, 0)) → t ≠ 58 → ¬ Tb t → w'.heap[k]? = some (.cells cs t (0, 0)) := fun hk h1 h2 => kk.heap hk (h.book.neU hk h1) (fun _ _ _ e => by cases e; exact h2)
  exact ⟨hb, h.done.kg kk hd, h.base, h.neM, h.tree, keep h.bd (by decide) (by unfold Tb; decide), keep h.bt (by decide) (by unfold Tb; decide), keep h.bm (by decide) (by unfold Tb; decide), keep h.bn (by decide) (by unfold Tb; decide)⟩
theorem MkAt.next (h : MkAt w0 bb M Md gd gt gm gn vn vs t B D w) (hb : Below w.heap.size w w') : MkAt w0 bb M Md gd gt gm gn vn vs t B D w' := by
  obtain ⟨h1, _⟩ := h.ltAll
  refine h.kb ?_ (Fz.of_below hb h1)
  obtain ⟨pv, sv, bv, xs, hk⟩ := h.book
  exact ⟨pv, sv, bv, xs, hk.next hb⟩
theorem MkAt.turned (h : MkAt w0 bb M Md gd gt gm gn vn vs t B D w) {D' : Mm} (hd : IMap Md D' w') (hw : w.mapTurned w' Md) : MkAt w0 bb M Md gd gt gm gn vn vs t B D' w' := by
  obtain ⟨_, _, _, h4, _⟩ := h.ltAll
  have k : Kg w0.heap.size (fun k => k = Md) (fun _ => False) w w' := Kg.of_turned hw h.base rfl
  have hMd : ∃ es clock, w.heap[Md]? = some (.map es clock) := by
    obtain ⟨E, h1, _⟩ := h.done.map
    obtain ⟨es, clock, hh, _⟩ := h1
    exact ⟨es, clock, hh⟩
  obtain ⟨es, clock, hmd⟩ := hMd
  have keep : ∀ {k : Nat} {cs : Array Value} {t : TypeId}, w.heap[k]? = some (.cells cs t (0, 0)) → w'.heap[k]? = some (.cells cs t (0, 0)) := fun hk => k.heap hk (fun e => by subst e; rw [hmd] at hk; cases hk) (fun _ _ _ _ h => h)
  refine ⟨?_, hd, h.base, h.neM, h.tree, keep h.bd, keep h.bt, keep h.bm, keep h.bn⟩
  obtain ⟨pv, sv, bv, xs, hb⟩ := h.book
  have hz : ∀ {e : TypeId} {s m : Nat} {v : Value} {ys : List Value}, w.ownsRow w0.heap.size e s v m ys → ∀ g, v.ownBlock = some g → ¬ g = Md := fun hr g hv e => by
    obtain ⟨_, cs, hh⟩ := row_block hr hv
    rw [e, hmd] at hh; cases hh
  refine ⟨pv, sv, bv, xs, hb.keep k rfl h4 (fun e => h.neM e.symm) (fun _ _ => id) (fun g hg => ?_)⟩
  rcases hg with hg | hg | hg
  · exact hz hb.parts g hg
  · exact hz hb.sets g hg
  · exact hz hb.bare g hg
/-- what a reading tells -/
def MadeAt (w0 : World) (bb M Md gd gt gm gn : Nat) (vn vs : Value) (t : Tr) (w : World) (r : Bk × Mm × Nat) (e : Ending) (w' : World) : Prop := e = .returned (.int .i64 (r.2.2 : Nat)) ∧ MkAt w0 bb M Md gd gt gm gn vn vs t r.1 r.2.1 w' ∧ Fm bb M Md w w'
theorem MkAt.cells (h : MkAt w0 bb M Md gd gt gm gn vn vs t B D w) : w.cell? ⟨gd, 0, none⟩ = some (.map (some Md)) ∧ w.cell? ⟨gt, 0, none⟩ = some vn ∧ w.cell? ⟨gt, 1, none⟩ = some vs ∧ w.cell? ⟨gm, 0, none⟩ = some (.iface 53 (.pointer (some ⟨bb, 0, none⟩))) ∧ w.cell? ⟨gn, 0, none⟩ = some (.func (.func 47) #[] #[.pointer (some ⟨gd, 0, none⟩), .pointer (some ⟨gt, 0, none⟩), .pointer (some ⟨gm, 0, none⟩), .pointer (some ⟨gn, 0, none⟩)]) := by
  simp [World.cell?, h.bd, h.bt, h.bm, h.bn]

set_option maxRecDepth 100000 in
set_option maxHeartbeats 4000000 in
/-- a node that was told -/
theorem made_old (h : MkAt w0 bb M Md gd gt gm gn vn vs t B D w) {i x : Nat} (hi : i < 1000000) (hx : D.lookup i = some x) :
    Calls Tryz.prog 47 #[.int .i64 (i : Nat), .pointer (some ⟨gd, 0, none⟩), .pointer (some ⟨gt, 0, none⟩), .pointer (some ⟨gm, 0, none⟩), .pointer (some ⟨gn, 0, none⟩)] w (MadeAt w0 bb M Md gd gt gm gn vn vs t w (B, D, x)) := by
  obtain ⟨c1, _, _, _, _⟩ := h.cells
  have hl := ilook_in h.done hi hx
  have HB := Lib.hid h
  obtain ⟨l1, _⟩ := h.ltAll
  clear h hx
  go_enter Tryz.func47, Tryz.ntmps47
  go_wp2
  go_ret
  exact ⟨rfl, HB.out, Fm.of_below (Below.refl _ _) l1⟩
end
end Go.Proofs.YtbkafoaoddajoaaGreatDoor.Dv

namespace Go.Proofs.YtbkafoaoddajoaaGreatDoor.Dv
open Go Go.RowKit Go.Shelf Go.Maps
open Go.Proofs.YtbkafoaoddajoaaGreatDoor.Ar (timesB Nd nd nodeB nodeB_ways NRow cellsN aggN flatN Book WfN Wf NodeAt node_new nodes_of_row Tr Ok TreeAt NodesAt)
open Go.Proofs.YtbkafoaoddajoaaGreatDoor.Rg (R RngsAt RowsAt nthL add_zero own_next)

noncomputable def foundB (name : String) : Option (List FieldStep × Option (FuncId × Bool)) := ((Tryz.prog.info? 53).bind fun i => i.methods.find? (·.name == name)).map (fun m => (m.path.toList, m.func))
theorem byBook (w : World) (pb : Nat) (name : String) (f : FuncId) (N : Nat) (hf : foundB name = some ([], some (f, true))) :
    Sem.run Tryz.prog (method (N + 1) 53 (.pointer (some ⟨pb, 0, none⟩)) name) w = .ok (f, .pointer (some ⟨pb, 0, none⟩)) w := by
  unfold foundB at hf
  cases hi : Tryz.prog.info? 53 with
  | none => rw [hi] at hf; simp at hf
  | some i =>
    rw [hi] at hf
    simp only [Option.bind_some, Option.map_eq_some_iff] at hf
    obtain ⟨m, hm, he⟩ := hf
    simp only [Prod.mk.injEq] at he
    obtain ⟨hp, hfn⟩ := he
    have hpe : m.path = #[] := by simpa using hp
    unfold method
    rw [Sem.run_bind, run_typeInfo _ hi]
    simp [Result.andThen, hm, hpe, hfn, follow, receiverAt, Place.get, run_underlying Tryz.underlying53]
theorem nilBook (w : World) (pb : Nat) (name : String) (f : FuncId) (N : Nat) (hf : foundB name = some ([], some (f, true))) :
    Sem.run Tryz.prog (nilAhead (N + 1) 53 (.pointer (some ⟨pb, 0, none⟩)) name) w = .ok (some false) w := by
  unfold foundB at hf
  cases hi : Tryz.prog.info? 53 with
  | none => rw [hi] at hf; simp at hf
  | some i =>
    rw [hi] at hf
    simp only [Option.bind_some, Option.map_eq_some_iff] at hf
    obtain ⟨m, hm, he⟩ := hf
    simp only [Prod.mk.injEq] at he
    obtain ⟨hp, hfn⟩ := he
    have hpe : m.path = #[] := by simpa using hp
    unfold nilAhead
    rw [Sem.run_bind, run_typeInfo _ hi]
    simp [Result.andThen, hm, hpe, hfn, followBlind]
theorem fSet : foundB "Set" = some ([], some (45, true)) := by kernel_rfl
theorem fCat : foundB "Cat" = some ([], some (80, true)) := by kernel_rfl
theorem fAlt : foundB "Alt" = some ([], some (59, true)) := by kernel_rfl
theorem fRep : foundB "Rep" = some ([], some (99, true)) := by kernel_rfl
theorem fEmpty : foundB "Empty" = some ([], some (122, true)) := by kernel_rfl
theorem eSetB : Enters Tryz.prog 45 := enters_of Tryz.func45 (by kernel_rfl) rfl
theorem eCatB : Enters Tryz.prog 80 := enters_of Tryz.func80 (by kernel_rfl) rfl
theorem eAltB : Enters Tryz.prog 59 := enters_of Tryz.func59 (by kernel_rfl) rfl
theorem eRepB : Enters Tryz.prog 99 := enters_of Tryz.func99 (by kernel_rfl) rfl
theorem eEmptyB : Enters Tryz.prog 122 := enters_of Tryz.func122 (by kernel_rfl) rfl

section
variable {w0 w w' w1 w2 : World} {bb M Md : Nat} {B : Bk} {gd gt gm gn : Nat} {vn vs : Value} {t : Tr} {D : Mm}
/-- the number is noted, and told -/
theorem MkAt.note (h : MkAt w0 bb M Md gd gt gm gn vn vs t B D w) {i x : Nat} (hi : i < 1000000) (hx : x < 1000000) (hl : D.length < 1000000) (hn : D.lookup i = none) :
    ∃ w3, (Instr.mapUpdate 83 (.map (some Md)) (.int .i64 (i : Nat)) (.int .i64 (x : Nat))).run Tryz.prog w = .ok () w3 ∧ MkAt w0 bb M Md gd gt gm gn vn vs t B ((i, x) :: D) w3 ∧ Fm bb M Md w w3 := by
  obtain ⟨w3, h1, h2, h3⟩ := istore h.done hi hx hl hn
  obtain ⟨_, _, _, h4, _⟩ := h.ltAll
  exact ⟨w3, h1, h.turned h2 h3, Fm.of_turned h3 h4⟩

set_option maxRecDepth 100000 in
set_option maxHeartbeats 4000000 in
theorem made_emp (h : MkAt w0 bb M Md gd gt gm gn vn vs t B D w) (hN : t.ns.length ≤ 4096) {i : Nat} (hi : i < t.ns.length) (hx : D.lookup i = none) (hl : D.length < 1000000) (hop : (nd t.ns i).op = 1) :
    Calls Tryz.prog 47 #[.int .i64 (i : Nat), .pointer (some ⟨gd, 0, none⟩), .pointer (some ⟨gt, 0, none⟩), .pointer (some ⟨gm, 0, none⟩), .pointer (some ⟨gn, 0, none⟩)] w (MadeAt w0 bb M Md gd gt gm gn vn vs t w (B, (i, 1) :: D, 1)) := by
  have hE : ∀ (args : Array Value) (w : World), (callFunc 122 args).run Tryz.prog w = .ok (.enter 122 args) w := eEmptyB
  obtain ⟨c1, c2, c3, c4, c5⟩ := h.cells
  obtain ⟨c, hlk0⟩ := ilook_out h.done (by omega) hx
  have hlk := hlk0 w (Below.refl _ _)
  clear hlk0
  have d1 := cell_lt c1
  have d2 := cell_lt c2
  have d4 := cell_lt c4
  have d5 := cell_lt c5
  obtain ⟨l1, l2, l3, l4, l5, l6⟩ := h.ltAll
  obtain ⟨ao, cap, so, scap, hv, hm, _, hns, _⟩ := (h.tree.next l6).shape
  simp only [Value.agg.injEq, Array.mk.injEq, List.cons.injEq, and_true] at hv
  obtain ⟨rfl, rfl⟩ := hv
  obtain ⟨ga, rfl, q0, q1, q2, q3, q4, q5⟩ := hns i hi
  have hii : (i : Int) < (t.ns.length : Int) := by omega
  have BW := Lib.hid (fun o => (Below.refl w.heap.size w).alloc (Nat.le_refl _) o)
  have HB := Lib.hid h
  have hm1 := fun W N => byBook W bb _ _ N fEmpty
  rw [hop] at q0
  generalize nd t.ns i = n at *
  have hW := h.next (BW.out (.cells #[.int .i64 1, .int .i64 n.a, .int .i64 n.b, .int .i64 n.lo, .int .i64 n.hi, .int .i64 n.set] 35))
  obtain ⟨w3, hrun, hM3, hF3⟩ := hW.note (i := i) (x := 1) (by omega) (by decide) hl hx
  have HM3 := Lib.hid hM3
  have HF3 := Lib.hid ((Fm.of_below (BW.out _) l1).trans hF3)
  have hrun : (Instr.mapUpdate 83 (.map (some Md)) (.int .i64 (i : Nat)) (.int .i64 1)).run Tryz.prog (w.alloc (.cells #[.int .i64 1, .int .i64 n.a, .int .i64 n.b, .int .i64 n.lo, .int .i64 n.hi, .int .i64 n.set] 35)) = .ok () w3 := hrun
  clear h hns hx hm hW hM3 hF3
  go_enter Tryz.func47, Tryz.ntmps47
  go_wp2_with (first
    | (go_at_fn 122; (with_reducible refine (empty_any _ _).mono ?_); rintro e w2 ⟨rfl, rfl⟩)
    | fail)
  go_ret
  exact ⟨rfl, HM3.out, HF3.out⟩

/-- a node's box stands when a book's operation is done -/
theorem nbox_after {N : Nat} {n : Nd} {X Y : World} (hN : NBox X N n) (h : MkAt w0 bb M Md gd gt gm gn vn vs t B D w) (hX : Below w.heap.size w X) (hl : w.heap.size ≤ N) (k : Fz bb M X Y) : NBox Y N n := by
  obtain ⟨l1, l2, _⟩ := h.ltAll
  exact hN.fz k (by omega) (by omega) (young h.book (fun hr => (rowsOf_same (hX.block bb l1) _).1 hr) hl)

set_option maxRecDepth 100000 in
set_option maxHeartbeats 8000000 in
theorem made_set (h : MkAt w0 bb M Md gd gt gm gn vn vs t B D w) (g : Good B) (hsets : B.sets.length ≤ 100000) (hN : t.ns.length ≤ 4096) {i : Nat} (hi : i < t.ns.length) (hx : D.lookup i = none) (hl : D.length < 1000000) (hop : (nd t.ns i).op = 2) (hs0 : 0 ≤ (nd t.ns i).set) (hs1 : (nd t.ns i).set < t.sets.length) :
    Calls Tryz.prog 47 #[.int .i64 (i : Nat), .pointer (some ⟨gd, 0, none⟩), .pointer (some ⟨gt, 0, none⟩), .pointer (some ⟨gm, 0, none⟩), .pointer (some ⟨gn, 0, none⟩)] w (MadeAt w0 bb M Md gd gt gm gn vn vs t w ((setF B (nthL t.sets (nd t.ns i).set.toNat)).1, (i, (setF B (nthL t.sets (nd t.ns i).set.toNat)).2) :: D, (setF B (nthL t.sets (nd t.ns i).set.toNat)).2)) := by
  have hE : ∀ (args : Array Value) (w : World), (callFunc 45 args).run Tryz.prog w = .ok (.enter 45 args) w := eSetB
  obtain ⟨c1, c2, c3, c4, c5⟩ := h.cells
  obtain ⟨c, hlk0⟩ := ilook_out h.done (by omega) hx
  have hlk := hlk0 w (Below.refl _ _)
  clear hlk0
  have d1 := cell_lt c1
  have d2 := cell_lt c2
  have d4 := cell_lt c4
  have d5 := cell_lt c5
  obtain ⟨l1, l2, l3, l4, l5, l6⟩ := h.ltAll
  obtain ⟨ao, cap, so, scap, hv, hm, hm2, hns, hss⟩ := h.tree.shape
  simp only [Value.agg.injEq, Array.mk.injEq, List.cons.injEq, and_true] at hv
  obtain ⟨rfl, rfl⟩ := hv
  obtain ⟨ga, rfl, hnd⟩ := hns i hi
  have hnd' := hnd.same (l6.block _ (cell_lt hnd.c0))
  obtain ⟨q0, q1, q2, q3, q4, q5⟩ := hnd'
  have hii : (i : Int) < (t.ns.length : Int) := by omega
  obtain ⟨s, hs⟩ := Int.eq_ofNat_of_zero_le hs0
  rw [hs] at hs1 q5 ⊢
  rw [Int.toNat_natCast]
  obtain ⟨gs, x, rfl, y0, hrx⟩ := hss s (by omega)
  have y1 := (World.cell?_of_block (l6.block _ (cell_lt y0))).trans y0
  have hy1 := cell_lt y1
  have BW := Lib.hid (fun o => (Below.refl w.heap.size w).alloc (Nat.le_refl _) o)
  have HB := Lib.hid h
  have hm1 := fun W N => byBook W bb _ _ N fSet
  have hm2 := fun W N => nilBook W bb _ _ N fSet
  rw [hop] at q0
  generalize nd t.ns i = n at *
  have BD := Lib.hid ((BW.out (.cells #[.int .i64 2, .int .i64 n.a, .int .i64 n.b, .int .i64 n.lo, .int .i64 n.hi, .int .i64 (s : Nat)] 35)).trans (below_drew _))
  have NB := Lib.hid ((nbox_new w ⟨2, n.a, n.b, n.lo, n.hi, (s : Nat)⟩).below (below_drew _))
  have HD := Lib.hid (h.next BD.out)
  have C1 := Lib.hid (bset_any HD.out.book g.len g.small hrx hsets)
  have HX := Lib.hid hx
  have o := setF_out g (nthL t.sets s)
  have hlt : (setF B (nthL t.sets s)).2 < 1000000 := by have := o.lt; have := o.good.small; omega
  have Y0 := Lib.hid y0
  unfold OpAt at C1
  generalize setF B (nthL t.sets s) = r at *
  clear h hns hx hm hss o hrx hnd y0
  go_enter Tryz.func47, Tryz.ntmps47
  go_wp2
  go_region_held3 (fun X => X.cell? ⟨gm, 0, none⟩ = some (.iface 53 (.pointer (some ⟨bb, 0, none⟩))) ∧ X.cell? ⟨gt, 1, none⟩ = some (.slice (some gs) t.sets.length scap) ∧ X.cell? ⟨w.heap.size, 5, none⟩ = some (.int .i64 (s : Nat)) ∧ X.cell? (gs.add s) = some x) (first | exact ⟨by assumption, by assumption, by assumption, by assumption⟩ | go_keep)
    (first
      | (go_at_fn 45; ((with_reducible refine C1.out.mono ?_); rintro e w2 ⟨rfl, h2, k2⟩); go_must (have H2 := Lib.hid (HD.out.kb h2 k2); have nb := nbox_after NB.out HB.out BD.out (Nat.le_refl _) k2; obtain ⟨u1, u2, u3, u4, u5⟩ := H2.out.cells; have u6 := nb.at'.c5; have u7 := (World.cell?_of_block (H2.out.ltAll.2.2.2.2.2.block _ (cell_lt Y0.out))).trans Y0.out; have F2 := Lib.hid ((Fm.of_below BD.out l1).trans (Fm.of_fz k2) : Fm bb M Md w w2); clear h2 k2 nb C1))
      | fail)
  obtain ⟨w3, hrun, hM3, hF3⟩ := H2.out.note (i := i) (x := r.2) (by omega) hlt hl HX.out
  have HM3 := Lib.hid hM3
  have HF3 := Lib.hid (F2.out.trans hF3)
  clear hM3 hF3 hlk c1 c2 c3 c4 c5
  go_wp2
  go_ret
  exact ⟨rfl, HM3.out, HF3.out⟩
end
end Go.Proofs.YtbkafoaoddajoaaGreatDoor.Dv

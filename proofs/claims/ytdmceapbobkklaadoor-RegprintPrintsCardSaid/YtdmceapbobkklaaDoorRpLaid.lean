/- What a row's tree and listed variables give to the walk of RegprintPrints. -/
import Derived.Test.YtdmceapbobkklaaDoorRpPrint
import Derived.Test.YtdmceapbobkklaaDoorRpDeep
import Derived.Laws.ResultCell
import Derived.Test.YtdmceapbobkklaaDoorRpRPr
import Derived.Test.YtdmceapbobkklaaDoorRpRDp
import Derived.Test.YtdmceapbobkklaaDoorArFar
import Derived.Test.YtdmceapbobkklaaDoorArRChk
import Derived.Test.YtdmceapbobkklaaDoorArRSize
import Derived.Test.YtdmceapbobkklaaDoorArTrod
import Derived.Test.YtdmceapbobkklaaDoorDgStL
namespace Go.Proofs.YtdmceapbobkklaaDoor.Rp
open Go Go.RowKit Go.Shelf
open Go.Proofs.YtdmceapbobkklaaDoor.Ar (Nd nd Tr Ok TreeAt TBox NodesAt NodeAt checkE ok_check)
open Go.Proofs.YtdmceapbobkklaaDoor.Rg (R RngsAt RowsAt nthL nth rightB rightB_iff setFrom add_zero)

set_option maxRecDepth 100000 in
set_option maxHeartbeats 1600000 in
theorem rone_any (c : Int) (w : World) : Calls Tryd.prog 27 #[.int .i64 c] w fun e w' => e = .returned (.slice (some ⟨w.heap.size, 0, none⟩) 1 1) ∧ w' = w.alloc (.cells #[.int .i64 c, .int .i64 c] 75) := by
  go_enter Tryd.func27, Tryd.ntmps27
  go_wp2
  go_ret
  exact ⟨rfl, rfl⟩

/-- the example -/
def exT : Tr := ⟨[⟨2, 0, 0, 0, 0, 0⟩, ⟨2, 0, 0, 0, 0, 1⟩, ⟨2, 0, 0, 0, 0, 2⟩, ⟨3, 1, 2, 0, 0, 0⟩, ⟨5, 3, 0, 0, -1, 0⟩, ⟨4, 0, 4, 0, 0, 0⟩], [[(97, 97)], [(98, 98)], [(99, 99)]], 5⟩
theorem ex_ok : Ok exT where
  root0 := by decide
  root1 := by decide
  sets := fun s hs => by
    have h : s = [(97, 97)] ∨ s = [(98, 98)] ∨ s = [(99, 99)] := by simpa [exT] using hs
    rw [rightB_iff]
    rcases h with rfl | rfl | rfl <;> simp [setFrom]
  node := fun i hi => by
    have h : i = 0 ∨ i = 1 ∨ i = 2 ∨ i = 3 ∨ i = 4 ∨ i = 5 := by simp [exT] at hi; omega
    rcases h with rfl | rfl | rfl | rfl | rfl | rfl <;> decide
theorem ex_check : checkE exT = 0 := ok_check ex_ok (by decide) (by decide)
theorem ex_t0 : textL exT.sets exT.ns 0 = [97] := by rw [text_set rfl]; decide
theorem ex_t1 : textL exT.sets exT.ns 1 = [98] := by rw [text_set rfl]; decide
theorem ex_t2 : textL exT.sets exT.ns 2 = [99] := by rw [text_set rfl]; decide
theorem ex_t3 : textL exT.sets exT.ns 3 = [98, 99] := by
  rw [text_cat rfl (by decide) (by decide), show (nd exT.ns 3).a.toNat = 1 from rfl, show (nd exT.ns 3).b.toNat = 2 from rfl, ex_t1, ex_t2]; decide
theorem ex_t4 : textL exT.sets exT.ns 4 = [40, 98, 99, 41, 42] := by
  rw [text_rep rfl (by decide), show (nd exT.ns 4).a.toNat = 3 from rfl, ex_t3]; decide
theorem ex_t5 : textL exT.sets exT.ns 5 = [97, 124, 40, 98, 99, 41, 42] := by
  rw [text_alt rfl (by decide) (by decide), show (nd exT.ns 5).a.toNat = 0 from rfl, show (nd exT.ns 5).b.toNat = 4 from rfl, ex_t0, ex_t4]; decide
theorem ex_d0 : deepL exT.ns 0 = 0 := deep_set rfl
theorem ex_d1 : deepL exT.ns 1 = 0 := deep_set rfl
theorem ex_d2 : deepL exT.ns 2 = 0 := deep_set rfl
theorem ex_d3 : deepL exT.ns 3 = 0 := by
  rw [deep_cat rfl (by decide) (by decide), show (nd exT.ns 3).a.toNat = 1 from rfl, show (nd exT.ns 3).b.toNat = 2 from rfl, ex_d1, ex_d2]; decide
theorem ex_d4 : deepL exT.ns 4 = 1 := by
  rw [deep_rep rfl (by decide), show (nd exT.ns 4).a.toNat = 3 from rfl, ex_d3]; decide
theorem ex_d5 : deepL exT.ns 5 = 1 := by
  rw [deep_alt rfl (by decide) (by decide), show (nd exT.ns 5).a.toNat = 0 from rfl, show (nd exT.ns 5).b.toNat = 4 from rfl, ex_d0, ex_d4]; decide
theorem ex_s : prS exT = [97, 124, 40, 98, 99, 41, 42] := by
  unfold prS; rw [if_pos ex_check, show exT.root.toNat = 5 from rfl, ex_t5]; rfl
theorem ex_e : prE exT = 0 := by
  unfold prE; rw [if_pos ex_check, show exT.root.toNat = 5 from rfl, ex_t5]; rfl
theorem ex_30 : ∀ k, k < exT.sets.length → (nthL exT.sets k).length ≤ 30 := by decide
def SomeOut (w : World) (e : Ending) (w' : World) : Prop := ∃ v, e = .returned v ∧ TreeAt w' v exT ∧ Below w.heap.size w w'

theorem heapB {W : World} {o x : Obj} {B : Nat} (h : W.heap[B]? = some x) : (W.alloc o).heap[B]? = some x := (heap_alloc_old _ _ (Array.getElem?_eq_some_iff.1 h).1).trans h
/-- a set of one number, in memory -/
theorem rngs_one {W : World} {B : Nat} {c : Int} (h : W.heap[B]? = some (.cells #[.int .i64 c, .int .i64 c] 75 (0, 0))) : RngsAt W (.slice (some ⟨B, 0, none⟩) 1 1) [(c, c)] :=
  .inr ⟨_, 1, rfl, by unfold maxLen; simp, fun i hi => by
    have e : i = 0 := by simpa using hi
    subst e
    rw [add_zero, Lib.cell_of_heap h, Lib.cell_of_heap h]
    exact ⟨rfl, rfl⟩⟩
theorem ex_at {W : World} {b1 b2 b3 b4 b5 : Nat} (h1 : W.heap[b1]? = some (.cells #[.int .i64 97, .int .i64 97] 75 (0, 0))) (h2 : W.heap[b2]? = some (.cells #[.int .i64 98, .int .i64 98] 75 (0, 0))) (h3 : W.heap[b3]? = some (.cells #[.int .i64 99, .int .i64 99] 75 (0, 0)))
    (h4 : W.heap[b4]? = some (.cells #[.slice (some ⟨b1, 0, none⟩) 1 1, .slice (some ⟨b2, 0, none⟩) 1 1, .slice (some ⟨b3, 0, none⟩) 1 1] 52 (0, 0)))
    (h5 : W.heap[b5]? = some (.cells #[.int .i64 2, .int .i64 0, .int .i64 0, .int .i64 0, .int .i64 0, .int .i64 0, .int .i64 2, .int .i64 0, .int .i64 0, .int .i64 0, .int .i64 0, .int .i64 1, .int .i64 2, .int .i64 0, .int .i64 0, .int .i64 0, .int .i64 0, .int .i64 2, .int .i64 3, .int .i64 1, .int .i64 2, .int .i64 0, .int .i64 0, .int .i64 0, .int .i64 5, .int .i64 3, .int .i64 0, .int .i64 0, .int .i64 (-1), .int .i64 0, .int .i64 4, .int .i64 0, .int .i64 4, .int .i64 0, .int .i64 0, .int .i64 0] 56 (0, 0))) : TreeAt W (.agg #[.slice (some ⟨b5, 0, none⟩) 6 6, .slice (some ⟨b4, 0, none⟩) 3 3, .int .i64 5]) exT := by
  refine ⟨_, _, rfl, .inr ⟨_, 6, rfl, by unfold maxLen; decide, fun i hi => ?_⟩, .inr ⟨_, 3, rfl, by unfold maxLen; decide, fun i hi => ?_⟩⟩
  · have h : i = 0 ∨ i = 1 ∨ i = 2 ∨ i = 3 ∨ i = 4 ∨ i = 5 := by simp [exT] at hi; omega
    rw [add_zero]
    rcases h with rfl | rfl | rfl | rfl | rfl | rfl
    all_goals (constructor <;> (rw [Lib.cell_of_heap h5]; rfl))
  · have h : i = 0 ∨ i = 1 ∨ i = 2 := by simp [exT] at hi; omega
    rw [add_zero]
    rcases h with rfl | rfl | rfl
    · exact ⟨_, by rw [Lib.cell_of_heap h4]; rfl, rngs_one h1⟩
    · exact ⟨_, by rw [Lib.cell_of_heap h4]; rfl, rngs_one h2⟩
    · exact ⟨_, by rw [Lib.cell_of_heap h4]; rfl, rngs_one h3⟩

set_option maxRecDepth 100000 in
set_option maxHeartbeats 4000000 in
theorem some_any (w : World) : Calls Tryd.prog 13 #[] w (SomeOut w) := by
  have C := Lib.hid rone_any
  go_enter Tryd.func13, Tryd.ntmps13
  go_wp2_with (go_at_call 27; (with_reducible refine (C.out _ _).mono ?_); rintro e w1 ⟨rfl, hw⟩; subst hw)
  (try simp only [Exit.inBlock, Exit.then])
  refine bodyPost_ret (results_cell_row rfl _ _ w.heap.size 25 #[.slice (some ⟨w.heap.size + 1 + 1 + 1 + 1 + 1, 0, none⟩) 6 6, .slice (some ⟨w.heap.size + 1 + 1 + 1 + 1, 0, none⟩) 3 3, .int .i64 5] (0, 0) _ rfl (by repeat (first | (refine heapA ?_; simp; done) | refine heapB ?_)) Tryd.underlying25 rfl (by kernel_rfl)) rfl ?_
  refine ⟨_, rfl, ex_at (b1 := w.heap.size + 1) (b2 := w.heap.size + 1 + 1) (b3 := w.heap.size + 1 + 1 + 1) ?_ ?_ ?_ ?_ ?_, ?_⟩
  · repeat (first | (refine heapA ?_; simp; done) | refine heapB ?_)
  · repeat (first | (refine heapA ?_; simp; done) | refine heapB ?_)
  · repeat (first | (refine heapA ?_; simp; done) | refine heapB ?_)
  · repeat (first | (refine heapA ?_; simp; done) | refine heapB ?_)
  · repeat (first | (refine heapA ?_; simp; done) | refine heapB ?_)
  · exact belA (belA (belA (belA (belA (belA (Below.refl _ _))))))

set_option maxRecDepth 100000 in
set_option maxHeartbeats 4000000 in
theorem alive_any (w : World) (hst : Dg.St w) : Calls Tryd.prog 5 #[] w fun e w' => e = .returned (.bool true) ∧ Below w.heap.size w w' := by
  have CS := Lib.hid some_any
  unfold SomeOut at CS
  have CP := Lib.hid (fun v W (hW : Below w.heap.size w W) (h : TreeAt W v exT) => print_any exT ex_30 v W h (hst.next hW))
  have CD := Lib.hid (fun v W (h : TreeAt W v exT) => deep_any exT v W h)
  rw [ex_s, ex_e] at CP
  rw [if_pos ex_check, show exT.root.toNat = 5 from rfl, ex_d5] at CD
  clear hst
  go_enter Tryd.func5, Tryd.ntmps5
  go_wp2_with (first
    | (go_at_call 13; (with_reducible refine (CS.out _).mono ?_); rintro e w1 ⟨v, rfl, ht, hb⟩; go_must ((first | (have B3 := Lib.hid (B2.out.trans (hb.mono B2.out.size)); have T3 := Lib.hid ht) | (have B1 := Lib.hid hb; have T1 := Lib.hid ht)); clear ht hb))
    | (go_at_call 6; (with_reducible refine (CP.out _ _ B1.out T1.out).mono ?_); rintro e w2 ⟨rfl, hb⟩; go_must (have B2 := Lib.hid (B1.out.trans (hb.mono B1.out.size)); clear hb))
    | (go_at_call 8; (with_reducible refine (CD.out _ _ T3.out).mono ?_); rintro e w4 ⟨rfl, hb⟩; go_must (have B4 := Lib.hid (B3.out.trans (hb.mono B3.out.size)); clear hb))
    | fail)
  go_ret
  exact ⟨rfl, B4.out⟩

end Go.Proofs.YtdmceapbobkklaaDoor.Rp

namespace Go.Proofs.YtdmceapbobkklaaDoor.Rp
open Go Go.RowKit Go.Shelf
open Go.Proofs.YtdmceapbobkklaaDoor.Ar (Nd nd Tr Ok TreeAt TBox checkE check_ok Near far_b farB_no farB_yes rcheck_any rsize_any bnd_gZ reck gZ)
open Go.Proofs.YtdmceapbobkklaaDoor.Rg (nthL)

/-- is a tree too much -/
structure f10 (t : Tr) (b : Bool) : Prop where
  far : ¬ Near t → b = true
  bad : Near t → checkE t ≠ 0 → b = false
  ok : Near t → checkE t = 0 → b = decide (200 < reck gZ t.ns t.root.toNat)

set_option maxRecDepth 100000 in
set_option maxHeartbeats 4000000 in
theorem far10_any (t : Tr) (v : Value) (w : World) (hv : TreeAt w v t) : Calls Tryd.prog 4 #[v] w fun e w' => ∃ b, e = .returned (.bool b) ∧ f10 t b ∧ Below w.heap.size w w' := by
  have HV := Lib.hid hv
  obtain ⟨ao, cap, so, scap, rfl, _, _, _, _⟩ := hv.shape
  have B0 := Lib.hid ((Below.refl w.heap.size w).alloc (Nat.le_refl _) (.cells #[.slice ao t.ns.length cap, .slice so t.sets.length scap, .int .i64 t.root] 25))
  have CF := Lib.hid (fun W (hb : Below w.heap.size w W) => far_b t _ W (HV.out.next hb))
  have T0 := Lib.hid (TBox.new w (.slice ao t.ns.length cap) (.slice so t.sets.length scap) t.root)
  clear hv
  by_cases hn : Near t
  · rw [farB_no hn] at CF
    have CC := Lib.hid (fun W (hb : Below w.heap.size w W) => rcheck_any t _ W (HV.out.next hb) (fun k hk => by have := hn.each k hk; omega))
    by_cases hc : checkE t = 0
    · have hr0 := (check_ok hc).1.root0
      have hr1 := (check_ok hc).1.root1
      obtain ⟨q, hq⟩ := Int.eq_ofNat_of_zero_le hr0
      have hqn : q < t.ns.length := by omega
      have CZ := Lib.hid (fun W (hb : Below w.heap.size w W) => rsize_any t (check_ok hc).1 (bnd_gZ (check_ok hc).1 hn) q hqn _ W (HV.out.next hb))
      have HF := Lib.hid (fun b (h : b = decide (200 < reck gZ t.ns q)) => show f10 t b from ⟨fun h' => absurd hn h', fun _ h' => absurd hc h', fun _ _ => by rw [h, hq, Int.toNat_natCast]⟩)
      rw [hc] at CC
      rw [hq] at CZ CF CC T0 B0 ⊢
      generalize reck gZ t.ns q = z at *
      clear hc hr0 hr1 hq hn HV
      by_cases h200 : 200 < z
      all_goals (
        go_enter Tryd.func4, Tryd.ntmps4
        go_wp2_with (first
          | (go_at_call 11; (with_reducible refine (CF.out _ B0.out).mono ?_); rintro e w1 ⟨rfl, hb⟩; go_must (obtain ⟨a0, a1, a2⟩ := T0.out.next hb; have B1 := Lib.hid (B0.out.trans (hb.mono B0.out.size)); clear hb))
          | (go_at_call 7; (with_reducible refine (CC.out _ B1.out).mono ?_); rintro e w2 ⟨rfl, hb⟩; go_must (have b0 := cell_next a0 hb; have b1 := cell_next a1 hb; have b2 := cell_next a2 hb; have B2 := Lib.hid (B1.out.trans (hb.mono B1.out.size)); clear hb a0 a1 a2))
          | (go_at_call 12; (with_reducible refine (CZ.out _ B2.out).mono ?_); rintro e w3 ⟨rfl, hb⟩; go_must (have B3 := Lib.hid (B2.out.trans (hb.mono B2.out.size)); clear hb))
          | fail)
        go_ret
        exact ⟨_, rfl, HF.out _ (by simp; try omega), B3.out⟩)
    · have HF := Lib.hid (show f10 t false from ⟨fun h' => absurd hn h', fun _ _ => rfl, fun _ h' => absurd h' hc⟩)
      have hne : (checkE t == 0) = false := by simpa using hc
      generalize checkE t = E at *
      clear hc hn HV
      go_enter Tryd.func4, Tryd.ntmps4
      go_wp2_with (first
        | (go_at_call 11; (with_reducible refine (CF.out _ B0.out).mono ?_); rintro e w1 ⟨rfl, hb⟩; go_must (obtain ⟨a0, a1, a2⟩ := T0.out.next hb; have B1 := Lib.hid (B0.out.trans (hb.mono B0.out.size)); clear hb))
        | (go_at_call 7; (with_reducible refine (CC.out _ B1.out).mono ?_); rintro e w2 ⟨rfl, hb⟩; go_must (have b0 := cell_next a0 hb; have b1 := cell_next a1 hb; have b2 := cell_next a2 hb; have B2 := Lib.hid (B1.out.trans (hb.mono B1.out.size)); clear hb a0 a1 a2))
        | fail)
      go_ret
      exact ⟨_, rfl, HF.out, B2.out⟩
  · rw [farB_yes hn] at CF
    have HF := Lib.hid (show f10 t true from ⟨fun _ => rfl, fun h' => absurd h' hn, fun h' => absurd h' hn⟩)
    clear hn HV
    go_enter Tryd.func4, Tryd.ntmps4
    go_wp2_with (first
      | (go_at_call 11; (with_reducible refine (CF.out _ B0.out).mono ?_); rintro e w1 ⟨rfl, hb⟩; go_must (have B1 := Lib.hid (B0.out.trans (hb.mono B0.out.size)); clear hb))
      | fail)
    go_ret
    exact ⟨_, rfl, HF.out, B1.out⟩

set_option maxRecDepth 100000 in
set_option maxHeartbeats 4000000 in
theorem law_far (t : Tr) (v : Value) (w : World) (hv : TreeAt w v t) (hst : Dg.St w) (F : ∀ (v : Value) (w : World), TreeAt w v t → Calls Tryd.prog 4 #[v] w fun e w' => e = .returned (.bool true) ∧ Below w.heap.size w w') :
    Calls Tryd.prog 3 #[v] w fun e w' => e = .returned (.bool true) ∧ Below w.heap.size w w' := by
  have HV := Lib.hid hv
  obtain ⟨ao, cap, so, scap, rfl, _, _, _, _⟩ := hv.shape
  have B0 := Lib.hid ((Below.refl w.heap.size w).alloc (Nat.le_refl _) (.cells #[.slice ao t.ns.length cap, .slice so t.sets.length scap, .int .i64 t.root] 25))
  have T0 := Lib.hid (TBox.new w (.slice ao t.ns.length cap) (.slice so t.sets.length scap) t.root)
  have CA := Lib.hid (fun W (hb : Below w.heap.size w W) => alive_any W (hst.next hb))
  have CF := Lib.hid (fun W (hb : Below w.heap.size w W) => F _ W (HV.out.next hb))
  clear hv hst HV F
  go_enter Tryd.func3, Tryd.ntmps3
  go_wp2_with (first
    | (go_at_call 4; (with_reducible refine (CF.out _ B0.out).mono ?_); rintro e w1 ⟨rfl, hb⟩; go_must (obtain ⟨a0, a1, a2⟩ := T0.out.next hb; have B1 := Lib.hid (B0.out.trans (hb.mono B0.out.size)); clear hb))
    | (go_at_call 5; (with_reducible refine (CA.out _ B1.out).mono ?_); rintro e w9 ⟨rfl, hb⟩; go_must (have B9 := Lib.hid (B1.out.trans (hb.mono B1.out.size)); clear hb))
    | fail)
  go_ret
  exact ⟨rfl, B9.out⟩

set_option maxRecDepth 100000 in
set_option maxHeartbeats 4000000 in
theorem law_bad (t : Tr) (v : Value) (w : World) (hv : TreeAt w v t) (hst : Dg.St w) (hn : Near t) (hc : checkE t ≠ 0) (F : ∀ (v : Value) (w : World), TreeAt w v t → Calls Tryd.prog 4 #[v] w fun e w' => e = .returned (.bool false) ∧ Below w.heap.size w w') :
    Calls Tryd.prog 3 #[v] w fun e w' => e = .returned (.bool true) ∧ Below w.heap.size w w' := by
  have HV := Lib.hid hv
  obtain ⟨ao, cap, so, scap, rfl, _, _, _, _⟩ := hv.shape
  have B0 := Lib.hid ((Below.refl w.heap.size w).alloc (Nat.le_refl _) (.cells #[.slice ao t.ns.length cap, .slice so t.sets.length scap, .int .i64 t.root] 25))
  have T0 := Lib.hid (TBox.new w (.slice ao t.ns.length cap) (.slice so t.sets.length scap) t.root)
  have CA := Lib.hid (fun W (hb : Below w.heap.size w W) => alive_any W (hst.next hb))
  have CF := Lib.hid (fun W (hb : Below w.heap.size w W) => F _ W (HV.out.next hb))
  have CP := Lib.hid (fun W (hb : Below w.heap.size w W) => print_any t hn.each _ W (HV.out.next hb) (hst.next hb))
  have CC := Lib.hid (fun W (hb : Below w.heap.size w W) => rcheck_any t _ W (HV.out.next hb) (fun k hk => by have := hn.each k hk; omega))
  have CD := Lib.hid (fun W (hb : Below w.heap.size w W) => deep_any t _ W (HV.out.next hb))
  rw [if_neg hc] at CD
  rw [show prS t = [] by unfold prS; rw [if_neg hc], show prE t = checkE t by unfold prE; rw [if_neg hc]] at CP
  have hne : (checkE t != 0) = true := by simpa using hc
  generalize checkE t = E at *
  clear hv hst HV F hc hn
  go_enter Tryd.func3, Tryd.ntmps3
  go_wp2_with (first
    | (go_at_call 4; (with_reducible refine (CF.out _ B0.out).mono ?_); rintro e w1 ⟨rfl, hb⟩; go_must (obtain ⟨a0, a1, a2⟩ := T0.out.next hb; have B1 := Lib.hid (B0.out.trans (hb.mono B0.out.size)); clear hb))
    | (go_at_call 6; (with_reducible refine (CP.out _ B1.out).mono ?_); rintro e w2 ⟨rfl, hb⟩; go_must (have b0 := cell_next a0 hb; have b1 := cell_next a1 hb; have b2 := cell_next a2 hb; have B2 := Lib.hid (B1.out.trans (hb.mono B1.out.size)); clear hb a0 a1 a2))
    | (go_at_call 7; (with_reducible refine (CC.out _ B2.out).mono ?_); rintro e w3 ⟨rfl, hb⟩; go_must (have c0 := cell_next b0 hb; have c1 := cell_next b1 hb; have c2 := cell_next b2 hb; have B3 := Lib.hid (B2.out.trans (hb.mono B2.out.size)); clear hb b0 b1 b2))
    | (go_at_call 8; (with_reducible refine (CD.out _ B3.out).mono ?_); rintro e w4 ⟨rfl, hb⟩; go_must (have d0 := cell_next c0 hb; have d1 := cell_next c1 hb; have d2 := cell_next c2 hb; have B4 := Lib.hid (B3.out.trans (hb.mono B3.out.size)); clear hb c0 c1 c2))
    | (go_at_call 5; (with_reducible refine (CA.out _ B4.out).mono ?_); rintro e w9 ⟨rfl, hb⟩; go_must (have B9 := Lib.hid (B4.out.trans (hb.mono B4.out.size)); clear hb))
    | fail)
  go_ret
  exact ⟨rfl, B9.out⟩

set_option maxRecDepth 100000 in
set_option maxHeartbeats 4000000 in
theorem law_big (t : Tr) (v : Value) (w : World) (hv : TreeAt w v t) (hst : Dg.St w) (hn : Near t) (hc : checkE t = 0) (hl : 4096 < (textL t.sets t.ns t.root.toNat).length) (F : ∀ (v : Value) (w : World), TreeAt w v t → Calls Tryd.prog 4 #[v] w fun e w' => e = .returned (.bool false) ∧ Below w.heap.size w w') :
    Calls Tryd.prog 3 #[v] w fun e w' => e = .returned (.bool true) ∧ Below w.heap.size w w' := by
  have HV := Lib.hid hv
  obtain ⟨ao, cap, so, scap, rfl, _, _, _, _⟩ := hv.shape
  have B0 := Lib.hid ((Below.refl w.heap.size w).alloc (Nat.le_refl _) (.cells #[.slice ao t.ns.length cap, .slice so t.sets.length scap, .int .i64 t.root] 25))
  have T0 := Lib.hid (TBox.new w (.slice ao t.ns.length cap) (.slice so t.sets.length scap) t.root)
  have CA := Lib.hid (fun W (hb : Below w.heap.size w W) => alive_any W (hst.next hb))
  have CF := Lib.hid (fun W (hb : Below w.heap.size w W) => F _ W (HV.out.next hb))
  have CP := Lib.hid (fun W (hb : Below w.heap.size w W) => print_any t hn.each _ W (HV.out.next hb) (hst.next hb))
  have CC := Lib.hid (fun W (hb : Below w.heap.size w W) => rcheck_any t _ W (HV.out.next hb) (fun k hk => by have := hn.each k hk; omega))
  have hr0 := (check_ok hc).1.root0
  have hr1 := (check_ok hc).1.root1
  obtain ⟨q, hq⟩ := Int.eq_ofNat_of_zero_le hr0
  have hqn : q < t.ns.length := by omega
  have CR := Lib.hid (fun W (hb : Below w.heap.size w W) => rprint_any t (check_ok hc).1 hn q hqn _ W (HV.out.next hb))
  have hlen := near_len (check_ok hc).1 hn hqn
  rw [show prS t = [] by unfold prS; rw [if_pos hc, if_neg (by omega)], show prE t = 6 by unfold prE; rw [if_pos hc, if_neg (by omega)]] at CP
  unfold Tells at CR
  rw [hc] at CC
  rw [hq] at CP CC CR CF B0 T0 hl ⊢
  rw [Int.toNat_natCast] at hl
  generalize textL t.sets t.ns q = E at *
  have hE : (4096 : Int) < (E.length : Int) := by omega
  clear hv hst HV F hc hn hr0 hr1 hq
  go_enter Tryd.func3, Tryd.ntmps3
  go_wp2_with (first
    | (go_at_call 4; (with_reducible refine (CF.out _ B0.out).mono ?_); rintro e w1 ⟨rfl, hb⟩; go_must (obtain ⟨a0, a1, a2⟩ := T0.out.next hb; have B1 := Lib.hid (B0.out.trans (hb.mono B0.out.size)); clear hb))
    | (go_at_call 6; (with_reducible refine (CP.out _ B1.out).mono ?_); rintro e w2 ⟨rfl, hb⟩; go_must (have b0 := cell_next a0 hb; have b1 := cell_next a1 hb; have b2 := cell_next a2 hb; have B2 := Lib.hid (B1.out.trans (hb.mono B1.out.size)); clear hb a0 a1 a2))
    | (go_at_call 7; (with_reducible refine (CC.out _ B2.out).mono ?_); rintro e w3 ⟨rfl, hb⟩; go_must (have c0 := cell_next b0 hb; have c1 := cell_next b1 hb; have c2 := cell_next b2 hb; have B3 := Lib.hid (B2.out.trans (hb.mono B2.out.size)); clear hb b0 b1 b2))
    | (go_at_call 9; (with_reducible refine (CR.out _ B3.out).mono ?_); rintro e w4 ⟨rfl, hb⟩; go_must (have d0 := cell_next c0 hb; have d1 := cell_next c1 hb; have d2 := cell_next c2 hb; have B4 := Lib.hid (B3.out.trans (hb.mono B3.out.size)); clear hb c0 c1 c2))
    | (go_at_call 5; (with_reducible refine (CA.out _ B4.out).mono ?_); rintro e w9 ⟨rfl, hb⟩; go_must (have B9 := Lib.hid (B4.out.trans (hb.mono B4.out.size)); clear hb))
    | fail)
  go_ret
  exact ⟨rfl, B9.out⟩

set_option maxRecDepth 100000 in
set_option maxHeartbeats 4000000 in
theorem law_yes (t : Tr) (v : Value) (w : World) (hv : TreeAt w v t) (hst : Dg.St w) (hn : Near t) (hc : checkE t = 0) (hl : (textL t.sets t.ns t.root.toNat).length ≤ 4096) (F : ∀ (v : Value) (w : World), TreeAt w v t → Calls Tryd.prog 4 #[v] w fun e w' => e = .returned (.bool false) ∧ Below w.heap.size w w') :
    Calls Tryd.prog 3 #[v] w fun e w' => e = .returned (.bool true) ∧ Below w.heap.size w w' := by
  have HV := Lib.hid hv
  obtain ⟨ao, cap, so, scap, rfl, _, _, _, _⟩ := hv.shape
  have B0 := Lib.hid ((Below.refl w.heap.size w).alloc (Nat.le_refl _) (.cells #[.slice ao t.ns.length cap, .slice so t.sets.length scap, .int .i64 t.root] 25))
  have T0 := Lib.hid (TBox.new w (.slice ao t.ns.length cap) (.slice so t.sets.length scap) t.root)
  have CA := Lib.hid (fun W (hb : Below w.heap.size w W) => alive_any W (hst.next hb))
  have CF := Lib.hid (fun W (hb : Below w.heap.size w W) => F _ W (HV.out.next hb))
  have CP := Lib.hid (fun W (hb : Below w.heap.size w W) => print_any t hn.each _ W (HV.out.next hb) (hst.next hb))
  have CC := Lib.hid (fun W (hb : Below w.heap.size w W) => rcheck_any t _ W (HV.out.next hb) (fun k hk => by have := hn.each k hk; omega))
  have hr0 := (check_ok hc).1.root0
  have hr1 := (check_ok hc).1.root1
  obtain ⟨q, hq⟩ := Int.eq_ofNat_of_zero_le hr0
  have hqn : q < t.ns.length := by omega
  have CR := Lib.hid (fun W (hb : Below w.heap.size w W) => rprint_any t (check_ok hc).1 hn q hqn _ W (HV.out.next hb))
  have hlen := near_len (check_ok hc).1 hn hqn
  have CD := Lib.hid (fun W (hb : Below w.heap.size w W) => deep_any t _ W (HV.out.next hb))
  have CX := Lib.hid (fun W => rdeep_any (textL t.sets t.ns q) W hlen)
  rw [scan_tree (check_ok hc).1 hqn] at CX
  rw [if_pos hc, hq, Int.toNat_natCast] at CD
  rw [show prS t = textL t.sets t.ns t.root.toNat by unfold prS; rw [if_pos hc, if_pos hl], show prE t = 0 by unfold prE; rw [if_pos hc, if_pos hl]] at CP
  unfold Tells at CR
  rw [hc] at CC
  rw [hq] at CP CC CR CF B0 T0 hl ⊢
  rw [Int.toNat_natCast] at CP hl
  generalize textL t.sets t.ns q = E at *
  generalize deepL t.ns q = D at *
  have hE : ¬ (4096 : Int) < (E.length : Int) := by omega
  clear hv hst HV F hc hn hr0 hr1 hq
  go_enter Tryd.func3, Tryd.ntmps3
  go_wp2_with (first
    | (go_at_call 4; (with_reducible refine (CF.out _ B0.out).mono ?_); rintro e w1 ⟨rfl, hb⟩; go_must (obtain ⟨a0, a1, a2⟩ := T0.out.next hb; have B1 := Lib.hid (B0.out.trans (hb.mono B0.out.size)); clear hb))
    | (go_at_call 6; (with_reducible refine (CP.out _ B1.out).mono ?_); rintro e w2 ⟨rfl, hb⟩; go_must (have b0 := cell_next a0 hb; have b1 := cell_next a1 hb; have b2 := cell_next a2 hb; have B2 := Lib.hid (B1.out.trans (hb.mono B1.out.size)); clear hb a0 a1 a2))
    | (go_at_call 7; (with_reducible refine (CC.out _ B2.out).mono ?_); rintro e w3 ⟨rfl, hb⟩; go_must (have c0 := cell_next b0 hb; have c1 := cell_next b1 hb; have c2 := cell_next b2 hb; have B3 := Lib.hid (B2.out.trans (hb.mono B2.out.size)); clear hb b0 b1 b2))
    | (go_at_call 9; (with_reducible refine (CR.out _ B3.out).mono ?_); rintro e w4 ⟨rfl, hb⟩; go_must (have d0 := cell_next c0 hb; have d1 := cell_next c1 hb; have d2 := cell_next c2 hb; have B4 := Lib.hid (B3.out.trans (hb.mono B3.out.size)); clear hb c0 c1 c2))
    | (go_at_call 8; (with_reducible refine (CD.out _ B4.out).mono ?_); rintro e w5 ⟨rfl, hb⟩; go_must (have f0 := cell_next d0 hb; have f1 := cell_next d1 hb; have f2 := cell_next d2 hb; have B5 := Lib.hid (B4.out.trans (hb.mono B4.out.size)); clear hb d0 d1 d2))
    | (go_at_call 10; (with_reducible refine (CX.out _).mono ?_); rintro e w6 ⟨rfl, hw⟩; subst hw)
    | (go_at_call 5; (with_reducible refine (CA.out _ B5.out).mono ?_); rintro e w9 ⟨rfl, hb⟩; go_must (have B9 := Lib.hid (B5.out.trans (hb.mono B5.out.size)); clear hb))
    | fail)
  go_ret
  exact ⟨rfl, B9.out⟩

theorem walk_prints (t : Tr) (v : Value) (w : World) (hv : TreeAt w v t) (hst : Dg.St w) :
    Calls Tryd.prog 3 #[v] w fun e w' => e = .returned (.bool true) ∧ Below w.heap.size w w' := by
  have hf := far10_any t
  have yes : ∀ b, f10 t b → ∀ (v : Value) (w : World), TreeAt w v t → Calls Tryd.prog 4 #[v] w fun e w' => e = .returned (.bool b) ∧ Below w.heap.size w w' := fun b hb v w h => by
    refine (hf v w h).mono ?_
    rintro e w' ⟨c, rfl, hc, hw⟩
    refine ⟨?_, hw⟩
    by_cases hn : Near t
    · by_cases hk : checkE t = 0
      · rw [hc.ok hn hk, hb.ok hn hk]
      · rw [hc.bad hn hk, hb.bad hn hk]
    · rw [hc.far hn, hb.far hn]
  by_cases hn : Near t
  · by_cases hc : checkE t = 0
    · by_cases h2 : 200 < reck gZ t.ns t.root.toNat
      · exact law_far t v w hv hst (yes true ⟨fun h' => absurd hn h', fun _ h' => absurd hc h', fun _ _ => by simpa using h2⟩)
      · have F := yes false ⟨fun h' => absurd hn h', fun _ h' => absurd hc h', fun _ _ => by simpa using h2⟩
        rcases Nat.lt_or_ge 4096 (textL t.sets t.ns t.root.toNat).length with hl | hl
        · exact law_big t v w hv hst hn hc hl F
        · exact law_yes t v w hv hst hn hc hl F
    · exact law_bad t v w hv hst hn hc (yes false ⟨fun h' => absurd hn h', fun _ _ => rfl, fun _ h' => absurd h' hc⟩)
  · exact law_far t v w hv hst (yes true ⟨fun _ => rfl, fun h' => absurd h' hn, fun h' => absurd h' hn⟩)

end Go.Proofs.YtdmceapbobkklaaDoor.Rp

namespace Go.Proofs.YtdmceapbobkklaaDoor.Rp
open Go Go.RowKit Go.Shelf Go.ChangeShapes Go.WideShapes Go.Deep
open Go.Proofs.YtdmceapbobkklaaDoor.Ar (Tr TreeAt)

set_option maxRecDepth 100000 in
theorem tree_of_trod {H : Type} {enc : TypeId × Value → H} {W : World} {v : Value} {d : DataW H} {ps : List MemPlace} {base b2 : Nat} {sp : Nat → Bool} {held : Bool} (ho : Value.okWide Tryd.prog W .any b2 25 v) (h : DataW.Trod enc Tryd.prog W base sp held 25 v d ps) : ∃ t, TreeAt W v t := Ar.tree_of_trod ho h
set_option maxRecDepth 100000 in
theorem st_of_laid {W : World} (h : laidMet Tryd.prog [("math/bits.deBruijn32tab", Rows.laid_math_bits_deBruijn32tab), ("math/bits.deBruijn64tab", Rows.laid_math_bits_deBruijn64tab), ("internal/strconv.uint64pow10", Rows.laid_internal_strconv_uint64pow10), ("spool/digit.digits16", Rows.laid_spool_digit_digits16)] W) : Dg.St W := Dg.st_of_laid h
theorem walkPrints (t : Tr) (v : Value) (w : World) (hv : TreeAt w v t) (hst : Dg.St w) :
    Calls Tryd.prog 3 #[v] w fun e w' => e = .returned (.bool true) ∧ Below w.heap.size w w' := walk_prints t v w hv hst

end Go.Proofs.YtdmceapbobkklaaDoor.Rp

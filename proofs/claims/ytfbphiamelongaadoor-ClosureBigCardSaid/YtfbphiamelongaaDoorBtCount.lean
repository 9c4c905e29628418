/- Count. -/
import Derived.Test.YtfbphiamelongaaDoorBtFilled
import Derived.Test.YtfbphiamelongaaDoorBtAdd
namespace Go.Proofs.YtfbphiamelongaaDoor.Bt
open Go.RowKit Go.Shelf

attribute [local go_sem] Oper.semAt_some

/-- how many numbers are in these words -/
def cntX (X : List (Nat × Nat)) : Nat := (X.map fun x => (bitsOf x.2).length).sum
theorem cntX_snoc (X : List (Nat × Nat)) (x : Nat × Nat) : cntX (X ++ [x]) = cntX X + (bitsOf x.2).length := by simp [cntX]
theorem from_len : ∀ (k : Nat) (L : List Nat), (fromL k L).length ≤ L.length
  | _, [] => by simp [fromL]
  | k, x :: t => by
    have := from_len (k + 1) t
    unfold fromL
    split <;> simp <;> omega
theorem from_word : ∀ (k : Nat) (L : List Nat) (x : Nat × Nat), x ∈ fromL k L → k ≤ x.1 ∧ x.1 < k + L.length ∧ x.2 = L.getD (x.1 - k) 0 ∧ x.2 ≠ 0
  | _, [], x, h => by simp [fromL] at h
  | k, y :: t, x, h => by
    unfold fromL at h
    have rest : x ∈ fromL (k + 1) t → k ≤ x.1 ∧ x.1 < k + (y :: t).length ∧ x.2 = (y :: t).getD (x.1 - k) 0 ∧ x.2 ≠ 0 := fun h => by
      obtain ⟨h1, h2, h3, h4⟩ := from_word (k + 1) t x h
      refine ⟨by omega, by simp; omega, ?_, h4⟩
      rw [show x.1 - k = (x.1 - (k + 1)) + 1 by omega]
      simpa using h3
    split at h
    · exact rest h
    · rename_i hy
      rcases List.mem_cons.1 h with e | h
      · subst e
        exact ⟨by simp, by simp, by simp, hy⟩
      · exact rest h
theorem cntX_le : ∀ (X : List (Nat × Nat)), cntX X ≤ 64 * X.length
  | [] => by simp [cntX]
  | x :: X => by
    have h1 := cntX_le X
    have h2 := ones_le x.2
    have e : cntX (x :: X) = (bitsOf x.2).length + cntX X := by simp [cntX]
    rw [e]
    simp only [List.length_cons]
    omega

theorem keeps_set (m : Nat) (W : World) (B : Nat) (v : Value) : KeepsFrom m W (W.setCell ⟨B, 0, none⟩ v).drew :=
  ((KeepsOthers.setCell W _ v).from m).trans (KeepsFrom.of_grownBy (row := none) (grown_row ((Below.refl _ _).drew)) (fun j e => by cases e))
theorem boxed_drew {W : World} {B : Nat} {t : TypeId} {v : Value} (h : Boxed W B t v) : Boxed W.drew B t v := (((Below.refl _ W).drew).block B h.lt).trans h

set_option maxRecDepth 100000 in
set_option maxHeartbeats 2000000 in
theorem count_any (B room : Nat) (v : Value) (L : List Nat) (w : World) (h : SetAt w B room v L) : Calls Tryd.prog 13 #[setV room v] w fun e w' => e = .returned (.int .i64 (cntX (fromL 0 L) : Nat)) ∧ Below w.heap.size w w' := by
  obtain ⟨ao, cap, rfl, hL, hcap, hc⟩ := h.shape
  have HC := Lib.hid (fun W (hW : Below w.heap.size w W) => show Rd ao L W from fun i hi => by
    obtain ⟨g, e, hcell⟩ := hc i hi
    exact ⟨g, e, cell_next hcell hW⟩)
  have HX := Lib.hid (fun x => from_word 0 L x)
  have HW := Lib.hid h.word
  have hXl : (fromL 0 L).length ≤ 1024 := Nat.le_trans (from_len 0 L) hL
  clear hc h
  unfold setV
  refine (callsIn_wide (n := 9)).1 (callsIn_of_wp_marks Tryd.func13 rfl trivial ?_ rfl)
  simp only [Tryd.ntmps13, List.size_toArray, List.length_cons, List.length_nil, Nat.reduceAdd, Nat.reduceSub, Array.replicate_succ, Array.replicate_zero, List.push_toArray, List.append_toArray, List.nil_append, List.cons_append]
  have hB1 := (Below.refl w.heap.size w).alloc (Nat.le_refl _) (.cells #[.int .i64 (room : Nat), .slice ao L.length cap] 30)
  have hB2 := hB1.alloc hB1.size (.cells #[.int .i64 0] 3)
  have bN := Boxed.new (w.alloc (.cells #[.int .i64 (room : Nat), .slice ao L.length cap] 30)) 3 (.int .i64 0)
  simp only [World.size_alloc] at bN
  gi_wp2
  refine range_law (rc := .agg #[.int .i64 (room : Nat), .slice ao L.length cap]) (gf := 38) rfl (enters_of Tryd.func38 (by kernel_rfl) rfl) (enc := encP) (X := fromL 0 L) (Rd := Rd ao L)
    (fun W1 _ => filled_seq room _ L ao cap rfl hL W1) (fun _ => rfl)
    (fun pre W => Boxed W (w.heap.size + 1) 3 (.int .i64 (cntX pre : Nat)) ∧ Below w.heap.size w W)
    (fun _ _ => False)
    (OwnFrom.and (Own.from (boxed_own (w.heap.size + 1) 3 (fun pre : List (Nat × Nat) => .int .i64 (cntX pre : Nat))) _) (ownFrom_below (Nat.le_refl _) (by simp; omega)))
    (fun _ _ _ _ hs _ _ => hs.elim)
    (fun pre W hI => HC.out W hI.2)
    ⟨bN, hB2⟩
    (fun x => { tmps := #[.agg #[.int .i64 (room : Nat), .slice ao L.length cap], .pointer (some ⟨w.heap.size, 0, none⟩), .int .i64 0, .pointer (some ⟨w.heap.size + 1, 0, none⟩), undef, .int .u64 (x.2 : Nat), .agg #[.int .i64 (room : Nat), .slice ao L.length cap], .func (.func 38) #[.agg #[.int .i64 (room : Nat), .slice ao L.length cap]] #[], .int .i64 (x.1 : Nat), .int .u64 (x.2 : Nat), undef, undef, undef, undef, undef], defers := [] })
    ?assign ?body ?done ?stop
  case assign =>
    intro l x W K hK
    simp only [encP]
    gi_wp2
    exact hK
  case body =>
    rintro l pre ⟨i, x⟩ W ⟨bx, hb⟩ hp
    obtain ⟨h1, h2, h3, h4⟩ := HX.out (i, x) (hp.subset (by simp))
    have hx : x < 18446744073709551616 := by
      simp only [Nat.sub_zero] at h3
      rw [h3]
      exact HW.out _
    have hlen : pre.length + 1 ≤ 1024 := by have := hp.length_le; simp at this; omega
    have hcl := cntX_le pre
    have hol := ones_le x
    have O := Lib.hid (fun w => ones_any x hx w)
    have S := Lib.hid (cntX_snoc pre (i, x))
    have hcell := bx.cell
    clear h1 h2 h3 h4 hp
    generalize cntX pre = c at *
    generalize (bitsOf x).length = d at *
    gi_wp2
    have hsz := hb.size
    have hlt := bx.lt
    have hfz := bx.frozen
    have hwr : IntKind.i64.wrap ((c : Int) + (d : Int)) = (c : Int) + (d : Int) := by
      rw [IntKind.wrap_i64]
      omega
    gi_region_with (refine ⟨trivial, ?_⟩; refine (callsIn_wide.2 (O.out _)).mono ?_; rintro e w' ⟨rfl, hw⟩; subst hw)
    all_goals
      refine (show KeepsFrom _ _ _ ∧ Boxed _ _ _ _ ∧ Below _ _ _ from ⟨keeps_set _ _ _ _, ?_, (hb.setCell (p := ⟨w.heap.size + 1, 0, none⟩) (by simp) _).drew⟩)
      rw [S.out]
      exact boxed_drew (bx.set _)
  case done =>
    rintro W ⟨bx, hb⟩ hd
    have hcell := bx.cell
    gi_wp2
    refine ⟨by simp, .inl ⟨_, _, rfl, run_takeDeferred hd, ?_⟩⟩
    exact ⟨_, results_tmp rfl _ _ _, rfl, hb.grown (grownBy_putObj' _ _ (.deferred none)) hb.size (fun k e => by cases e; simp; omega)⟩
  case stop =>
    rintro pre W _ h _
    exact h.elim

theorem own_heap {β : Type} (B k : Nat) {cs : Array Value} {t : TypeId} {fz : Nat × Nat} : OwnFrom B (fun (_ : β) W => W.heap[k]? = some (Obj.cells cs t fz)) := fun _ A C row hs hg hr =>
  (hg.block k (Array.getElem?_eq_some_iff.1 hs).1 (fun e => by
    obtain ⟨_, o, ho, hc⟩ := hr k e.symm
    rw [hs] at ho; cases ho; cases hc)).trans hs

end Go.Proofs.YtfbphiamelongaaDoor.Bt

/- Hash. -/
import Derived.Test.YtemmaoapicaloaaDoorBtCnt0
import Derived.Test.YtemmaoapicaloaaDoorBtStir
namespace Go.Proofs.YtemmaoapicaloaaDoor.Bt
open Go.RowKit Go.Shelf

attribute [local go_sem] Oper.semAt_some

theorem fold_snoc {α β : Type} (f : β → α → β) (X : List α) (z : β) (x : α) : (X ++ [x]).foldl f z = f (X.foldl f z) x := by simp
/-- one word more -/
def hstep (h : Nat) (x : Nat × Nat) : Nat := stir (stir (h ^^^ x.1) ^^^ x.2)
/-- a set's number -/
def hashX (X : List (Nat × Nat)) : Nat := X.foldl hstep 0
theorem hashX_snoc (X : List (Nat × Nat)) (x : Nat × Nat) : hashX (X ++ [x]) = hstep (hashX X) x := fold_snoc hstep X 0 x
theorem hstep_eq (h i x : Nat) : hstep h (i, x) = stir (stir (h ^^^ i) ^^^ x) := rfl
theorem fold_lt (N : Nat) (f : Nat → Nat × Nat → Nat) (hf : ∀ h x, f h x < N) : ∀ (X : List (Nat × Nat)) (h : Nat), h < N → X.foldl f h < N
  | [], _, hh => hh
  | x :: X, h, _ => fold_lt N f hf X (f h x) (hf h x)
theorem hashX_lt (X : List (Nat × Nat)) : hashX X < 18446744073709551616 :=
  fold_lt 18446744073709551616 hstep (fun _ _ => stir_lt _) X 0 (Nat.zero_lt_succ _)

set_option maxRecDepth 100000 in
set_option maxHeartbeats 2000000 in
theorem hash_any (B room : Nat) (v : Value) (L : List Nat) (w : World) (h : SetAt w B room v L) : Calls Tryd.prog 43 #[setV room v] w fun e w' => e = .returned (.int .u64 (hashX (fromL 0 L) : Nat)) ∧ Below w.heap.size w w' := by
  obtain ⟨ao, cap, rfl, hL, hcap, hc⟩ := h.shape
  have HC := Lib.hid (fun W (hW : Below w.heap.size w W) => show Rd ao L W from fun i hi => by
    obtain ⟨g, e, hcell⟩ := hc i hi
    exact ⟨g, e, cell_next hcell hW⟩)
  have HX := Lib.hid (fun x => from_word 0 L x)
  have HW := Lib.hid h.word
  have hXl : (fromL 0 L).length ≤ 1024 := Nat.le_trans (from_len 0 L) hL
  clear hc h
  unfold setV
  refine (callsIn_wide (n := 9)).1 (callsIn_of_wp_marks Tryd.func43 rfl trivial ?_ rfl)
  simp only [Tryd.ntmps43, List.size_toArray, List.length_cons, List.length_nil, Nat.reduceAdd, Nat.reduceSub, Array.replicate_succ, Array.replicate_zero, List.push_toArray, List.append_toArray, List.nil_append, List.cons_append]
  have hB1 := (Below.refl w.heap.size w).alloc (Nat.le_refl _) (.cells #[.int .i64 (room : Nat), .slice ao L.length cap] 34)
  have hB2 := hB1.alloc hB1.size (.cells #[.int .u64 0] 55)
  have bN := Boxed.new (w.alloc (.cells #[.int .i64 (room : Nat), .slice ao L.length cap] 34)) 55 (.int .u64 0)
  simp only [World.size_alloc] at bN
  gi_wp2
  refine range_law (rc := .agg #[.int .i64 (room : Nat), .slice ao L.length cap]) (gf := 28) rfl (enters_of Tryd.func28 (by kernel_rfl) rfl) (enc := encP) (X := fromL 0 L) (Rd := Rd ao L)
    (fun W1 _ => filled_seq room _ L ao cap rfl hL W1) (fun _ => rfl)
    (fun pre W => Boxed W (w.heap.size + 1) 55 (.int .u64 (hashX pre : Nat)) ∧ Below w.heap.size w W)
    (fun _ _ => False)
    (OwnFrom.and (Own.from (boxed_own (w.heap.size + 1) 55 (fun pre : List (Nat × Nat) => .int .u64 (hashX pre : Nat))) _) (ownFrom_below (Nat.le_refl _) (by simp; omega)))
    (fun _ _ _ _ hs _ _ => hs.elim)
    (fun pre W hI => HC.out W hI.2)
    ⟨bN, hB2⟩
    (fun x => { tmps := #[.agg #[.int .i64 (room : Nat), .slice ao L.length cap], .pointer (some ⟨w.heap.size, 0, none⟩), .int .u64 0, .pointer (some ⟨w.heap.size + 1, 0, none⟩), .int .i64 (x.1 : Nat), .int .u64 (x.2 : Nat), .agg #[.int .i64 (room : Nat), .slice ao L.length cap], .func (.func 28) #[.agg #[.int .i64 (room : Nat), .slice ao L.length cap]] #[], .int .i64 (x.1 : Nat), .int .u64 (x.2 : Nat), undef, undef, undef, undef, undef, undef, undef, undef, undef], defers := [] })
    ?assign ?body ?done ?stop
  case assign =>
    intro l x W K hK
    simp only [encP]
    gi_wp2
    exact hK
  case body =>
    rintro l pre ⟨i, x⟩ W ⟨bx, hb⟩ hp
    obtain ⟨h1, h2, h3, h4⟩ := HX.out (i, x) (hp.subset (by simp))
    have hx : x < 18446744073709551616 := by
      simp only [Nat.sub_zero] at h3
      rw [h3]
      exact HW.out _
    have hi : i < 1024 := by simp only at h2; omega
    have hh := hashX_lt pre
    have e := hashX_snoc pre (i, x)
    rw [hstep_eq] at e
    have E := Lib.hid e
    clear e
    have hcell := bx.cell
    have hfz := bx.frozen
    have hsz := hb.size
    have hlt := bx.lt
    clear h1 h2 h3 h4 hp
    generalize hashX pre = c at *
    have q1 : bits .xor .u64 (c : Int) (i : Int) = ((c ^^^ i : Nat) : Int) := bits_xor_u64_nat c i hh (by omega)
    have l1 := xor_lt hh (show i < 18446744073709551616 by omega)
    generalize c ^^^ i = c1 at *
    have S1 := Lib.hid (fun w => show CallsIn (Fence.wide.inRound l) 8 Tryd.prog 47 #[.int .u64 (c1 : Nat)] w _ from callsIn_wide.2 (stirred_any c1 l1 w))
    have l2 := stir_lt c1
    generalize stir c1 = c2 at *
    have q2 : bits .xor .u64 (c2 : Int) (x : Int) = ((c2 ^^^ x : Nat) : Int) := bits_xor_u64_nat c2 x l2 hx
    have l3 := xor_lt l2 hx
    generalize c2 ^^^ x = c3 at *
    have S2 := Lib.hid (fun w => show CallsIn (Fence.wide.inRound l) 8 Tryd.prog 47 #[.int .u64 (c3 : Nat)] w _ from callsIn_wide.2 (stirred_any c3 l3 w))
    generalize stir c3 = c4 at *
    gi_wp2_with (refine ⟨trivial, ?_⟩; gi_at_call 47; first
      | ((with_reducible refine (S1.out _).mono ?_); rintro e w' ⟨rfl, hw⟩; subst hw)
      | ((with_reducible refine (S2.out _).mono ?_); rintro e w' ⟨rfl, hw⟩; subst hw))
    refine ⟨(KeepsOthers.setCell _ _ _).from _, ?_, hb.setCell (p := ⟨w.heap.size + 1, 0, none⟩) (by simp) _⟩
    rw [E.out]
    exact bx.set _
  case done =>
    rintro W ⟨bx, hb⟩ hd
    have hcell := bx.cell
    gi_wp2
    refine ⟨by simp, .inl ⟨_, _, rfl, run_takeDeferred hd, ?_⟩⟩
    exact ⟨_, results_tmp rfl _ _ _, rfl, hb.grown (grownBy_putObj' _ _ (.deferred none)) hb.size (fun k e => by cases e; simp; omega)⟩
  case stop =>
    rintro pre W _ h _
    exact h.elim

end Go.Proofs.YtemmaoapicaloaaDoor.Bt

/- Lines, the program's and the document's. -/
import Derived.Test.YteimahbfjgcpiaaDoorPlIter
import Derived.Test.YteimahbfjgcpiaaDoorPairs
import Derived.Lib.OthersKept
namespace Go.Proofs.YteimahbfjgcpiaaDoor.Pl
open Go.RowKit Go.Shelf

attribute [local go_sem] Oper.semAt_some

theorem mklines_in (F : Fence) (n : Nat) (hf : F.fn 19) (hro : F.round = none) (s : ByteArray) (w : World) :
    CallsIn F n Tryd.prog 19 #[.string s] w fun e w' => e = .returned (.func (.func 26) #[] #[.pointer (some ⟨w.heap.size, 0, none⟩)]) ∧ w' = w.alloc (.cells #[.string s] 9) := by
  refine callsIn_of_wp Tryd.func19 rfl hf ?_ hro
  simp only [Tryd.ntmps19, List.size_toArray, List.length_cons, List.length_nil, Nat.reduceAdd, Nat.reduceSub, Array.replicate_succ, Array.replicate_zero, List.push_toArray, List.append_toArray, List.nil_append, List.cons_append]
  gi_wp2
  go_ret
  exact ⟨rfl, rfl⟩

theorem lines_stops (F : Fence) (n : Nat) (hf : F.fn 26) (hf2 : F.fn 27) (hro : F.round = none) (hn : 1 ≤ n) (Bn n₀ : Nat) (s : ByteArray) (hs : s.size ≤ 1000000) (w : World)
    (hidx : ∀ (s : ByteArray) (w : World), CallsIn F (n - 1) Tryd.prog 27 #[.string s, .int .u8 10] w fun e w' => e = .returned (.int .i64 (Lib.indexByte s.data.toList 10)) ∧ w' = w)
    (hn₀ : n₀ ≤ w.heap.size) (hbx : Boxed w Bn 9 (.string s)) :
    SeqStopsK F n Tryd.prog 26 #[.pointer (some ⟨Bn, 0, none⟩)] (fun x : Nat × Nat => #[vP x]) (Kept n₀ Bn s) (fun ys => ys = linesL s.data.toList) (fun pre => pre <+: linesL s.data.toList) (linesL s.data.toList).length w := fun l J Jx W hW _ _ hY hJ0 =>
  lines1_in F n hf hf2 hro hn l Bn n₀ s hs J Jx hidx (fun pre x W h h2 _ _ => hY pre x W h h2) W (Nat.le_trans hn₀ hW.size) ((hW.block Bn hbx.lt).trans hbx) hJ0

/-- the variable that collects -/
def Holds (n₀ B : Nat) (pre : List (Nat × Nat)) (W : World) : Prop :=
  ∃ v, Boxed W B 29 v ∧ W.ownsRow n₀ 22 2 v pre.length (flat pre) ∧ True
theorem holds_own (n₀ B : Nat) : Own (fun (pre : List (Nat × Nat)) W => Holds n₀ B pre W) :=
  holdsRow_own n₀ B 29 22 2 (fun pre : List (Nat × Nat) => pre.length) (fun pre => flat pre) (fun _ _ => True)

set_option maxRecDepth 100000 in
set_option maxHeartbeats 2000000 in
theorem lines_in (F : Fence) (n : Nat) (h0 : F.fn 11) (h3 : F.fn 19) (h4 : F.fn 26) (h5 : F.fn 27) (hro : F.round = none) (hn : 3 ≤ n) (s : ByteArray) (hs : s.size ≤ 1000000) (w : World)
    (hidx : ∀ (n : Nat) (s : ByteArray) (w : World), CallsIn F n Tryd.prog 27 #[.string s, .int .u8 10] w fun e w' => e = .returned (.int .i64 (Lib.indexByte s.data.toList 10)) ∧ w' = w) :
    CallsIn F n Tryd.prog 11 #[.string s] w fun e W' => ∃ v, e = .returned v ∧ PairsAt W' v (linesL s.data.toList) ∧ Below w.heap.size w W' := by
  have h1 : 1 ≤ n := by omega
  obtain ⟨i0, hi, hz0, hz1, hz2⟩ := info_parts infoP
  have hB1 : Below w.heap.size w (w.alloc (.cells #[.slice none 0 0] 29)) := (Below.refl _ w).alloc (Nat.le_refl _) _
  have hlen := (lines_pos s.data.toList).2
  rw [len_size] at hlen
  have bL := Boxed.new w 29 (.slice none 0 0)
  have HG := Lib.hid hidx
  clear hidx
  refine callsIn_of_wp_marks Tryd.func11 rfl h0 ?_ hro
  simp only [Tryd.ntmps11, List.size_toArray, List.length_cons, List.length_nil, Nat.reduceAdd, Nat.reduceSub, Array.replicate_succ, Array.replicate_zero, List.push_toArray, List.append_toArray, List.nil_append, List.cons_append]
  gi_wp2_with (gi_at_call 19; refine (mklines_in F (n - 1) h3 hro _ _).mono ?_; rintro e w' ⟨rfl, rfl⟩)
  have bS := Boxed.new (w.alloc (.cells #[.slice none 0 0] 29)) 9 (.string s)
  simp only [World.size_alloc] at bS
  have hB2 : Below w.heap.size w ((w.alloc (.cells #[.slice none 0 0] 29)).alloc (.cells #[.string s] 9)) := hB1.alloc (by simp) _
  have h00 : Holds w.heap.size w.heap.size [] ((w.alloc (.cells #[.slice none 0 0] 29)).alloc (.cells #[.string s] 9)) := ⟨_, bL.alloc _, World.ownsRow_nil _ _ _ _, trivial⟩
  refine wpIn_rangeFunc_ownH hro h1 (gf := 26) (lb := #[.pointer (some ⟨w.heap.size + 1, 0, none⟩)]) rfl h4 (enters_of Tryd.func26 (by kernel_rfl) rfl)
    (lines_stops F (n - 1) h4 h5 hro (by omega) (w.heap.size + 1) w.heap.size s hs _ (fun s w => HG.out _ s w) (by simp; omega) bS) kept_t (kept_b (by simp; omega)) (Below.refl _ _) (fun _ => rfl)
    (fun pre W => (Holds w.heap.size w.heap.size pre W ∧ Boxed W (w.heap.size + 1) 9 (.string s)) ∧ Below w.heap.size w W)
    (fun _ _ _ => False)
    (OwnFrom.and (Own.from (fun u A B row hs hg hr => ⟨holds_own w.heap.size w.heap.size u A B row hs.1 hg hr, boxed_own (w.heap.size + 1) 9 (fun _ : List (Nat × Nat) => .string s) u A B row hs.2 hg hr⟩) _) (ownFrom_below (Nat.le_refl _) (by simp; omega)))
    (fun _ _ _ _ _ hs _ _ => hs)
    ⟨⟨h00, bS⟩, hB2⟩
    (fun x a' W => ∃ Bx, w.heap.size + 1 < Bx ∧ Box2 W Bx 22 (.int .i64 (x.1 : Nat)) (.int .i64 (x.2 : Nat)) ∧ a' = { tmps := #[.string s, undef, .slice none 0 0, .pointer (some ⟨w.heap.size, 0, none⟩), .pointer (some ⟨Bx, 0, none⟩), .string s, .func (.func 26) #[] #[.pointer (some ⟨w.heap.size + 1, 0, none⟩)], vP x, undef, undef, undef, undef, undef], defers := [] }) ?hAx ?assign ?body ?done ?stop
  case hAx =>
    rintro x a' u A B row ⟨Bx, h1, h2, h3⟩ hg hr
    exact ⟨Bx, h1, h2.kept hg (fun e => by
      obtain ⟨_, o, ho, hc⟩ := hr Bx e.symm
      rw [show A.heap[Bx]? = _ from h2] at ho; cases ho; cases hc), h3⟩
  case assign =>
    rintro l pre ⟨x, y⟩ W K ⟨⟨⟨v, hbx, hrow, _⟩, hS⟩, hB⟩ hK
    simp only [vP] at hK ⊢
    gi_wp2
    have hsz := hB.size
    have hL1 := hS.lt
    exact hK _ _ ((KeepsOthers.alloc _ _).from _) ⟨(Below.refl _ W).alloc hsz _, fun h => h.alloc _⟩ ⟨⟨⟨v, hbx.alloc _, hrow.alloc _, trivial⟩, hS.alloc _⟩, hB.alloc hsz _⟩ ⟨W.heap.size, hL1, World.alloc_heap_new W _, rfl⟩
  case body =>
    rintro l pre ⟨x, y⟩ a' W hl ⟨r, hr⟩ ⟨⟨⟨v, hbx, hrow, _⟩, hS⟩, hB⟩ ⟨Bx, hBx, bX, rfl⟩ hlt
    have hc := hbx.cell
    obtain ⟨hx1, hx2⟩ := bX.cells
    simp only [vP]
    gi_wp2_with (gi_at_builtin; refine wpListIn_append_own _ rfl _ _ 29 rfl w.heap.size 22 i0 (.agg #[.int .i64 0, .int .i64 0]) 2 16 Tryd.underlying29 hi hz0 hz1 hz2 rfl (by decide) _ _ _ rfl (hrow.alloc _) ⟨W.heap.size, 0, none⟩ 1 1 [.int .i64 (x : Nat), .int .i64 (y : Nat)] rfl rfl (cell_two_new _ _ _ _) (by simp [Value.oneCell']) (by unfold maxLen; omega) (by omega) (by have := hB.size; simp; omega) ?_; intro v' w2 hown' hgrow _; obtain ⟨g', cap', rfl⟩ := ownsRow_succ hown'; obtain ⟨hv1, hv2, hr2, hk2, hb2⟩ := hbx.appended (by decide) hrow hB.size (Nat.le_refl _) hown' hgrow; have hc1 := hv1.cell; have hf1 := hv1.frozen; have hKS : ∀ u, Boxed W (w.heap.size + 1) 9 (.string s) → Boxed (w2.setCell ⟨w.heap.size, 0, none⟩ u) (w.heap.size + 1) 9 (.string s) := fun u hS => ((hS.alloc _).kept hgrow (hS.not_row (by decide) hrow)).kept (grownBy_setCell' w2 w.heap.size u) (by simp))
    exact ⟨hk2.from _, ⟨hb2, hKS _⟩, ⟨⟨_, hv2, by simpa [flat_snoc] using hr2, trivial⟩, hKS _ hS⟩, hB.trans hb2⟩
  case done =>
    rintro D ys W hD rfl ⟨⟨⟨v, hbx, hrow, _⟩, _⟩, hB⟩ hK
    have hc := hbx.cell
    gi_wp2
    refine ⟨by simp, .inl ⟨_, _, rfl, run_takeDeferred hK, ?_⟩⟩
    exact ⟨_, results_tmp rfl _ _ _, v, rfl, pairs_of_row (ownsRow_putObj hrow _ hK rfl), hB.trans (belowK_b (w := w) (Nat.le_refl _) W D _ _ (by simp at hD; omega) hK rfl rfl)⟩
  case stop =>
    rintro D c pre W _ _ h _
    exact h.elim

theorem idx_wide (n : Nat) (s : ByteArray) (w : World) : CallsIn Fence.wide n Tryd.prog 27 #[.string s, .int .u8 10] w fun e w' => e = .returned (.int .i64 (Lib.indexByte s.data.toList 10)) ∧ w' = w :=
  callsIn_wide.2 (Tryd.strings_IndexByte s 10 w)

theorem lines_any (s : ByteArray) (hs : s.size ≤ 1000000) (w : World) :
    Calls Tryd.prog 11 #[.string s] w fun e W' => ∃ v, e = .returned v ∧ PairsAt W' v (linesL s.data.toList) ∧ Below w.heap.size w W' :=
  (callsIn_wide (n := 5)).1 (lines_in Fence.wide 5 trivial trivial trivial trivial rfl (by omega) s hs w idx_wide)

theorem byte_at {s : ByteArray} {k : Nat} (h : k < s.size) : s.data.toList.drop k = s[k]'h :: s.data.toList.drop (k + 1) :=
  List.drop_eq_getElem_cons (l := s.data.toList) h

set_option maxRecDepth 100000 in
set_option maxHeartbeats 1000000 in
theorem rlines_any (s : ByteArray) (hs : s.size ≤ 1000000) (w : World) :
    Calls Tryd.prog 12 #[.string s] w fun e W' => ∃ v, e = .returned v ∧ PairsAt W' v (linesL s.data.toList) ∧ Below w.heap.size w W' := by
  obtain ⟨i0, hi, hz0, hz1, hz2⟩ := info_parts infoP
  go_enter Tryd.func12, Tryd.ntmps12
  go_wp2
  go_loopw [3, 4, 5] (fun v f i wr => ∃ (k fr : Nat) (pre : List (Nat × Nat)), f = .int .i64 fr ∧ i = .int .i64 k ∧ fr ≤ k ∧ k ≤ s.size + 1 ∧ pre.length ≤ k ∧ (k ≤ s.size → linesL s.data.toList = pre ++ lnL fr k (s.data.toList.drop k)) ∧ (k = s.size + 1 → linesL s.data.toList = pre) ∧ wr.ownsRow w.heap.size 22 2 v pre.length (flat pre) ∧ Below w.heap.size w wr) (fun _ _ i _ => s.size + 1 - (intOf i).toNat)
  case atStart => exact ⟨0, 0, [], rfl, rfl, by omega, by omega, by simp, fun _ => rfl, fun h => by omega, World.ownsRow_nil _ _ _ _, Below.refl _ _⟩
  case round =>
    obtain ⟨k, fr, pre, rfl, rfl, hfk, hk, hpl, hx, hx2, hrow, hb⟩ := hrel
    have hsz := hb.size
    rcases Nat.lt_or_ge k s.size with hlt | hge
    · have hx' := hx (by omega)
      rw [byte_at hlt] at hx'
      have h10 := byte10 s[k]
      have he : ((k : Int) == (s.size : Int)) = false := beq_eq_false_iff_ne.2 (by omega)
      clear hx hx2
      by_cases hc : (s[k].toNat : Int) = 10
      · rw [h10.2 hc] at hx'
        have HX := Lib.hid hx'
        clear hx' h10
        go_wp2_with (at_builtin; refine wpList_append_own _ rfl _ _ 29 rfl w.heap.size 22 i0 (.agg #[.int .i64 0, .int .i64 0]) 2 16 Tryd.underlying29 hi hz0 hz1 hz2 rfl (by decide) _ _ _ rfl (hrow.alloc _) ⟨wr.heap.size, 0, none⟩ 1 1 [.int .i64 (fr : Nat), .int .i64 (k : Nat)] rfl rfl (cell_two_new _ _ _ _) (by simp [Value.oneCell']) (by unfold maxLen; omega) (by omega) (by simp; omega) ?_; intro v' w2 hown' hgrow _)
        go_roundw
        case rel => exact ⟨k + 1, k + 1, pre ++ [(fr, k)], by go_num, by go_num, by omega, by omega, by simp; omega, fun _ => by rw [HX.out]; simp [lnL], fun h => by omega, by simpa [flat_snoc] using hown', (hb.alloc hsz _).grown hgrow (by simp; omega) (fun k hk => ((World.ownsRowF_of hrow).lt k hk).1)⟩
        case measure => simp [intOf]; omega
      · have hn : s[k] ≠ 10 := fun e => hc (h10.1 e)
        have hl : lnL fr k (s[k] :: s.data.toList.drop (k + 1)) = lnL fr (k + 1) (s.data.toList.drop (k + 1)) := by
          conv => lhs; unfold lnL
          rw [if_neg hn]
        rw [hl] at hx'
        have HX := Lib.hid hx'
        clear hx' h10 hn hl
        go_wp2
        go_roundw
        case rel => exact ⟨k + 1, fr, pre, rfl, by go_num, by omega, by omega, by omega, fun _ => HX.out, fun h => by omega, hrow, hb⟩
        case measure => simp [intOf]; omega
    · rcases Nat.lt_or_ge s.size k with hgt | hle
      · have HX := Lib.hid (hx2 (by omega))
        clear hx hx2
        go_wp2
        go_ret
        exact ⟨_, rfl, by rw [HX.out]; exact pairs_of_row hrow, hb⟩
      · obtain rfl : k = s.size := by omega
        have hx' := hx (by omega)
        rw [List.drop_eq_nil_of_le (by rw [len_size]; omega)] at hx'
        have HX := Lib.hid hx'
        clear hx hx2 hx'
        go_wp2_with (at_builtin; refine wpList_append_own _ rfl _ _ 29 rfl w.heap.size 22 i0 (.agg #[.int .i64 0, .int .i64 0]) 2 16 Tryd.underlying29 hi hz0 hz1 hz2 rfl (by decide) _ _ _ rfl (hrow.alloc _) ⟨wr.heap.size, 0, none⟩ 1 1 [.int .i64 (fr : Nat), .int .i64 (s.size : Nat)] rfl rfl (cell_two_new _ _ _ _) (by simp [Value.oneCell']) (by unfold maxLen; omega) (by omega) (by simp; omega) ?_; intro v' w2 hown' hgrow _)
        go_roundw
        case rel => exact ⟨s.size + 1, s.size + 1, pre ++ [(fr, s.size)], by go_num, by go_num, by omega, by omega, by simp; omega, fun h => by omega, fun _ => HX.out, by simpa [flat_snoc] using hown', (hb.alloc hsz _).grown hgrow (by simp; omega) (fun k hk => ((World.ownsRowF_of hrow).lt k hk).1)⟩
        case measure => simp [intOf]

end Go.Proofs.YteimahbfjgcpiaaDoor.Pl

/- All and Next, the program's. -/
import Derived.Test.YtmdkpbmhldlicaaWdIter
import Derived.Test.YtmdkpbmhldlicaaWdRAll
namespace Go.Proofs.Ytmdkpbmhldlicaa.Wd
open Go.RowKit Go.Shelf

attribute [local go_sem] Oper.semAt_some

theorem each_stops (F : Fence) (n : Nat) (hf : F.fn 24) (hf2 : F.fn 19) (hro : F.round = none) (hn : 1 ≤ n) (Ba Bn n₀ K : Nat) (s : ByteArray) (at_ : Int) (hK : min (max at_ 0) (s.size : Int) = K) (hs : s.size ≤ 1000000) (w : World)
    (hb : ∀ (s : ByteArray) (w : World), s.size ≤ maxLen → CallsIn F (n - 1) Try.prog 19 #[.string s, .func (.func 7) #[] #[]] w fun e w' => e = .returned (.int .i64 (spanL blk s.data.toList : Nat)) ∧ w = w')
    (hg : ∀ (s : ByteArray) (w : World), s.size ≤ maxLen → CallsIn F (n - 1) Try.prog 19 #[.string s, .func (.func 25) #[] #[]] w fun e w' => e = .returned (.int .i64 (spanL flb s.data.toList : Nat)) ∧ w = w')
    (hn₀ : n₀ ≤ w.heap.size) (hba : Boxed w Ba 3 (.int .i64 at_)) (hbx : Boxed w Bn 9 (.string s)) :
    SeqStopsK F n Try.prog 24 #[.pointer (some ⟨Ba, 0, none⟩), .pointer (some ⟨Bn, 0, none⟩)] (fun x : Nat × Nat => #[vP x]) (Kept n₀ Bn s) (fun ys => ys = eachL s.data.toList K) (fun pre => pre <+: eachL s.data.toList K) (eachL s.data.toList K).length w := fun l J Jx W hW _ _ hY hJ0 =>
  each1_in F n hf hf2 hro hn l Ba Bn n₀ K s at_ hK hs J Jx hb hg (fun pre x W h h2 _ _ => hY pre x W h h2) W (Nat.le_trans hn₀ hW.size) ((hW.block Ba hba.lt).trans hba) ((hW.block Bn hbx.lt).trans hbx) hJ0

/-- the variable that collects -/
def Holds (n₀ B : Nat) (pre : List (Nat × Nat)) (W : World) : Prop :=
  ∃ v, Boxed W B 27 v ∧ W.ownsRow n₀ 29 2 v pre.length (flat pre) ∧ True
theorem holds_own (n₀ B : Nat) : Own (fun (pre : List (Nat × Nat)) W => Holds n₀ B pre W) :=
  holdsRow_own n₀ B 27 29 2 (fun pre : List (Nat × Nat) => pre.length) (fun pre => flat pre) (fun _ _ => True)

theorem each_zero (l : List UInt8) : eachL l 0 = wordsL l := rfl
theorem words_len (l : List UInt8) : (wordsL l).length ≤ l.length := by have := wdL_len l none 0; simpa [wordsL] using this

set_option maxRecDepth 100000 in
set_option maxHeartbeats 2000000 in
theorem all_in (F : Fence) (n : Nat) (h0 : F.fn 13) (h3 : F.fn 23) (h4 : F.fn 24) (h5 : F.fn 19) (hro : F.round = none) (hn : 3 ≤ n) (s : ByteArray) (hs : s.size ≤ 1000000) (w : World)
    (hb : ∀ (n : Nat) (s : ByteArray) (w : World), s.size ≤ maxLen → CallsIn F n Try.prog 19 #[.string s, .func (.func 7) #[] #[]] w fun e w' => e = .returned (.int .i64 (spanL blk s.data.toList : Nat)) ∧ w = w')
    (hg : ∀ (n : Nat) (s : ByteArray) (w : World), s.size ≤ maxLen → CallsIn F n Try.prog 19 #[.string s, .func (.func 25) #[] #[]] w fun e w' => e = .returned (.int .i64 (spanL flb s.data.toList : Nat)) ∧ w = w') :
    CallsIn F n Try.prog 13 #[.string s] w fun e W' => ∃ v, e = .returned v ∧ PairsAt W' v (wordsL s.data.toList) ∧ Below w.heap.size w W' := by
  have h1 : 1 ≤ n := by omega
  obtain ⟨i0, hi, hz0, hz1, hz2⟩ := info_parts infoP
  have hB1 : Below w.heap.size w (w.alloc (.cells #[.slice none 0 0] 27)) := (Below.refl _ w).alloc (Nat.le_refl _) _
  have hlen := words_len s.data.toList
  rw [len_size] at hlen
  have bL := Boxed.new w 27 (.slice none 0 0)
  have HB := Lib.hid hb
  have HG := Lib.hid hg
  clear hb hg
  refine callsIn_of_wp_marks Try.func13 rfl h0 ?_ hro
  simp only [Try.ntmps13, List.size_toArray, List.length_cons, List.length_nil, Nat.reduceAdd, Nat.reduceSub, Array.replicate_succ, Array.replicate_zero, List.push_toArray, List.append_toArray, List.nil_append, List.cons_append]
  gi_wp2_with (gi_at_call 23; refine (each_in F (n - 1) h3 hro _ _ _).mono ?_; rintro e w' ⟨rfl, rfl⟩)
  have bS := (Boxed.new (w.alloc (.cells #[.slice none 0 0] 27)) 9 (.string s)).alloc (.cells #[.int .i64 0] 3)
  have bA := Boxed.new ((w.alloc (.cells #[.slice none 0 0] 27)).alloc (.cells #[.string s] 9)) 3 (.int .i64 0)
  simp only [World.size_alloc] at bS bA
  have hB2 : Below w.heap.size w (((w.alloc (.cells #[.slice none 0 0] 27)).alloc (.cells #[.string s] 9)).alloc (.cells #[.int .i64 0] 3)) := (hB1.alloc (by simp) _).alloc (by simp; omega) _
  have h00 : Holds w.heap.size w.heap.size [] (((w.alloc (.cells #[.slice none 0 0] 27)).alloc (.cells #[.string s] 9)).alloc (.cells #[.int .i64 0] 3)) := ⟨_, (bL.alloc _).alloc _, World.ownsRow_nil _ _ _ _, trivial⟩
  refine wpIn_rangeFunc_ownH hro h1 (gf := 24) (lb := #[.pointer (some ⟨w.heap.size + 1 + 1, 0, none⟩), .pointer (some ⟨w.heap.size + 1, 0, none⟩)]) rfl h4 (enters_of Try.func24 (by kernel_rfl) rfl)
    (each_stops F (n - 1) h4 h5 hro (by omega) (w.heap.size + 1 + 1) (w.heap.size + 1) w.heap.size 0 s 0 (by simp; omega) hs _ (fun s w => HB.out _ s w) (fun s w => HG.out _ s w) (by simp; omega) bA bS) kept_t (kept_b (by simp; omega)) (Below.refl _ _) (fun _ => rfl)
    (fun pre W => (Holds w.heap.size w.heap.size pre W ∧ Boxed W (w.heap.size + 1) 9 (.string s)) ∧ Below w.heap.size w W)
    (fun _ _ _ => False)
    (OwnFrom.and (Own.from (fun u A B row hs hg hr => ⟨holds_own w.heap.size w.heap.size u A B row hs.1 hg hr, boxed_own (w.heap.size + 1) 9 (fun _ : List (Nat × Nat) => .string s) u A B row hs.2 hg hr⟩) _) (ownFrom_below (Nat.le_refl _) (by simp; omega)))
    (fun _ _ _ _ _ hs _ _ => hs)
    ⟨⟨h00, bS⟩, hB2⟩
    (fun x a' W => ∃ Bx, w.heap.size + 1 < Bx ∧ Box2 W Bx 29 (.int .i64 (x.1 : Nat)) (.int .i64 (x.2 : Nat)) ∧ a' = { tmps := #[.string s, undef, .slice none 0 0, .pointer (some ⟨w.heap.size, 0, none⟩), .pointer (some ⟨Bx, 0, none⟩), .string s, .func (.func 24) #[] #[.pointer (some ⟨w.heap.size + 1 + 1, 0, none⟩), .pointer (some ⟨w.heap.size + 1, 0, none⟩)], vP x, undef, undef, undef, undef, undef], defers := [] }) ?hAx ?assign ?body ?done ?stop
  case hAx =>
    rintro x a' u A B row ⟨Bx, h1, h2, h3⟩ hg hr
    exact ⟨Bx, h1, h2.kept hg (fun e => by
      obtain ⟨_, o, ho, hc⟩ := hr Bx e.symm
      rw [show A.heap[Bx]? = _ from h2] at ho; cases ho; cases hc), h3⟩
  case assign =>
    rintro l pre ⟨x, y⟩ W K ⟨⟨⟨v, hbx, hrow, _⟩, hS⟩, hB⟩ hK
    simp only [vP] at hK ⊢
    gi_wp2
    have hsz := hB.size
    have hL1 := hS.lt
    exact hK _ _ ((KeepsOthers.alloc _ _).from _) ⟨(Below.refl _ W).alloc hsz _, fun h => h.alloc _⟩ ⟨⟨⟨v, hbx.alloc _, hrow.alloc _, trivial⟩, hS.alloc _⟩, hB.alloc hsz _⟩ ⟨W.heap.size, hL1, World.alloc_heap_new W _, rfl⟩
  case body =>
    rintro l pre ⟨x, y⟩ a' W hl ⟨r, hr⟩ ⟨⟨⟨v, hbx, hrow, _⟩, hS⟩, hB⟩ ⟨Bx, hBx, bX, rfl⟩ hlt
    rw [each_zero] at hlt
    have hc := hbx.cell
    obtain ⟨hx1, hx2⟩ := bX.cells
    simp only [vP]
    gi_wp2_with (gi_at_builtin; refine wpListIn_append_own _ rfl _ _ 27 rfl w.heap.size 29 i0 (.agg #[.int .i64 0, .int .i64 0]) 2 16 Try.underlying27 hi hz0 hz1 hz2 rfl (by decide) _ _ _ rfl (hrow.alloc _) ⟨W.heap.size, 0, none⟩ 1 1 [.int .i64 (x : Nat), .int .i64 (y : Nat)] rfl rfl (cell_two_new _ _ _ _) (by simp [Value.oneCell']) (by unfold maxLen; omega) (by omega) (by have := hB.size; simp; omega) ?_; intro v' w2 hown' hgrow _; obtain ⟨g', cap', rfl⟩ := ownsRow_succ hown'; obtain ⟨hv1, hv2, hr2, hk2, hb2⟩ := hbx.appended (by decide) hrow hB.size (Nat.le_refl _) hown' hgrow; have hc1 := hv1.cell; have hf1 := hv1.frozen; have hKS : ∀ u, Boxed W (w.heap.size + 1) 9 (.string s) → Boxed (w2.setCell ⟨w.heap.size, 0, none⟩ u) (w.heap.size + 1) 9 (.string s) := fun u hS => ((hS.alloc _).kept hgrow (hS.not_row (by decide) hrow)).kept (grownBy_setCell' w2 w.heap.size u) (by simp))
    exact ⟨hk2.from _, ⟨hb2, hKS _⟩, ⟨⟨_, hv2, by simpa [flat_snoc] using hr2, trivial⟩, hKS _ hS⟩, hB.trans hb2⟩
  case done =>
    rintro D ys W hD rfl ⟨⟨⟨v, hbx, hrow, _⟩, _⟩, hB⟩ hK
    have hc := hbx.cell
    rw [each_zero] at hrow
    gi_wp2
    refine ⟨by simp, .inl ⟨_, _, rfl, run_takeDeferred hK, ?_⟩⟩
    exact ⟨_, results_tmp rfl _ _ _, v, rfl, pairs_of_row (ownsRow_putObj hrow _ hK rfl), hB.trans (belowK_b (w := w) (Nat.le_refl _) W D _ _ (by simp at hD; omega) hK rfl rfl)⟩
  case stop =>
    rintro D c pre W _ _ h _
    exact h.elim

theorem blank_wide (n : Nat) (s : ByteArray) (w : World) (h : s.size ≤ maxLen) : CallsIn Fence.wide n Try.prog 19 #[.string s, .func (.func 7) #[] #[]] w fun e w' => e = .returned (.int .i64 (spanL blk s.data.toList : Nat)) ∧ w = w' :=
  callsIn_wide.2 (span_blank s h w)
theorem filled_wide (n : Nat) (s : ByteArray) (w : World) (h : s.size ≤ maxLen) : CallsIn Fence.wide n Try.prog 19 #[.string s, .func (.func 25) #[] #[]] w fun e w' => e = .returned (.int .i64 (spanL flb s.data.toList : Nat)) ∧ w = w' :=
  callsIn_wide.2 (span_filled s h w)
theorem all_any (s : ByteArray) (hs : s.size ≤ 1000000) (w : World) :
    Calls Try.prog 13 #[.string s] w fun e W' => ∃ v, e = .returned v ∧ PairsAt W' v (wordsL s.data.toList) ∧ Below w.heap.size w W' :=
  (callsIn_wide (n := 5)).1 (all_in Fence.wide 5 trivial trivial trivial trivial rfl (by omega) s hs w blank_wide filled_wide)

end Go.Proofs.Ytmdkpbmhldlicaa.Wd

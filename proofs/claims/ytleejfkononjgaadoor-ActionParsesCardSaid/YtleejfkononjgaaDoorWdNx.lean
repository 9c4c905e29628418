/- Next, the program's. -/
import Derived.Test.YtleejfkononjgaaDoorWdEach
import Derived.Test.YtleejfkononjgaaDoorPairs
import Derived.RegionIn
namespace Go.Proofs.YtleejfkononjgaaDoor.Wd
open Go.RowKit Go.Shelf

attribute [local go_sem] Oper.semAt_some

theorem next_none {l : List UInt8} {K : Nat} (h : eachL l K = []) (hK : K ≤ l.length) : nextL l K = (l.length, l.length) := by
  obtain ⟨n, hn⟩ : ∃ n, spanL flb ((l.drop K).drop (spanL blk (l.drop K))) = n := ⟨_, rfl⟩
  by_cases h0 : n = 0
  · subst h0
    have hb := (wdL_none_left (i := K) hn).2
    rw [List.length_drop] at hb
    unfold nextL
    rw [hn, hb]
    simp only [Prod.mk.injEq]; omega
  · unfold eachL at h
    rw [wdL_word rfl hn (by omega)] at h
    cases h
theorem next_some {l : List UInt8} {K : Nat} {x : Nat × Nat} (h : [x] <+: eachL l K) : nextL l K = x := by
  obtain ⟨t, ht⟩ := h
  obtain ⟨n, hn⟩ : ∃ n, spanL flb ((l.drop K).drop (spanL blk (l.drop K))) = n := ⟨_, rfl⟩
  unfold eachL at ht
  by_cases h0 : n = 0
  · subst h0
    rw [(wdL_none_left (i := K) hn).1] at ht
    cases ht
  · rw [wdL_word rfl hn (by omega)] at ht
    injection ht with h1 h2
    rw [h1]; unfold nextL; rw [hn]

theorem box_kept {A B : World} {row : Option Nat} {b : Nat} {t : TypeId} {v : Value} (h : Boxed A b t v) (hg : A.grownBy B row) (hr : ∀ r, row = some r → ∃ o : Obj, A.heap[r]? = some o ∧ o.isCells = false) : Boxed B b t v :=
  h.kept hg fun e => by
    obtain ⟨o, ho, hc⟩ := hr b e.symm
    rw [show A.heap[b]? = _ from h] at ho; cases ho; cases hc
/-- the boxes between two rounds, and how a round leaves -/
def Rest (n₀ : Nat) (s : ByteArray) (pre : List (Nat × Nat)) (W : World) : Prop :=
  pre = [] ∧ Boxed W n₀ 3 (.int .i64 0) ∧ Boxed W (n₀ + 1) 3 (.int .i64 0) ∧ Boxed W (n₀ + 1 + 1) 9 (.string s)
theorem rest_own (n₀ : Nat) (s : ByteArray) : Own (Rest n₀ s) := fun _ _ _ _ ⟨h0, h1, h2, h3⟩ hg hr => ⟨h0, box_kept h1 hg hr, box_kept h2 hg hr, box_kept h3 hg hr⟩
def Found (n₀ : Nat) (pre : List (Nat × Nat)) (W : World) : Prop :=
  ∃ x : Nat × Nat, pre = [x] ∧ Boxed W n₀ 3 (.int .i64 (x.1 : Nat)) ∧ Boxed W (n₀ + 1) 3 (.int .i64 (x.2 : Nat))
theorem found_own (n₀ : Nat) : Own (Found n₀) := fun _ _ _ _ ⟨x, h0, h1, h2⟩ hg hr => ⟨x, h0, box_kept h1 hg hr, box_kept h2 hg hr⟩

set_option maxRecDepth 100000 in
set_option maxHeartbeats 4000000 in
theorem next_in (F : Fence) (n : Nat) (h0 : F.fn 23) (h3 : F.fn 32) (h4 : F.fn 40) (h5 : F.fn 36) (hro : F.round = none) (hn : 3 ≤ n) (s : ByteArray) (hs : s.size ≤ 1000000) (at_ : Int) (K : Nat) (hK : min (max at_ 0) (s.size : Int) = K) (w : World)
    (hb : ∀ (n : Nat) (s : ByteArray) (w : World), s.size ≤ maxLen → CallsIn F n Tryd.prog 36 #[.string s, .func (.func 41) #[] #[]] w fun e w' => e = .returned (.int .i64 (spanL blk s.data.toList : Nat)) ∧ w = w')
    (hg : ∀ (n : Nat) (s : ByteArray) (w : World), s.size ≤ maxLen → CallsIn F n Tryd.prog 36 #[.string s, .func (.func 42) #[] #[]] w fun e w' => e = .returned (.int .i64 (spanL flb s.data.toList : Nat)) ∧ w = w') :
    CallsIn F n Tryd.prog 23 #[.string s, .int .i64 at_] w fun e W' => e = .returned (vNext s.data.toList K) ∧ Below w.heap.size w W' := by
  have h1 : 1 ≤ n := by omega
  have hKs : K ≤ s.data.toList.length := by rw [len_size]; omega
  have HB := Lib.hid hb
  have HG := Lib.hid hg
  have HKK := Lib.hid hK
  have HKL := Lib.hid hKs
  clear hb hg hK hKs
  refine callsIn_of_wp_marks Tryd.func23 rfl h0 ?_ hro
  simp only [Tryd.ntmps23, List.size_toArray, List.length_cons, List.length_nil, Nat.reduceAdd, Nat.reduceSub, Array.replicate_succ, Array.replicate_zero, List.push_toArray, List.append_toArray, List.nil_append, List.cons_append]
  gi_wp2_with (gi_at_call 32; refine (each_in F (n - 1) h3 hro _ _ _).mono ?_; rintro e w' ⟨rfl, rfl⟩)
  have q1 := Boxed.new w 3 (.int .i64 0)
  have q2 := Boxed.new (w.alloc (.cells #[.int .i64 0] 3)) 3 (.int .i64 0)
  have q3 := Boxed.new ((w.alloc (.cells #[.int .i64 0] 3)).alloc (.cells #[.int .i64 0] 3)) 9 (.string s)
  have q4 := Boxed.new (((w.alloc (.cells #[.int .i64 0] 3)).alloc (.cells #[.int .i64 0] 3)).alloc (.cells #[.string s] 9)) 3 (.int .i64 at_)
  have hB2 : Below w.heap.size w ((((w.alloc (.cells #[.int .i64 0] 3)).alloc (.cells #[.int .i64 0] 3)).alloc (.cells #[.string s] 9)).alloc (.cells #[.int .i64 at_] 3)) :=
    ((((Below.refl _ w).alloc (Nat.le_refl _) _).alloc (by simp) _).alloc (by simp; omega) _).alloc (by simp; omega) _
  simp only [World.size_alloc] at q2 q3 q4
  have q3' := q3.alloc (.cells #[.int .i64 at_] 3)
  have hR0 : Rest w.heap.size s [] ((((w.alloc (.cells #[.int .i64 0] 3)).alloc (.cells #[.int .i64 0] 3)).alloc (.cells #[.string s] 9)).alloc (.cells #[.int .i64 at_] 3)) :=
    ⟨rfl, ((q1.alloc _).alloc _).alloc _, (q2.alloc _).alloc _, q3'⟩
  have hsz0 : ((((w.alloc (.cells #[.int .i64 0] 3)).alloc (.cells #[.int .i64 0] 3)).alloc (.cells #[.string s] 9)).alloc (.cells #[.int .i64 at_] 3)).heap.size = w.heap.size + 1 + 1 + 1 + 1 := by simp
  clear q1 q2 q3
  generalize ((((w.alloc (.cells #[.int .i64 0] 3)).alloc (.cells #[.int .i64 0] 3)).alloc (.cells #[.string s] 9)).alloc (.cells #[.int .i64 at_] 3)) = W0 at *
  refine wpIn_rangeFunc_ownH hro h1 (gf := 40) (lb := #[.pointer (some ⟨w.heap.size + 1 + 1 + 1, 0, none⟩), .pointer (some ⟨w.heap.size + 1 + 1, 0, none⟩)]) rfl h4 (enters_of Tryd.func40 (by kernel_rfl) rfl)
    (each_stops F (n - 1) h4 h5 hro (by omega) (w.heap.size + 1 + 1 + 1) (w.heap.size + 1 + 1) w.heap.size K s at_ HKK.out hs _ (fun s w => HB.out _ s w) (fun s w => HG.out _ s w) (by omega) q4 q3') kept_t (kept_b (by omega)) (Below.refl _ _) (fun _ => rfl)
    (fun pre W => Rest w.heap.size s pre W ∧ Below w.heap.size w W)
    (fun c pre W => (c = .ret ∧ Found w.heap.size pre W) ∧ Below w.heap.size w W)
    (OwnFrom.and (Own.from (rest_own w.heap.size s) _) (ownFrom_below (Nat.le_refl _) (by omega)))
    (fun c => OwnFrom.and (Own.from (fun u A B row hs hg hr => ⟨hs.1, found_own w.heap.size u A B row hs.2 hg hr⟩) _) (ownFrom_below (Nat.le_refl _) (by omega)))
    ⟨hR0, hB2⟩
    (fun x a' W => ∃ Bx, w.heap.size + 1 + 1 < Bx ∧ Box2 W Bx 43 (.int .i64 (x.1 : Nat)) (.int .i64 (x.2 : Nat)) ∧ a' = { tmps := #[.string s, .int .i64 at_, undef, undef, .pointer (some ⟨w.heap.size, 0, none⟩), .pointer (some ⟨w.heap.size + 1, 0, none⟩), .pointer (some ⟨Bx, 0, none⟩), .string s, .int .i64 at_, .func (.func 40) #[] #[.pointer (some ⟨w.heap.size + 1 + 1 + 1, 0, none⟩), .pointer (some ⟨w.heap.size + 1 + 1, 0, none⟩)], vP x, undef, undef, undef, undef, undef, undef, undef, undef], defers := [] }) ?hAx ?assign ?body ?done ?stop
  case hAx =>
    rintro x a' u A B row ⟨Bx, h1, h2, h3⟩ hg hr
    exact ⟨Bx, h1, h2.kept hg (fun e => by
      obtain ⟨_, o, ho, hc⟩ := hr Bx e.symm
      rw [show A.heap[Bx]? = _ from h2] at ho; cases ho; cases hc), h3⟩
  case assign =>
    rintro l pre ⟨x, y⟩ W K ⟨hi, hB⟩ hK
    simp only [vP] at hK ⊢
    gi_wp2
    have hsz := hB.size
    obtain ⟨i0, i1, i2, i3⟩ := hi
    exact hK _ _ ((KeepsOthers.alloc _ _).from _) ⟨(Below.refl _ W).alloc hsz _, fun h => h.alloc _⟩ ⟨⟨i0, i1.alloc _, i2.alloc _, i3.alloc _⟩, hB.alloc hsz _⟩ ⟨W.heap.size, i3.lt, World.alloc_heap_new W _, rfl⟩
  case body =>
    rintro l pre ⟨x, y⟩ a' W hl ⟨r, hr⟩ ⟨⟨i0, i1, i2, i3⟩, hB⟩ ⟨Bx, hBx, bX, rfl⟩ hlt
    obtain ⟨hx1, hx2⟩ := bX.cells
    have c1 := i1.cell
    have f1 := i1.frozen
    have c2 := i2.cell
    have f2 := i2.frozen
    simp only [vP]
    simp only at hx1 hx2
    have b1 : ∀ W' v, Below w.heap.size W W' → Below w.heap.size W (W'.setCell ⟨w.heap.size, 0, none⟩ v) := fun W' v h => h.setCell (p := ⟨w.heap.size, 0, none⟩) (Nat.le_refl _) v
    have b2 : ∀ W' v, Below w.heap.size W W' → Below w.heap.size W (W'.setCell ⟨w.heap.size + 1, 0, none⟩ v) := fun W' v h => h.setCell (p := ⟨w.heap.size + 1, 0, none⟩) (by simp) v
    gi_wp2
    gi_region
    all_goals
      gi_wp2
      subst i0
      have j1 : Boxed ((W.setCell ⟨w.heap.size, 0, none⟩ (.int .i64 (x : Nat))).setCell ⟨w.heap.size + 1, 0, none⟩ (.int .i64 (y : Nat))) _ _ _ := (i1.set (.int .i64 (x : Nat))).other (by omega) _
      have j2 : Boxed ((W.setCell ⟨w.heap.size, 0, none⟩ (.int .i64 (x : Nat))).setCell ⟨w.heap.size + 1, 0, none⟩ (.int .i64 (y : Nat))) _ _ _ := (i2.other (by omega) _).set (.int .i64 (y : Nat))
      exact ⟨(((KeepsOthers.setCell _ _ _).trans (KeepsOthers.setCell _ _ _)).trans (KeepsOthers.drew _)).from _, ⟨rfl, (x, y), rfl, j1, j2⟩, hB.trans (b2 _ _ (b1 _ _ (Below.refl _ _))).drew⟩
  case done =>
    rintro D ys W hD hys ⟨⟨i0, i1, i2, i3⟩, hB⟩ hK
    subst i0
    have hnx := next_none hys.symm HKL.out
    rw [len_size] at hnx
    have c1 := i1.cell
    have f1 := i1.frozen
    have c2 := i2.cell
    have f2 := i2.frozen
    have HN := Lib.hid hnx
    clear hnx hys
    gi_wp2
    have j1 : Boxed ((W.setCell ⟨w.heap.size, 0, none⟩ (.int .i64 (s.size : Nat))).setCell ⟨w.heap.size + 1, 0, none⟩ (.int .i64 (s.size : Nat))) _ _ _ := (i1.set (.int .i64 (s.size : Nat))).other (by omega) _
    have j2 : Boxed ((W.setCell ⟨w.heap.size, 0, none⟩ (.int .i64 (s.size : Nat))).setCell ⟨w.heap.size + 1, 0, none⟩ (.int .i64 (s.size : Nat))) _ _ _ := (i2.other (by omega) _).set (.int .i64 (s.size : Nat))
    have hK' := ((KeepsOthers.setCell W ⟨w.heap.size, 0, none⟩ (.int .i64 (s.size : Nat))).trans (KeepsOthers.setCell _ ⟨w.heap.size + 1, 0, none⟩ (.int .i64 (s.size : Nat)))).same D _ hK rfl
    have hB' : Below w.heap.size w ((W.setCell ⟨w.heap.size, 0, none⟩ (.int .i64 (s.size : Nat))).setCell ⟨w.heap.size + 1, 0, none⟩ (.int .i64 (s.size : Nat))) := (hB.setCell (p := ⟨w.heap.size, 0, none⟩) (by simp) _).setCell (p := ⟨w.heap.size + 1, 0, none⟩) (by simp) _
    refine ⟨by simp, .inl ⟨_, _, rfl, run_takeDeferred hK', ?_⟩⟩
    have z1 := (box_kept j1 (grownBy_putObj' _ D (.deferred none)) (fun r e => by cases e; exact ⟨_, hK', rfl⟩)).cell
    have z2 := (box_kept j2 (grownBy_putObj' _ D (.deferred none)) (fun r e => by cases e; exact ⟨_, hK', rfl⟩)).cell
    refine ⟨vNext s.data.toList K, ?_, rfl, hB'.trans (belowK_b (w := W0) (by omega) _ D _ _ hD hK' rfl rfl)⟩
    unfold vNext
    rw [HN.out]
    simp [results, Tryd.f23, go_sem, z1, z2]
  case stop =>
    rintro D c pre W hD hpre ⟨⟨rfl, ⟨x, y⟩, rfl, j1, j2⟩, hB⟩ hK
    have hnx := next_some hpre
    gi_wp2
    refine ⟨by simp, .inl ⟨_, _, rfl, run_takeDeferred hK, ?_⟩⟩
    have hB' := hB.trans (belowK_b (w := W0) (by omega) W D _ (.deferred none) hD hK rfl rfl)
    have z1 := (box_kept j1 (grownBy_putObj' _ D (.deferred none)) (fun r e => by cases e; exact ⟨_, hK, rfl⟩)).cell
    have z2 := (box_kept j2 (grownBy_putObj' _ D (.deferred none)) (fun r e => by cases e; exact ⟨_, hK, rfl⟩)).cell
    refine ⟨vNext s.data.toList K, ?_, rfl, hB'⟩
    unfold vNext
    rw [hnx]
    simp [results, Tryd.f23, go_sem, z1, z2]

theorem next_any (s : ByteArray) (hs : s.size ≤ 1000000) (at_ : Int) (w : World) :
    Calls Tryd.prog 23 #[.string s, .int .i64 at_] w fun e W' => e = .returned (vNext s.data.toList (cl at_ s.size)) ∧ Below w.heap.size w W' :=
  (callsIn_wide (n := 5)).1 (next_in Fence.wide 5 trivial trivial trivial trivial rfl (by omega) s hs at_ (cl at_ s.size) (cl_eq at_ s.size).symm w blank_wide filled_wide)

end Go.Proofs.YtleejfkononjgaaDoor.Wd

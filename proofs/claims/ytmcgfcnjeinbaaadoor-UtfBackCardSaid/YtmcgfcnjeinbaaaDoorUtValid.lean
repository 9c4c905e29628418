/- codes as its callers meet it; Valid. -/
import Derived.Test.YtmcgfcnjeinbaaaDoorUtIter
namespace Go.Proofs.YtmcgfcnjeinbaaaDoor.Ut
open Go.RowKit Go.Shelf

attribute [local go_sem] Oper.semAt_some

set_option maxHeartbeats 1000000 in
theorem codes_in (F : Fence) (n : Nat) (hf : F.fn 24) (hro : F.round = none) (s : ByteArray) (w : World) :
    CallsIn F n Tryd.prog 24 #[.string s] w fun e w' => e = .returned (.func (.func 28) #[] #[.pointer (some ⟨w.heap.size, 0, none⟩)]) ∧ w' = w.alloc (.cells #[.string s] 9) := by
  refine callsIn_of_wp Tryd.func24 rfl hf ?_ hro
  simp only [Tryd.ntmps24, List.size_toArray, List.length_cons, List.length_nil, Nat.reduceAdd, Nat.reduceSub, Array.replicate_succ, Array.replicate_zero, List.push_toArray, List.append_toArray, List.nil_append, List.cons_append]
  gi_wp2
  go_ret
  exact ⟨rfl, rfl⟩

theorem codes_stops (F : Fence) (n : Nat) (hf : F.fn 28) (hf2 : F.fn 12) (hro : F.round = none) (hn : 1 ≤ n) (Bn n₀ : Nat) (s : ByteArray) (hs : s.size ≤ maxLen) (w : World)
    (hget : ∀ (s : ByteArray) (w : World), Tabs w → CallsIn F (n - 1) Tryd.prog 12 #[.string s] w fun e w' => e = .returned (vGet s.data.toList) ∧ Below w.heap.size w w')
    (h0 : 0 < n₀) (h1 : 1 < n₀) (hn₀ : n₀ ≤ w.heap.size) (hbx : Boxed w Bn 9 (.string s)) (hT : Tabs w) :
    SeqStopsK F n Tryd.prog 28 #[.pointer (some ⟨Bn, 0, none⟩)] (fun x : Int => #[Value.int .i64 x]) (Kept n₀ Bn s) (fun ys => ys = allL s.data.toList) (fun pre => pre <+: allL s.data.toList) (allL s.data.toList).length w := fun l J Jx W hW hJ _ hY hJ0 =>
  codes1_in F n hf hf2 hro hn l Bn n₀ s hs h0 h1 J Jx W.heap.size hJ hget hY W (Nat.le_trans hn₀ hW.size) ((hW.block Bn hbx.lt).trans hbx) (tabs_next hT hW) hJ0

theorem box_kept {A B : World} {row : Option Nat} {b : Nat} {t : TypeId} {v : Value} (h : Boxed A b t v) (hg : A.grownBy B row) (hr : ∀ r, row = some r → ∃ o : Obj, A.heap[r]? = some o ∧ o.isCells = false) : Boxed B b t v :=
  h.kept hg fun e => by
    obtain ⟨o, ho, hc⟩ := hr b e.symm
    rw [show A.heap[b]? = _ from h] at ho; cases ho; cases hc

theorem valid_not {l : List UInt8} {xs : List Int} {x : Int} (h : xs <+: allL l) (hx : x ∈ xs) (hn : x < 0) : validL l = false := by
  unfold validL
  rw [Bool.eq_false_iff]
  intro ha
  rw [List.all_eq_true] at ha
  have := ha x (h.subset hx)
  simp only [decide_eq_true_eq] at this
  omega
theorem valid_yes {l : List UInt8} (h : ∀ y ∈ allL l, 0 ≤ y) : validL l = true := by
  unfold validL
  rw [List.all_eq_true]
  intro y hy
  simpa using h y hy

set_option maxRecDepth 100000 in
set_option maxHeartbeats 2000000 in
theorem valid_in (F : Fence) (n : Nat) (h2 : F.fn 17) (h3 : F.fn 24) (h4 : F.fn 28) (h5 : F.fn 12) (hro : F.round = none) (hn : 3 ≤ n) (s : ByteArray) (hs : s.size ≤ maxLen) (w : World) (hT : Tabs w)
    (hget : ∀ (n : Nat) (s : ByteArray) (w : World), Tabs w → CallsIn F n Tryd.prog 12 #[.string s] w fun e w' => e = .returned (vGet s.data.toList) ∧ Below w.heap.size w w') :
    CallsIn F n Tryd.prog 17 #[.string s] w fun e W' => e = .returned (.bool (validL s.data.toList)) ∧ Below w.heap.size w W' := by
  have h1 : 1 ≤ n := by omega
  have hlt := tabs_lt hT
  have HT := Lib.hid hT
  have HG := Lib.hid hget
  clear hT hget
  refine callsIn_of_wp_marks Tryd.func17 rfl h2 ?_ hro
  simp only [Tryd.ntmps17, List.size_toArray, List.length_cons, List.length_nil, Nat.reduceAdd, Nat.reduceSub, Array.replicate_succ, Array.replicate_zero, List.push_toArray, List.append_toArray, List.nil_append, List.cons_append]
  gi_wp2_with (gi_at_call 24; refine (codes_in F (n - 1) h3 hro _ _).mono ?_; rintro e w' ⟨rfl, rfl⟩)
  have c0 := Boxed.new w 4 (.bool false)
  have bS := Boxed.new (w.alloc (.cells #[.bool false] 4)) 9 (.string s)
  simp only [World.size_alloc] at bS
  have hB0 : Below w.heap.size w ((w.alloc (.cells #[.bool false] 4)).alloc (.cells #[.string s] 9)) := ((Below.refl _ w).alloc (Nat.le_refl _) _).alloc (by simp) _
  refine wpIn_rangeFunc_ownF hro h1 (gf := 28) (lb := #[.pointer (some ⟨w.heap.size + 1, 0, none⟩)]) rfl h4 (enters_of Tryd.func28 (by kernel_rfl) rfl)
    (codes_stops F (n - 1) h4 h5 hro (by omega) (w.heap.size + 1) w.heap.size s hs _ (fun s w h => HG.out _ s w h) hlt.1 hlt.2 (by simp; omega) bS (tabs_next HT.out hB0)) kept_t (kept_b (by simp; omega)) (Below.refl _ _) (fun _ => rfl)
    (fun pre W => ((∀ y ∈ pre, 0 ≤ y) ∧ Boxed W w.heap.size 4 (.bool false)) ∧ Below w.heap.size w W)
    (fun c pre W => (c = .ret ∧ (∃ y ∈ pre, y < 0) ∧ W.cell? ⟨w.heap.size, 0, none⟩ = some (.bool false)) ∧ Below w.heap.size w W)
    (OwnFrom.and (Own.from (fun s A B row hs hg hr => ⟨hs.1, box_kept hs.2 hg hr⟩) _) (ownFrom_below (Nat.le_refl _) (by simp; omega)))
    (fun c => OwnFrom.and (Own.from (fun s A B row hs hg hr => ⟨hs.1, hs.2.1, cell_kept hs.2.2 hg hr⟩) _) (ownFrom_below (Nat.le_refl _) (by simp; omega)))
    ⟨⟨by simp, c0.alloc _⟩, hB0⟩
    (fun x => { tmps := #[.string s, undef, .pointer (some ⟨w.heap.size, 0, none⟩), .int .i64 x, .string s, .func (.func 28) #[] #[.pointer (some ⟨w.heap.size + 1, 0, none⟩)], .int .i64 x, undef, undef], defers := [] }) ?assign ?body ?done ?stop
  case assign =>
    intro l x W K hK
    gi_wp2
    exact hK
  case body =>
    rintro l pre x W ⟨⟨hp, hbr⟩, hB⟩ _
    have hcr := hbr.cell
    have hfr := hbr.frozen
    gi_wp2
    · have hx : x < 0 := by assumption
      exact ⟨KeepsOthers.setCell _ _ _, ⟨rfl, ⟨x, by simp, hx⟩, World.cell?_setCell_same' _ _ _ (by rw [hcr]; rfl)⟩, hB.setCell (p := ⟨w.heap.size, 0, none⟩) (Nat.le_refl _) _⟩
    · have hx : 0 ≤ x := by assumption
      exact ⟨KeepsOthers.refl _, ⟨Below.refl _ _, fun h => h⟩, ⟨fun y hy => (List.mem_append.1 hy).elim (hp y) (fun e => by simp at e; subst e; exact hx), hbr⟩, hB⟩
  case done =>
    rintro D ys W hD rfl ⟨⟨hne, hbr⟩, hB⟩ hK
    have hcr := hbr.cell
    have hfr := hbr.frozen
    gi_wp2
    have hK' := (KeepsOthers.setCell W ⟨w.heap.size, 0, none⟩ (.bool true)).same D _ hK rfl
    refine ⟨by simp, .inl ⟨_, _, rfl, run_takeDeferred hK', ?_⟩⟩
    have hc5 := cell_kept (World.cell?_setCell_same' W ⟨w.heap.size, 0, none⟩ (.bool true) (by rw [hcr]; rfl)) (grownBy_putObj' _ D (.deferred none)) (fun r e => by cases e; exact ⟨_, hK', rfl⟩)
    refine ⟨.bool true, ?_, by rw [valid_yes hne], (hB.setCell (p := ⟨w.heap.size, 0, none⟩) (Nat.le_refl _) _).trans (belowK_b (w := w) (Nat.le_refl _) _ D _ _ (by simp at hD; omega) hK' rfl rfl)⟩
    simp [results, Tryd.f17, go_sem, hc5]
  case stop =>
    rintro D c pre W hD hpre ⟨⟨rfl, hin, hcr⟩, hB⟩ hK
    gi_wp2
    refine ⟨by simp, .inl ⟨_, _, rfl, run_takeDeferred hK, ?_⟩⟩
    have hc5 := cell_kept hcr (grownBy_putObj' _ D (.deferred none)) (fun r e => by cases e; exact ⟨_, hK, rfl⟩)
    obtain ⟨y, hy, hy0⟩ := hin
    refine ⟨.bool false, ?_, by rw [valid_not hpre hy hy0], hB.trans (belowK_b (w := w) (Nat.le_refl _) W D _ _ (by simp at hD; omega) hK rfl rfl)⟩
    simp [results, Tryd.f17, go_sem, hc5]

theorem get_wide (n : Nat) (s : ByteArray) (w : World) (h : Tabs w) : CallsIn Fence.wide n Tryd.prog 12 #[.string s] w fun e w' => e = .returned (vGet s.data.toList) ∧ Below w.heap.size w w' :=
  callsIn_wide.2 (get_any s w h)

theorem valid_any (s : ByteArray) (w : World) (hs : s.size ≤ maxLen) (hT : Tabs w) :
    Calls Tryd.prog 17 #[.string s] w fun e W' => e = .returned (.bool (validL s.data.toList)) ∧ Below w.heap.size w W' :=
  (callsIn_wide (n := 5)).1 (valid_in Fence.wide 5 trivial trivial trivial trivial rfl (by omega) s hs w hT get_wide)

end Go.Proofs.YtmcgfcnjeinbaaaDoor.Ut

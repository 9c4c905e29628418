/- At, the program's and the document's. -/
import Derived.Test.YteimahbfjgcpiaaDoorPlLines
namespace Go.Proofs.YteimahbfjgcpiaaDoor.Pl
open Go.RowKit Go.Shelf

attribute [local go_sem] Oper.semAt_some

/-- what a line can be -/
abbrev Ln := { p : Nat × Nat // p.1 ≤ p.2 ∧ p.2 ≤ 1000000 }

theorem map_snoc {J : List Ln → World → Prop} {pre : List (Nat × Nat)} {x : Nat × Nat} (hx : x.1 ≤ x.2 ∧ x.2 ≤ 1000000) {W : World} {p : List Ln} (hp : p.map (·.1) = pre) (h : J (p ++ [⟨x, hx⟩]) W) : ∃ q : List Ln, q.map (·.1) = pre ++ [x] ∧ J q W :=
  ⟨p ++ [⟨x, hx⟩], by rw [List.map_append, hp]; rfl, h⟩

theorem lines_stopsU (F : Fence) (n : Nat) (hf : F.fn 26) (hf2 : F.fn 27) (hro : F.round = none) (hn : 1 ≤ n) (Bn n₀ : Nat) (s : ByteArray) (hs : s.size ≤ 1000000) (w : World)
    (hidx : ∀ (s : ByteArray) (w : World), CallsIn F (n - 1) Tryd.prog 27 #[.string s, .int .u8 10] w fun e w' => e = .returned (.int .i64 (Lib.indexByte s.data.toList 10)) ∧ w' = w)
    (hn₀ : n₀ ≤ w.heap.size) (hbx : Boxed w Bn 9 (.string s)) :
    SeqStopsK F n Tryd.prog 26 #[.pointer (some ⟨Bn, 0, none⟩)] (fun x : Ln => #[vP x.1]) (Kept n₀ Bn s) (fun ys => ys.map (·.1) = linesL s.data.toList) (fun pre => pre.map (·.1) <+: linesL s.data.toList) (linesL s.data.toList).length w := fun l J Jx W hW _ _ hY hJ0 => by
  refine (lines1_in F n hf hf2 hro hn l Bn n₀ s hs (fun pre W => ∃ p : List Ln, p.map (·.1) = pre ∧ J p W) (fun pre W => ∃ p : List Ln, p.map (·.1) = pre ∧ Jx p W) hidx ?_ W (Nat.le_trans hn₀ hW.size) ((hW.block Bn hbx.lt).trans hbx) ⟨[], rfl, hJ0⟩).mono ?_
  · rintro pre x W ⟨p, hp, hJ⟩ hlen h1 h2
    have := hY p ⟨x, h1, by omega⟩ W hJ (by rw [← hp] at hlen; simpa using hlen)
    refine this.mono ?_
    rintro e W' (⟨he, hj, hk⟩ | ⟨he, hj⟩)
    · exact .inl ⟨he, map_snoc _ hp hj, hk⟩
    · exact .inr ⟨he, map_snoc _ hp hj⟩
  · rintro e W' ⟨hv, ⟨ys, rfl, p, hp, hj⟩ | ⟨pre, hpre, p, hp, hj⟩⟩
    · exact ⟨hv, .inl ⟨p, hp, hj⟩⟩
    · exact ⟨hv, .inr ⟨p, by simp only [hp]; exact hpre, hj⟩⟩

def vAt : Option Nat → Value
  | some i => .tuple #[.int .i64 (i : Nat), .bool true]
  | none => .tuple #[.int .i64 0, .bool false]

/-- the boxes between two rounds -/
def Rest (n₀ : Nat) (s : ByteArray) (line col : Int) (pre : List Ln) (W : World) : Prop :=
  (pre.length : Int) + 1 ≤ line ∧ Boxed W n₀ 3 (.int .i64 (line - pre.length)) ∧ Boxed W (n₀ + 1) 3 (.int .i64 col) ∧ Boxed W (n₀ + 1 + 1) 3 (.int .i64 0) ∧ Boxed W (n₀ + 1 + 1 + 1) 4 (.bool false) ∧ Boxed W (n₀ + 1 + 1 + 1 + 1) 9 (.string s)
theorem box_kept {A B : World} {row : Option Nat} {b : Nat} {t : TypeId} {v : Value} (h : Boxed A b t v) (hg : A.grownBy B row) (hr : ∀ r, row = some r → ∃ o : Obj, A.heap[r]? = some o ∧ o.isCells = false) : Boxed B b t v :=
  h.kept hg fun e => by
    obtain ⟨o, ho, hc⟩ := hr b e.symm
    rw [show A.heap[b]? = _ from h] at ho; cases ho; cases hc
theorem rest_own (n₀ : Nat) (s : ByteArray) (line col : Int) : Own (Rest n₀ s line col) := fun _ _ _ _ ⟨h0, h1, h2, h3, h4, h5⟩ hg hr =>
  ⟨h0, box_kept h1 hg hr, box_kept h2 hg hr, box_kept h3 hg hr, box_kept h4 hg hr, box_kept h5 hg hr⟩
/-- how a round leaves -/
def Found (n₀ : Nat) (line col : Int) (pre : List Ln) (W : World) : Prop :=
  ∃ (p : List Ln) (x : Ln), pre = p ++ [x] ∧ line = p.length + 1 ∧
    (((x.1.2 : Int) - x.1.1 < col - 1 ∧ Boxed W (n₀ + 1 + 1) 3 (.int .i64 0) ∧ Boxed W (n₀ + 1 + 1 + 1) 4 (.bool false)) ∨
     (col - 1 ≤ (x.1.2 : Int) - x.1.1 ∧ Boxed W (n₀ + 1 + 1) 3 (.int .i64 (x.1.1 + col - 1)) ∧ Boxed W (n₀ + 1 + 1 + 1) 4 (.bool true)))
theorem found_own (n₀ : Nat) (line col : Int) : Own (Found n₀ line col) := fun _ _ _ _ ⟨p, x, h0, h1, h2⟩ hg hr =>
  ⟨p, x, h0, h1, h2.imp (fun ⟨a, b, c⟩ => ⟨a, box_kept b hg hr, box_kept c hg hr⟩) (fun ⟨a, b, c⟩ => ⟨a, box_kept b hg hr, box_kept c hg hr⟩)⟩

set_option maxRecDepth 100000 in
set_option maxHeartbeats 4000000 in
theorem at_in (F : Fence) (n : Nat) (h0 : F.fn 9) (h3 : F.fn 19) (h4 : F.fn 26) (h5 : F.fn 27) (hro : F.round = none) (hn : 3 ≤ n) (s : ByteArray) (hs : s.size ≤ 1000000) (line col : Int) (w : World)
    (a0 : 1 ≤ line) (a1 : line ≤ 9223372036854775807) (b0 : 1 ≤ col) (b1 : col ≤ 9223372036854775807)
    (hidx : ∀ (n : Nat) (s : ByteArray) (w : World), CallsIn F n Tryd.prog 27 #[.string s, .int .u8 10] w fun e w' => e = .returned (.int .i64 (Lib.indexByte s.data.toList 10)) ∧ w' = w) :
    CallsIn F n Tryd.prog 9 #[.string s, .int .i64 line, .int .i64 col] w fun e W' => ∃ o, e = .returned (vAt o) ∧ IsAt s.data.toList line col o ∧ Below w.heap.size w W' := by
  have h1 : 1 ≤ n := by omega
  have hlen := (lines_pos s.data.toList).2
  rw [len_size] at hlen
  have HG := Lib.hid hidx
  clear hidx
  have dl : decide (line < 1) = false := by simpa using a0
  have dc : decide (col < 1) = false := by simpa using b0
  refine callsIn_of_wp_marks Tryd.func9 rfl h0 ?_ hro
  simp only [Tryd.ntmps9, List.size_toArray, List.length_cons, List.length_nil, Nat.reduceAdd, Nat.reduceSub, Array.replicate_succ, Array.replicate_zero, List.push_toArray, List.append_toArray, List.nil_append, List.cons_append]
  gi_wp2_with (gi_at_call 19; refine (mklines_in F (n - 1) h3 hro _ _).mono ?_; rintro e w' ⟨rfl, rfl⟩)
  have q1 := Boxed.new w 3 (.int .i64 line)
  have q2 := Boxed.new (w.alloc (.cells #[.int .i64 line] 3)) 3 (.int .i64 col)
  have q3 := Boxed.new ((w.alloc (.cells #[.int .i64 line] 3)).alloc (.cells #[.int .i64 col] 3)) 3 (.int .i64 0)
  have q4 := Boxed.new (((w.alloc (.cells #[.int .i64 line] 3)).alloc (.cells #[.int .i64 col] 3)).alloc (.cells #[.int .i64 0] 3)) 4 (.bool false)
  have q5 := Boxed.new ((((w.alloc (.cells #[.int .i64 line] 3)).alloc (.cells #[.int .i64 col] 3)).alloc (.cells #[.int .i64 0] 3)).alloc (.cells #[.bool false] 4)) 9 (.string s)
  have hB2 : Below w.heap.size w (((((w.alloc (.cells #[.int .i64 line] 3)).alloc (.cells #[.int .i64 col] 3)).alloc (.cells #[.int .i64 0] 3)).alloc (.cells #[.bool false] 4)).alloc (.cells #[.string s] 9)) :=
    (((((Below.refl _ w).alloc (Nat.le_refl _) _).alloc (by simp) _).alloc (by simp; omega) _).alloc (by simp; omega) _).alloc (by simp; omega) _
  simp only [World.size_alloc] at q2 q3 q4 q5
  have hR0 : Rest w.heap.size s line col [] (((((w.alloc (.cells #[.int .i64 line] 3)).alloc (.cells #[.int .i64 col] 3)).alloc (.cells #[.int .i64 0] 3)).alloc (.cells #[.bool false] 4)).alloc (.cells #[.string s] 9)) :=
    ⟨by simpa using a0, by simpa using (((q1.alloc _).alloc _).alloc _).alloc _, ((q2.alloc _).alloc _).alloc _, (q3.alloc _).alloc _, q4.alloc _, q5⟩
  have hsz0 : (((((w.alloc (.cells #[.int .i64 line] 3)).alloc (.cells #[.int .i64 col] 3)).alloc (.cells #[.int .i64 0] 3)).alloc (.cells #[.bool false] 4)).alloc (.cells #[.string s] 9)).heap.size = w.heap.size + 1 + 1 + 1 + 1 + 1 := by simp
  have q5' := q5
  clear q1 q2 q3 q4
  generalize (((((w.alloc (.cells #[.int .i64 line] 3)).alloc (.cells #[.int .i64 col] 3)).alloc (.cells #[.int .i64 0] 3)).alloc (.cells #[.bool false] 4)).alloc (.cells #[.string s] 9)) = W0 at *
  refine wpIn_rangeFunc_ownH hro h1 (gf := 26) (lb := #[.pointer (some ⟨w.heap.size + 1 + 1 + 1 + 1, 0, none⟩)]) rfl h4 (enters_of Tryd.func26 (by kernel_rfl) rfl)
    (lines_stopsU F (n - 1) h4 h5 hro (by omega) (w.heap.size + 1 + 1 + 1 + 1) w.heap.size s hs _ (fun s w => HG.out _ s w) (by omega) q5) kept_t (kept_b (by omega)) (Below.refl _ _) (fun _ => rfl)
    (fun pre W => Rest w.heap.size s line col pre W ∧ Below w.heap.size w W)
    (fun c pre W => (c = .ret ∧ Found w.heap.size line col pre W) ∧ Below w.heap.size w W)
    (OwnFrom.and (Own.from (rest_own w.heap.size s line col) _) (ownFrom_below (Nat.le_refl _) (by omega)))
    (fun c => OwnFrom.and (Own.from (fun u A B row hs hg hr => ⟨hs.1, found_own w.heap.size line col u A B row hs.2 hg hr⟩) _) (ownFrom_below (Nat.le_refl _) (by omega)))
    ⟨hR0, hB2⟩
    (fun x a' W => ∃ Bx, w.heap.size + 1 + 1 + 1 + 1 < Bx ∧ Box2 W Bx 22 (.int .i64 (x.1.1 : Nat)) (.int .i64 (x.1.2 : Nat)) ∧ a' = { tmps := #[.string s, .int .i64 line, .int .i64 col, undef, .pointer (some ⟨w.heap.size, 0, none⟩), .pointer (some ⟨w.heap.size + 1, 0, none⟩), .pointer (some ⟨w.heap.size + 1 + 1, 0, none⟩), .pointer (some ⟨w.heap.size + 1 + 1 + 1, 0, none⟩), .pointer (some ⟨Bx, 0, none⟩), .int .i64 line, .bool false, .bool false, .int .i64 col, .bool false, .bool false, .string s, .func (.func 26) #[] #[.pointer (some ⟨w.heap.size + 1 + 1 + 1 + 1, 0, none⟩)], vP x.1, undef, undef, undef, undef, undef, undef, undef, undef, undef, undef, undef, undef, undef, undef, undef, undef, undef], defers := [] }) ?hAx ?assign ?body ?done ?stop
  case hAx =>
    rintro x a' u A B row ⟨Bx, h1, h2, h3⟩ hg hr
    exact ⟨Bx, h1, h2.kept hg (fun e => by
      obtain ⟨_, o, ho, hc⟩ := hr Bx e.symm
      rw [show A.heap[Bx]? = _ from h2] at ho; cases ho; cases hc), h3⟩
  case assign =>
    rintro l pre ⟨⟨x, y⟩, hxy⟩ W K ⟨hi, hB⟩ hK
    simp only [vP] at hK ⊢
    gi_wp2
    have hsz := hB.size
    obtain ⟨i0, i1, i2, i3, i4, i5⟩ := hi
    exact hK _ _ ((KeepsOthers.alloc _ _).from _) ⟨(Below.refl _ W).alloc hsz _, fun h => h.alloc _⟩ ⟨⟨i0, i1.alloc _, i2.alloc _, i3.alloc _, i4.alloc _, i5.alloc _⟩, hB.alloc hsz _⟩ ⟨W.heap.size, i5.lt, World.alloc_heap_new W _, rfl⟩
  case body =>
    rintro l pre ⟨⟨x, y⟩, hxy⟩ a' W hl ⟨r, hr⟩ ⟨⟨i0, i1, i2, i3, i4, i5⟩, hB⟩ ⟨Bx, hBx, bX, rfl⟩ hlt
    obtain ⟨hx1, hx2⟩ := bX.cells
    have c1 := i1.cell
    have f1 := i1.frozen
    have c2 := i2.cell
    have c3 := i3.cell
    have f3 := i3.frozen
    have c4 := i4.cell
    have f4 := i4.frozen
    simp only [vP]
    simp only at hxy hx1 hx2
    obtain ⟨hxa, hxb⟩ := hxy
    obtain ⟨m, hm⟩ : ∃ m, line - (pre.length : Int) = m := ⟨_, rfl⟩
    rw [hm] at c1
    have hm1 : 1 ≤ m := by omega
    have hm2 : m ≤ 9223372036854775807 := by omega
    have b1 : ∀ W' v, Below w.heap.size W W' → Below w.heap.size W (W'.setCell ⟨w.heap.size, 0, none⟩ v) := fun W' v h => h.setCell (p := ⟨w.heap.size, 0, none⟩) (Nat.le_refl _) v
    have b3 : ∀ W' v, Below w.heap.size W W' → Below w.heap.size W (W'.setCell ⟨w.heap.size + 1 + 1, 0, none⟩ v) := fun W' v h => h.setCell (p := ⟨w.heap.size + 1 + 1, 0, none⟩) (by simp; omega) v
    have b4 : ∀ W' v, Below w.heap.size W W' → Below w.heap.size W (W'.setCell ⟨w.heap.size + 1 + 1 + 1, 0, none⟩ v) := fun W' v h => h.setCell (p := ⟨w.heap.size + 1 + 1 + 1, 0, none⟩) (by simp; omega) v
    by_cases hgt : 1 < m
    · gi_wp2
      have e1 : line - ((pre ++ [⟨(x, y), hxa, hxb⟩] : List Ln).length : Int) = m - 1 := by simp; omega
      exact ⟨(KeepsOthers.setCell _ _ _).from _, ⟨b1 _ _ (Below.refl _ _), fun h => h.other (by omega) _⟩, ⟨by simp; omega, by rw [e1]; exact i1.set _, i2.other (by omega) _, i3.other (by omega) _, i4.other (by omega) _, i5.other (by omega) _⟩, hB.trans (b1 _ _ (Below.refl _ _))⟩
    · obtain rfl : m = 1 := by omega
      by_cases hout : (y : Int) - x < col - 1
      · gi_wp2
        exact ⟨((KeepsOthers.setCell _ _ _).trans (KeepsOthers.setCell _ _ _)).from _, ⟨rfl, pre, ⟨(x, y), hxa, hxb⟩, rfl, by omega, .inl ⟨hout, (i3.set _).other (by omega) _, (i4.other (by omega) _).set _⟩⟩, hB.trans (b4 _ _ (b3 _ _ (Below.refl _ _)))⟩
      · gi_wp2
        exact ⟨((KeepsOthers.setCell _ _ _).trans (KeepsOthers.setCell _ _ _)).from _, ⟨rfl, pre, ⟨(x, y), hxa, hxb⟩, rfl, by omega, .inr ⟨by simp only; omega, (i3.set _).other (by omega) _, (i4.other (by omega) _).set _⟩⟩, hB.trans (b4 _ _ (b3 _ _ (Below.refl _ _)))⟩
  case done =>
    rintro D ys W hD hys ⟨⟨i0, i1, i2, i3, i4, i5⟩, hB⟩ hK
    have c3 := i3.cell
    have f3 := i3.frozen
    have c4 := i4.cell
    have f4 := i4.frozen
    have hfar : IsAt s.data.toList line col none := isAt_far (by rw [← hys, List.length_map]; omega)
    gi_wp2
    have j3 : Boxed ((W.setCell ⟨w.heap.size + 1 + 1, 0, none⟩ (.int .i64 0)).setCell ⟨w.heap.size + 1 + 1 + 1, 0, none⟩ (.bool false)) _ _ _ := (i3.set (.int .i64 0)).other (by omega) _
    have j4 : Boxed ((W.setCell ⟨w.heap.size + 1 + 1, 0, none⟩ (.int .i64 0)).setCell ⟨w.heap.size + 1 + 1 + 1, 0, none⟩ (.bool false)) _ _ _ := (i4.other (by omega) _).set (.bool false)
    have hK' := ((KeepsOthers.setCell W ⟨w.heap.size + 1 + 1, 0, none⟩ (.int .i64 0)).trans (KeepsOthers.setCell _ ⟨w.heap.size + 1 + 1 + 1, 0, none⟩ (.bool false))).same D _ hK rfl
    have hB' : Below w.heap.size w ((W.setCell ⟨w.heap.size + 1 + 1, 0, none⟩ (.int .i64 0)).setCell ⟨w.heap.size + 1 + 1 + 1, 0, none⟩ (.bool false)) := (hB.setCell (p := ⟨w.heap.size + 1 + 1, 0, none⟩) (by simp; omega) _).setCell (p := ⟨w.heap.size + 1 + 1 + 1, 0, none⟩) (by simp; omega) _
    refine ⟨by simp, .inl ⟨_, _, rfl, run_takeDeferred hK', ?_⟩⟩
    have z3 := (box_kept j3 (grownBy_putObj' _ D (.deferred none)) (fun r e => by cases e; exact ⟨_, hK', rfl⟩)).cell
    have z4 := (box_kept j4 (grownBy_putObj' _ D (.deferred none)) (fun r e => by cases e; exact ⟨_, hK', rfl⟩)).cell
    refine ⟨.tuple #[.int .i64 0, .bool false], ?_, none, rfl, hfar, hB'.trans (belowK_b (w := W0) (by omega) _ D _ _ hD hK' rfl rfl)⟩
    simp [results, Tryd.f9, go_sem, z3, z4]
  case stop =>
    rintro D c pre W hD hpre ⟨⟨rfl, p, ⟨⟨x, y⟩, hxa, hxb⟩, rfl, hline, hf⟩, hB⟩ hK
    have hget : (linesL s.data.toList)[p.length]? = some (x, y) := by
      obtain ⟨t, ht⟩ := hpre
      rw [← ht]
      simp
    simp only at hf
    gi_wp2
    refine ⟨by simp, .inl ⟨_, _, rfl, run_takeDeferred hK, ?_⟩⟩
    have hB' := hB.trans (belowK_b (w := W0) (by omega) W D _ (.deferred none) hD hK rfl rfl)
    rcases hf with ⟨hc, j3, j4⟩ | ⟨hc, j3, j4⟩
    all_goals
      have z3 := (box_kept j3 (grownBy_putObj' _ D (.deferred none)) (fun r e => by cases e; exact ⟨_, hK, rfl⟩)).cell
      have z4 := (box_kept j4 (grownBy_putObj' _ D (.deferred none)) (fun r e => by cases e; exact ⟨_, hK, rfl⟩)).cell
    · refine ⟨.tuple #[.int .i64 0, .bool false], ?_, none, rfl, isAt_out hget hline hc, hB'⟩
      simp [results, Tryd.f9, go_sem, z3, z4]
    · have hin := isAt_in hget hline b0 hc
      refine ⟨.tuple #[.int .i64 ((x : Int) + col - 1), .bool true], ?_, _, ?_, hin, hB'⟩
      · simp [results, Tryd.f9, go_sem, z3, z4]
      · unfold vAt
        simp only
        rw [show (x : Int) + col - 1 = ((x + (col - 1).toNat : Nat) : Int) by omega]


theorem at_low (s : ByteArray) (line col : Int) (w : World) (h : line < 1 ∨ col < 1) (a0 : -9223372036854775808 ≤ line) (a1 : line ≤ 9223372036854775807) (b0 : -9223372036854775808 ≤ col) (b1 : col ≤ 9223372036854775807) :
    Calls Tryd.prog 9 #[.string s, .int .i64 line, .int .i64 col] w fun e W' => e = .returned (vAt none) ∧ Below w.heap.size w W' := by
  go_enter Tryd.func9, Tryd.ntmps9
  by_cases hl : line < 1
  · have dl : decide (line < 1) = true := by simpa using hl
    go_wp2
    refine bodyPost_ret (v := vAt none) (by simp [results, Tryd.results9, go_sem, vAt]) rfl ⟨rfl, ?_⟩
    exact ((((Below.refl _ w).alloc (Nat.le_refl _) _).alloc (by simp) _).alloc (by simp; omega) _).alloc (by simp; omega) _
  · have hc : col < 1 := by omega
    have dl : decide (line < 1) = false := by simpa using hl
    have dc : decide (col < 1) = true := by simpa using hc
    go_wp2
    refine bodyPost_ret (v := vAt none) (by simp [results, Tryd.results9, go_sem, vAt]) rfl ⟨rfl, ?_⟩
    exact ((((Below.refl _ w).alloc (Nat.le_refl _) _).alloc (by simp) _).alloc (by simp; omega) _).alloc (by simp; omega) _

set_option maxRecDepth 100000 in
set_option maxHeartbeats 1000000 in
theorem rat_any (s : ByteArray) (hs : s.size ≤ 1000000) (line col : Int) (w : World) :
    Calls Tryd.prog 10 #[.string s, .int .i64 line, .int .i64 col] w fun e W' => ∃ o, e = .returned (vAt o) ∧ IsAt s.data.toList line col o ∧ w = W' := by
  go_enter Tryd.func10, Tryd.ntmps10
  go_wp2
  go_loop [8] (fun i => ∃ (k : Nat), k ≤ s.size + 1 ∧ (∀ j, j < k → ¬ ((((ofL (s.data.toList.take j)).1 : Nat) : Int) = line ∧ (((ofL (s.data.toList.take j)).2 : Nat) : Int) = col)) ∧ i = .int .i64 k) (fun i => s.size + 1 - (intOf i).toNat)
  case atStart => exact ⟨0, by omega, fun j h => by omega, rfl⟩
  case round =>
    obtain ⟨k, hk, hno, rfl⟩ := hrel
    have HN := Lib.hid hno
    clear hno
    by_cases hlt : k ≤ s.size
    · have c1 := Lib.hid (fun w => rof_any s k w hs (by omega) (by omega))
      have hcl : cl (k : Int) s.size = k := by have := cl_in (a := (k : Int)) (n := s.size) (by omega) (by omega); omega
      rw [hcl] at c1
      unfold vOf at c1
      obtain ⟨L, hL⟩ : ∃ L, (ofL (s.data.toList.take k)).1 = L := ⟨_, rfl⟩
      obtain ⟨C, hC⟩ : ∃ C, (ofL (s.data.toList.take k)).2 = C := ⟨_, rfl⟩
      have hyes : (L : Int) = line → (C : Int) = col → IsAt s.data.toList line col (some k) := fun h1 h2 => ⟨hlt, by rw [hL]; exact h1, by rw [hC]; exact h2⟩
      have hnot : ¬ ((L : Int) = line ∧ (C : Int) = col) → ∀ j, j < k + 1 → ¬ ((((ofL (s.data.toList.take j)).1 : Nat) : Int) = line ∧ (((ofL (s.data.toList.take j)).2 : Nat) : Int) = col) := fun h j hj => by
        rcases Nat.lt_or_ge j k with h' | h'
        · exact HN.out j h'
        · obtain rfl : j = k := by omega
          rw [hL, hC]; exact h
      rw [hL, hC] at c1
      have HY := Lib.hid hyes
      have HO := Lib.hid hnot
      clear hyes hnot hcl hL hC HN
      go_wp2_with (go_at_call 8; refine (c1.out _).mono ?_; rintro e w' ⟨rfl, rfl⟩)
      · go_ret2
        exact ⟨some k, rfl, HY.out (by assumption) (by simpa using ‹((C : Int) == col) = true›), rfl⟩
      · have hx : ¬ ((L : Int) = line ∧ (C : Int) = col) := fun h => by simp_all
        go_round
        case rel => exact ⟨k + 1, by omega, HO.out hx, by go_num⟩
        case measure => simp [intOf]; omega
      · have hx : ¬ ((L : Int) = line ∧ (C : Int) = col) := fun h => by simp_all
        go_round
        case rel => exact ⟨k + 1, by omega, HO.out hx, by go_num⟩
        case measure => simp [intOf]; omega
    · go_wp2
      go_ret2
      exact ⟨none, rfl, fun i hi => HN.out i (by rw [len_size] at hi; omega), rfl⟩


theorem at_any (s : ByteArray) (hs : s.size ≤ 1000000) (line col : Int) (w : World) (a0 : -9223372036854775808 ≤ line) (a1 : line ≤ 9223372036854775807) (b0 : -9223372036854775808 ≤ col) (b1 : col ≤ 9223372036854775807) :
    Calls Tryd.prog 9 #[.string s, .int .i64 line, .int .i64 col] w fun e W' => ∃ o, e = .returned (vAt o) ∧ IsAt s.data.toList line col o ∧ Below w.heap.size w W' := by
  by_cases h : line < 1 ∨ col < 1
  · exact (at_low s line col w h a0 a1 b0 b1).mono fun e W' ⟨he, hb⟩ => ⟨none, he, isAt_low h, hb⟩
  · exact (callsIn_wide (n := 5)).1 (at_in Fence.wide 5 trivial trivial trivial trivial rfl (by omega) s hs line col w (by omega) a1 (by omega) b1 idx_wide)

end Go.Proofs.YteimahbfjgcpiaaDoor.Pl

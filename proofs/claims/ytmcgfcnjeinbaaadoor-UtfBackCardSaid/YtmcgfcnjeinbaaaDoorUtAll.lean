/- All: rune by rune where the text is right, else by its iterator. -/
import Derived.Test.YtmcgfcnjeinbaaaDoorUtValid
import Derived.Test.YtmcgfcnjeinbaaaDoorUtJoin
import Derived.Lib.OthersKept
import Derived.Lib.RuneCount
namespace Go.Proofs.YtmcgfcnjeinbaaaDoor.Ut
open Go.RowKit Go.Shelf

/-- the variable that collects -/
def Holds (n₀ B : Nat) (pre : List Int) (W : World) : Prop :=
  ∃ v, Boxed W B 30 v ∧ W.ownsRow n₀ 3 1 v pre.length (pre.map (Value.int .i64)) ∧ True
theorem holds_own (n₀ B : Nat) : Own (fun (pre : List Int) W => Holds n₀ B pre W) :=
  holdsRow_own n₀ B 30 3 1 (fun pre : List Int => pre.length) (fun pre => pre.map (Value.int .i64)) (fun _ _ => True)
theorem iter_grown {w : World} {k : Nat} {s : ByteArray} (pos' : Nat) : w.grownBy (w.iterAt k s pos') (some k) :=
  ⟨rfl, rfl, rfl, by rw [Lib.iterAt_size]; exact Nat.le_refl _, fun j _ hj => Lib.iterAt_other w k j s pos' (fun e => hj (by rw [e]))⟩
theorem holds_iter {n₀ B k pos : Nat} {pre : List Int} {w : World} {s : ByteArray} (h : Holds n₀ B pre w) (hk : w.heap[k]? = some (.stringIter s pos)) (pos' : Nat) : Holds n₀ B pre (w.iterAt k s pos') :=
  holds_own n₀ B pre w _ (some k) h (iter_grown pos') (fun r e => by cases e; exact ⟨_, hk, rfl⟩)

/-- the rune at a place of a right text -/
theorem right_at {s : ByteArray} {pos : Nat} {pre : List Int} (hp : pos < s.size) (hv : validL s.data.toList = true) (ha : allL s.data.toList = pre ++ allL (s.data.toList.drop pos)) :
    1 ≤ (Utf8.decode s pos).2 ∧ pos + (Utf8.decode s pos).2 ≤ s.size ∧ (Utf8.decode s pos).1 ≤ 1114111 ∧ allL s.data.toList = (pre ++ [((Utf8.decode s pos).1 : Int)]) ++ allL (s.data.toList.drop (pos + (Utf8.decode s pos).2)) := by
  have hsz := Lib.size_eq s
  have hl : pos < s.data.toList.length := by omega
  have hst := all_step hl
  have hne : s.data.toList.drop pos ≠ [] := by
    intro e
    have := congrArg List.length e
    simp only [List.length_drop, List.length_nil] at this; omega
  have hd : Utf8.decode s pos = dN (s.data.toList.drop pos) := by
    rw [Lib.decode_N]
    unfold dN
    rw [Lib.getD_dropU, Lib.getD_dropU, Lib.getD_dropU, Lib.getD_dropU, List.length_drop]
    rfl
  rcases getL_cases hne with h | h
  · exfalso
    rw [hst, h] at ha
    unfold validL at hv
    rw [ha, List.all_append] at hv
    simp at hv
  · have h1 := dN_of h
    have h2 := h.len
    have h3 := h.scalar
    rw [scalar_iff] at h3
    rw [List.length_drop] at h2
    rw [hd, h1]
    refine ⟨by simp only; omega, by simp only; omega, by simp only; omega, ?_⟩
    rw [ha, hst]
    have e : (((getL (s.data.toList.drop pos)).1.toNat : Nat) : Int) = (getL (s.data.toList.drop pos)).1 := by omega
    simp [e]

set_option maxRecDepth 100000 in
set_option maxHeartbeats 1000000 in
theorem all_right (s : ByteArray) (w : World) (hs : s.size ≤ 17592186044000) (hT : Tabs w) (hv : validL s.data.toList = true) :
    Calls Tryd.prog 15 #[.string s] w fun e W' => ∃ v, e = .returned v ∧ IntsAt W' v (allL s.data.toList) ∧ Below w.heap.size w W' := by
  obtain ⟨i0, hi, hz0, hz1, hz2⟩ := info_parts infoI
  have hB1 : Below w.heap.size w (w.alloc (.cells #[.slice none 0 0] 30)) := (Below.refl _ w).alloc (Nat.le_refl _) _
  have hva := valid_any s _ (by unfold maxLen; omega) (tabs_next hT hB1)
  rw [hv] at hva
  have HVA := Lib.hid hva
  have hlen := allL_le s.data.toList
  rw [← Lib.size_eq] at hlen
  have bL := Boxed.new w 30 (.slice none 0 0)
  have hr0 := World.ownsRow_nil w w.heap.size 3 1
  clear hva hT
  go_enter Tryd.func15, Tryd.ntmps15
  go_wp2_with (go_at_call 17; refine HVA.out.mono ?_; rintro e w1 ⟨rfl, hb⟩)
  go_loopw [] (fun wr => ∃ (pos : Nat) (pre : List Int), pos ≤ s.size ∧ Holds w.heap.size w.heap.size pre wr ∧ wr.heap[w1.heap.size]? = some (.stringIter s pos) ∧ Below w.heap.size w wr ∧ allL s.data.toList = pre ++ allL (s.data.toList.drop pos)) (fun wr => s.size - wr.iterPos w1.heap.size)
  case atStart =>
    have bL1 : Boxed w1 w.heap.size 30 (.slice none 0 0) := (hb.block w.heap.size (by simp)).trans bL
    have hsz := hb.size
    refine ⟨0, [], by omega, ⟨_, bL1.alloc _, World.ownsRow_nil _ _ _ _, trivial⟩, World.iter_heap w1 s 0, (hB1.trans (hb.mono (by simp))).alloc (by simp at hsz; omega) _, by simp⟩
  case round =>
    obtain ⟨pos, pre, hpos, hh, hit, hbw, ha⟩ := hrel
    have hsz := (Array.getElem?_eq_some_iff.1 hit).1
    have hsz1 := hb.size
    simp only [World.size_alloc] at hsz1
    by_cases hp : pos < s.size
    · obtain ⟨hw1, hw2, hr1, ha2⟩ := right_at hp hv ha
      have HA := Lib.hid ha2
      have hpl : pre.length < s.size := by
        have := congrArg List.length ha2
        simp only [List.length_append, List.length_cons, List.length_nil] at this
        omega
      have hnx : ∀ ty, (Instr.next (.pointer (some ⟨w1.heap.size, 0, none⟩)) true ty).run Tryd.prog wr = _ := fun ty => Lib.run_next_any_at wr w1.heap.size s pos ty hit hp
      obtain ⟨v, hbx, hrow, _⟩ := holds_iter hh hit (pos + (Utf8.decode s pos).2)
      have hit2 := Lib.iterAt_heap wr w1.heap.size s pos (pos + (Utf8.decode s pos).2) hit
      have hbw2 := Lib.below_iterAt hbw (k := w1.heap.size) (by omega) s (pos + (Utf8.decode s pos).2)
      clear ha ha2
      generalize (Utf8.decode s pos).1 = c at *
      generalize (Utf8.decode s pos).2 = m at *
      generalize wr.iterAt w1.heap.size s (pos + m) = W at *
      have hc := hbx.cell
      go_wp2_with (at_builtin; refine wpList_append_own _ rfl _ _ 30 rfl w.heap.size 3 i0 (.int .i64 0) 1 8 Tryd.underlying30 hi hz0 hz1 hz2 rfl (by decide) _ _ _ rfl (hrow.alloc _) ⟨W.heap.size, 0, none⟩ 1 1 [.int .i64 c] rfl rfl (cell_one_new _ _ _) (by simp [Value.oneCell']) (by unfold maxLen; omega) (by omega) (by have := hbw2.size; simp; omega) ?_; intro v' w2 hown' hgrow _; obtain ⟨g', cap', rfl⟩ := ownsRow_succ hown'; obtain ⟨hv1, hv2, hr2, hk2, hb2⟩ := hbx.appended (by decide) hrow hbw2.size (Nat.le_refl _) hown' hgrow; have hc1 := hv1.cell; have hf1 := hv1.frozen)
      have hit3 := hk2.same w1.heap.size _ hit2 rfl
      go_roundw
      case rel => exact ⟨pos + m, pre ++ [(c : Int)], by omega, ⟨_, hv2, by simpa using hr2, trivial⟩, hit3, hbw2.trans hb2, HA.out⟩
      case measure =>
        simp only [World.iterPos, hit3, hit]
        omega
    · have hnx : ∀ ty, (Instr.next (.pointer (some ⟨w1.heap.size, 0, none⟩)) true ty).run Tryd.prog wr = _ := fun ty => Lib.run_next_end_at wr w1.heap.size s pos ty hit hp
      obtain ⟨v, hbx, hrow, _⟩ := hh
      have hc := hbx.cell
      go_wp2
      go_ret
      have he : s.data.toList.drop pos = [] := List.drop_eq_nil_of_le (by rw [← Lib.size_eq]; omega)
      rw [he, allL_nil, List.append_nil] at ha
      exact ⟨v, rfl, by rw [ha]; exact ints_of_row hrow, hbw⟩


attribute [local go_sem] Oper.semAt_some

theorem validw (n : Nat) (s : ByteArray) (w : World) (hs : s.size ≤ maxLen) (hT : Tabs w) :
    CallsIn Fence.wide n Tryd.prog 17 #[.string s] w fun e W' => e = .returned (.bool (validL s.data.toList)) ∧ Below w.heap.size w W' :=
  callsIn_wide.2 (valid_any s w hs hT)

set_option maxRecDepth 100000 in
set_option maxHeartbeats 2000000 in
theorem all_wrong_in (F : Fence) (n : Nat) (h0 : F.fn 15) (h2 : F.fn 17) (h3 : F.fn 24) (h4 : F.fn 28) (h5 : F.fn 12) (hro : F.round = none) (hn : 3 ≤ n) (s : ByteArray) (hs : s.size ≤ 17592186044000) (w : World) (hT : Tabs w) (hv : validL s.data.toList = false)
    (hvalid : ∀ (n : Nat) (s : ByteArray) (w : World), s.size ≤ maxLen → Tabs w → CallsIn F n Tryd.prog 17 #[.string s] w fun e W' => e = .returned (.bool (validL s.data.toList)) ∧ Below w.heap.size w W')
    (hget : ∀ (n : Nat) (s : ByteArray) (w : World), Tabs w → CallsIn F n Tryd.prog 12 #[.string s] w fun e w' => e = .returned (vGet s.data.toList) ∧ Below w.heap.size w w') :
    CallsIn F n Tryd.prog 15 #[.string s] w fun e W' => ∃ v, e = .returned v ∧ IntsAt W' v (allL s.data.toList) ∧ Below w.heap.size w W' := by
  have h1 : 1 ≤ n := by omega
  obtain ⟨i0, hi, hz0, hz1, hz2⟩ := info_parts infoI
  have hB1 : Below w.heap.size w (w.alloc (.cells #[.slice none 0 0] 30)) := (Below.refl _ w).alloc (Nat.le_refl _) _
  have hT1 := tabs_next hT hB1
  have hva := hvalid (n - 1) s _ (by unfold maxLen; omega) hT1
  rw [hv] at hva
  have HVA := Lib.hid hva
  have hlen := allL_le s.data.toList
  rw [← Lib.size_eq] at hlen
  have hlt := tabs_lt hT
  have bL := Boxed.new w 30 (.slice none 0 0)
  have HG := Lib.hid hget
  have HT1 := Lib.hid hT1
  clear hva hT hget hvalid hT1
  refine callsIn_of_wp_marks Tryd.func15 rfl h0 ?_ hro
  simp only [Tryd.ntmps15, List.size_toArray, List.length_cons, List.length_nil, Nat.reduceAdd, Nat.reduceSub, Array.replicate_succ, Array.replicate_zero, List.push_toArray, List.append_toArray, List.nil_append, List.cons_append]
  gi_wp2_with (first
    | (gi_at_call 17; refine HVA.out.mono ?_; rintro e w1 ⟨rfl, hb⟩)
    | (gi_at_call 24; refine (codes_in F (n - 1) h3 hro _ _).mono ?_; rintro e w' ⟨rfl, rfl⟩))
  have hsz := hb.size
  simp only [World.size_alloc] at hsz
  have bL1 : Boxed w1 w.heap.size 30 (.slice none 0 0) := (hb.block w.heap.size (by simp)).trans bL
  have bS := Boxed.new w1 9 (.string s)
  have hB2 : Below w.heap.size w (w1.alloc (.cells #[.string s] 9)) := (hB1.trans (hb.mono (by simp))).alloc (by omega) _
  have hT2 := tabs_next HT1.out (hb.alloc (by simp; omega) (.cells #[.string s] 9))
  have h00 : Holds w.heap.size w.heap.size [] (w1.alloc (.cells #[.string s] 9)) := ⟨_, bL1.alloc _, World.ownsRow_nil _ _ _ _, trivial⟩
  refine wpIn_rangeFunc_ownF hro h1 (gf := 28) (lb := #[.pointer (some ⟨w1.heap.size, 0, none⟩)]) rfl h4 (enters_of Tryd.func28 (by kernel_rfl) rfl)
    (codes_stops F (n - 1) h4 h5 hro (by omega) w1.heap.size w.heap.size s (by unfold maxLen; omega) _ (fun s w h => HG.out _ s w h) hlt.1 hlt.2 (by simp; omega) bS hT2) kept_t (kept_b (by simp; omega)) (Below.refl _ _) (fun _ => rfl)
    (fun pre W => Holds w.heap.size w.heap.size pre W ∧ Below w.heap.size w W)
    (fun _ _ _ => False)
    (OwnFrom.and (Own.from (holds_own w.heap.size w.heap.size) _) (ownFrom_below (Nat.le_refl _) (by simp; omega)))
    (fun _ _ _ _ _ hs _ _ => hs)
    ⟨h00, hB2⟩
    (fun x => { tmps := #[.string s, undef, .slice none 0 0, .pointer (some ⟨w.heap.size, 0, none⟩), undef, undef, .int .i64 x, .string s, .bool false, undef, undef, undef, undef, undef, undef, undef, undef, undef, undef, undef, .string s, .func (.func 28) #[] #[.pointer (some ⟨w1.heap.size, 0, none⟩)], .int .i64 x, undef, undef, undef, undef, undef], defers := [] }) ?assign ?body ?done ?stop
  case assign =>
    intro l x W K hK
    gi_wp2
    exact hK
  case body =>
    rintro l pre x W ⟨⟨v, hbx, hrow, _⟩, hB⟩ hpl
    have hc := hbx.cell
    gi_wp2_with (gi_at_builtin; refine wpListIn_append_own _ rfl _ _ 30 rfl w.heap.size 3 i0 (.int .i64 0) 1 8 Tryd.underlying30 hi hz0 hz1 hz2 rfl (by decide) _ _ _ rfl (hrow.alloc _) ⟨W.heap.size, 0, none⟩ 1 1 [.int .i64 x] rfl rfl (cell_one_new _ _ _) (by simp [Value.oneCell']) (by unfold maxLen; omega) (by omega) (by have := hB.size; simp; omega) ?_; intro v' w2 hown' hgrow _; obtain ⟨g', cap', rfl⟩ := ownsRow_succ hown'; obtain ⟨hv1, hv2, hr2, hk2, hb2⟩ := hbx.appended (by decide) hrow hB.size (Nat.le_refl _) hown' hgrow; have hc1 := hv1.cell; have hf1 := hv1.frozen; have hKS : ∀ u, Boxed W w1.heap.size 9 (.string s) → Boxed (w2.setCell ⟨w.heap.size, 0, none⟩ u) w1.heap.size 9 (.string s) := fun u hS => ((hS.alloc _).kept hgrow (hS.not_row (by decide) hrow)).kept (grownBy_setCell' w2 w.heap.size u) (by simp; omega))
    exact ⟨hk2, ⟨hb2, hKS _⟩, ⟨_, hv2, by simpa using hr2, trivial⟩, hB.trans hb2⟩
  case done =>
    rintro D ys W hD rfl ⟨⟨v, hbx, hrow, _⟩, hB⟩ hK
    have hc := hbx.cell
    gi_wp2
    refine ⟨by simp, .inl ⟨_, _, rfl, run_takeDeferred hK, ?_⟩⟩
    exact ⟨_, results_tmp rfl _ _ _, v, rfl, ints_of_row (ownsRow_putObj hrow _ hK rfl), hB.trans (belowK_b (w := w) (Nat.le_refl _) W D _ _ (by simp at hD; omega) hK rfl rfl)⟩
  case stop =>
    rintro D c pre W _ _ h _
    exact h.elim

theorem all_any (s : ByteArray) (w : World) (hs : s.size ≤ 17592186044000) (hT : Tabs w) :
    Calls Tryd.prog 15 #[.string s] w fun e W' => ∃ v, e = .returned v ∧ IntsAt W' v (allL s.data.toList) ∧ Below w.heap.size w W' := by
  cases hv : validL s.data.toList with
  | true => exact all_right s w hs hT hv
  | false => exact (callsIn_wide (n := 5)).1 (all_wrong_in Fence.wide 5 trivial trivial trivial trivial trivial rfl (by omega) s hs w hT hv validw get_wide)

end Go.Proofs.YtmcgfcnjeinbaaaDoor.Ut

/- The document's All. -/
import Derived.Test.YtleejfkononjgaaDoorWdBase
import Derived.Test.YtleejfkononjgaaDoorPairs
import Derived.Laws.OwnMore
import Derived.Lib.OthersKept
namespace Go.Proofs.YtleejfkononjgaaDoor.Wd
open Go.RowKit Go.Shelf

/-- what the reference holds: the closed words, and the open one -/
def outL (c : List (Nat × Nat)) (o : Option Nat) (k : Nat) : List (Nat × Nat) := match o with
  | none => c
  | some f => c ++ [(f, k)]

theorem getD_snoc {α : Type} (c : List α) (x d : α) : (c ++ [x]).getD c.length d = x := by simp [List.getD]
theorem flat_set (c : List (Nat × Nat)) (f k f' k' : Nat) : ((flat (c ++ [(f, k)])).set (c.length * 2) (.int .i64 (f' : Nat))).set (c.length * 2 + 1) (.int .i64 (k' : Nat)) = flat (c ++ [(f', k')]) := by
  rw [flat_snoc, flat_snoc, ← flat_len c, List.set_append_right _ _ (Nat.le_refl _), Nat.sub_self, List.set_append_right _ _ (by omega)]
  simp
/-- the last pair of a row that the call owns, stored anew -/
theorem row_store {W : World} {B g cap : Nat} {c : List (Nat × Nat)} {f k f' k' : Nat} (h : W.ownsRow B 43 2 (.slice (some ⟨g, 0, none⟩) (c.length + 1) cap) (c.length + 1) (flat (c ++ [(f, k)]))) (hb : Below B W W) :
    ((W.setCell ⟨g, c.length * 2, none⟩ (.int .i64 (f' : Nat))).setCell ⟨g, c.length * 2 + 1, none⟩ (.int .i64 (k' : Nat))).ownsRow B 43 2 (.slice (some ⟨g, 0, none⟩) (c.length + 1) cap) (c.length + 1) (flat (c ++ [(f', k')])) ∧
    Below B W ((W.setCell ⟨g, c.length * 2, none⟩ (.int .i64 (f' : Nat))).setCell ⟨g, c.length * 2 + 1, none⟩ (.int .i64 (k' : Nat))) := by
  have hg := (h.lt g rfl).1
  have h1 := (h.stored (c.length * 2) (.int .i64 (f' : Nat))).1
  have h2 := (h1.stored (c.length * 2 + 1) (.int .i64 (k' : Nat))).1
  rw [flat_set] at h2
  exact ⟨h2, (hb.setCell (p := ⟨g, c.length * 2, none⟩) hg _).setCell (p := ⟨g, c.length * 2 + 1, none⟩) hg _⟩
/-- its cells -/
theorem row_last {W : World} {B g cap : Nat} {c : List (Nat × Nat)} {f k : Nat} (h : W.ownsRow B 43 2 (.slice (some ⟨g, 0, none⟩) (c.length + 1) cap) (c.length + 1) (flat (c ++ [(f, k)]))) :
    W.cell? ⟨g, c.length * 2, none⟩ = some (.int .i64 (f : Nat)) ∧ W.cell? ⟨g, c.length * 2 + 1, none⟩ = some (.int .i64 (k : Nat)) := by
  have hfl := flat_at (c ++ [(f, k)]) c.length (by simp)
  rw [getD_snoc] at hfl
  exact ⟨by rw [h.cellAt _ (by omega), hfl.1], by rw [h.cellAt _ (by omega), hfl.2]⟩

def Rel (s : ByteArray) (w : World) (v i : Value) (wr : World) : Prop :=
  ∃ (k : Nat) (c : List (Nat × Nat)) (o : Option Nat), i = .int .i64 k ∧ k ≤ s.size ∧ c.length + o.toList.length ≤ k ∧ wordsL s.data.toList = c ++ wdL o k (s.data.toList.drop k) ∧
      (o = none → k = 0 ∨ ∃ h : k - 1 < s.size, blk s[k - 1] = true) ∧ (∀ f, o = some f → 0 < k ∧ ∀ h : k - 1 < s.size, blk s[k - 1] = false) ∧
      wr.ownsRow w.heap.size 43 2 v (outL c o k).length (flat (outL c o k)) ∧ Below w.heap.size w wr

set_option maxRecDepth 100000 in
set_option maxHeartbeats 2000000 in
theorem rall_any (s : ByteArray) (hs : s.size ≤ 1000000) (w : World) :
    Calls Tryd.prog 15 #[.string s] w fun e W' => ∃ v, e = .returned v ∧ PairsAt W' v (wordsL s.data.toList) ∧ Below w.heap.size w W' := by
  obtain ⟨i0, hi, hz0, hz1, hz2⟩ := info_parts infoP
  go_enter Tryd.func15, Tryd.ntmps15
  go_wp2
  go_loopw [3, 4] (fun v i wr => Rel s w v i wr) (fun _ i _ => s.size - (intOf i).toNat)
  case atStart => exact ⟨0, [], none, rfl, by omega, by simp, rfl, fun _ => .inl rfl, (fun f h => by cases h), World.ownsRow_nil _ _ _ _, Below.refl _ _⟩
  case round =>
    obtain ⟨k, c, o, rfl, hk, hcl, hx, hn, hso, hrow, hb⟩ := hrel
    have hsz := hb.size
    rcases Nat.lt_or_ge k s.size with hlt | hge
    · have c2 := Lib.hid (fun w => rblank_any s[k] w)
      have hkp : (h : k + 1 - 1 < s.size) → s[k + 1 - 1] = s[k] := fun h => by simp only [Nat.add_sub_cancel]
      rw [span_at hlt] at hx
      cases hc : blk s[k]
      · rw [hc] at c2
        have hlast : ∀ f, some k = some f ∨ True → 0 < k + 1 ∧ ∀ h : k + 1 - 1 < s.size, blk s[k + 1 - 1] = false := fun f _ => ⟨by omega, fun h => by rw [hkp h]; exact hc⟩
        have HL := Lib.hid hlast
        clear hlast hkp
        cases o with
        | none =>
          have hfirst := hn rfl
          clear hn hso
          rw [wdL_none_fl hc] at hx
          have HX := Lib.hid hx
          simp only [Option.toList_none, List.length_nil, Nat.add_zero] at hcl
          unfold outL at hrow
          simp only at hrow
          have hcb : c.length ≤ 1000000 := by omega
          have HC := Lib.hid hcl
          clear hx hc hcl
          by_cases h0 : k = 0
          · subst h0
            go_wp2_with (first
              | (go_at_call 24; first | ((with_reducible refine (c2.out _).mono ?_); rintro e w' ⟨rfl, rfl⟩))
              | (at_builtin; refine wpList_append_own _ rfl _ _ 40 rfl w.heap.size 43 i0 (.agg #[.int .i64 0, .int .i64 0]) 2 16 Tryd.underlying40 hi hz0 hz1 hz2 rfl (by decide) _ _ _ rfl (hrow.alloc _) ⟨wr.heap.size, 0, none⟩ 1 1 [.int .i64 (0), .int .i64 (0)] rfl rfl (cell_two_new _ _ _ _) (by simp [Value.oneCell']) (by unfold maxLen; omega) (by omega) (by simp; omega) ?_; intro v' w2 hown' hgrow _; have hr1 : w2.ownsRow w.heap.size 43 2 v' (c.length + 1) (flat (c ++ [(0, 0)])) := (by rw [flat_snoc]; exact hown'); obtain ⟨g, cap, rfl⟩ := ownsRow_succ hr1; obtain ⟨cm, cn⟩ := row_last hr1; have fz := hr1.frozenAt; have hb1 : Below w.heap.size w w2 := (hb.alloc hsz _).grown hgrow (by simp; omega) (fun k hk => ((World.ownsRowF_of hrow).lt k hk).1); obtain ⟨hr2, hb2⟩ := row_store (f' := 0) (k' := 0 + 1) hr1 (Below.refl w.heap.size w2); simp only [Int.natCast_add, Int.cast_ofNat_Int] at hr2 hb2; generalize hm : c.length = m at *; have HM := Lib.hid hm; clear hm))
            trace_state
            go_roundw
            case rel => exact ⟨0 + 1, c, some 0, by go_num, by omega, by have := HC.out; simp [HM.out]; omega, HX.out, (fun h => by cases h), (fun _ _ => HL.out 0 (.inr trivial)), by simpa [outL, HM.out] using hr2, hb1.trans hb2⟩
            case measure => simp [intOf]; omega
          · rcases hfirst with h | ⟨hlt', hp⟩
            · exact absurd h h0
            · have c3 := Lib.hid (fun w => rblank_any (s[k - 1]'hlt') w)
              rw [hp] at c3
              have q1 : ((k : Int) - 1).toNat = k - 1 := by omega
              have d0 : ((k : Int) == 0) = false := by simp; omega
              have HQ := Lib.hid q1
              clear hp q1
              go_wp2_with (first
                | (go_at_call 24; first | ((with_reducible refine (c2.out _).mono ?_); rintro e w' ⟨rfl, rfl⟩) | (refine (c3.out _).mono ?_; rintro e w' ⟨rfl, rfl⟩))
                | (at_builtin; refine wpList_append_own _ rfl _ _ 40 rfl w.heap.size 43 i0 (.agg #[.int .i64 0, .int .i64 0]) 2 16 Tryd.underlying40 hi hz0 hz1 hz2 rfl (by decide) _ _ _ rfl (hrow.alloc _) ⟨wr.heap.size, 0, none⟩ 1 1 [.int .i64 ((k : Nat)), .int .i64 ((k : Nat))] rfl rfl (cell_two_new _ _ _ _) (by simp [Value.oneCell']) (by unfold maxLen; omega) (by omega) (by simp; omega) ?_; intro v' w2 hown' hgrow _; have hr1 : w2.ownsRow w.heap.size 43 2 v' (c.length + 1) (flat (c ++ [(k, k)])) := (by rw [flat_snoc]; exact hown'); obtain ⟨g, cap, rfl⟩ := ownsRow_succ hr1; obtain ⟨cm, cn⟩ := row_last hr1; have fz := hr1.frozenAt; have hb1 : Below w.heap.size w w2 := (hb.alloc hsz _).grown hgrow (by simp; omega) (fun k hk => ((World.ownsRowF_of hrow).lt k hk).1); obtain ⟨hr2, hb2⟩ := row_store (f' := k) (k' := k + 1) hr1 (Below.refl w.heap.size w2); simp only [Int.natCast_add, Int.cast_ofNat_Int] at hr2 hb2; generalize hm : c.length = m at *; have HM := Lib.hid hm; clear hm))
              trace_state
              go_roundw
              case rel => exact ⟨k + 1, c, some k, by go_num, by omega, by have := HC.out; simp [HM.out]; omega, HX.out, (fun h => by cases h), (fun _ _ => HL.out 0 (.inr trivial)), by simpa [outL, HM.out] using hr2, hb1.trans hb2⟩
              case measure => simp [intOf]; omega
        | some f =>
          rw [wdL_some_fl hc] at hx
          obtain ⟨h0, hp⟩ := hso f rfl
          have hp' := hp (by omega)
          have c3 := Lib.hid (fun w => rblank_any (s[k - 1]'(by omega)) w)
          rw [hp'] at c3
          have q1 : ((k : Int) - 1).toNat = k - 1 := by omega
          have d0 : ((k : Int) == 0) = false := by simp; omega
          have HX := Lib.hid hx
          have HQ := Lib.hid q1
          clear hx hc hn hso hp hp' q1
          unfold outL at hrow
          simp only [List.length_append, List.length_cons, List.length_nil, Nat.zero_add] at hrow
          obtain ⟨g, cap, rfl⟩ := ownsRow_succ hrow
          obtain ⟨cm, cn⟩ := row_last hrow
          have fz := hrow.frozenAt
          obtain ⟨hr2, hb2⟩ := row_store (f' := f) (k' := k + 1) hrow ((Below.refl w.heap.size wr))
          simp only [Option.toList_some, List.length_cons, List.length_nil] at hcl
          generalize hm : c.length = m at *
          have HM := Lib.hid hm
          clear hm
          simp only [Int.natCast_add, Int.cast_ofNat_Int] at hr2 hb2
          go_wp2_with (go_at_call 24; first | ((with_reducible refine (c2.out _).mono ?_); rintro e w' ⟨rfl, rfl⟩) | (refine (c3.out _).mono ?_; rintro e w' ⟨rfl, rfl⟩))
          go_roundw
          case rel => exact ⟨k + 1, c, some f, by go_num, by omega, by simp [HM.out]; omega, HX.out, (fun h => by cases h), (fun _ _ => HL.out f (.inr trivial)), by simpa [outL, HM.out] using hr2, hb.trans hb2⟩
          case measure => simp [intOf]; omega
      · rw [hc] at c2
        have hlast : ∃ h : k + 1 - 1 < s.size, blk s[k + 1 - 1] = true := ⟨by omega, by rw [hkp (by omega)]; exact hc⟩
        have HL := Lib.hid hlast
        clear hlast hkp
        cases o with
        | none =>
          rw [wdL_none_blk hc] at hx
          have HX := Lib.hid hx
          clear hx hc hn hso
          go_wp2_with (go_at_call 24; refine (c2.out _).mono ?_; rintro e w' ⟨rfl, rfl⟩)
          go_roundw
          case rel => exact ⟨k + 1, c, none, by go_num, by omega, by omega, HX.out, (fun _ => .inr HL.out), (fun f h => by cases h), hrow, hb⟩
          case measure => simp [intOf]; omega
        | some f =>
          rw [wdL_some_blk hc] at hx
          have HX := Lib.hid hx
          clear hx hc hn hso
          go_wp2_with (go_at_call 24; refine (c2.out _).mono ?_; rintro e w' ⟨rfl, rfl⟩)
          go_roundw
          case rel => exact ⟨k + 1, c ++ [(f, k)], none, by go_num, by omega, by simp at hcl ⊢; omega, by rw [HX.out, List.append_assoc]; rfl, (fun _ => .inr HL.out), (fun f h => by cases h), hrow, hb⟩
          case measure => simp [intOf]; omega
    · obtain rfl : k = s.size := by omega
      rw [span_end (Nat.le_refl _)] at hx
      have hall : outL c o s.size = wordsL s.data.toList := by
        rw [hx]; cases o with
        | none => simp [outL, wdL]
        | some f => simp [outL, wdL]
      rw [hall] at hrow
      clear hx hall hn hso hcl
      go_wp2
      go_ret
      exact ⟨_, rfl, pairs_of_row hrow, hb⟩

end Go.Proofs.YtleejfkononjgaaDoor.Wd

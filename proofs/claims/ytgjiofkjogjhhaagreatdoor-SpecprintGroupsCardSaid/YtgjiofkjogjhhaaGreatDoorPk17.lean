/- Right, the program's; Modes. Text, of an action that may be. Walks of strings.Builder as this program's translation has it: copyCheck, WriteString; what writing leaves alone. The tables that digits are made by; Text. A set's text: the document's. How often: the program's. -/
import Derived.Test.YtgjiofkjogjhhaaGreatDoorPk13
import Derived.Deep.QuietTactic
import Derived.BigQuiet
import Derived.RegionTactic
import Derived.Laws.OwnMore
import Derived.Deep.AppendLies
import Derived.Lib.Join
import Derived.Test.YtgjiofkjogjhhaaGreatDoorChecked
import Derived.Test.YtgjiofkjogjhhaaGreatDoorPk01
import Derived.WalkKit
import Derived.Lib.Hide
import Derived.WalkLawsBesides
import Derived.WalkSpells
import Derived.Shelf.Strings.BuilderK
import Derived.Test.YtgjiofkjogjhhaaGreatDoorPk10
import Derived.Test.YtgjiofkjogjhhaaGreatDoorPk03
import Derived.Test.YtgjiofkjogjhhaaGreatDoorPk04
import Derived.Deep.RegionHeld3
import Derived.Maps.AppendAt

namespace Go.Proofs.YtgjiofkjogjhhaaGreatDoor.Ac
open Go Go.RowKit Go.Shelf Go.Proofs.YtgjiofkjogjhhaaGreatDoor.Wd

open Classical in
/-- names, all unlike -/
noncomputable def mdB (M : List ByteArray) : Bool := decide (modesB M)
open Classical in
theorem md_yes {M : List ByteArray} (h : modesB M) : mdB M = true := by unfold mdB; exact decide_eq_true h
open Classical in
theorem md_no {M : List ByteArray} (h : ¬ modesB M) : mdB M = false := by unfold mdB; exact decide_eq_false h
open Classical in
theorem md_of {M : List ByteArray} (h : mdB M = true) : modesB M := by unfold mdB at h; exact of_decide_eq_true h

set_option maxHeartbeats 800000 in
theorem modes_any (M : List ByteArray) (v : Value) (w : World) (hv : StrsAt w v M) (hs : ∀ j, j < M.length → (M.getD j bE).size ≤ 1000000) :
    Calls Tryz.prog 18 #[v] w fun e w' => e = .returned (.bool (mdB M)) ∧ w = w' := by
  have P := Lib.hid (fun m => place_any M v m w hv)
  obtain ⟨ao, cap, rfl, hm, hc⟩ := strs_at hv
  have HC := Lib.hid hc
  have HS := Lib.hid hs
  clear hc hv hs
  go_enter Tryz.func18, Tryz.ntmps18
  go_wp2
  go_loop [3] (fun i => ∃ k : Nat, k ≤ M.length ∧ i = .int .i64 k ∧ ∀ j, j < k → nameL (M.getD j bE).data.toList = true ∧ numL M (M.getD j bE) = (j : Int)) (fun i => M.length - (intOf i).toNat)
  case atStart => exact ⟨0, by omega, rfl, fun j hj => by omega⟩
  case round =>
    obtain ⟨k, hk, rfl, hne⟩ := hrel
    have HN := Lib.hid hne
    clear hne
    by_cases hlt : k < M.length
    · obtain ⟨ad, rfl, c0⟩ := HC.out k hlt
      have h0i : (0 : Int) ≤ k := by omega
      have hsz := HS.out k hlt
      have NO : Hid (¬ (nameL (M.getD k bE).data.toList = true ∧ numL M (M.getD k bE) = (k : Int)) → mdB M = false) := Lib.hid (fun h => md_no (fun hm => h (hm k hlt)))
      have YES : Hid ((nameL (M.getD k bE).data.toList = true ∧ numL M (M.getD k bE) = (k : Int)) → ∀ j, j < k + 1 → nameL (M.getD j bE).data.toList = true ∧ numL M (M.getD j bE) = (j : Int)) := Lib.hid (fun h j hj => by
        rcases Nat.lt_or_ge j k with h' | h'
        · exact HN.out j h'
        · obtain rfl : j = k := by omega
          exact h)
      generalize M.getD k bE = x at *
      have C := Lib.hid (fun W => (name_both x (by unfold maxLen; omega) W).2)
      cases hn : nameL x.data.toList
      · have HZ : Hid (mdB M = false) := Lib.hid (NO.out (by rw [hn]; simp))
        rw [hn] at C
        clear hn NO YES
        go_wp2_with (go_at_call 17; (with_reducible refine (C.out _).mono ?_); rintro e w' ⟨rfl, rfl⟩)
        go_ret
        exact ⟨retBool HZ.out.symm, rfl⟩
      · rw [hn] at C
        have PX := Lib.hid (P.out x)
        by_cases hq : numL M x = (k : Int)
        · have HZ := Lib.hid (YES.out ⟨hn, hq⟩)
          rw [hq] at PX
          clear hn NO YES hq
          go_wp2_with (first
            | (go_at_call 17; (with_reducible refine (C.out _).mono ?_); rintro e w' ⟨rfl, rfl⟩)
            | (go_at_call 41; (with_reducible refine PX.out.mono ?_); rintro e w' ⟨rfl, rfl⟩))
          go_round
          case rel => exact ⟨k + 1, by omega, by go_num, HZ.out⟩
          case measure => simp [intOf]; omega
        · have HZ : Hid (mdB M = false) := Lib.hid (NO.out (fun h => hq h.2))
          have d0 : (numL M x == (k : Int)) = false := by simpa using hq
          generalize numL M x = q at *
          clear hn NO YES hq
          go_wp2_with (first
            | (go_at_call 17; (with_reducible refine (C.out _).mono ?_); rintro e w' ⟨rfl, rfl⟩)
            | (go_at_call 41; (with_reducible refine PX.out.mono ?_); rintro e w' ⟨rfl, rfl⟩))
          go_ret
          exact ⟨retBool HZ.out.symm, rfl⟩
    · obtain rfl : k = M.length := by omega
      have HZ : Hid (mdB M = true) := Lib.hid (md_yes HN.out)
      go_wp2
      go_ret
      exact ⟨retBool HZ.out.symm, rfl⟩

set_option maxRecDepth 100000 in
set_option maxHeartbeats 1600000 in
theorem right_name (em : ByteArray) (g : Int) (v : Value) (w : World) (hs : em.size ≤ 1000000) (h1 : em ≠ bE) (h2 : nameL em.data.toList = false) :
    Calls Tryz.prog 64 #[.agg #[.string em, .int .i64 g], v] w fun e w' => e = .returned (.bool false) ∧ Below w.heap.size w w' := by
  have C := Lib.hid (fun W => (name_both em (by unfold maxLen; omega) W).1)
  have HB := Lib.hid ((Below.refl w.heap.size w).alloc (Nat.le_refl _) (.cells #[.string em, .int .i64 g] 34))
  rw [h2] at C
  have d0 := isE_no h1
  have d1 := empty_no h1
  clear h1 h2
  go_enter Tryz.func64, Tryz.ntmps64
  go_wp2_with (go_at_call 48; (with_reducible refine (C.out _).mono ?_); rintro e w' ⟨rfl, rfl⟩)
  go_ret
  exact ⟨rfl, HB.out⟩
/-- how the walk goes on behind the name -/
def OkN (em : ByteArray) : Prop := em = bE ∨ nameL em.data.toList = true

set_option maxRecDepth 100000 in
set_option maxHeartbeats 1600000 in
theorem right_neg (em : ByteArray) (g : Int) (M : List ByteArray) (v : Value) (w : World) (hv : StrsAt w v M) (hs : em.size ≤ 1000000) (h1 : OkN em) (h2 : ¬ (0 ≤ g ∧ g < M.length)) :
    Calls Tryz.prog 64 #[.agg #[.string em, .int .i64 g], v] w fun e w' => e = .returned (.bool (g == -1)) ∧ Below w.heap.size w w' := by
  obtain ⟨ao, cap, rfl, hm, _⟩ := strs_at hv
  have C := Lib.hid (fun W => (name_both em (by unfold maxLen; omega) W).1)
  have HB := Lib.hid ((Below.refl w.heap.size w).alloc (Nat.le_refl _) (.cells #[.string em, .int .i64 g] 34))
  clear hv
  obtain ⟨q, hq⟩ : ∃ q : Bool, (g == -1) = q := ⟨_, rfl⟩
  rw [hq]
  by_cases c1 : em = bE
  · have c1' : em = ⟨#[]⟩ := c1
    subst c1'
    clear c1 h1 C
    by_cases c2 : g < 0
    · go_enter Tryz.func64, Tryz.ntmps64
      go_wp2
      go_ret
      exact ⟨rfl, HB.out⟩
    · have c3 : (M.length : Int) ≤ g := by omega
      have d3 : decide (g ≥ (M.length : Int)) = true := by simpa using c3
      go_enter Tryz.func64, Tryz.ntmps64
      go_wp2
      go_ret
      exact ⟨rfl, HB.out⟩
  · have d0 := isE_no c1
    have d1 := empty_no c1
    rw [h1.resolve_left c1] at C
    clear c1 h1
    by_cases c2 : g < 0
    · go_enter Tryz.func64, Tryz.ntmps64
      go_wp2_with (go_at_call 48; (with_reducible refine (C.out _).mono ?_); rintro e w' ⟨rfl, rfl⟩)
      go_ret
      exact ⟨rfl, HB.out⟩
    · have c3 : (M.length : Int) ≤ g := by omega
      have d3 : decide (g ≥ (M.length : Int)) = true := by simpa using c3
      go_enter Tryz.func64, Tryz.ntmps64
      go_wp2_with (go_at_call 48; (with_reducible refine (C.out _).mono ?_); rintro e w' ⟨rfl, rfl⟩)
      go_ret
      exact ⟨rfl, HB.out⟩

set_option maxRecDepth 100000 in
set_option maxHeartbeats 1600000 in
theorem right_pos (em : ByteArray) (g : Nat) (M : List ByteArray) (v : Value) (w : World) (hv : StrsAt w v M) (hs : em.size ≤ 1000000) (h1 : OkN em) (h2 : g < M.length) (hg : numL M (M.getD g bE) = (g : Int)) :
    Calls Tryz.prog 64 #[.agg #[.string em, .int .i64 (g : Nat)], v] w fun e w' => e = .returned (.bool true) ∧ Below w.heap.size w w' := by
  have D := Lib.hid (fun W (h : Below w.heap.size w W) => hg ▸ number_any M v (M.getD g bE) W (hv.next h))
  obtain ⟨ao, cap, rfl, hm, hc⟩ := strs_at hv
  obtain ⟨ad, rfl, c0⟩ := hc g h2
  have C := Lib.hid (fun W => (name_both em (by unfold maxLen; omega) W).1)
  have hb := (Below.refl w.heap.size w).alloc (Nat.le_refl _) (.cells #[.string em, .int .i64 (g : Nat)] 34)
  have hx : (w.alloc (.cells #[.string em, .int .i64 (g : Nat)] 34)).heap[w.heap.size]? = some (.cells #[.string em, .int .i64 (g : Nat)] 34 (0, 0)) := heap_alloc_new w _
  replace c0 := cell_next c0 hb
  have c3 : (g : Int) < M.length := by omega
  have c4 : (0 : Int) ≤ g := by omega
  have d3 : decide ((g : Int) ≥ (M.length : Int)) = false := by simpa using c3
  clear hv hc hg
  generalize M.getD g bE = m at *
  by_cases c1 : em = bE
  · have c1' : em = ⟨#[]⟩ := c1
    subst c1'
    clear c1 h1 C
    go_enter Tryz.func64, Tryz.ntmps64
    go_upto_region 1 with fail
    generalize w.alloc _ = w1 at *
    obtain ⟨e0, e1⟩ := cells_two hx
    have HB := Lib.hid hb
    have hl := lt_of_heap hx
    clear hb
    go_wp2
    go_region_held3 (fun W => W.cell? ⟨w.heap.size, 1, none⟩ = some (.int .i64 (g : Nat)) ∧ W.cell? (ad.add g) = some (.string m)) (first | exact ⟨e1, c0⟩ | go_keep)
      (first
        | (go_at_call 92; ((with_reducible refine (D.out _ HB.out.drew).mono ?_); rintro e w' ⟨rfl, rfl⟩))
        | fail)
    all_goals (
      go_wp2
      go_ret
      exact ⟨rfl, HB.out.drew⟩)
  · have d0 := isE_no c1
    have d1 := empty_no c1
    rw [h1.resolve_left c1] at C
    clear c1 h1
    go_enter Tryz.func64, Tryz.ntmps64
    go_upto_region 1 with fail
    generalize w.alloc _ = w1 at *
    obtain ⟨e0, e1⟩ := cells_two hx
    have HB := Lib.hid hb
    have hl := lt_of_heap hx
    clear hb
    go_wp2_with (go_at_call 48; (with_reducible refine (C.out _).mono ?_); rintro e w' ⟨rfl, rfl⟩)
    go_region_held3 (fun W => W.cell? ⟨w.heap.size, 1, none⟩ = some (.int .i64 (g : Nat)) ∧ W.cell? (ad.add g) = some (.string m)) (first | exact ⟨e1, c0⟩ | go_keep)
      (first
        | (go_at_call 92; ((with_reducible refine (D.out _ HB.out.drew).mono ?_); rintro e w' ⟨rfl, rfl⟩))
        | fail)
    all_goals (
      go_wp2
      go_ret
      exact ⟨rfl, HB.out.drew⟩)

end Go.Proofs.YtgjiofkjogjhhaaGreatDoor.Ac

namespace Go.Proofs.YtgjiofkjogjhhaaGreatDoor.Ac
open Go Go.RowKit Go.Shelf Go.Proofs.YtgjiofkjogjhhaaGreatDoor.Wd

theorem infoS : (Tryz.prog.info? 9).map (fun i => (i.zero, i.size, i.bytes)) = some (some (.string ⟨#[]⟩), 1, 16) := by kernel_rfl
theorem join_joinW : ∀ l : List (List UInt8), Lib.join l [32] = joinW l
  | [] => rfl
  | [w] => by rw [Lib.join_one]; rfl
  | w :: x :: r => by
    have := join_joinW (x :: r)
    rw [joinW, ← this]
    simp [Lib.join, List.intercalate, List.intersperse]
theorem joinB_eq (ws : List ByteArray) : (⟨(Lib.join (ws.map (·.data.toList)) (⟨#[32]⟩ : ByteArray).data.toList).toArray⟩ : ByteArray) = joinB ws := by
  unfold joinB
  rw [show ((⟨#[32]⟩ : ByteArray).data.toList) = [32] from rfl, join_joinW]
theorem retStr {a b : ByteArray} (h : a = b) : Ending.returned (.string a) = .returned (.string b) := by rw [h]
theorem row_form {w : World} {base n : Nat} {v : Value} {xs : List Value} (h : w.ownsRow base 9 1 v n xs) (hn : 0 < n) : ∃ g cap, v = .slice (some ⟨g, 0, none⟩) n cap ∧ n ≤ cap ∧ g < w.heap.size ∧ ∀ j, j < n → w.cell? ⟨g, j, none⟩ = xs[j]? := by
  rcases h.2 with ⟨_, h0⟩ | ⟨g, cap, cur, rfl, hb, hg, hnc, _⟩
  · omega
  · exact ⟨g, cap, rfl, hnc, lt_of_heap hg, fun j hj => h.cellAt j (by omega)⟩
theorem join_size (ws : List ByteArray) (B : Nat) (h : ∀ w ∈ ws, w.size ≤ B) : (joinW (ws.map (·.data.toList))).length ≤ ws.length * (B + 1) := by
  induction ws with
  | nil => simp [joinW]
  | cons x r ih =>
    have hx := h x (by simp)
    have hr := ih (fun w hw => h w (by simp [hw]))
    have hxl : x.data.toList.length = x.size := rfl
    have e : (r.length + 1) * (B + 1) = r.length * (B + 1) + (B + 1) := by rw [Nat.add_mul, Nat.one_mul]
    cases r with
    | nil => simp [joinW] at hr ⊢; omega
    | cons y t =>
      rw [List.map_cons, List.map_cons, joinW, List.length_append, List.length_cons]
      have hr2 : (joinW (y.data.toList :: t.map (·.data.toList))).length ≤ (y :: t).length * (B + 1) := hr
      show _ ≤ ((y :: t).length + 1) * (B + 1)
      rw [e]
      omega
/-- the joining of a row of texts that the call owns -/
theorem join_any (ws : List ByteArray) (base : Nat) (v : Value) (w : World) (hn : 0 < ws.length) (h4 : ws.length ≤ 4) (h : w.ownsRow base 9 1 v ws.length (ws.map Value.string)) (hs : ∀ x ∈ ws, x.size ≤ 1000000) :
    Calls Tryz.prog 65 #[v, .string ⟨#[32]⟩] w fun e w' => e = .returned (.string (joinB ws)) ∧ Below w.heap.size w w' := by
  obtain ⟨g, cap, rfl, hc, hg, hcell⟩ := row_form h hn
  have := join_size ws 1000000 hs
  refine (Tryz.strings_Join g 0 cap ws ⟨#[32]⟩ w (fun j x hx => ?_) hg (by omega) hc ?_).mono fun e w' hh => ?_
  · have hj : j < ws.length := (List.getElem?_eq_some_iff.1 hx).1
    rw [Nat.zero_add, hcell j hj, List.getElem?_map, hx]; rfl
  · rw [show ((⟨#[32]⟩ : ByteArray).data.toList) = [32] from rfl, join_joinW]; omega
  · rw [joinB_eq] at hh; exact hh
set_option maxRecDepth 100000 in
set_option maxHeartbeats 4000000 in
theorem text_skip (M : List ByteArray) (v : Value) (w : World) (hv : StrsAt w v M) :
    Calls Tryz.prog 47 #[.agg #[.string ⟨#[]⟩, .int .i64 (-1)], v] w fun e w' => e = .returned (.string (joinB [⟨#[115, 107, 105, 112]⟩])) ∧ Below w.heap.size w w' := by
  have RT := fun (W : World) (h : Below w.heap.size w W) => right_neg ⟨#[]⟩ (-1) M v W (hv.next h) (by decide) (.inl rfl) (by omega)
  have RR := Lib.hid RT
  clear RT hv
  obtain ⟨i0, hi, hz0, hz1, hz2⟩ := info_parts infoS
  go_enter Tryz.func47, Tryz.ntmps47
  go_upto_region 1 with fail
  have hb1 := (Below.refl w.heap.size w).alloc (Nat.le_refl _) (.cells #[.string ⟨#[]⟩, .int .i64 (-1)] 34)
  have hx1 : (w.alloc (.cells #[.string ⟨#[]⟩, .int .i64 (-1)] 34)).heap[w.heap.size]? = some (.cells #[.string ⟨#[]⟩, .int .i64 (-1)] 34 (0, 0)) := heap_alloc_new w _
  generalize w.alloc (.cells #[.string ⟨#[]⟩, .int .i64 (-1)] 34) = w1 at *
  obtain ⟨e0, e1⟩ := cells_two hx1
  have hl1 := lt_of_heap hx1
  have B1 := Lib.hid hb1
  clear hb1 hx1
  go_upto_region 3 with (first
    | (go_at_call 64; ((with_reducible refine (RR.out _ B1.out).mono ?_); rintro e w2 ⟨rfl, hb⟩); go_must (replace e0 := cell_next e0 hb; replace e1 := cell_next e1 hb; have hl2 := Nat.lt_of_lt_of_le hl1 hb.size; have B2 := Lib.hid (B1.out.trans (hb.mono B1.out.size)); clear hb))
    | fail)
  clear RR B1 hl1
  have hb3 : Below w.heap.size w (w2.alloc (.cells #[.string ⟨#[115, 107, 105, 112]⟩] 9)) := (B2.out.alloc (by omega) _)
  have ow3 : (w2.alloc (.cells #[.string ⟨#[115, 107, 105, 112]⟩] 9)).ownsRow w.heap.size 9 1 (.slice (some ⟨w2.heap.size, 0, none⟩) 1 1) 1 [.string ⟨#[115, 107, 105, 112]⟩] := by
    have h := World.ownsRow_lit (base := w.heap.size) (e := 9) (size := 1) w2 #[.string ⟨#[115, 107, 105, 112]⟩] 1 (by omega) (by unfold maxLen; omega) rfl
    simpa using h
  go_upto_region 6 with fail
  replace e1 := cell_next e1 ((Below.refl w2.heap.size w2).alloc (Nat.le_refl _) (.cells #[.string ⟨#[115, 107, 105, 112]⟩] 9))
  clear e0
  generalize (w2.alloc (.cells #[.string ⟨#[115, 107, 105, 112]⟩] 9)) = w3 at *
  have hl3 := cell_lt e1
  dsimp only at hl3
  have OW := Lib.hid ow3
  have B3 := Lib.hid hb3
  clear ow3 hb3 hl2 B2
  have SZ : ∀ x ∈ [(⟨#[115, 107, 105, 112]⟩ : ByteArray)], ByteArray.size x ≤ 1000000 := (fun x hx => by
    simp only [List.mem_cons, List.not_mem_nil, or_false] at hx
    subst hx
    decide)
  have HSZ := Lib.hid SZ
  clear SZ
  have JN := Lib.hid (join_any [⟨#[115, 107, 105, 112]⟩] w.heap.size (.slice (some ⟨w2.heap.size, 0, none⟩) 1 1) w3 (by simp) (by simp) OW.out HSZ.out)
  go_wp2_with (go_at_call 65; ((with_reducible refine JN.out.mono ?_); rintro e w4 ⟨rfl, hb⟩); go_must (have B4 := Lib.hid (B3.out.trans (hb.mono B3.out.size)); clear hb))
  go_ret
  exact ⟨rfl, B4.out⟩

set_option maxRecDepth 100000 in
set_option maxHeartbeats 4000000 in
theorem text_skipGo (g : Nat) (M : List ByteArray) (v : Value) (w : World) (hv : StrsAt w v M) (hg : g < M.length) (hq : numL M (M.getD g bE) = (g : Int)) (hM : (M.getD g bE).size ≤ 1000000) :
    Calls Tryz.prog 47 #[.agg #[.string ⟨#[]⟩, .int .i64 (g : Nat)], v] w fun e w' => e = .returned (.string (joinB [⟨#[115, 107, 105, 112]⟩, ⟨#[103, 111, 116, 111]⟩, M.getD g bE])) ∧ Below w.heap.size w w' := by
  have RT := fun (W : World) (h : Below w.heap.size w W) => right_pos ⟨#[]⟩ g M v W (hv.next h) (by decide) (.inl rfl) hg hq
  have RR := Lib.hid RT
  obtain ⟨ao, cap, rfl, hm, hc⟩ := strs_at hv
  obtain ⟨ad, rfl, c0⟩ := hc g hg
  have c3 : (g : Int) < M.length := by omega
  have c4 : (0 : Int) ≤ g := by omega
  have d4 : ((g : Int) == -1) = false := by first | (simp; done) | (simp; omega)
  generalize M.getD g bE = m at *
  have HMS := Lib.hid hM
  have C0 := Lib.hid c0
  clear c0 hc hM hq
  clear RT hv
  obtain ⟨i0, hi, hz0, hz1, hz2⟩ := info_parts infoS
  go_enter Tryz.func47, Tryz.ntmps47
  go_upto_region 1 with fail
  have hb1 := (Below.refl w.heap.size w).alloc (Nat.le_refl _) (.cells #[.string ⟨#[]⟩, .int .i64 (g : Nat)] 34)
  have hx1 : (w.alloc (.cells #[.string ⟨#[]⟩, .int .i64 (g : Nat)] 34)).heap[w.heap.size]? = some (.cells #[.string ⟨#[]⟩, .int .i64 (g : Nat)] 34 (0, 0)) := heap_alloc_new w _
  generalize w.alloc (.cells #[.string ⟨#[]⟩, .int .i64 (g : Nat)] 34) = w1 at *
  obtain ⟨e0, e1⟩ := cells_two hx1
  have hl1 := lt_of_heap hx1
  have B1 := Lib.hid hb1
  clear hb1 hx1
  go_upto_region 3 with (first
    | (go_at_call 64; ((with_reducible refine (RR.out _ B1.out).mono ?_); rintro e w2 ⟨rfl, hb⟩); go_must (replace e0 := cell_next e0 hb; replace e1 := cell_next e1 hb; have hl2 := Nat.lt_of_lt_of_le hl1 hb.size; have B2 := Lib.hid (B1.out.trans (hb.mono B1.out.size)); clear hb))
    | fail)
  clear RR B1 hl1
  have hb3 : Below w.heap.size w (w2.alloc (.cells #[.string ⟨#[115, 107, 105, 112]⟩] 9)) := (B2.out.alloc (by omega) _)
  have ow3 : (w2.alloc (.cells #[.string ⟨#[115, 107, 105, 112]⟩] 9)).ownsRow w.heap.size 9 1 (.slice (some ⟨w2.heap.size, 0, none⟩) 1 1) 1 [.string ⟨#[115, 107, 105, 112]⟩] := by
    have h := World.ownsRow_lit (base := w.heap.size) (e := 9) (size := 1) w2 #[.string ⟨#[115, 107, 105, 112]⟩] 1 (by omega) (by unfold maxLen; omega) rfl
    simpa using h
  go_upto_region 6 with fail
  replace e1 := cell_next e1 ((Below.refl w2.heap.size w2).alloc (Nat.le_refl _) (.cells #[.string ⟨#[115, 107, 105, 112]⟩] 9))
  clear e0
  generalize (w2.alloc (.cells #[.string ⟨#[115, 107, 105, 112]⟩] 9)) = w3 at *
  have hl3 := cell_lt e1
  dsimp only at hl3
  have OW := Lib.hid ow3
  have B3 := Lib.hid hb3
  clear ow3 hb3 hl2 B2
  have c0 := cell_next C0.out B3.out
  have SZ : ∀ x ∈ [(⟨#[115, 107, 105, 112]⟩ : ByteArray), (⟨#[103, 111, 116, 111]⟩ : ByteArray), (m : ByteArray)], ByteArray.size x ≤ 1000000 := (fun x hx => by
    simp only [List.mem_cons, List.not_mem_nil, or_false] at hx
    rcases hx with rfl | rfl | rfl
    · decide
    · decide
    · exact HMS.out)
  have HSZ := Lib.hid SZ
  clear SZ
  go_upto_region 8 with (first
    | (at_builtin; refine wpList_append_own _ rfl _ _ 22 rfl w.heap.size 9 i0 (.string ⟨#[]⟩) 1 16 Tryz.underlying22 hi hz0 hz1 hz2 rfl (by decide) (.slice (some ⟨w2.heap.size, 0, none⟩) 1 1) 1 [.string ⟨#[115, 107, 105, 112]⟩] rfl (OW.out.alloc _) ⟨w3.heap.size, 0, none⟩ 2 2 [.string ⟨#[103, 111, 116, 111]⟩, .string m] rfl rfl (World.news_of_block (World.alloc_heap_new w3 _)) (by simp [Value.oneCell']) (by unfold maxLen; omega) (by omega) (by simp; omega) ?_; intro v5 w5 hown hgrow _; go_must (have JN := Lib.hid (join_any [⟨#[115, 107, 105, 112]⟩, ⟨#[103, 111, 116, 111]⟩, m] w.heap.size v5 w5 (by simp) (by simp) hown HSZ.out); have B5 := Lib.hid ((B3.out.alloc (by omega) (.cells #[.string ⟨#[103, 111, 116, 111]⟩, .string m] 9)).grown hgrow (by simp; omega) (fun k hk => ((OW.out.alloc (.cells #[.string ⟨#[103, 111, 116, 111]⟩, .string m] 9)).lt k hk).1)); clear hown hgrow))
    | fail)
  go_wp2_with (go_at_call 65; ((with_reducible refine JN.out.mono ?_); rintro e w6 ⟨rfl, hb⟩); go_must (have B6 := Lib.hid (B5.out.trans (hb.mono B5.out.size)); clear hb))
  go_ret
  exact ⟨rfl, B6.out⟩

set_option maxRecDepth 100000 in
set_option maxHeartbeats 4000000 in
theorem text_emit (em : ByteArray) (M : List ByteArray) (v : Value) (w : World) (hv : StrsAt w v M) (hs : em.size ≤ 1000000) (hn : nameL em.data.toList = true) :
    Calls Tryz.prog 47 #[.agg #[.string em, .int .i64 (-1)], v] w fun e w' => e = .returned (.string (joinB [⟨#[101, 109, 105, 116]⟩, em])) ∧ Below w.heap.size w w' := by
  have hne := name_ne hn
  have d0 := isE_no hne
  have d1 := empty_no hne
  have RT := fun (W : World) (h : Below w.heap.size w W) => right_neg em (-1) M v W (hv.next h) hs (.inr hn) (by omega)
  have RR := Lib.hid RT
  have HES := Lib.hid hs
  clear hn hs hne
  clear RT hv
  obtain ⟨i0, hi, hz0, hz1, hz2⟩ := info_parts infoS
  go_enter Tryz.func47, Tryz.ntmps47
  go_upto_region 1 with fail
  have hb1 := (Below.refl w.heap.size w).alloc (Nat.le_refl _) (.cells #[.string em, .int .i64 (-1)] 34)
  have hx1 : (w.alloc (.cells #[.string em, .int .i64 (-1)] 34)).heap[w.heap.size]? = some (.cells #[.string em, .int .i64 (-1)] 34 (0, 0)) := heap_alloc_new w _
  generalize w.alloc (.cells #[.string em, .int .i64 (-1)] 34) = w1 at *
  obtain ⟨e0, e1⟩ := cells_two hx1
  have hl1 := lt_of_heap hx1
  have B1 := Lib.hid hb1
  clear hb1 hx1
  go_upto_region 3 with (first
    | (go_at_call 64; ((with_reducible refine (RR.out _ B1.out).mono ?_); rintro e w2 ⟨rfl, hb⟩); go_must (replace e0 := cell_next e0 hb; replace e1 := cell_next e1 hb; have hl2 := Nat.lt_of_lt_of_le hl1 hb.size; have B2 := Lib.hid (B1.out.trans (hb.mono B1.out.size)); clear hb))
    | fail)
  clear RR B1 hl1
  have hb3 : Below w.heap.size w ((w2.alloc (.cells #[.string ⟨#[115, 107, 105, 112]⟩] 9)).alloc (.cells #[.string ⟨#[101, 109, 105, 116]⟩, .string em] 9)) := ((B2.out.alloc (by omega) _).alloc (by simp; omega) _)
  have ow3 : ((w2.alloc (.cells #[.string ⟨#[115, 107, 105, 112]⟩] 9)).alloc (.cells #[.string ⟨#[101, 109, 105, 116]⟩, .string em] 9)).ownsRow w.heap.size 9 1 (.slice (some ⟨w2.heap.size + 1, 0, none⟩) 2 2) 2 [.string ⟨#[101, 109, 105, 116]⟩, .string em] := by
    have h := World.ownsRow_lit (base := w.heap.size) (e := 9) (size := 1) (w2.alloc (.cells #[.string ⟨#[115, 107, 105, 112]⟩] 9)) #[.string ⟨#[101, 109, 105, 116]⟩, .string em] 2 (by simp; omega) (by unfold maxLen; omega) rfl
    simpa using h
  go_upto_region 6 with fail
  replace e1 := cell_next e1 (((Below.refl w2.heap.size w2).alloc (Nat.le_refl _) (.cells #[.string ⟨#[115, 107, 105, 112]⟩] 9)).alloc (by simp) (.cells #[.string ⟨#[101, 109, 105, 116]⟩, .string em] 9))
  clear e0
  generalize ((w2.alloc (.cells #[.string ⟨#[115, 107, 105, 112]⟩] 9)).alloc (.cells #[.string ⟨#[101, 109, 105, 116]⟩, .string em] 9)) = w3 at *
  have hl3 := cell_lt e1
  dsimp only at hl3
  have OW := Lib.hid ow3
  have B3 := Lib.hid hb3
  clear ow3 hb3 hl2 B2
  have SZ : ∀ x ∈ [(⟨#[101, 109, 105, 116]⟩ : ByteArray), (em : ByteArray)], ByteArray.size x ≤ 1000000 := (fun x hx => by
    simp only [List.mem_cons, List.not_mem_nil, or_false] at hx
    rcases hx with rfl | rfl
    · decide
    · exact HES.out)
  have HSZ := Lib.hid SZ
  clear SZ
  have JN := Lib.hid (join_any [⟨#[101, 109, 105, 116]⟩, em] w.heap.size (.slice (some ⟨w2.heap.size + 1, 0, none⟩) 2 2) w3 (by simp) (by simp) OW.out HSZ.out)
  go_wp2_with (go_at_call 65; ((with_reducible refine JN.out.mono ?_); rintro e w4 ⟨rfl, hb⟩); go_must (have B4 := Lib.hid (B3.out.trans (hb.mono B3.out.size)); clear hb))
  go_ret
  exact ⟨rfl, B4.out⟩

set_option maxRecDepth 100000 in
set_option maxHeartbeats 4000000 in
theorem text_emitGo (em : ByteArray) (g : Nat) (M : List ByteArray) (v : Value) (w : World) (hv : StrsAt w v M) (hs : em.size ≤ 1000000) (hn : nameL em.data.toList = true) (hg : g < M.length) (hq : numL M (M.getD g bE) = (g : Int)) (hM : (M.getD g bE).size ≤ 1000000) :
    Calls Tryz.prog 47 #[.agg #[.string em, .int .i64 (g : Nat)], v] w fun e w' => e = .returned (.string (joinB [⟨#[101, 109, 105, 116]⟩, em, ⟨#[103, 111, 116, 111]⟩, M.getD g bE])) ∧ Below w.heap.size w w' := by
  have hne := name_ne hn
  have d0 := isE_no hne
  have d1 := empty_no hne
  have RT := fun (W : World) (h : Below w.heap.size w W) => right_pos em g M v W (hv.next h) hs (.inr hn) hg hq
  have RR := Lib.hid RT
  obtain ⟨ao, cap, rfl, hm, hc⟩ := strs_at hv
  obtain ⟨ad, rfl, c0⟩ := hc g hg
  have c3 : (g : Int) < M.length := by omega
  have c4 : (0 : Int) ≤ g := by omega
  have d4 : ((g : Int) == -1) = false := by first | (simp; done) | (simp; omega)
  generalize M.getD g bE = m at *
  have HMS := Lib.hid hM
  have C0 := Lib.hid c0
  clear c0 hc hM hq
  have HES := Lib.hid hs
  clear hn hs hne
  clear RT hv
  obtain ⟨i0, hi, hz0, hz1, hz2⟩ := info_parts infoS
  go_enter Tryz.func47, Tryz.ntmps47
  go_upto_region 1 with fail
  have hb1 := (Below.refl w.heap.size w).alloc (Nat.le_refl _) (.cells #[.string em, .int .i64 (g : Nat)] 34)
  have hx1 : (w.alloc (.cells #[.string em, .int .i64 (g : Nat)] 34)).heap[w.heap.size]? = some (.cells #[.string em, .int .i64 (g : Nat)] 34 (0, 0)) := heap_alloc_new w _
  generalize w.alloc (.cells #[.string em, .int .i64 (g : Nat)] 34) = w1 at *
  obtain ⟨e0, e1⟩ := cells_two hx1
  have hl1 := lt_of_heap hx1
  have B1 := Lib.hid hb1
  clear hb1 hx1
  go_upto_region 3 with (first
    | (go_at_call 64; ((with_reducible refine (RR.out _ B1.out).mono ?_); rintro e w2 ⟨rfl, hb⟩); go_must (replace e0 := cell_next e0 hb; replace e1 := cell_next e1 hb; have hl2 := Nat.lt_of_lt_of_le hl1 hb.size; have B2 := Lib.hid (B1.out.trans (hb.mono B1.out.size)); clear hb))
    | fail)
  clear RR B1 hl1
  have hb3 : Below w.heap.size w ((w2.alloc (.cells #[.string ⟨#[115, 107, 105, 112]⟩] 9)).alloc (.cells #[.string ⟨#[101, 109, 105, 116]⟩, .string em] 9)) := ((B2.out.alloc (by omega) _).alloc (by simp; omega) _)
  have ow3 : ((w2.alloc (.cells #[.string ⟨#[115, 107, 105, 112]⟩] 9)).alloc (.cells #[.string ⟨#[101, 109, 105, 116]⟩, .string em] 9)).ownsRow w.heap.size 9 1 (.slice (some ⟨w2.heap.size + 1, 0, none⟩) 2 2) 2 [.string ⟨#[101, 109, 105, 116]⟩, .string em] := by
    have h := World.ownsRow_lit (base := w.heap.size) (e := 9) (size := 1) (w2.alloc (.cells #[.string ⟨#[115, 107, 105, 112]⟩] 9)) #[.string ⟨#[101, 109, 105, 116]⟩, .string em] 2 (by simp; omega) (by unfold maxLen; omega) rfl
    simpa using h
  go_upto_region 6 with fail
  replace e1 := cell_next e1 (((Below.refl w2.heap.size w2).alloc (Nat.le_refl _) (.cells #[.string ⟨#[115, 107, 105, 112]⟩] 9)).alloc (by simp) (.cells #[.string ⟨#[101, 109, 105, 116]⟩, .string em] 9))
  clear e0
  generalize ((w2.alloc (.cells #[.string ⟨#[115, 107, 105, 112]⟩] 9)).alloc (.cells #[.string ⟨#[101, 109, 105, 116]⟩, .string em] 9)) = w3 at *
  have hl3 := cell_lt e1
  dsimp only at hl3
  have OW := Lib.hid ow3
  have B3 := Lib.hid hb3
  clear ow3 hb3 hl2 B2
  have c0 := cell_next C0.out B3.out
  have SZ : ∀ x ∈ [(⟨#[101, 109, 105, 116]⟩ : ByteArray), (em : ByteArray), (⟨#[103, 111, 116, 111]⟩ : ByteArray), (m : ByteArray)], ByteArray.size x ≤ 1000000 := (fun x hx => by
    simp only [List.mem_cons, List.not_mem_nil, or_false] at hx
    rcases hx with rfl | rfl | rfl | rfl
    · decide
    · exact HES.out
    · decide
    · exact HMS.out)
  have HSZ := Lib.hid SZ
  clear SZ
  go_upto_region 8 with (first
    | (at_builtin; refine wpList_append_own _ rfl _ _ 22 rfl w.heap.size 9 i0 (.string ⟨#[]⟩) 1 16 Tryz.underlying22 hi hz0 hz1 hz2 rfl (by decide) (.slice (some ⟨w2.heap.size + 1, 0, none⟩) 2 2) 2 [.string ⟨#[101, 109, 105, 116]⟩, .string em] rfl (OW.out.alloc _) ⟨w3.heap.size, 0, none⟩ 2 2 [.string ⟨#[103, 111, 116, 111]⟩, .string m] rfl rfl (World.news_of_block (World.alloc_heap_new w3 _)) (by simp [Value.oneCell']) (by unfold maxLen; omega) (by omega) (by simp; omega) ?_; intro v5 w5 hown hgrow _; go_must (have JN := Lib.hid (join_any [⟨#[101, 109, 105, 116]⟩, em, ⟨#[103, 111, 116, 111]⟩, m] w.heap.size v5 w5 (by simp) (by simp) hown HSZ.out); have B5 := Lib.hid ((B3.out.alloc (by omega) (.cells #[.string ⟨#[103, 111, 116, 111]⟩, .string m] 9)).grown hgrow (by simp; omega) (fun k hk => ((OW.out.alloc (.cells #[.string ⟨#[103, 111, 116, 111]⟩, .string m] 9)).lt k hk).1)); clear hown hgrow))
    | fail)
  go_wp2_with (go_at_call 65; ((with_reducible refine JN.out.mono ?_); rintro e w6 ⟨rfl, hb⟩); go_must (have B6 := Lib.hid (B5.out.trans (hb.mono B5.out.size)); clear hb))
  go_ret
  exact ⟨rfl, B6.out⟩


end Go.Proofs.YtgjiofkjogjhhaaGreatDoor.Ac

namespace Go.Proofs.YtgjiofkjogjhhaaGreatDoor.Bd
open Go.RowKit

theorem sizeB : (Tryz.prog.info? 53).map (·.size) = some 2 := by kernel_rfl
theorem liesB : liesAt Tryz.prog Tryz.prog.depth 53 (2 / Tryz.prog.cellsOf 53) 0 53 1 = true := by kernel_rfl
theorem infoU : (Tryz.prog.info? 5).map (fun i => (i.zero, i.size, i.bytes)) = some (some (.int .u8 0), 1, 1) := by kernel_rfl

set_option maxRecDepth 100000 in
theorem check_used (b : Nat) (w : World) (h0 : w.cell? ⟨b, 0, none⟩ = some (.pointer (some ⟨b, 0, none⟩))) :
    Calls Tryz.prog 45 #[.pointer (some ⟨b, 0, none⟩)] w fun e w' => e = .returned (.tuple #[]) ∧ w' = w := by
  obtain ⟨j, hj, _⟩ := Option.map_eq_some_iff.1 sizeB
  go_enter Tryz.func45, Tryz.ntmps45
  go_wp2
  rw [Lib.run_neq_ptr_same w _ Tryz.underlying50 hj]
  go_wp2
  go_end0
  exact ⟨rfl, rfl⟩

set_option maxRecDepth 100000 in
theorem check_fresh (b : Nat) (w : World) (h0 : w.cell? ⟨b, 0, none⟩ = some (.pointer none)) (hsh : w.shape? b = some (53, 2)) (hfz : w.frozen? ⟨b, 0, none⟩ = false) :
    Calls Tryz.prog 45 #[.pointer (some ⟨b, 0, none⟩)] w fun e w' => e = .returned (.tuple #[]) ∧ w' = w.setCell ⟨b, 0, none⟩ (.pointer (some ⟨b, 0, none⟩)) := by
  obtain ⟨j, hj, hjs⟩ := Option.map_eq_some_iff.1 sizeB
  go_enter Tryz.func45, Tryz.ntmps45
  go_wp2
  rw [Lib.run_to_unsafe w ⟨b, 0, none⟩ Tryz.underlying50 Tryz.underlying96 hj (by rw [hjs]; decide) hsh (Nat.zero_lt_succ 1)]
  simp only [Result.andThen]
  rw [Oper.upon_value]
  go_wp2
  rw [run_callFunc_extern Tryz.func60 (by kernel_rfl) (by kernel_rfl) (by kernel_rfl) (e := Extern.AbiNoEscape.same) (by kernel_rfl)]
  rw [Lib.run_noEscape]
  simp only [Result.andThen]
  rw [Oper.upon_value]
  go_wp2
  rw [Lib.run_from_unsafe w ⟨b, 0, none⟩ Tryz.underlying96 Tryz.underlying50 hj hsh liesB]
  simp only [Result.andThen]
  rw [Oper.upon_value]
  go_wp2
  go_end0
  exact ⟨rfl, rfl⟩

/-- what a write leaves alone: all below the builder, and all that is no row of bytes -/
structure Wr (B b : Nat) (w w' : World) : Prop where
  below : Below B w w'
  oth : Lib.OthersKept 5 (some b) w w'
theorem Wr.refl (B b : Nat) (w : World) : Wr B b w w := ⟨Below.refl _ _, Lib.OthersKept.refl _ _ _⟩
theorem Wr.trans {B b : Nat} {w w' w'' : World} (h : Wr B b w w') (k : Wr B b w' w'') : Wr B b w w'' := ⟨h.below.trans k.below, h.oth.trans k.oth⟩
theorem Wr.alloc {B b : Nat} {w w' : World} (h : Wr B b w w') (hB : B ≤ w'.heap.size) (o : Obj) : Wr B b w (w'.alloc o) := ⟨h.below.alloc hB o, h.oth.alloc o⟩
theorem Wr.size {B b : Nat} {w w' : World} (h : Wr B b w w') : w.heap.size ≤ w'.heap.size := h.below.size
theorem Wr.of_below {B b : Nat} {w w' : World} (h : Below w.heap.size w w') (hB : B ≤ w.heap.size) : Wr B b w w' :=
  ⟨h.mono hB, fun k _ hk _ _ => (h.block k (Array.getElem?_eq_some_iff.1 hk).1).trans hk⟩
theorem Wr.mono {B C b : Nat} {w w' : World} (h : Wr B b w w') (hC : C ≤ B) : Wr C b w w' := ⟨h.below.mono hC, h.oth⟩

abbrev IsB (B b : Nat) (l : List UInt8) (w : World) : Prop := Lib.IsBuilderF 53 5 B b (Lib.byteCells l) w
theorem IsB.lt {B b : Nat} {l : List UInt8} {w : World} (h : IsB B b l w) : b < w.heap.size := by
  rcases h with h | h
  · exact h.lt
  · exact h.lt
theorem IsB.le {B b : Nat} {l : List UInt8} {w : World} (h : IsB B b l w) : B ≤ b := by
  rcases h with h | h
  · exact h.1
  · exact h.1
/-- a call that turns nothing that stood -/
theorem IsB.next {B b : Nat} {l : List UInt8} {w w' : World} (h : IsB B b l w) (hb : Below w.heap.size w w') : IsB B b l w' := by
  have h1 : ∀ p, Lib.BuilderAtF 53 5 B b p (Lib.byteCells l) w → Lib.BuilderAtF 53 5 B b p (Lib.byteCells l) w' := by
    intro p hp
    have hlt := hp.lt
    obtain ⟨hB, v, hk, hown, hne⟩ := hp
    refine ⟨hB, v, (hb.block b hlt).trans hk, hown.kept (Go.Proofs.YtgjiofkjogjhhaaGreatDoor.grown_below hb) ?_, hne⟩
    cases hv : v.ownBlock <;> simp
  exact h.elim (fun x => .inl (h1 _ x)) (fun x => .inr (h1 _ x))

theorem check_any (B b : Nat) (bs : List Value) (w : World) (h : Lib.IsBuilderF 53 5 B b bs w) :
    Calls Tryz.prog 45 #[.pointer (some ⟨b, 0, none⟩)] w fun e w' => e = .returned (.tuple #[]) ∧ Lib.BuilderAtF 53 5 B b (.pointer (some ⟨b, 0, none⟩)) bs w' ∧ Wr B b w w' := by
  rcases h with h | h
  · refine (check_fresh b w h.cell0 h.shape h.frozen0).mono ?_
    rintro e w' ⟨rfl, rfl⟩
    exact ⟨rfl, h.used _, (Below.refl B w).setCell (p := ⟨b, 0, none⟩) h.1 _, (Lib.OthersKept.refl _ _ w).setCell ⟨b, 0, none⟩ rfl _⟩
  · refine (check_used b w h.cell0).mono ?_
    rintro e w' ⟨rfl, rfl⟩
    exact ⟨rfl, h, Wr.refl _ _ _⟩

theorem str_cells (s : ByteArray) : Lib.strCells s = Lib.byteCells s.data.toList := rfl
theorem cells_append (l k : List UInt8) : Lib.byteCells (l ++ k) = Lib.byteCells l ++ Lib.byteCells k := by simp [Lib.byteCells]
theorem cells_length (l : List UInt8) : (Lib.byteCells l).length = l.length := by simp [Lib.byteCells]

set_option maxHeartbeats 2000000 in
set_option maxRecDepth 100000 in
theorem write_string (B b : Nat) (l s : List UInt8) (w : World) (h : IsB B b l w) (hlen : l.length + s.length ≤ 140737488355328) :
    Calls Tryz.prog 21 #[.pointer (some ⟨b, 0, none⟩), .string ⟨s.toArray⟩] w fun e w' => e = .returned (.tuple #[.int .i64 (s.length : Int), .nilIface]) ∧ IsB B b (l ++ s) w' ∧ Wr B b w w' := by
  obtain ⟨i0, hi, hz0, hz1, hz2⟩ := info_parts infoU
  have hBb := h.le
  have hbw := h.lt
  have hcl : (Lib.byteCells l).length = l.length := cells_length l
  have hss : (⟨s.toArray⟩ : ByteArray).size = s.length := by simp [ByteArray.size]
  go_enter Tryz.func21, Tryz.ntmps21
  go_wp2_with (go_at_call 45; refine (check_any B b _ _ h).mono ?_)
  rintro e w1 ⟨rfl, ⟨hB, v, hbk, hown, hne⟩, hw1⟩
  have hsz := hw1.size
  have hlt : b < w1.heap.size := (Array.getElem?_eq_some_iff.1 hbk).1
  have c0 : w1.cell? ⟨b, 0, none⟩ = some (.pointer (some ⟨b, 0, none⟩)) := by rw [Lib.cell_of_heap hbk]; rfl
  have c1 : w1.cell? ⟨b, 1, none⟩ = some v := by rw [Lib.cell_of_heap hbk]; rfl
  go_wp2_with (at_builtin; refine Lib.wpList_append_own_stringF _ rfl _ _ 51 9 rfl B 5 i0 Tryz.underlying51 Tryz.underlying9 hi hz0 hz1 hz2 _ _ _ rfl hown ⟨s.toArray⟩ rfl ?c3 ?c4 ?c5 ?_)
  case c3 => rw [hcl, hss]; unfold maxLen; omega
  case c4 => rw [hcl, hss]; omega
  case c5 => omega
  intro v' w2 hown' hgrow _
  have hb2 : w2.heap[b]? = some (.cells #[.pointer (some ⟨b, 0, none⟩), v] 53 (0, 0)) := by
    rw [hgrow.block b hlt (fun e => hne e.symm)]
    exact hbk
  have d0 : w2.cell? ⟨b, 0, none⟩ = some (.pointer (some ⟨b, 0, none⟩)) := by rw [Lib.cell_of_heap hb2]; rfl
  have d1 : w2.cell? ⟨b, 1, none⟩ = some v := by rw [Lib.cell_of_heap hb2]; rfl
  have f1 : w2.frozen? ⟨b, 1, none⟩ = false := Lib.frozen_of_heap hb2 1
  obtain ⟨ao, n', cap, rfl⟩ : ∃ ao n' cap, v' = .slice ao n' cap := by
    rcases hown'.2 with ⟨hv, _⟩ | ⟨g, cap, cur, fz, hv, _⟩
    · exact ⟨_, _, _, hv⟩
    · exact ⟨_, _, _, hv⟩
  go_wp2
  go_ret2
  refine ⟨rfl, .inr ?_, ?_, (hw1.oth.grown hgrow (Lib.ownsRowF_kind hown)).setCell ⟨b, 1, none⟩ rfl _⟩
  · refine Lib.BuilderAtF.put (T := 53) (e := 5) hB hb2 (bs' := Lib.byteCells (l ++ s)) ?_ (by decide)
    rw [cells_append, List.length_append, cells_length, cells_length]
    exact hown'
  · exact (hw1.below.grown hgrow (by omega) (fun k hk => (hown.lt k hk).1)).setCell (p := ⟨b, 1, none⟩) hB _

/-- what a write keeps of a box -/
theorem Wr.box {B b k : Nat} {w w' : World} {c : Array Value} {t : TypeId} {fz : Nat × Nat} (h : Wr B b w w') (hk : w.heap[k]? = some (.cells c t fz)) (hkb : k ≠ b) (ht : t ≠ 5) : w'.heap[k]? = some (.cells c t fz) :=
  h.oth k _ hk (fun e => hkb (Option.some.inj e)) (fun c' fz' e => ht (by injection e))
theorem Wr.cell {B b k o : Nat} {w w' : World} {c : Array Value} {t : TypeId} {fz : Nat × Nat} {v : Value} (h : Wr B b w w') (hk : w.heap[k]? = some (.cells c t fz)) (hkb : k ≠ b) (ht : t ≠ 5) (hc : w.cell? ⟨k, o, none⟩ = some v) : w'.cell? ⟨k, o, none⟩ = some v :=
  (World.cell?_of_block ((h.box hk hkb ht).trans hk.symm)).trans hc

end Go.Proofs.YtgjiofkjogjhhaaGreatDoor.Bd

namespace Go.Proofs.YtgjiofkjogjhhaaGreatDoor.Dg
open Go.RowKit

theorem below_grow (w : World) (k : Nat) (os : Array Obj) : Below w.heap.size w (Go.Sort.grow (w.drewN k) os) :=
  ⟨rfl, rfl, rfl, by simp [Go.Sort.grow], fun j hj => by
    show ((w.drewN k).heap ++ os)[j]? = _
    rw [Array.getElem?_append_left (by simpa using hj)]; rfl⟩

/-- the tables are as the program's text lays them -/
structure St (w : World) : Prop where
  tab : Tab w
  pow : Lib.TabIs Tryz.prog w "internal/strconv.uint64pow10" .u64 Lib.pow10Tab

theorem St.next {w w' : World} (h : St w) (hb : Below w.heap.size w w') : St w' :=
  ⟨fun k hk => (hb.cell (p := ⟨1, k, none⟩) (tab_lt h.tab)).trans (h.tab k hk), by
    have hp := h.pow
    unfold Lib.TabIs World.var? at *
    cases hg : Tryz.prog.globalNamed "internal/strconv.uint64pow10" with
    | none => simp [hg] at hp
    | some g =>
      simp only [hg, Option.bind_some] at hp ⊢
      have hlt : g < w.heap.size := by
        rcases Nat.lt_or_ge g w.heap.size with h' | h'
        · exact h'
        · rw [Array.getElem?_eq_none h'] at hp; simp at hp
      rw [hb.block g hlt]
      exact hp⟩

set_option maxRecDepth 100000 in
set_option maxHeartbeats 400000 in
theorem text_any (n : Int) (w : World) (h0 : -9223372036854775808 ≤ n) (h1 : n ≤ 9223372036854775807) (hs : St w) :
    Calls Tryz.prog 117 #[.int .i64 n] w fun e w' => e = .returned (.string ⟨(Lib.itoa n).toArray⟩) ∧ Below w.heap.size w w' := by
  have HS := Lib.hid hs
  clear hs
  go_enter Tryz.func117, Tryz.ntmps117
  go_wp2_with (go_at_call 129; refine (Tryz.strconv_Itoa n h0 h1 _ HS.out.pow).mono ?_; rintro e w' ⟨rfl, k, os, rfl⟩)
  go_ret
  exact ⟨rfl, below_grow _ _ _⟩

end Go.Proofs.YtgjiofkjogjhhaaGreatDoor.Dg

namespace Go.Proofs.YtgjiofkjogjhhaaGreatDoor.Rp
open Go Go.RowKit Go.Shelf
open Go.Proofs.YtgjiofkjogjhhaaGreatDoor.Rg (R RngsAt nth setFrom rightB rightB_iff right_any rightB_of of_any SetOut hasB inB inB_set inB_isC isC uniq set_all rngs_of_row set_any none_at holdB)
open Go.Proofs.YtgjiofkjogjhhaaGreatDoor.Bd (Wr IsB write_string)

/-- the tables -/
abbrev St := Dg.St
structure Gr (w0 w : World) : Prop where
  st : St w0
  b : Below w0.heap.size w0 w
theorem Gr.start {w : World} (h : St w) : Gr w w := ⟨h, Below.refl _ _⟩
theorem Gr.here {w0 w : World} (h : Gr w0 w) : St w := h.st.next h.b
theorem Gr.on {w0 w w' : World} (h : Gr w0 w) (hb : Below w.heap.size w w') : Gr w0 w' := ⟨h.st, h.b.trans (hb.mono h.b.size)⟩

theorem right_b (l : List R) (v : Value) (w : World) (h : RngsAt w v l) : Calls Tryz.prog 87 #[v] w fun e w' => e = .returned (.bool (rightB l)) ∧ Below w.heap.size w w' := by
  refine (right_any l v w h).mono ?_
  rintro e w' ⟨b, rfl, hb, h2⟩
  exact ⟨by rw [rightB_of hb], h2⟩

set_option maxRecDepth 100000 in
set_option maxHeartbeats 400000 in
theorem only_any (c : Int) (w : World) : Calls Tryz.prog 114 #[.int .i64 c] w fun e w' => e = .returned (.agg #[.int .i64 c, .int .i64 c]) ∧ Below w.heap.size w w' := by
  go_enter Tryz.func114, Tryz.ntmps114
  go_wp2
  (try simp only [Exit.inBlock, Exit.then])
  refine bodyPost_ret (results_cell_row rfl _ _ w.heap.size 75 #[.int .i64 c, .int .i64 c] (0, 0) _ rfl (heap_alloc_new _ _) Tryz.underlying75 rfl (by kernel_rfl)) rfl ?_
  exact ⟨rfl, (Below.refl w.heap.size w).alloc (Nat.le_refl _) _⟩

/-- the number of a set of just one -/
def oneB (l : List R) : Bool := decide (l.length = 1) && decide ((nth l 0).1 = (nth l 0).2)
def oneN (l : List R) : Int := if oneB l = true then (nth l 0).1 else 0
theorem oneN_no {l : List R} (h : oneB l = false) : oneN l = 0 := by unfold oneN; rw [if_neg (by rw [h]; simp)]
theorem oneN_yes {l : List R} (h : oneB l = true) : oneN l = (nth l 0).1 := by unfold oneN; rw [if_pos h]
theorem ret_ib {a c : Int} {b d : Bool} (h1 : a = c) (h2 : b = d) : Ending.returned (.tuple #[.int .i64 a, .bool b]) = .returned (.tuple #[.int .i64 c, .bool d]) := by rw [h1, h2]

set_option maxRecDepth 100000 in
set_option maxHeartbeats 1600000 in
theorem one_any (l : List R) (v : Value) (w : World) (hv : RngsAt w v l) (hr : rightB l = true) :
    Calls Tryz.prog 104 #[v] w fun e w' => e = .returned (.tuple #[.int .i64 (oneN l), .bool (oneB l)]) ∧ Below w.heap.size w w' := by
  have CR := Lib.hid (fun W (hb : Below w.heap.size w W) => right_b l v W (hv.next hb))
  rw [hr] at CR
  obtain ⟨ao, cap, rfl, hm, hcs⟩ := hv.shape
  by_cases h1 : l.length = 1
  · obtain ⟨g, rfl, c0, c1⟩ := hcs 0 (by omega)
    have CO := Lib.hid (fun W => only_any (nth l 0).1 W)
    have HO := Lib.hid (show oneB l = decide ((nth l 0).1 = (nth l 0).2) by unfold oneB; rw [decide_eq_true h1, Bool.true_and])
    have HN := Lib.hid (fun h => oneN_yes (l := l) h)
    have HM := Lib.hid (fun h => oneN_no (l := l) h)
    have hg : g.add (0 * 2) = g := by simp [Addr.add]
    rw [hg] at c0 c1
    generalize oneN l = N at *
    generalize oneB l = b at *
    generalize (nth l 0).1 = x at *
    generalize (nth l 0).2 = y at *
    rw [h1] at CR ⊢
    have q0 : w.drew.cell? g = some (.int .i64 x) := c0
    have q1 : w.drew.cell? ⟨g.block, g.off + 1, none⟩ = some (.int .i64 y) := c1
    have q2 : Below w.heap.size w w.drew := (Below.refl _ _).drew
    clear hcs hv hr hg hm
    by_cases hxy : x = y
    · subst hxy
      have HB := Lib.hid (show b = true by rw [HO.out]; simp)
      clear HO HM
      go_enter Tryz.func104, Tryz.ntmps104
      go_wp2
      go_region_held3 (fun W => W.cell? g = some (.int .i64 x) ∧ W.cell? ⟨g.block, g.off + 1, none⟩ = some (.int .i64 x) ∧ Below w.heap.size w W) (first | exact ⟨by assumption, by assumption, by assumption⟩ | go_keep)
        (first
          | (go_at_call 87; (with_reducible refine (CR.out _ (by assumption)).mono ?_); rintro e w1 ⟨rfl, hb1⟩; go_must (have r0 := cell_next (a := g) (v := .int .i64 x) (by assumption) hb1; have r1 := cell_next (a := ⟨g.block, g.off + 1, none⟩) (v := .int .i64 x) (by assumption) hb1; have r2 := Below.trans (show Below w.heap.size w _ by assumption) (hb1.mono (Below.size (show Below w.heap.size w _ by assumption)))))
          | (go_at_call 114; (with_reducible refine (CO.out _).mono ?_); rintro e w1 ⟨rfl, hb1⟩; go_must (have r0 := cell_next (a := g) (v := .int .i64 x) (by assumption) hb1; have r1 := cell_next (a := ⟨g.block, g.off + 1, none⟩) (v := .int .i64 x) (by assumption) hb1; have r2 := Below.trans (show Below w.heap.size w _ by assumption) (hb1.mono (Below.size (show Below w.heap.size w _ by assumption)))))
          | fail)
      all_goals (
        go_wp2
        go_ret2
        exact ⟨ret_ib (by rw [HN.out HB.out]) (by rw [HB.out]), by assumption⟩)
    · have HB := Lib.hid (show b = false by rw [HO.out]; simpa using hxy)
      have e1 : (y == x) = false := by simpa using fun h => hxy h.symm
      have e2 : (x == y) = false := by simpa using hxy
      clear HO HN hxy
      go_enter Tryz.func104, Tryz.ntmps104
      go_wp2
      go_region_held3 (fun W => W.cell? g = some (.int .i64 x) ∧ W.cell? ⟨g.block, g.off + 1, none⟩ = some (.int .i64 y) ∧ Below w.heap.size w W) (first | exact ⟨by assumption, by assumption, by assumption⟩ | go_keep)
        (first
          | (go_at_call 87; (with_reducible refine (CR.out _ (by assumption)).mono ?_); rintro e w1 ⟨rfl, hb1⟩; go_must (have r0 := cell_next (a := g) (v := .int .i64 x) (by assumption) hb1; have r1 := cell_next (a := ⟨g.block, g.off + 1, none⟩) (v := .int .i64 y) (by assumption) hb1; have r2 := Below.trans (show Below w.heap.size w _ by assumption) (hb1.mono (Below.size (show Below w.heap.size w _ by assumption)))))
          | (go_at_call 114; (with_reducible refine (CO.out _).mono ?_); rintro e w1 ⟨rfl, hb1⟩; go_must (have r0 := cell_next (a := g) (v := .int .i64 x) (by assumption) hb1; have r1 := cell_next (a := ⟨g.block, g.off + 1, none⟩) (v := .int .i64 y) (by assumption) hb1; have r2 := Below.trans (show Below w.heap.size w _ by assumption) (hb1.mono (Below.size (show Below w.heap.size w _ by assumption)))))
          | fail)
      all_goals (
        go_wp2
        go_ret2
        exact ⟨ret_ib (by rw [HM.out HB.out]) (by rw [HB.out]), by assumption⟩)
  · have HO := Lib.hid (show oneB l = false by unfold oneB; rw [decide_eq_false h1, Bool.false_and])
    have HM := Lib.hid (oneN_no HO.out)
    have n1 : ((l.length : Int) != 1) = true := by simp; omega
    clear hcs hv CR
    generalize oneN l = N at *
    generalize oneB l = b at *
    generalize l.length = n at *
    go_enter Tryz.func104, Tryz.ntmps104
    go_wp2
    go_quiet (fail)
    go_wp2
    go_ret2
    exact ⟨ret_ib HM.out.symm HO.out.symm, Rg.below_drewN _ _⟩

set_option maxRecDepth 100000 in
set_option maxHeartbeats 400000 in
theorem esc_any (c : Int) (w : World) (h0 : 0 ≤ c) (h1 : c ≤ 1114111) (hs : St w) : Calls Tryz.prog 128 #[.int .i64 c] w fun e w' => e = .returned (.string ⟨(escL c).toArray⟩) ∧ Below w.heap.size w w' := by
  have hl := hex_le c
  have CH := Lib.hid (Dg.hextext_any c 1 w (by omega) (by omega) (by omega) (by omega) hs.tab)
  have HE := Lib.hid (show escL c = [92, 117, 123] ++ Dg.hexText c 1 ++ [125] from rfl)
  clear hs
  generalize escL c = E at *
  generalize Dg.hexText c 1 = H at *
  go_enter Tryz.func128, Tryz.ntmps128
  go_wp2_with (go_at_call 135; (with_reducible refine CH.out.mono ?_); rintro e w1 ⟨rfl, hb1⟩)
  go_ret
  exact ⟨ret_t (by rw [HE.out]; simp [ByteArray.ext_iff]), hb1⟩

set_option maxRecDepth 100000 in
set_option maxHeartbeats 1600000 in
theorem span_any (r : R) (w : World) (h0 : 0 ≤ r.1) (h1 : r.1 ≤ r.2) (h2 : r.2 ≤ 1114111) (hs : St w) :
    Calls Tryz.prog 116 #[.agg #[.int .i64 r.1, .int .i64 r.2]] w fun e w' => e = .returned (.string ⟨(spanL r).toArray⟩) ∧ Below w.heap.size w w' := by
  have C1 := Lib.hid (fun W (hb : Below w.heap.size w W) => esc_any r.1 W (by omega) (by omega) (hs.next hb))
  have C2 := Lib.hid (fun W (hb : Below w.heap.size w W) => esc_any r.2 W (by omega) (by omega) (hs.next hb))
  have l1 := esc_len r.1
  have l2 := esc_len r.2
  have HS := Lib.hid (show spanL r = if r.1 = r.2 then escL r.1 else escL r.1 ++ [45] ++ escL r.2 from rfl)
  generalize spanL r = E at *
  obtain ⟨x, y⟩ := r
  dsimp only at *
  generalize escL x = X at *
  generalize escL y = Y at *
  clear hs h0 h1 h2
  by_cases hxy : x = y
  · have HE := Lib.hid (show E = X by rw [HS.out, if_pos hxy])
    subst hxy
    clear HS C2 l2
    have b1 := Lib.hid ((Below.refl w.heap.size w).alloc (Nat.le_refl _) (.cells #[.int .i64 x, .int .i64 x] 75))
    go_enter Tryz.func116, Tryz.ntmps116
    go_wp2_with (go_at_call 128; (with_reducible refine (C1.out _ b1.out).mono ?_); rintro e w1 ⟨rfl, hb1⟩)
    go_ret
    exact ⟨ret_t (by rw [HE.out]), b1.out.trans (hb1.mono (by simp))⟩
  · have HE := Lib.hid (show E = X ++ [45] ++ Y by rw [HS.out, if_neg hxy])
    have e1 : (x == y) = false := by simpa using hxy
    clear HS hxy
    obtain ⟨x1, q1, z1, j1⟩ := run_join ⟨X.toArray⟩ ⟨#[45]⟩ (by rw [size_mk]; show _ + 1 ≤ _; omega)
    have y1 : x1.size = X.length + 1 := z1
    obtain ⟨x2, q2, z2, j2⟩ := run_join x1 ⟨Y.toArray⟩ (by show x1.size + Y.length ≤ _; omega)
    have HX := Lib.hid (show x2 = ⟨E.toArray⟩ by rw [q2, q1, HE.out]; simp [ByteArray.ext_iff])
    clear q1 q2 z1 z2 y1 HE
    go_enter Tryz.func116, Tryz.ntmps116
    go_wp2
    have f0 : (w.alloc (.cells #[.int .i64 x, .int .i64 y] 75)).drew.cell? ⟨w.heap.size, 0, none⟩ = some (.int .i64 x) := by show (w.alloc _).cell? _ = _; simp
    have f1 : (w.alloc (.cells #[.int .i64 x, .int .i64 y] 75)).drew.cell? ⟨w.heap.size, 1, none⟩ = some (.int .i64 y) := by show (w.alloc _).cell? _ = _; simp
    have f2 : Below w.heap.size w (w.alloc (.cells #[.int .i64 x, .int .i64 y] 75)).drew := ((Below.refl w.heap.size w).alloc (Nat.le_refl _) _).drew
    go_region_held3 (fun W => W.cell? ⟨w.heap.size, 0, none⟩ = some (.int .i64 x) ∧ W.cell? ⟨w.heap.size, 1, none⟩ = some (.int .i64 y) ∧ Below w.heap.size w W) (first | exact ⟨by assumption, by assumption, by assumption⟩ | go_keep)
      (first
        | (go_at_call 128; (first | (with_reducible refine (C1.out _ (by assumption)).mono ?_) | (with_reducible refine (C2.out _ (by assumption)).mono ?_)); rintro e w1 ⟨rfl, hb1⟩; go_must (have r0 := cell_next (a := ⟨w.heap.size, 0, none⟩) (v := .int .i64 x) (by assumption) hb1; have r1 := cell_next (a := ⟨w.heap.size, 1, none⟩) (v := .int .i64 y) (by assumption) hb1; have r2 := Below.trans (show Below w.heap.size w _ by assumption) (hb1.mono (Below.size (show Below w.heap.size w _ by assumption)))))
        | fail)
    all_goals (
      go_wp2
      go_ret
      exact ⟨ret_t HX.out, by assumption⟩)

end Go.Proofs.YtgjiofkjogjhhaaGreatDoor.Rp

namespace Go.Proofs.YtgjiofkjogjhhaaGreatDoor.Rp
open Go Go.RowKit Go.Shelf
open Go.Proofs.YtgjiofkjogjhhaaGreatDoor.Rg (R RngsAt nth setFrom rightB rightB_iff of_any SetOut hasB inB inB_set inB_isC isC uniq set_all rngs_of_row set_any none_at holdB)
open Go.Proofs.YtgjiofkjogjhhaaGreatDoor.Bd (Wr IsB write_string)

theorem same_set {l L : List R} (hr : rightB l = true) (hL : setFrom 0 L) (h : ∀ c, hasB L c = inB l c) : L = l :=
  uniq hL ((rightB_iff l).1 hr) fun c => by rw [h, inB_set ((rightB_iff l).1 hr)]
/-- Of of a set is the set -/
theorem of_same (l : List R) (v : Value) (w : World) (hv : RngsAt w v l) (hr : rightB l = true) (hl : l.length ≤ 30) :
    Calls Tryz.prog 115 #[v] w fun e w' => ∃ v', e = .returned v' ∧ RngsAt w' v' l ∧ Below w.heap.size w w' := by
  refine (of_any l v w hv (by omega)).mono ?_
  rintro e w' ⟨v', L, rfl, hrow, h1, h2, _, h4⟩
  obtain rfl := same_set hr h1 h2
  exact ⟨v', rfl, rngs_of_row hrow, h4⟩
theorem rset_same (l : List R) (v : Value) (w : World) (hv : RngsAt w v l) (hr : rightB l = true) (hl : l.length ≤ 30) :
    Calls Tryz.prog 56 #[.int .i64 0, v, .slice none 0 0] w fun e w' => ∃ v', e = .returned v' ∧ RngsAt w' v' l ∧ Below w.heap.size w w' := by
  refine (set_any 0 (by omega) l [] v (.slice none 0 0) w hv (none_at w) (by simp; omega)).mono ?_
  rintro e w' ⟨v', L, rfl, hrow, h1, h2, _, h4⟩
  obtain rfl := same_set hr h1 (fun c => by rw [h2]; show (isC c && inB l c) = _; rw [inB_isC])
  exact ⟨v', rfl, rngs_of_row hrow, h4⟩

/-- what has been written of a set's class -/
def soFar (l : List R) (k : Nat) : Tx := [91] ++ (l.take k).flatMap spanL
theorem soFar_len (l : List R) (k : Nat) (hl : l.length ≤ 30) : (soFar l k).length ≤ 1300 := by
  have := spans_len (l.take k)
  rw [List.length_take] at this
  unfold soFar; simp only [List.length_append, List.length_cons, List.length_nil]; omega
theorem soFar_succ {l : List R} {k : Nat} (h : k < l.length) : soFar l (k + 1) = soFar l k ++ spanL (nth l k) := by
  unfold soFar
  rw [List.take_succ_eq_append_getElem h, List.flatMap_append, Rg.nth_eq h]; simp
theorem soFar_all {l : List R} (h : l.length ≠ 0) : soFar l l.length ++ [93] = brkL l := by
  unfold soFar brkL; rw [if_neg h, List.take_length]
theorem brk_nil {l : List R} (h : l.length = 0) : brkL l = [91, 94] ++ spanL (0, 1114111) ++ [93] := by unfold brkL; rw [if_pos h]
theorem nth_in {l : List R} {k : Nat} (hr : rightB l = true) (h : k < l.length) : 0 ≤ (nth l k).1 ∧ (nth l k).1 ≤ (nth l k).2 ∧ (nth l k).2 ≤ 1114111 := by
  have := set_all ((rightB_iff l).1 hr) (nth l k) (by rw [Rg.nth_eq h]; exact List.getElem_mem h)
  omega

set_option maxRecDepth 100000 in
set_option maxHeartbeats 1600000 in
theorem text_any (l : List R) (v : Value) (w : World) (hv : RngsAt w v l) (hr : rightB l = true) (hl : l.length ≤ 30) (hs : St w) :
    Calls Tryz.prog 106 #[v] w fun e w' => e = .returned (.string ⟨(brkL l).toArray⟩) ∧ Below w.heap.size w w' := by
  have C0 := Lib.hid (of_same l v w hv hr hl)
  have HS := Lib.hid hs
  have HR := Lib.hid hr
  clear hv hs hr
  by_cases h0 : l.length = 0
  · have l1 := span_len (0, 1114111)
    have HE := Lib.hid (brk_nil h0)
    have C1 := Lib.hid (fun W (hb : Below w.heap.size w W) => span_any (0, 1114111) W (by decide) (by decide) (by decide) (HS.out.next hb))
    generalize brkL l = E at *
    generalize spanL (0, 1114111) = X at *
    have e0 : ((l.length : Int) == 0) = true := beq_iff_eq.2 (by omega)
    dsimp only at C1
    clear HR HS
    go_enter Tryz.func106, Tryz.ntmps106
    go_wp2_with (first
      | (go_at_call 115; (with_reducible refine C0.out.mono ?_); rintro e w1 ⟨v', rfl, hv1, hb1⟩; go_must (obtain ⟨ao, cap, rfl, _, _⟩ := hv1.shape; have B1 := Lib.hid hb1; clear hb1 hv1))
      | (go_at_call 116; (with_reducible refine (C1.out _ B1.out).mono ?_); rintro e w2 ⟨rfl, hb2⟩)
      | fail)
    go_ret
    exact ⟨ret_t (by rw [HE.out]; simp [ByteArray.ext_iff]), B1.out.trans (hb2.mono B1.out.size)⟩
  · have e0 : ((l.length : Int) == 0) = false := beq_eq_false_iff_ne.2 (by omega)
    have HE := Lib.hid (soFar_all h0)
    go_enter Tryz.func106, Tryz.ntmps106
    go_wp2_with (first
      | (go_at_call 115; (with_reducible refine C0.out.mono ?_); rintro e W ⟨v', rfl, hv1, hb1⟩; go_must (obtain ⟨ao, cap, rfl, _, hcs⟩ := hv1.shape; have HC := Lib.hid hcs; have B1 := Lib.hid hb1; have CW := Lib.hid (write_string W.heap.size W.heap.size [] [91] _ (Lib.IsBuilderF.of (Lib.fresh_isBuilder 53 5 W)) (by decide)); clear hb1 hv1 hcs))
      | (go_at_call 21; (with_reducible refine CW.out.mono ?_); rintro e w2 ⟨rfl, hi2, hw2⟩; go_must (have I2 := Lib.hid hi2; have W2 := Lib.hid (((Below.refl W.heap.size W).alloc (Nat.le_refl _) _).trans hw2.below); clear hi2 hw2))
      | fail)
    go_loopw [19] (fun i wr => ∃ k : Nat, i = .int .i64 k ∧ k ≤ l.length ∧ IsB W.heap.size W.heap.size (soFar l k) wr ∧ Below W.heap.size W wr) (fun i _ => l.length - (intOf i).toNat)
    case atStart => exact ⟨0, rfl, Nat.zero_le _, I2.out, W2.out⟩
    case round =>
      obtain ⟨k, rfl, hk, hi, hb⟩ := hrel
      have HI := Lib.hid hi
      have HB := Lib.hid hb
      have hlt0 := hi.lt
      clear hi hb
      by_cases hlt : k < l.length
      · obtain ⟨g, rfl, c0, c1⟩ := HC.out k hlt
        replace c0 := cell_next c0 HB.out
        replace c1 := cell_next c1 HB.out
        obtain ⟨n0, n1, n2⟩ := nth_in HR.out hlt
        have l1 := span_len (nth l k)
        have l2 := soFar_len l k hl
        have HSS := Lib.hid (soFar_succ hlt)
        have bx := fun o => (Below.refl wr.heap.size wr).alloc (Nat.le_refl _) o
        have BX := Lib.hid bx
        have CS := Lib.hid (fun o => span_any (nth l k) (wr.alloc o) n0 n1 n2 ((HS.out.next B1.out).next (HB.out.trans ((bx o).mono HB.out.size))))
        have CW2 := Lib.hid (fun o W3 (h : Below (wr.alloc o).heap.size (wr.alloc o) W3) => write_string W.heap.size W.heap.size (soFar l k) (spanL (nth l k)) W3 ((HI.out.next (bx o)).next h) (by omega))
        clear bx
        generalize spanL (nth l k) = X at *
        generalize nth l k = r at *
        obtain ⟨x, y⟩ := r
        dsimp only at *
        go_wp2_with (first
          | (go_at_call 116; (with_reducible refine (CS.out _).mono ?_); rintro e w3 ⟨rfl, hb3⟩; go_must (have B3 := Lib.hid hb3; clear hb3))
          | (go_at_call 21; (with_reducible refine (CW2.out _ _ B3.out).mono ?_); rintro e w4 ⟨rfl, hi4, hw4⟩)
          | fail)
        go_roundw
        case rel => exact ⟨k + 1, by go_num, by omega, by rw [HSS.out]; exact hi4, (HB.out.trans (((BX.out _).mono HB.out.size).trans (B3.out.mono (by have := HB.out.size; simp; omega)))).trans hw4.below⟩
        case measure => simp [intOf]; omega
      · obtain rfl : k = l.length := by omega
        have l2 := soFar_len l l.length hl
        have CW3 := Lib.hid (write_string W.heap.size W.heap.size (soFar l l.length) [93] wr HI.out (by simp; omega))
        rw [HE.out] at CW3
        go_wp2_with (first
          | (go_at_call 21; (with_reducible refine CW3.out.mono ?_); rintro e w5 ⟨rfl, hi5, hw5⟩; go_must (have CT := Lib.hid (Tryz.Builder_String_any_f W.heap.size W.heap.size (brkL l) w5 hi5 (by have := hi5.lt; omega)); have W5 := Lib.hid (HB.out.trans hw5.below); clear hi5 hw5))
          | (go_at_call 24; (with_reducible refine CT.out.mono ?_); rintro e w6 ⟨rfl, _, hb6⟩)
          | fail)
        go_ret
        exact ⟨rfl, B1.out.trans ((W5.out.trans hb6).mono B1.out.size)⟩

theorem brk_nil2 {l : List R} (h : l.length = 0) : brkL l = [91, 94] ++ (escL 0 ++ [45] ++ escL 1114111) ++ [93] := brk_nil h
theorem span_eq {r : R} (h : r.1 = r.2) : spanL r = escL r.1 := by unfold spanL; rw [if_pos h]
theorem span_ne {r : R} (h : r.1 ≠ r.2) : spanL r = escL r.1 ++ [45] ++ escL r.2 := by unfold spanL; rw [if_neg h]

set_option maxRecDepth 100000 in
set_option maxHeartbeats 1600000 in
theorem rtext_any (l : List R) (v : Value) (w : World) (hv : RngsAt w v l) (hr : rightB l = true) (hl : l.length ≤ 30) :
    Calls Tryz.prog 76 #[v] w fun e w' => e = .returned (.string ⟨(brkL l).toArray⟩) ∧ Below w.heap.size w w' := by
  have C0 := Lib.hid (rset_same l v w hv hr hl)
  have HR := Lib.hid hr
  clear hv hr
  have HE0 := Lib.hid (fun h => brk_nil2 (l := l) h)
  have HE1 := Lib.hid (fun h => soFar_all (l := l) h)
  have lz := esc_len 0
  have lt := esc_len 1114111
  have CZ := Lib.hid (fun W => resc_any 0 W (by decide) (by decide))
  have CT := Lib.hid (fun W => resc_any 1114111 W (by decide) (by decide))
  generalize escL 0 = EZ at *
  generalize escL 1114111 = ET at *
  go_enter Tryz.func76, Tryz.ntmps76
  go_wp2_with (go_at_call 56; (with_reducible refine C0.out.mono ?_); rintro e W ⟨v', rfl, hv1, hb1⟩; go_must (obtain ⟨ao, cap, rfl, _, hcs⟩ := hv1.shape; have HC := Lib.hid hcs; have B1 := Lib.hid hb1; clear hb1 hv1 hcs))
  go_loopw [4, 5] (fun s i wr => ∃ k : Nat, i = .int .i64 k ∧ k ≤ l.length ∧ s = .string ⟨(soFar l k).toArray⟩ ∧ Below W.heap.size W wr) (fun _ i _ => l.length - (intOf i).toNat)
  case atStart => exact ⟨0, rfl, Nat.zero_le _, rfl, Below.refl _ _⟩
  case round =>
    obtain ⟨k, rfl, hk, rfl, hb⟩ := hrel
    have HB := Lib.hid hb
    clear hb
    by_cases hlt : k < l.length
    · obtain ⟨g, rfl, c0, c1⟩ := HC.out k hlt
      replace c0 := cell_next c0 HB.out
      replace c1 := cell_next c1 HB.out
      obtain ⟨n0, n1, n2⟩ := nth_in HR.out hlt
      have l1 := esc_len (nth l k).1
      have l2 := soFar_len l k hl
      have l3 := esc_len (nth l k).2
      have C1 := Lib.hid (fun W => resc_any (nth l k).1 W n0 (by omega))
      have C2 := Lib.hid (fun W => resc_any (nth l k).2 W (by omega) n2)
      have HSS := Lib.hid (soFar_succ hlt)
      have HEQ := Lib.hid (fun h => span_eq (r := nth l k) h)
      have HNE := Lib.hid (fun h => span_ne (r := nth l k) h)
      generalize soFar l k = S0 at *
      generalize spanL (nth l k) = X at *
      generalize nth l k = r at *
      obtain ⟨x, y⟩ := r
      dsimp only at *
      generalize escL x = EX at *
      generalize escL y = EY at *
      clear CZ CT
      by_cases hxy : x = y
      · have e := HEQ.out hxy
        have hn : ¬ x < y := by omega
        have HS1 := Lib.hid (show soFar l (k + 1) = S0 ++ EX by rw [HSS.out, e])
        clear HEQ HNE HSS e hxy
        go_wp2_with (go_at_call 100; (with_reducible refine (C1.out _).mono ?_); rintro e w2 ⟨rfl, hw⟩; subst hw)
        go_quiet (fail)
        go_wp2
        go_roundw
        case rel => exact ⟨k + 1, by go_num, by omega, by rw [HS1.out]; simp [ByteArray.ext_iff], HB.out.trans ((Rg.below_drewN _ _).mono HB.out.size)⟩
        case measure => simp [intOf]; omega
      · have e := HNE.out hxy
        have hn : x < y := by omega
        have HS1 := Lib.hid (show soFar l (k + 1) = S0 ++ EX ++ [45] ++ EY by rw [HSS.out, e]; simp)
        clear HEQ HNE HSS e hxy
        go_wp2_with (go_at_call 100; (with_reducible refine (C1.out _).mono ?_); rintro e w2 ⟨rfl, hw⟩; subst hw)
        go_quiet (fail)
        go_wp2_with (go_at_call 100; (with_reducible refine (C2.out _).mono ?_); rintro e w2 ⟨rfl, hw⟩; subst hw)
        go_roundw
        case rel => exact ⟨k + 1, by go_num, by omega, by rw [HS1.out]; simp [ByteArray.ext_iff], HB.out.trans ((Rg.below_drewN _ _).mono HB.out.size)⟩
        case measure => simp [intOf]; omega
    · obtain rfl : k = l.length := by omega
      have l2 := soFar_len l l.length hl
      by_cases h0 : l.length = 0
      · have e0 : ((l.length : Int) == 0) = true := beq_iff_eq.2 (by omega)
        have HE := Lib.hid (HE0.out h0)
        clear h0
        go_wp2_with (first
          | (go_at_call 100; (with_reducible refine (CZ.out _).mono ?_); rintro e w2 ⟨rfl, hw⟩; subst hw)
          | (go_at_call 100; (with_reducible refine (CT.out _).mono ?_); rintro e w2 ⟨rfl, hw⟩; subst hw)
          | fail)
        go_ret
        exact ⟨ret_t (by rw [HE.out]; simp [ByteArray.ext_iff]), B1.out.trans (HB.out.mono B1.out.size)⟩
      · have e0 : ((l.length : Int) == 0) = false := beq_eq_false_iff_ne.2 (by omega)
        have HE := Lib.hid (HE1.out h0)
        clear h0
        generalize soFar l l.length = S0 at *
        go_wp2
        go_ret
        exact ⟨ret_t (by rw [← HE.out]; simp [ByteArray.ext_iff]), B1.out.trans (HB.out.mono B1.out.size)⟩

end Go.Proofs.YtgjiofkjogjhhaaGreatDoor.Rp

namespace Go.Proofs.YtgjiofkjogjhhaaGreatDoor.Rp
open Go Go.RowKit Go.Shelf
open Go.Proofs.YtgjiofkjogjhhaaGreatDoor.Rg (R RngsAt nth rightB)

theorem sole_one {l : List R} (h : oneB l = false) : soleB l = false := by
  unfold oneB at h; unfold soleB
  rw [Bool.and_eq_false_iff] at h
  rcases h with h | h
  · rw [h]; rfl
  · rw [h]; simp
theorem sole_eq {l : List R} (h : oneB l = true) : soleB l = plainB (nth l 0).1 := by
  unfold oneB at h; unfold soleB
  rw [Bool.and_eq_true] at h
  rw [h.1, h.2]; simp
theorem set_sole {l : List R} (h : soleB l = true) : setL l = [UInt8.ofNat (nth l 0).1.toNat] := by unfold setL; rw [if_pos h]
theorem set_brk {l : List R} (h : soleB l = false) : setL l = brkL l := by unfold setL; rw [if_neg (by rw [h]; simp)]

theorem enc_small : ∀ c : Fin 128, Utf8.encode ((c.val : Nat) : Int) = ⟨[UInt8.ofNat (((c.val : Nat) : Int)).toNat].toArray⟩ := by decide +kernel

set_option maxRecDepth 100000 in
set_option maxHeartbeats 1600000 in
theorem setp_any (l : List R) (v : Value) (w : World) (hv : RngsAt w v l) (hr : rightB l = true) (hl : l.length ≤ 30) (hs : St w) :
    Calls Tryz.prog 89 #[v] w fun e w' => e = .returned (.string ⟨(setL l).toArray⟩) ∧ Below w.heap.size w w' := by
  have C1 := Lib.hid (one_any l v w hv hr)
  have CT := Lib.hid (fun W (hb : Below w.heap.size w W) => text_any l v W (hv.next hb) hr hl (hs.next hb))
  have CP := Lib.hid (fun W => plain_any (oneN l) W)
  have HN := Lib.hid (fun h => oneN_yes (l := l) h)
  have S1 := Lib.hid (fun h => sole_one (l := l) h)
  have S2 := Lib.hid (fun h => sole_eq (l := l) h)
  have S3 := Lib.hid (fun h => set_sole (l := l) h)
  have S4 := Lib.hid (fun h => set_brk (l := l) h)
  have hN : oneB l = true → 0 ≤ (nth l 0).1 := fun h => (nth_in hr (by unfold oneB at h; simp at h; omega)).1
  clear hv hs hr
  cases hb : oneB l
  · have HE := Lib.hid (S4.out (S1.out hb))
    rw [hb] at C1
    clear S1 S2 S3 S4 HN CP hb hN
    generalize oneN l = N at *
    go_enter Tryz.func89, Tryz.ntmps89
    go_wp2_with (first
      | (go_at_call 104; (with_reducible refine C1.out.mono ?_); rintro e w1 ⟨rfl, hb1⟩; go_must (have B1 := Lib.hid hb1; clear hb1))
      | (go_at_call 106; (with_reducible refine (CT.out _ B1.out).mono ?_); rintro e w2 ⟨rfl, hb2⟩)
      | fail)
    go_ret
    exact ⟨ret_t (by rw [HE.out]), B1.out.trans (hb2.mono B1.out.size)⟩
  · have e1 := S2.out hb
    have e2 := HN.out hb
    have hN' := hN hb
    rw [← e2] at hN'
    clear hN
    rw [hb] at C1
    cases hp : plainB (nth l 0).1
    · have HE := Lib.hid (S4.out (e1.trans hp))
      rw [← e2] at hp
      rw [hp] at CP
      clear S1 S2 S3 S4 HN hb e1 e2 hp
      generalize oneN l = N at *
      by_cases h128 : N < 128
      all_goals (
        go_enter Tryz.func89, Tryz.ntmps89
        go_wp2_with (first
          | (go_at_call 104; (with_reducible refine C1.out.mono ?_); rintro e w1 ⟨rfl, hb1⟩; go_must (have B1 := Lib.hid hb1; clear hb1))
          | (go_at_call 105; (with_reducible refine (CP.out _).mono ?_); rintro e w2 ⟨rfl, hw⟩; subst hw)
          | (go_at_call 106; (with_reducible refine (CT.out _ B1.out).mono ?_); rintro e w2 ⟨rfl, hb2⟩)
          | fail)
        go_ret
        exact ⟨ret_t (by rw [HE.out]), B1.out.trans (hb2.mono B1.out.size)⟩)
    · have HE := Lib.hid (S3.out (e1.trans hp))
      have hlt := plain_lt hp
      rw [← e2] at hp hlt HE
      rw [hp] at CP
      clear S1 S2 S3 S4 HN hb e1 e2 hp CT
      generalize oneN l = N at *
      obtain ⟨c, rfl⟩ := Int.eq_ofNat_of_zero_le hlt.1
      have h128 : (c : Int) < 128 := hlt.2
      clear hlt
      go_enter Tryz.func89, Tryz.ntmps89
      go_wp2_with (first
        | (go_at_call 104; (with_reducible refine C1.out.mono ?_); rintro e w1 ⟨rfl, hb1⟩; go_must (have B1 := Lib.hid hb1; clear hb1))
        | (go_at_call 105; (with_reducible refine (CP.out _).mono ?_); rintro e w2 ⟨rfl, hw⟩; subst hw)
        | fail)
      go_ret
      exact ⟨ret_t (by rw [HE.out]; exact enc_small ⟨c, by omega⟩), B1.out⟩

end Go.Proofs.YtgjiofkjogjhhaaGreatDoor.Rp

namespace Go.Proofs.YtgjiofkjogjhhaaGreatDoor.Rp
open Go Go.RowKit Go.Shelf
open Go.Proofs.YtgjiofkjogjhhaaGreatDoor.Rg (R RngsAt nth rightB)

theorem run_bytes1 (c : Nat) (hc : c < 128) (B : Nat) (W : World) (h : W.cell? ⟨B, 0, none⟩ = some (.int .u8 (c : Int))) :
    (convert 51 9 (.slice (some ⟨B, 0, none⟩) 1 1)).run Tryz.prog W = .ok (.string ⟨[UInt8.ofNat c].toArray⟩) W := by
  refine run_convert_bytes_back W 51 9 5 ⟨B, 0, none⟩ 1 [UInt8.ofNat c] Tryz.underlying51 Tryz.underlying5 Tryz.underlying9 fun j hj => ?_
  have hj0 : j = 0 := by simpa using hj
  subst hj0
  have e : (UInt8.ofNat c).toNat = c := by simp; omega
  have ea : (⟨B, 0, none⟩ : Addr).add 0 = ⟨B, 0, none⟩ := rfl
  rw [ea, h]
  simp [e]

theorem below_dq {w w' : World} {q : Nat} (h : Below (w.drewN q).heap.size (w.drewN q) w') : Below w.heap.size w w' := (Rg.below_drewN w q).trans h

set_option maxRecDepth 100000 in
set_option maxHeartbeats 1600000 in
theorem setr_any (l : List R) (v : Value) (w : World) (hv : RngsAt w v l) (hr : rightB l = true) (hl : l.length ≤ 30) :
    Calls Tryz.prog 51 #[v] w fun e w' => e = .returned (.string ⟨(setL l).toArray⟩) ∧ Below w.heap.size w w' := by
  have CA := Lib.hid (fun W (hb : Below w.heap.size w W) => rset_same l v W (hv.next hb) hr hl)
  have CT := Lib.hid (fun v' W (h : RngsAt W v' l) => rtext_any l v' W h hr hl)
  have CP := Lib.hid (fun W => rplain_any (nth l 0).1 W)
  have S1 := Lib.hid (fun h => sole_one (l := l) h)
  have S2 := Lib.hid (fun h => sole_eq (l := l) h)
  have S3 := Lib.hid (fun h => set_sole (l := l) h)
  have S4 := Lib.hid (fun h => set_brk (l := l) h)
  have HO := Lib.hid (show oneB l = (decide (l.length = 1) && decide ((nth l 0).1 = (nth l 0).2)) from rfl)
  have hN : l.length = 1 → 0 ≤ (nth l 0).1 := fun h => (nth_in hr (by omega)).1
  obtain ⟨ao, cap, rfl, hm, hcs⟩ := hv.shape
  clear hv hr
  have fin : soleB l = false → Hid (setL l = brkL l) := fun h => Lib.hid (S4.out h)
  by_cases h1 : l.length = 1
  · have hN' := hN h1
    obtain ⟨g, rfl, c0, c1⟩ := hcs 0 (by omega)
    rw [show g.add (0 * 2) = g by simp [Addr.add]] at c0 c1
    rw [decide_eq_true h1, Bool.true_and] at HO
    clear hcs hN
    by_cases hxy : (nth l 0).1 = (nth l 0).2
    · rw [decide_eq_true hxy] at HO
      have e1 := S2.out HO.out
      rw [← hxy] at c1
      clear hxy
      cases hp : plainB (nth l 0).1
      · have HE := fin (e1.trans hp)
        rw [hp] at CP
        clear S1 S2 S3 S4 fin e1 hp HO
        generalize (nth l 0).1 = N at *
        obtain ⟨q128, hq⟩ : ∃ b, b = decide (N < 128) := ⟨_, rfl⟩
        have HQ := Lib.hid hq
        clear hq
        cases q128
        all_goals (
          rw [h1] at CA ⊢
          go_enter Tryz.func51, Tryz.ntmps51
          go_wp2
          have h128 := HQ.out.symm
          (try have h128' : N < 128 := of_decide_eq_true h128)
          go_quiet (first
            | (go_at_call 75; with_reducible exact Calls.quiet_of_same (CP.out _)))
          go_wp2_with (first
            | (go_at_call 56; (with_reducible refine (CA.out _ (Rg.below_drewN _ _)).mono ?_); rintro e w1 ⟨v', rfl, hv1, hb1⟩; go_must (have B1 := Lib.hid (below_dq hb1); have V1 := Lib.hid hv1; clear hb1 hv1))
            | (go_at_call 76; (with_reducible refine (CT.out _ _ V1.out).mono ?_); rintro e w2 ⟨rfl, hb2⟩)
            | fail)
          go_ret
          exact ⟨ret_t (by rw [HE.out]), B1.out.trans (hb2.mono B1.out.size)⟩)
      · have HE := Lib.hid (S3.out (e1.trans hp))
        have hlt := plain_lt hp
        rw [hp] at CP
        clear S1 S2 S3 S4 fin e1 hp HO CA CT
        generalize (nth l 0).1 = N at *
        obtain ⟨c, rfl⟩ := Int.eq_ofNat_of_zero_le hlt.1
        have h128 : (c : Int) < 128 := hlt.2
        rw [Int.toNat_natCast] at HE
        clear hlt hN'
        have RB := fun (nq : Nat) => run_bytes1 c (by omega) w.heap.size ((w.drewN nq).alloc (.cells #[.int .u8 (c : Int)] 5)) (World.cell?_alloc_new _ _ _ 0)
        rw [h1]
        go_enter Tryz.func51, Tryz.ntmps51
        go_wp2
        go_quiet (first
          | (go_at_call 75; with_reducible exact Calls.quiet_of_same (CP.out _)))
        go_wp2
        go_ret
        exact ⟨ret_t (by rw [HE.out]), (Rg.below_drewN _ _).alloc (by simp) _⟩
    · rw [decide_eq_false hxy] at HO
      have HE := fin (S1.out HO.out)
      have n2 : ((nth l 0).1 == (nth l 0).2) = false := by simpa using hxy
      clear S1 S2 S3 S4 fin HO CP hxy
      generalize (nth l 0).1 = x at *
      generalize (nth l 0).2 = y at *
      rw [h1] at CA ⊢
      go_enter Tryz.func51, Tryz.ntmps51
      go_wp2
      go_quiet (fail)
      go_wp2_with (first
        | (go_at_call 56; (with_reducible refine (CA.out _ (Rg.below_drewN _ _)).mono ?_); rintro e w1 ⟨v', rfl, hv1, hb1⟩; go_must (have B1 := Lib.hid (below_dq hb1); have V1 := Lib.hid hv1; clear hb1 hv1))
        | (go_at_call 76; (with_reducible refine (CT.out _ _ V1.out).mono ?_); rintro e w2 ⟨rfl, hb2⟩)
        | fail)
      go_ret
      exact ⟨ret_t (by rw [HE.out]), B1.out.trans (hb2.mono B1.out.size)⟩
  · rw [decide_eq_false h1, Bool.false_and] at HO
    have HE := fin (S1.out HO.out)
    have n1 : ((l.length : Int) == 1) = false := beq_eq_false_iff_ne.2 (by omega)
    clear S1 S2 S3 S4 fin HO CP hN hcs h1
    generalize l.length = n at *
    go_enter Tryz.func51, Tryz.ntmps51
    go_wp2
    go_quiet (fail)
    go_wp2_with (first
      | (go_at_call 56; (with_reducible refine (CA.out _ (Rg.below_drewN _ _)).mono ?_); rintro e w1 ⟨v', rfl, hv1, hb1⟩; go_must (have B1 := Lib.hid (below_dq hb1); have V1 := Lib.hid hv1; clear hb1 hv1))
      | (go_at_call 76; (with_reducible refine (CT.out _ _ V1.out).mono ?_); rintro e w2 ⟨rfl, hb2⟩)
      | fail)
    go_ret
    exact ⟨ret_t (by rw [HE.out]), B1.out.trans (hb2.mono B1.out.size)⟩

end Go.Proofs.YtgjiofkjogjhhaaGreatDoor.Rp

namespace Go.Proofs.YtgjiofkjogjhhaaGreatDoor.Rp
open Go Go.RowKit

theorem dtext_any (n : Int) (w : World) (h0 : 0 ≤ n) (h1 : n ≤ 255) (hs : Dg.St w) :
    Calls Tryz.prog 117 #[.int .i64 n] w fun e w' => e = .returned (.string ⟨(decL n).toArray⟩) ∧ Below w.heap.size w w' := by
  have := Dg.text_any n w (by omega) (by omega) hs
  rw [Dg.itoa_pos h0] at this
  exact this

set_option maxRecDepth 100000 in
set_option maxHeartbeats 400000 in
theorem braced_any (lo hi : Int) (w : World) (h0 : 0 ≤ lo) (h1 : lo ≤ 255) (h3 : hi ≤ 255) (h4 : hi = -1 ∨ lo ≤ hi) (hs : Dg.St w) :
    Calls Tryz.prog 108 #[.int .i64 lo, .int .i64 hi] w fun e w' => e = .returned (.string ⟨(if hi = -1 then [123] ++ decL lo ++ [44, 125] else if hi = lo then [123] ++ decL lo ++ [125] else [123] ++ decL lo ++ [44] ++ decL hi ++ [125] : Tx).toArray⟩) ∧ Below w.heap.size w w' := by
  have l1 := dec_le h1
  have l2 := dec_le h3
  have CL := Lib.hid (fun W (hb : Below w.heap.size w W) => dtext_any lo W h0 h1 (hs.next hb))
  have CH := Lib.hid (fun h W (hb : Below w.heap.size w W) => dtext_any hi W h h3 (hs.next hb))
  have B0 := Lib.hid (Below.refl w.heap.size w)
  clear hs
  generalize decL lo = L at *
  by_cases c1 : hi = -1
  · subst c1
    rw [if_pos rfl]
    clear CH l2
    have n1 : ¬ lo < -1 := by omega
    go_enter Tryz.func108, Tryz.ntmps108
    go_wp2_with (go_at_call 117; (with_reducible refine (CL.out _ B0.out).mono ?_); rintro e w1 ⟨rfl, hb1⟩)
    go_ret
    exact ⟨ret_t (by simp [ByteArray.ext_iff]), hb1⟩
  · have CH' := Lib.hid (fun W hb => CH.out (by omega) W hb)
    clear CH
    rw [if_neg c1]
    have g0 : lo ≤ hi := by omega
    have b1 : (hi == -1) = false := by simpa using c1
    by_cases c3 : hi = lo
    · subst c3
      rw [if_pos rfl]
      clear CH' c1
      go_enter Tryz.func108, Tryz.ntmps108
      go_wp2_with (go_at_call 117; (with_reducible refine (CL.out _ B0.out).mono ?_); rintro e w1 ⟨rfl, hb1⟩)
      go_ret
      exact ⟨ret_t (by simp [ByteArray.ext_iff]), hb1⟩
    · rw [if_neg c3]
      have g1 : lo < hi := by omega
      clear c1 c3
      generalize decL hi = H at *
      go_enter Tryz.func108, Tryz.ntmps108
      go_wp2_with (first
        | (go_at_call 117; (with_reducible refine (CH'.out _ B0.out).mono ?_); rintro e w1 ⟨rfl, hb1⟩; go_must (have B1 := Lib.hid hb1; clear hb1))
        | (go_at_call 117; (with_reducible refine (CL.out _ B1.out).mono ?_); rintro e w2 ⟨rfl, hb2⟩)
        | fail)
      go_ret
      exact ⟨ret_t (by simp [ByteArray.ext_iff]), B1.out.trans (hb2.mono B1.out.size)⟩

set_option maxRecDepth 100000 in
set_option maxHeartbeats 400000 in
theorem often_any (lo hi : Int) (w : World) (h0 : 0 ≤ lo) (h1 : lo ≤ 255) (h3 : hi ≤ 255) (h4 : hi = -1 ∨ lo ≤ hi) (hs : Dg.St w) :
    Calls Tryz.prog 91 #[.int .i64 lo, .int .i64 hi] w fun e w' => e = .returned (.string ⟨(oftenL lo hi).toArray⟩) ∧ Below w.heap.size w w' := by
  have CB := Lib.hid (braced_any lo hi w h0 h1 h3 h4 hs)
  have HO := Lib.hid (show oftenL lo hi = if hi = -1 ∧ lo = 0 then [42] else if hi = -1 ∧ lo = 1 then [43] else if lo = 0 ∧ hi = 1 then [63]
    else if hi = -1 then [123] ++ decL lo ++ [44, 125] else if hi = lo then [123] ++ decL lo ++ [125] else [123] ++ decL lo ++ [44] ++ decL hi ++ [125] from rfl)
  have B0 := Lib.hid (Below.refl w.heap.size w)
  generalize oftenL lo hi = O at *
  generalize (if hi = -1 then [123] ++ decL lo ++ [44, 125] else if hi = lo then [123] ++ decL lo ++ [125] else [123] ++ decL lo ++ [44] ++ decL hi ++ [125] : Tx) = X at *
  clear hs
  by_cases a1 : hi = -1 ∧ lo = 0
  · have HE := Lib.hid (show O = [42] by rw [HO.out, if_pos a1])
    obtain ⟨rfl, rfl⟩ := a1
    clear HO CB
    go_enter Tryz.func91, Tryz.ntmps91
    go_wp2
    go_ret
    exact ⟨ret_t (by rw [HE.out]), B0.out⟩
  · by_cases a2 : hi = -1 ∧ lo = 1
    · have HE := Lib.hid (show O = [43] by rw [HO.out, if_neg a1, if_pos a2])
      obtain ⟨rfl, rfl⟩ := a2
      clear HO CB a1
      go_enter Tryz.func91, Tryz.ntmps91
      go_wp2
      go_ret
      exact ⟨ret_t (by rw [HE.out]), B0.out⟩
    · by_cases a3 : lo = 0 ∧ hi = 1
      · have HE := Lib.hid (show O = [63] by rw [HO.out, if_neg a1, if_neg a2, if_pos a3])
        obtain ⟨rfl, rfl⟩ := a3
        clear HO CB a1 a2
        go_enter Tryz.func91, Tryz.ntmps91
        go_wp2
        go_ret
        exact ⟨ret_t (by rw [HE.out]), B0.out⟩
      · have HE := Lib.hid (show O = X by rw [HO.out, if_neg a1, if_neg a2, if_neg a3])
        clear HO
        have b1 : (hi == -1) = false ∨ ((hi == -1) = true ∧ (lo == 0) = false ∧ (lo == 1) = false) := by
          by_cases h : hi = -1
          · exact .inr ⟨by simpa using h, by simpa using fun h' => a1 ⟨h, h'⟩, by simpa using fun h' => a2 ⟨h, h'⟩⟩
          · exact .inl (by simpa using h)
        have b2 : (lo == 0) = false ∨ ((lo == 0) = true ∧ (hi == 1) = false) := by
          by_cases h : lo = 0
          · exact .inr ⟨by simpa using h, by simpa using fun h' => a3 ⟨h, h'⟩⟩
          · exact .inl (by simpa using h)
        have b3 : ∃ z, z = (lo == 1) := ⟨_, rfl⟩
        obtain ⟨z, hz⟩ := b3
        have HZ := Lib.hid hz.symm
        clear a1 a2 a3 hz
        rcases b1 with b1 | ⟨b1, b4, b5⟩
        all_goals rcases b2 with b2 | ⟨b2, b6⟩
        all_goals cases z
        all_goals first
          | (exfalso; simp_all; done)
          | (have bz := HZ.out
             go_enter Tryz.func91, Tryz.ntmps91
             go_wp2_with (go_at_call 108; (with_reducible refine CB.out.mono ?_); rintro e w1 ⟨rfl, hb1⟩)
             go_ret
             exact ⟨ret_t (by rw [HE.out]), hb1⟩)

end Go.Proofs.YtgjiofkjogjhhaaGreatDoor.Rp

/- Right, both; Modes; Text. -/
import Derived.Test.YtleejfkononjgaaDoorAcParse
import Derived.Deep.QuietTactic
import Derived.BigQuiet
import Derived.RegionTactic
namespace Go.Proofs.YtleejfkononjgaaDoor.Ac
open Go Go.RowKit Go.Shelf Go.Proofs.YtleejfkononjgaaDoor.Wd

/-- the two parts of 'may be' -/
def nmB (em : ByteArray) : Bool := decide (em = bE) || nameL em.data.toList
/-- the document's Right -/
def rrB (em : ByteArray) (g : Int) (M : List ByteArray) : Bool := nmB em && (decide (-1 ≤ g) && decide (g < M.length))

set_option maxHeartbeats 800000 in
theorem rright_any (em : ByteArray) (g : Int) (M : List ByteArray) (v : Value) (w : World) (hs : em.size ≤ 1000000) (hv : StrsAt w v M) :
    Calls Tryd.prog 10 #[.agg #[.string em, .int .i64 g], v] w fun e w' => e = .returned (.bool (rrB em g M)) ∧ Below w.heap.size w w' := by
  obtain ⟨ao, cap, rfl, hm, _⟩ := strs_at hv
  have C := Lib.hid (fun W => (name_both em (by unfold maxLen; omega) W).2)
  have HR : Hid (rrB em g M = (nmB em && (decide (-1 ≤ g) && decide (g < M.length)))) := Lib.hid rfl
  generalize rrB em g M = res at *
  have HB := Lib.hid ((Below.refl w.heap.size w).alloc (Nat.le_refl _) (.cells #[.string em, .int .i64 g] 26))
  by_cases c1 : em = bE
  · have hn : nmB em = true := by unfold nmB; rw [decide_eq_true c1]; rfl
    rw [hn] at HR
    have c1' : em = ⟨#[]⟩ := c1
    subst c1'
    clear c1 hn C hv
    by_cases c2 : -1 ≤ g
    · have d2 : decide (g ≥ -1) = true := by simpa using c2
      by_cases c3 : g < M.length
      · have HZ : Hid (res = true) := Lib.hid (by rw [HR.out, decide_eq_true c2, decide_eq_true c3]; rfl)
        clear HR
        go_enter Tryd.func10, Tryd.ntmps10
        go_wp2
        go_ret
        exact ⟨retBool HZ.out.symm, HB.out⟩
      · have HZ : Hid (res = false) := Lib.hid (by rw [HR.out, decide_eq_true c2, decide_eq_false c3]; rfl)
        clear HR
        go_enter Tryd.func10, Tryd.ntmps10
        go_wp2
        go_ret
        exact ⟨by first | exact retBool HZ.out.symm | exact retBool ((decide_eq_false (Int.not_lt.2 (by omega))).trans HZ.out.symm), HB.out⟩
    · have HZ : Hid (res = false) := Lib.hid (by rw [HR.out, decide_eq_false c2]; rfl)
      have d2 : decide (g ≥ -1) = false := by simpa using c2
      clear HR
      go_enter Tryd.func10, Tryd.ntmps10
      go_wp2
      go_ret
      exact ⟨retBool HZ.out.symm, HB.out⟩
  · have d0 := isE_no c1
    have d1 := empty_no c1
    have hn : nmB em = nameL em.data.toList := by unfold nmB; rw [decide_eq_false c1]; rfl
    rw [hn] at HR
    clear c1 hn hv
    generalize nameL em.data.toList = q at *
    cases q
    · have HZ : Hid (res = false) := Lib.hid (by rw [HR.out]; rfl)
      clear HR
      go_enter Tryd.func10, Tryd.ntmps10
      go_wp2_with (go_at_call 16; (with_reducible refine (C.out _).mono ?_); rintro e w' ⟨rfl, rfl⟩)
      go_ret
      exact ⟨retBool HZ.out.symm, HB.out⟩
    · by_cases c2 : -1 ≤ g
      · have d2 : decide (g ≥ -1) = true := by simpa using c2
        by_cases c3 : g < M.length
        · have HZ : Hid (res = true) := Lib.hid (by rw [HR.out, decide_eq_true c2, decide_eq_true c3]; rfl)
          clear HR
          go_enter Tryd.func10, Tryd.ntmps10
          go_wp2_with (go_at_call 16; (with_reducible refine (C.out _).mono ?_); rintro e w' ⟨rfl, rfl⟩)
          go_ret
          exact ⟨retBool HZ.out.symm, HB.out⟩
        · have HZ : Hid (res = false) := Lib.hid (by rw [HR.out, decide_eq_true c2, decide_eq_false c3]; rfl)
          clear HR
          go_enter Tryd.func10, Tryd.ntmps10
          go_wp2_with (go_at_call 16; (with_reducible refine (C.out _).mono ?_); rintro e w' ⟨rfl, rfl⟩)
          go_ret
          exact ⟨by first | exact retBool HZ.out.symm | exact retBool ((decide_eq_false (Int.not_lt.2 (by omega))).trans HZ.out.symm), HB.out⟩
      · have HZ : Hid (res = false) := Lib.hid (by rw [HR.out, decide_eq_false c2]; rfl)
        have d2 : decide (g ≥ -1) = false := by simpa using c2
        clear HR
        go_enter Tryd.func10, Tryd.ntmps10
        go_wp2_with (go_at_call 16; (with_reducible refine (C.out _).mono ?_); rintro e w' ⟨rfl, rfl⟩)
        go_ret
        exact ⟨retBool HZ.out.symm, HB.out⟩

open Classical in
/-- names, all unlike -/
noncomputable def mdB (M : List ByteArray) : Bool := decide (modesB M)
open Classical in
theorem md_yes {M : List ByteArray} (h : modesB M) : mdB M = true := by unfold mdB; exact decide_eq_true h
open Classical in
theorem md_no {M : List ByteArray} (h : ¬ modesB M) : mdB M = false := by unfold mdB; exact decide_eq_false h
open Classical in
theorem md_of {M : List ByteArray} (h : mdB M = true) : modesB M := by unfold mdB at h; exact of_decide_eq_true h

set_option maxHeartbeats 800000 in
theorem modes_any (M : List ByteArray) (v : Value) (w : World) (hv : StrsAt w v M) (hs : ∀ j, j < M.length → (M.getD j bE).size ≤ 1000000) :
    Calls Tryd.prog 9 #[v] w fun e w' => e = .returned (.bool (mdB M)) ∧ w = w' := by
  have P := Lib.hid (fun m => place_any M v m w hv)
  obtain ⟨ao, cap, rfl, hm, hc⟩ := strs_at hv
  have HC := Lib.hid hc
  have HS := Lib.hid hs
  clear hc hv hs
  go_enter Tryd.func9, Tryd.ntmps9
  go_wp2
  go_loop [3] (fun i => ∃ k : Nat, k ≤ M.length ∧ i = .int .i64 k ∧ ∀ j, j < k → nameL (M.getD j bE).data.toList = true ∧ numL M (M.getD j bE) = (j : Int)) (fun i => M.length - (intOf i).toNat)
  case atStart => exact ⟨0, by omega, rfl, fun j hj => by omega⟩
  case round =>
    obtain ⟨k, hk, rfl, hne⟩ := hrel
    have HN := Lib.hid hne
    clear hne
    by_cases hlt : k < M.length
    · obtain ⟨ad, rfl, c0⟩ := HC.out k hlt
      have h0i : (0 : Int) ≤ k := by omega
      have hsz := HS.out k hlt
      have NO : Hid (¬ (nameL (M.getD k bE).data.toList = true ∧ numL M (M.getD k bE) = (k : Int)) → mdB M = false) := Lib.hid (fun h => md_no (fun hm => h (hm k hlt)))
      have YES : Hid ((nameL (M.getD k bE).data.toList = true ∧ numL M (M.getD k bE) = (k : Int)) → ∀ j, j < k + 1 → nameL (M.getD j bE).data.toList = true ∧ numL M (M.getD j bE) = (j : Int)) := Lib.hid (fun h j hj => by
        rcases Nat.lt_or_ge j k with h' | h'
        · exact HN.out j h'
        · obtain rfl : j = k := by omega
          exact h)
      generalize M.getD k bE = x at *
      have C := Lib.hid (fun W => (name_both x (by unfold maxLen; omega) W).2)
      cases hn : nameL x.data.toList
      · have HZ : Hid (mdB M = false) := Lib.hid (NO.out (by rw [hn]; simp))
        rw [hn] at C
        clear hn NO YES
        go_wp2_with (go_at_call 16; (with_reducible refine (C.out _).mono ?_); rintro e w' ⟨rfl, rfl⟩)
        go_ret
        exact ⟨retBool HZ.out.symm, rfl⟩
      · rw [hn] at C
        have PX := Lib.hid (P.out x)
        by_cases hq : numL M x = (k : Int)
        · have HZ := Lib.hid (YES.out ⟨hn, hq⟩)
          rw [hq] at PX
          clear hn NO YES hq
          go_wp2_with (first
            | (go_at_call 16; (with_reducible refine (C.out _).mono ?_); rintro e w' ⟨rfl, rfl⟩)
            | (go_at_call 17; (with_reducible refine PX.out.mono ?_); rintro e w' ⟨rfl, rfl⟩))
          go_round
          case rel => exact ⟨k + 1, by omega, by go_num, HZ.out⟩
          case measure => simp [intOf]; omega
        · have HZ : Hid (mdB M = false) := Lib.hid (NO.out (fun h => hq h.2))
          have d0 : (numL M x == (k : Int)) = false := by simpa using hq
          generalize numL M x = q at *
          clear hn NO YES hq
          go_wp2_with (first
            | (go_at_call 16; (with_reducible refine (C.out _).mono ?_); rintro e w' ⟨rfl, rfl⟩)
            | (go_at_call 17; (with_reducible refine PX.out.mono ?_); rintro e w' ⟨rfl, rfl⟩))
          go_ret
          exact ⟨retBool HZ.out.symm, rfl⟩
    · obtain rfl : k = M.length := by omega
      have HZ : Hid (mdB M = true) := Lib.hid (md_yes HN.out)
      go_wp2
      go_ret
      exact ⟨retBool HZ.out.symm, rfl⟩

set_option maxRecDepth 100000 in
set_option maxHeartbeats 1600000 in
theorem right_name (em : ByteArray) (g : Int) (v : Value) (w : World) (hs : em.size ≤ 1000000) (h1 : em ≠ bE) (h2 : nameL em.data.toList = false) :
    Calls Tryd.prog 12 #[.agg #[.string em, .int .i64 g], v] w fun e w' => e = .returned (.bool false) ∧ Below w.heap.size w w' := by
  have C := Lib.hid (fun W => (name_both em (by unfold maxLen; omega) W).1)
  have HB := Lib.hid ((Below.refl w.heap.size w).alloc (Nat.le_refl _) (.cells #[.string em, .int .i64 g] 26))
  rw [h2] at C
  have d0 := isE_no h1
  have d1 := empty_no h1
  clear h1 h2
  go_enter Tryd.func12, Tryd.ntmps12
  go_wp2_with (go_at_call 19; (with_reducible refine (C.out _).mono ?_); rintro e w' ⟨rfl, rfl⟩)
  go_ret
  exact ⟨rfl, HB.out⟩
/-- how the walk goes on behind the name -/
def OkN (em : ByteArray) : Prop := em = bE ∨ nameL em.data.toList = true

set_option maxRecDepth 100000 in
set_option maxHeartbeats 1600000 in
theorem right_neg (em : ByteArray) (g : Int) (M : List ByteArray) (v : Value) (w : World) (hv : StrsAt w v M) (hs : em.size ≤ 1000000) (h1 : OkN em) (h2 : ¬ (0 ≤ g ∧ g < M.length)) :
    Calls Tryd.prog 12 #[.agg #[.string em, .int .i64 g], v] w fun e w' => e = .returned (.bool (g == -1)) ∧ Below w.heap.size w w' := by
  obtain ⟨ao, cap, rfl, hm, _⟩ := strs_at hv
  have C := Lib.hid (fun W => (name_both em (by unfold maxLen; omega) W).1)
  have HB := Lib.hid ((Below.refl w.heap.size w).alloc (Nat.le_refl _) (.cells #[.string em, .int .i64 g] 26))
  clear hv
  obtain ⟨q, hq⟩ : ∃ q : Bool, (g == -1) = q := ⟨_, rfl⟩
  rw [hq]
  by_cases c1 : em = bE
  · have c1' : em = ⟨#[]⟩ := c1
    subst c1'
    clear c1 h1 C
    by_cases c2 : g < 0
    · go_enter Tryd.func12, Tryd.ntmps12
      go_wp2
      go_ret
      exact ⟨rfl, HB.out⟩
    · have c3 : (M.length : Int) ≤ g := by omega
      have d3 : decide (g ≥ (M.length : Int)) = true := by simpa using c3
      go_enter Tryd.func12, Tryd.ntmps12
      go_wp2
      go_ret
      exact ⟨rfl, HB.out⟩
  · have d0 := isE_no c1
    have d1 := empty_no c1
    rw [h1.resolve_left c1] at C
    clear c1 h1
    by_cases c2 : g < 0
    · go_enter Tryd.func12, Tryd.ntmps12
      go_wp2_with (go_at_call 19; (with_reducible refine (C.out _).mono ?_); rintro e w' ⟨rfl, rfl⟩)
      go_ret
      exact ⟨rfl, HB.out⟩
    · have c3 : (M.length : Int) ≤ g := by omega
      have d3 : decide (g ≥ (M.length : Int)) = true := by simpa using c3
      go_enter Tryd.func12, Tryd.ntmps12
      go_wp2_with (go_at_call 19; (with_reducible refine (C.out _).mono ?_); rintro e w' ⟨rfl, rfl⟩)
      go_ret
      exact ⟨rfl, HB.out⟩

set_option maxRecDepth 100000 in
set_option maxHeartbeats 1600000 in
theorem right_pos (em : ByteArray) (g : Nat) (M : List ByteArray) (v : Value) (w : World) (hv : StrsAt w v M) (hs : em.size ≤ 1000000) (h1 : OkN em) (h2 : g < M.length) (hg : numL M (M.getD g bE) = (g : Int)) :
    Calls Tryd.prog 12 #[.agg #[.string em, .int .i64 (g : Nat)], v] w fun e w' => e = .returned (.bool true) ∧ Below w.heap.size w w' := by
  have D := Lib.hid (fun W (h : Below w.heap.size w W) => hg ▸ number_any M v (M.getD g bE) W (hv.next h))
  obtain ⟨ao, cap, rfl, hm, hc⟩ := strs_at hv
  obtain ⟨ad, rfl, c0⟩ := hc g h2
  have C := Lib.hid (fun W => (name_both em (by unfold maxLen; omega) W).1)
  have hb := (Below.refl w.heap.size w).alloc (Nat.le_refl _) (.cells #[.string em, .int .i64 (g : Nat)] 26)
  have hx : (w.alloc (.cells #[.string em, .int .i64 (g : Nat)] 26)).heap[w.heap.size]? = some (.cells #[.string em, .int .i64 (g : Nat)] 26 (0, 0)) := heap_alloc_new w _
  replace c0 := cell_next c0 hb
  have c3 : (g : Int) < M.length := by omega
  have c4 : (0 : Int) ≤ g := by omega
  have d3 : decide ((g : Int) ≥ (M.length : Int)) = false := by simpa using c3
  clear hv hc hg
  generalize M.getD g bE = m at *
  by_cases c1 : em = bE
  · have c1' : em = ⟨#[]⟩ := c1
    subst c1'
    clear c1 h1 C
    go_enter Tryd.func12, Tryd.ntmps12
    go_upto_region 1 with fail
    generalize w.alloc _ = w1 at *
    obtain ⟨e0, e1⟩ := cells_two hx
    have HB := Lib.hid hb
    have hl := lt_of_heap hx
    clear hb
    go_wp2
    go_region_held3 (fun W => W.cell? ⟨w.heap.size, 1, none⟩ = some (.int .i64 (g : Nat)) ∧ W.cell? (ad.add g) = some (.string m)) (first | exact ⟨e1, c0⟩ | go_keep)
      (first
        | (go_at_call 20; ((with_reducible refine (D.out _ HB.out.drew).mono ?_); rintro e w' ⟨rfl, rfl⟩))
        | fail)
    all_goals (
      go_wp2
      go_ret
      exact ⟨rfl, HB.out.drew⟩)
  · have d0 := isE_no c1
    have d1 := empty_no c1
    rw [h1.resolve_left c1] at C
    clear c1 h1
    go_enter Tryd.func12, Tryd.ntmps12
    go_upto_region 1 with fail
    generalize w.alloc _ = w1 at *
    obtain ⟨e0, e1⟩ := cells_two hx
    have HB := Lib.hid hb
    have hl := lt_of_heap hx
    clear hb
    go_wp2_with (go_at_call 19; (with_reducible refine (C.out _).mono ?_); rintro e w' ⟨rfl, rfl⟩)
    go_region_held3 (fun W => W.cell? ⟨w.heap.size, 1, none⟩ = some (.int .i64 (g : Nat)) ∧ W.cell? (ad.add g) = some (.string m)) (first | exact ⟨e1, c0⟩ | go_keep)
      (first
        | (go_at_call 20; ((with_reducible refine (D.out _ HB.out.drew).mono ?_); rintro e w' ⟨rfl, rfl⟩))
        | fail)
    all_goals (
      go_wp2
      go_ret
      exact ⟨rfl, HB.out.drew⟩)

end Go.Proofs.YtleejfkononjgaaDoor.Ac

/- The laws of action, walked: the example; ActionParses. -/
import Derived.Test.YtleejfkononjgaaDoorAcRef
namespace Go.Proofs.YtleejfkononjgaaDoor.Ac
open Go Go.RowKit Go.Shelf Go.Proofs.YtleejfkononjgaaDoor.Wd

/-- two boxes of two cells each, made one behind the other -/
theorem two_boxes (W : World) (a b c d : Value) (t u : TypeId) :
    Below W.heap.size W ((W.alloc (.cells #[a, b] t)).alloc (.cells #[c, d] u)) ∧ ((W.alloc (.cells #[a, b] t)).alloc (.cells #[c, d] u)).heap[W.heap.size]? = some (.cells #[a, b] t (0, 0)) ∧ ((W.alloc (.cells #[a, b] t)).alloc (.cells #[c, d] u)).heap[W.heap.size + 1]? = some (.cells #[c, d] u (0, 0)) :=
  ⟨((Below.refl _ W).alloc (Nat.le_refl _) _).alloc (by simp) _, (heap_alloc_old _ _ (by simp)).trans (heap_alloc_new _ _), heap_alloc2_new _ _ _⟩
theorem box_next {W W' : World} {b : Nat} {o : Obj} (h : W.heap[b]? = some o) (hb : Below W.heap.size W W') : W'.heap[b]? = some o := (hb.block b (lt_of_heap h)).trans h

def bEx : ByteArray := ⟨#[101, 109, 105, 116, 32, 78, 85, 77, 32, 103, 111, 116, 111, 32, 116, 101, 120, 116]⟩
def bNum : ByteArray := ⟨#[78, 85, 77]⟩
def bMain : ByteArray := ⟨#[109, 97, 105, 110]⟩
def bText : ByteArray := ⟨#[116, 101, 120, 116]⟩
theorem ex1 : parseL bEx [bMain, bText] = ⟨bNum, 1, 0, 0⟩ := by kernel_rfl
theorem ex2 : parseL bSkip [] = ⟨bE, -1, 0, 0⟩ := by kernel_rfl
theorem ex3 : joinB [⟨#[115, 107, 105, 112]⟩] = ⟨#[115, 107, 105, 112]⟩ := by kernel_rfl

set_option maxRecDepth 100000 in
set_option maxHeartbeats 4000000 in
theorem alive_any (w : World) (hT : Tab w) : Calls Tryd.prog 6 #[] w fun e w' => e = .returned (.bool true) ∧ Below w.heap.size w w' := by
  have b0 := (Below.refl w.heap.size w).alloc (Nat.le_refl _) (.cells #[.string ⟨#[109, 97, 105, 110]⟩, .string ⟨#[116, 101, 120, 116]⟩] 9)
  have hl : StrsAt (w.alloc (.cells #[.string ⟨#[109, 97, 105, 110]⟩, .string ⟨#[116, 101, 120, 116]⟩] 9)) (.slice (some ⟨w.heap.size, 0, none⟩) 2 2) [bMain, bText] := by
    have hx := heap_alloc_new w (.cells #[.string ⟨#[109, 97, 105, 110]⟩, .string ⟨#[116, 101, 120, 116]⟩] 9)
    refine .inr ⟨_, 2, rfl, by unfold maxLen; simp, fun i hi => ?_⟩
    obtain rfl | rfl : i = 0 ∨ i = 1 := by simp at hi; omega
    · have := (cells_two hx).1
      simp [Addr.add, bMain, this]
    · have := (cells_two hx).2
      simp [Addr.add, bMain, bText, this]
  have P1 := parse_any bEx [bMain, bText] _ _ (hT.next b0) hl (by decide)
  rw [ex1] at P1
  have P2 := Lib.hid (fun W (h : Below w.heap.size w W) => show Calls Tryd.prog 7 #[.string ⟨#[115, 107, 105, 112]⟩, .slice none 0 0] W fun e w' => e = .returned (.tuple #[.agg #[.string ⟨#[]⟩, .int .i64 (-1)], .agg #[.int .i64 0, .int .i64 0]]) ∧ Below W.heap.size W w' from by
    have h2 := parse_any bSkip [] (.slice none 0 0) W (hT.next h) (.inl ⟨rfl, rfl⟩) (by decide)
    rw [ex2] at h2
    exact h2)
  have T1 := Lib.hid (fun W => ex3 ▸ text_skip [] (.slice none 0 0) W (.inl ⟨rfl, rfl⟩))
  have Q1 := Lib.hid (show Calls Tryd.prog 7 #[.string ⟨#[101, 109, 105, 116, 32, 78, 85, 77, 32, 103, 111, 116, 111, 32, 116, 101, 120, 116]⟩, .slice (some ⟨w.heap.size, 0, none⟩) 2 2] (w.alloc (.cells #[.string ⟨#[109, 97, 105, 110]⟩, .string ⟨#[116, 101, 120, 116]⟩] 9)) fun e w' => e = .returned (.tuple #[.agg #[.string ⟨#[78, 85, 77]⟩, .int .i64 1], .agg #[.int .i64 0, .int .i64 0]]) ∧ Below (w.alloc (.cells #[.string ⟨#[109, 97, 105, 110]⟩, .string ⟨#[116, 101, 120, 116]⟩] 9)).heap.size (w.alloc (.cells #[.string ⟨#[109, 97, 105, 110]⟩, .string ⟨#[116, 101, 120, 116]⟩] 9)) w' from P1)
  have B0 := Lib.hid b0
  clear P1 hl b0 hT
  generalize hw0 : w.alloc (.cells #[.string ⟨#[109, 97, 105, 110]⟩, .string ⟨#[116, 101, 120, 116]⟩] 9) = w0 at *
  subst hw0
  go_enter Tryd.func6, Tryd.ntmps6
  go_upto_region 2 with (first
    | (go_at_call 7; ((refine Q1.out.mono ?_); rintro e w1 ⟨rfl, hb⟩); go_must (have B1 := Lib.hid (B0.out.trans (hb.mono B0.out.size)); clear hb))
    | fail)
  obtain ⟨c1, h1, h2⟩ := two_boxes w1 (.string ⟨#[78, 85, 77]⟩) (.int .i64 1) (.int .i64 0) (.int .i64 0) 26 29
  have B2 := Lib.hid (B1.out.trans (c1.mono B1.out.size))
  generalize (w1.alloc (.cells #[.string ⟨#[78, 85, 77]⟩, .int .i64 1] 26)).alloc (.cells #[.int .i64 0, .int .i64 0] 29) = w2 at *
  have H1 := Lib.hid h1
  have H2 := Lib.hid h2
  clear c1 h1 h2 Q1
  go_upto_region 3 with (first
    | (go_at_call 7; ((refine (P2.out _ B2.out).mono ?_); rintro e w3 ⟨rfl, hb⟩); go_must (have B3 := Lib.hid (B2.out.trans (hb.mono B2.out.size)); have k1 := box_next H1.out hb; have k2 := box_next H2.out hb; clear hb))
    | fail)
  obtain ⟨c2, h3, h4⟩ := two_boxes w3 (.string ⟨#[]⟩) (.int .i64 (-1)) (.int .i64 0) (.int .i64 0) 26 29
  have B4 := Lib.hid (B3.out.trans (c2.mono B3.out.size))
  replace k1 := box_next k1 c2
  replace k2 := box_next k2 c2
  generalize (w3.alloc (.cells #[.string ⟨#[]⟩, .int .i64 (-1)] 26)).alloc (.cells #[.int .i64 0, .int .i64 0] 29) = w4 at *
  obtain ⟨m0, m1⟩ := cells_two k1
  obtain ⟨m2, m3⟩ := cells_two k2
  obtain ⟨m4, m5⟩ := cells_two h3
  obtain ⟨m6, m7⟩ := cells_two h4
  clear k1 k2 h3 h4 c2 P2 H1 H2
  go_wp2_with (first
    | (go_at_call 11; ((refine (T1.out _).mono ?_); rintro e w5 ⟨rfl, hb⟩); go_must (have B5 := Lib.hid (B4.out.trans (hb.mono B4.out.size)); clear hb))
    | fail)
  go_ret
  exact ⟨rfl, B5.out⟩

set_option maxRecDepth 100000 in
set_option maxHeartbeats 4000000 in
theorem law_parses (s : ByteArray) (M : List ByteArray) (v : Value) (w : World) (hs : s.size ≤ maxLen) (hv : StrsAt w v M) (hT : Tab w) :
    Calls Tryd.prog 3 #[.string s, v] w fun e w' => e = .returned (.bool true) ∧ Below w.heap.size w w' := by
  have HA := Lib.hid (fun W (h : Below w.heap.size w W) => alive_any W (hT.next h))
  have FA := Lib.hid (far_any M v w hv)
  unfold maxLen at hs
  by_cases hm : 200 < s.size
  · have d0 : decide (200 < s.size) = true := by simpa using hm
    clear FA hT hv
    go_enter Tryd.func3, Tryd.ntmps3
    go_wp2_with (go_at_call 6; ((with_reducible refine (HA.out _ (Below.refl _ _)).mono ?_); rintro e w1 ⟨rfl, hb⟩))
    go_ret
    exact ⟨rfl, hb⟩
  · have d0 : decide (200 < s.size) = false := by simpa using hm
    have hs2 : s.size ≤ 1000000 := by omega
    have P1 := Lib.hid (parse_any s M v w hT hv hs2)
    have P2 := Lib.hid (fun W (h : Below w.heap.size w W) => rparse_any s M v W (hv.next h) hs2)
    clear hT hv d0
    generalize parseL s M = r at *
    obtain ⟨em, g, e, a⟩ := r
    unfold vRes at P1 P2
    dsimp only at P1 P2
    cases hf : farB M
    · rw [hf] at FA
      clear hf
      go_enter Tryd.func3, Tryd.ntmps3
      go_upto_region 4 with (first
        | (go_at_call 5; ((with_reducible refine FA.out.mono ?_); rintro e w1 ⟨rfl, rfl⟩))
        | (go_at_call 7; ((with_reducible refine P1.out.mono ?_); rintro e w1 ⟨rfl, hb⟩); go_must (have B1 := Lib.hid hb; clear hb))
        | fail)
      obtain ⟨c1, h1, h2⟩ := two_boxes w1 (.string em) (.int .i64 g) (.int .i64 e) (.int .i64 a) 26 29
      have B2 := Lib.hid (B1.out.trans (c1.mono B1.out.size))
      generalize (w1.alloc (.cells #[.string em, .int .i64 g] 26)).alloc (.cells #[.int .i64 e, .int .i64 a] 29) = w2 at *
      have H1 := Lib.hid h1
      have H2 := Lib.hid h2
      clear c1 h1 h2 FA P1
      go_upto_region 5 with (first
        | (go_at_call 8; ((with_reducible refine (P2.out _ B2.out).mono ?_); rintro e w3 ⟨rfl, hb⟩); go_must (have B3 := Lib.hid (B2.out.trans (hb.mono B2.out.size)); have k1 := box_next H1.out hb; have k2 := box_next H2.out hb; clear hb))
        | fail)
      obtain ⟨c2, h3, h4⟩ := two_boxes w3 (.string em) (.int .i64 g) (.int .i64 e) (.int .i64 a) 26 29
      have B4 := Lib.hid (B3.out.trans (c2.mono B3.out.size))
      replace k1 := box_next k1 c2
      replace k2 := box_next k2 c2
      generalize (w3.alloc (.cells #[.string em, .int .i64 g] 26)).alloc (.cells #[.int .i64 e, .int .i64 a] 29) = w4 at *
      obtain ⟨m0, m1⟩ := cells_two k1
      obtain ⟨m2, m3⟩ := cells_two k2
      obtain ⟨m4, m5⟩ := cells_two h3
      obtain ⟨m6, m7⟩ := cells_two h4
      clear k1 k2 h3 h4 c2 P2 H1 H2
      go_wp2_with (first
        | (go_at_call 6; ((with_reducible refine (HA.out _ B4.out).mono ?_); rintro e w5 ⟨rfl, hb⟩); go_must (have B5 := Lib.hid (B4.out.trans (hb.mono B4.out.size)); clear hb))
        | fail)
      go_ret
      exact ⟨rfl, B5.out⟩
    · rw [hf] at FA
      clear hf P1 P2
      go_enter Tryd.func3, Tryd.ntmps3
      go_wp2_with (first
        | (go_at_call 5; ((with_reducible refine FA.out.mono ?_); rintro e w1 ⟨rfl, rfl⟩))
        | (go_at_call 6; ((with_reducible refine (HA.out _ (Below.refl _ _)).mono ?_); rintro e w1 ⟨rfl, hb⟩))
        | fail)
      go_ret
      exact ⟨rfl, hb⟩

end Go.Proofs.YtleejfkononjgaaDoor.Ac

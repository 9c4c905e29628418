/- The laws of words, walked: WordsApart. -/
import Derived.Test.YtmdkpbmhldlicaaWdLaws2
namespace Go.Proofs.Ytmdkpbmhldlicaa.Wd
open Go.RowKit Go.Shelf

theorem drop_pair {l : List (Nat × Nat)} {k : Nat} (h : k < l.length) : l.drop k = ((l.getD k (0, 0)).1, (l.getD k (0, 0)).2) :: l.drop (k + 1) := by
  rw [List.getD_eq_getElem?_getD, List.getElem?_eq_getElem h]; exact List.drop_eq_getElem_cons h
theorem below_drewN {m : Nat} (w : World) (k : Nat) : Below m w (w.drewN k) := ⟨rfl, rfl, rfl, Nat.le_refl _, fun _ _ => rfl⟩
theorem byte_get {s : ByteArray} {j : Nat} (h : j < s.size) : s.data.toList[j]'(by rw [len_size]; exact h) = s[j] := rfl

set_option maxRecDepth 100000 in
set_option maxHeartbeats 4000000 in
theorem law_apart (s : ByteArray) (w : World) (hs : s.size ≤ maxLen) :
    Calls Try.prog 5 #[.string s] w fun r w' => r = .returned (.bool true) ∧ Below w.heap.size w w' := by
  have HA := Lib.hid (fun W (g : Gr w W) => alive_g (w0 := w) W g)
  have g0 := Gr.start w
  by_cases hm : 300 < s.size
  · unfold maxLen at hs
    go_enter Try.func5, Try.ntmps5
    go_wp2_with (go_at_call 6; refine (HA.out _ (by assumption)).mono ?_; rintro e w' ⟨rfl, g1⟩)
    go_ret
    exact ⟨rfl, g1⟩
  · have hs2 : s.size ≤ 1000000 := by omega
    have L1 := Lib.hid (fun W => all_any s hs2 W)
    have hp := words_len s.data.toList
    rw [len_size] at hp
    have hap := Lib.hid (apart_words s.data.toList)
    generalize wordsL s.data.toList = l at *
    unfold maxLen at hs

    go_enter Try.func5, Try.ntmps5
    go_wp2_with (go_at_call 13; refine (L1.out _).mono ?_; rintro e w1 ⟨x, rfl, px, b1⟩; have g1 := g0.on b1; obtain ⟨ao, cap, rfl, hxm, hxc⟩ := px.shape; have HX := Lib.hid hxc; clear hxc px)
    go_loopw [3, 15] (fun x i wr => ∃ (k at_ : Nat), k ≤ l.length ∧ at_ ≤ s.size ∧ x = .int .i64 at_ ∧ i = .int .i64 k ∧ Hid (Apart s.data.toList at_ (decide (0 < k)) (l.drop k)) ∧ Gr w wr ∧ Below w1.heap.size w1 wr) (fun _ i _ => l.length - (intOf i).toNat)
    case atStart => exact ⟨0, 0, by omega, by omega, rfl, rfl, hap, g1, Below.refl _ _⟩
    case round =>
      obtain ⟨k, at_, hk, hat, rfl, rfl, hA, gr, hbr⟩ := hrel
      by_cases hlt : k < l.length
      · obtain ⟨ad, rfl, ca1, ca2⟩ := HX.out k hlt
        replace ca1 := cell_next ca1 hbr
        replace ca2 := cell_next ca2 hbr
        have hA' := hA.out
        rw [drop_pair hlt] at hA'
        generalize (l.getD k (0, 0)).1 = a at *
        generalize (l.getD k (0, 0)).2 = b at *
        obtain ⟨h1, h2, h3, h4, h5, h6, h7⟩ := hA'
        rw [len_size] at h4
        have H5 := Lib.hid h5
        have H6 := Lib.hid h6
        have H7 := Lib.hid h7
        have h0i : (0 : Int) ≤ k := by omega
        have d1 : decide (a < at_) = false := by simp; omega
        have d3 : decide (b ≤ a) = false := by simp; omega
        have d4 : decide (s.size < b) = false := by simp; omega
        clear h5 h6 h7 hA
        have hk0 : (decide (0 < k) = false) ∨ (decide (0 < k) = true ∧ ((a : Int) == (at_ : Int)) = false) := by
          by_cases h0 : 0 < k
          · have := h2 (by simpa using h0)
            exact .inr ⟨by simpa using h0, by simp; omega⟩
          · exact .inl (by simpa using h0)
        clear h2
        rcases hk0 with d2 | ⟨d2, d5⟩
        all_goals
          go_wp2
          have x1 : (wr.alloc (.cells #[.int .i64 (a : Nat), .int .i64 (b : Nat)] 29)).cell? ⟨wr.heap.size, 0, none⟩ = some (.int .i64 (a : Nat)) := World.cell?_alloc_new _ _ _ 0
          have x2 : (wr.alloc (.cells #[.int .i64 (a : Nat), .int .i64 (b : Nat)] 29)).cell? ⟨wr.heap.size, 1, none⟩ = some (.int .i64 (b : Nat)) := World.cell?_alloc_new _ _ _ 1
          have gr2 := gr.on ((Below.refl _ wr).alloc (Nat.le_refl _) (.cells #[.int .i64 (a : Nat), .int .i64 (b : Nat)] 29))
          have hbr2 := hbr.alloc (Below.size hbr) (.cells #[.int .i64 (a : Nat), .int .i64 (b : Nat)] 29)
          generalize wr.alloc (.cells #[.int .i64 (a : Nat), .int .i64 (b : Nat)] 29) = W2 at *
          go_loopw [6] (fun i wx => ∃ (j : Nat), at_ ≤ j ∧ j ≤ b ∧ i = .int .i64 j ∧ Below W2.heap.size W2 wx) (fun i _ => b - (intOf i).toNat)
          case atStart => exact ⟨at_, Nat.le_refl _, by omega, rfl, Below.refl _ _⟩
          case round =>
            obtain ⟨j, hj1, hj2, rfl, hbx⟩ := hrel
            replace x1 := cell_next x1 hbx
            replace x2 := cell_next x2 hbx
            by_cases hjb : j < b
            · have hjs : j < s.size := by omega
              have hj0 : (0 : Int) ≤ j := by omega
              have hj9 : (j : Int) < s.size := by omega
              by_cases hja : j < a
              · have hc : blk s[j] = true := H5.out j hj1 hja hjs
                have c1 := Lib.hid (fun w => (rblank_any s[j] w).mono (fun _ _ ⟨p, q⟩ => (⟨p, q.symm⟩ : _ ∧ _)))
                rw [hc] at c1
                have d6 : decide (j < a) = true := by simpa using hja
                clear hc
                go_wp2_with fail
                go_quiet ((go_at_call 8; exact Calls.quiet_of_same (c1.out _)))
                go_wp2
                go_roundw
                case rel => exact ⟨j + 1, by omega, by omega, by go_num, hbx.trans (below_drewN _ _)⟩
                case measure => simp [intOf]; omega
              · have hc : blk s[j] = false := H6.out j (by omega) hjb hjs
                have c1 := Lib.hid (fun w => (rblank_any s[j] w).mono (fun _ _ ⟨p, q⟩ => (⟨p, q.symm⟩ : _ ∧ _)))
                rw [hc] at c1
                have d6 : decide (j < a) = false := by simpa using hja
                clear hc
                go_wp2_with fail
                go_quiet ((go_at_call 8; exact Calls.quiet_of_same (c1.out _)))
                go_wp2
                go_roundw
                case rel => exact ⟨j + 1, by omega, by omega, by go_num, hbx.trans (below_drewN _ _)⟩
                case measure => simp [intOf]; omega
            · obtain rfl : j = b := by omega
              clear hjb
              go_wp2
              go_roundw
              case rel => exact ⟨k + 1, j, by omega, by omega, rfl, by go_num, (by rw [show decide (0 < k + 1) = true by simp]; exact H7), gr2.on hbx, hbr2.trans (hbx.mono (Below.size hbr2))⟩
              case measure => simp [intOf]; omega
      · obtain rfl : k = l.length := by omega
        have hA' := hA.out
        rw [List.drop_length] at hA'
        have HE := Lib.hid (fun j (h1 : at_ ≤ j) (h2 : j < s.size) => (hA' j h1 h2 : blk s[j] = true))
        clear hA hA' hlt
        go_wp2
        go_loop [7] (fun i => ∃ (j : Nat), at_ ≤ j ∧ j ≤ s.size ∧ i = .int .i64 j) (fun i => s.size - (intOf i).toNat)
        case atStart => exact ⟨at_, Nat.le_refl _, hat, rfl⟩
        case round =>
          obtain ⟨j, hj1, hj2, rfl⟩ := hrel
          by_cases hjs : j < s.size
          · have hc : blk s[j] = true := HE.out j hj1 hjs
            have c1 := Lib.hid (fun w => rblank_any s[j] w)
            rw [hc] at c1
            clear hc
            go_wp2_with (go_at_call 8; refine (c1.out _).mono ?_; rintro e w' ⟨rfl, rfl⟩)
            go_round
            case rel => exact ⟨j + 1, by omega, by omega, by go_num⟩
            case measure => simp [intOf]; omega
          · obtain rfl : j = s.size := by omega
            go_wp2_with (go_at_call 6; refine (HA.out _ (by assumption)).mono ?_; rintro e w4 ⟨rfl, g4⟩)
            go_ret
            exact ⟨rfl, g4⟩

end Go.Proofs.Ytmdkpbmhldlicaa.Wd

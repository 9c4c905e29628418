/- The laws of words, walked: WordsSplits. -/
import Derived.Test.YtmdkpbmhldlicaaWdLaws
namespace Go.Proofs.Ytmdkpbmhldlicaa.Wd
open Go.RowKit Go.Shelf

set_option maxRecDepth 100000 in
set_option maxHeartbeats 2000000 in
theorem law_splits (s : ByteArray) (at_ : Int) (w : World) (hs : s.size ≤ maxLen) (_ : -9223372036854775808 ≤ at_) (_ : at_ ≤ 9223372036854775807) :
    Calls Try.prog 4 #[.string s, .int .i64 at_] w fun r w' => r = .returned (.bool true) ∧ Below w.heap.size w w' := by
  have HA := Lib.hid (fun W (g : Gr w W) => alive_g (w0 := w) W g)
  have g0 := Gr.start w
  by_cases hm : 300 < s.size
  · unfold maxLen at hs
    go_enter Try.func4, Try.ntmps4
    go_wp2_with (go_at_call 6; refine (HA.out _ (by assumption)).mono ?_; rintro e w' ⟨rfl, g1⟩)
    go_ret
    exact ⟨rfl, g1⟩
  · have hs2 : s.size ≤ 1000000 := by omega
    have L1 := Lib.hid (fun W => all_any s hs2 W)
    have L2 := Lib.hid (fun W => rall_any s hs2 W)
    have N1 := Lib.hid (fun W => next_any s hs2 at_ W)
    have N2 := Lib.hid (fun W => rnext_any s hs at_ W)
    have T1 := Lib.hid (fun W => trim_any s hs W)
    have T2 := Lib.hid (fun W => rtrim_any s hs W)
    have hp := words_len s.data.toList
    rw [len_size] at hp
    unfold vNext at N1 N2
    unfold vTrim at T1 T2
    generalize (nextL s.data.toList (cl at_ s.size)).1 = X1 at *
    generalize (nextL s.data.toList (cl at_ s.size)).2 = X2 at *
    generalize trimTo s.data.toList (spanL blk s.data.toList) s.data.toList.length = Y2 at *
    generalize spanL blk s.data.toList = Y1 at *
    generalize wordsL s.data.toList = l at *
    unfold maxLen at hs
    go_enter Try.func4, Try.ntmps4
    go_wp2_with (first
      | (go_at_call 13; refine (L1.out _).mono ?_; rintro e w1 ⟨x, rfl, px, b1⟩)
      | (go_at_call 14; refine (L2.out _).mono ?_; rintro e w2 ⟨y, rfl, py, b2⟩; have g2 := (g0.on b1).on b2; obtain ⟨ao, cap, rfl, hxm, hxc⟩ := (px.next b2).shape; obtain ⟨bo, cap2, rfl, hym, hyc⟩ := py.shape; have HX := Lib.hid hxc; have HY := Lib.hid hyc; clear hxc hyc px py))
    go_loopw [31] (fun i wr => ∃ (k : Nat), k ≤ l.length ∧ i = .int .i64 k ∧ Gr w wr ∧ Below w2.heap.size w2 wr) (fun i _ => l.length - (intOf i).toNat)
    case atStart => exact ⟨0, by omega, rfl, g2, Below.refl _ _⟩
    case round =>
      obtain ⟨k, hk, rfl, gr, hbr⟩ := hrel
      by_cases hlt : k < l.length
      · obtain ⟨ad, rfl, ca1, ca2⟩ := HX.out k hlt
        obtain ⟨bd, rfl, cb1, cb2⟩ := HY.out k hlt
        replace ca1 := cell_next ca1 hbr
        replace ca2 := cell_next ca2 hbr
        replace cb1 := cell_next cb1 hbr
        replace cb2 := cell_next cb2 hbr
        generalize (l.getD k (0, 0)).1 = a at *
        generalize (l.getD k (0, 0)).2 = b at *
        have h0i : (0 : Int) ≤ k := by omega
        have heq := run_eq2 (a : Int) (b : Int)
        go_wp2
        go_region
        go_wp2
        go_roundw
        case rel => exact ⟨k + 1, by omega, by go_num, gr.on (Below.refl _ wr).drew, hbr.drew⟩
        case measure => simp [intOf]; omega
      · obtain rfl : k = l.length := by omega
        clear hlt
        go_wp2_with (first
          | (go_at_call 15; refine (N1.out _).mono ?_; rintro e w3 ⟨rfl, b3⟩; have g3 := gr.on b3)
          | (go_at_call 16; refine (N2.out _).mono ?_; rintro e w' ⟨rfl, rfl⟩)
          | (go_at_call 17; refine (T1.out _).mono ?_; rintro e w' ⟨rfl, rfl⟩)
          | (go_at_call 18; refine (T2.out _).mono ?_; rintro e w' ⟨rfl, rfl⟩)
          | (go_at_call 6; refine (HA.out _ (by assumption)).mono ?_; rintro e w4 ⟨rfl, g4⟩))
        go_ret
        exact ⟨rfl, g4⟩

end Go.Proofs.Ytmdkpbmhldlicaa.Wd

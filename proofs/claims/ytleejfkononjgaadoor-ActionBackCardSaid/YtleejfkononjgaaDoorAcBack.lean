/- ActionBack, walked. -/
import Derived.Test.YtleejfkononjgaaDoorAcLaws
namespace Go.Proofs.YtleejfkononjgaaDoor.Ac
open Go Go.RowKit Go.Shelf Go.Proofs.YtleejfkononjgaaDoor.Wd

theorem ok_size {em : ByteArray} (h : OkN em) : em.size ≤ 60 := by
  rcases h with rfl | h
  · decide
  · unfold nameL at h
    simp only [Bool.and_eq_true, decide_eq_true_eq] at h
    have : em.data.toList.length = em.size := rfl
    omega
def InR (g : Int) (M : List ByteArray) : Prop := g = -1 ∨ (0 ≤ g ∧ g < M.length)
theorem text_size {em : ByteArray} {g : Int} {M : List ByteArray} (h : OkN em) (hr : InR g M) (hz : ∀ j, j < M.length → (M.getD j bE).size ≤ 60) : (textB em g M).size ≤ 1000000 := by
  have hall : ∀ x ∈ actW em g M, x.size ≤ 60 := by
    intro x hx
    unfold actW at hx
    rcases List.mem_append.1 hx with hx | hx
    · split at hx
      · obtain rfl : x = bSkip := by simpa using hx
        decide
      · rcases List.mem_cons.1 hx with rfl | hx
        · decide
        · obtain rfl : x = em := by simpa using hx
          exact ok_size h
    · split at hx
      · cases hx
      · rename_i hg
        rcases List.mem_cons.1 hx with rfl | hx
        · decide
        · obtain rfl : x = M.getD g.toNat bE := by simpa using hx
          have := hr.resolve_left hg
          exact hz _ (by omega)
  have hlen : (actW em g M).length ≤ 4 := by
    unfold actW
    rw [List.length_append]
    split <;> split <;> simp
  have hj := join_size (actW em g M) 60 hall
  have e : (textB em g M).size = (joinW ((actW em g M).map (·.data.toList))).length := by
    unfold textB joinB
    rfl
  have : (actW em g M).length * (60 + 1) ≤ 4 * (60 + 1) := Nat.mul_le_mul_right _ hlen
  omega
/-- Text, of an action that may be -/
theorem text_any (em : ByteArray) (g : Int) (M : List ByteArray) (v : Value) (w : World) (hv : StrsAt w v M) (h : OkN em) (hr : InR g M) (hM : modesB M) (hz : ∀ j, j < M.length → (M.getD j bE).size ≤ 60) :
    Calls Tryd.prog 11 #[.agg #[.string em, .int .i64 g], v] w fun e w' => e = .returned (.string (textB em g M)) ∧ Below w.heap.size w w' := by
  have hs := ok_size h
  unfold textB actW
  rcases hr with rfl | ⟨h0, h1⟩
  · rw [if_pos rfl, List.append_nil]
    by_cases c : em = bE
    · rw [if_pos c]
      subst c
      exact text_skip M v w hv
    · rw [if_neg c]
      exact text_emit em M v w hv (by omega) (h.resolve_left c)
  · obtain ⟨k, rfl⟩ := Int.eq_ofNat_of_zero_le h0
    have hk : k < M.length := by omega
    have hq := (hM k hk).2
    have hkz := hz k hk
    rw [if_neg (show ¬ ((k : Int) = -1) by omega), Int.toNat_natCast]
    by_cases c : em = bE
    · rw [if_pos c]
      subst c
      exact text_skipGo k M v w hv hk hq (by omega)
    · rw [if_neg c]
      exact text_emitGo em k M v w hv (by omega) (h.resolve_left c) hk hq (by omega)
/-- Right, of an action that may be -/
theorem right_yes (em : ByteArray) (g : Int) (M : List ByteArray) (v : Value) (w : World) (hv : StrsAt w v M) (h : OkN em) (hr : InR g M) (hM : modesB M) :
    Calls Tryd.prog 12 #[.agg #[.string em, .int .i64 g], v] w fun e w' => e = .returned (.bool true) ∧ Below w.heap.size w w' := by
  have hs := ok_size h
  rcases hr with rfl | ⟨h0, h1⟩
  · exact right_neg em (-1) M v w hv (by omega) h (by omega)
  · obtain ⟨k, rfl⟩ := Int.eq_ofNat_of_zero_le h0
    exact right_pos em k M v w hv (by omega) h (by omega) (hM k (by omega)).2
theorem rr_of {em : ByteArray} {g : Int} {M : List ByteArray} (h : rrB em g M = true) : OkN em ∧ InR g M := by
  unfold rrB nmB at h
  simp only [Bool.and_eq_true, Bool.or_eq_true, decide_eq_true_eq] at h
  obtain ⟨h1, h2, h3⟩ := h
  refine ⟨h1, ?_⟩
  unfold InR
  omega
/-- what is read, is read back -/
theorem back_any {em : ByteArray} {g : Int} {M : List ByteArray} (h : OkN em) (hr : InR g M) (hM : modesB M) : parseL (textB em g M) M = ⟨em, g, 0, 0⟩ := back_right hM h hr

set_option maxRecDepth 100000 in
set_option maxHeartbeats 4000000 in
theorem back_dark (em : ByteArray) (g : Int) (M : List ByteArray) (v : Value) (s : ByteArray) (w : World) (hem : em.size ≤ maxLen) (hs : s.size ≤ maxLen) (hv : StrsAt w v M) (hT : Tab w) (hd : ¬ (em.size ≤ 60 ∧ s.size ≤ 200 ∧ farB M = false ∧ mdB M = true)) :
    Calls Tryd.prog 4 #[.agg #[.string em, .int .i64 g], v, .string s] w fun e w' => e = .returned (.bool true) ∧ Below w.heap.size w w' := by
  unfold maxLen at hem hs
  have b1 := (Below.refl w.heap.size w).alloc (Nat.le_refl _) (.cells #[.string em, .int .i64 g] 26)
  have h1 := heap_alloc_new w (.cells #[.string em, .int .i64 g] 26)
  have HA := Lib.hid (alive_any _ (hT.next b1))
  have FA := Lib.hid (far_any M v _ (hv.next b1))
  have MA := Lib.hid (fun hz => modes_any M v _ (hv.next b1) hz)
  have FN := Lib.hid (@far_no M)
  clear hT hv
  generalize hw1 : w.alloc (.cells #[.string em, .int .i64 g] 26) = w1 at *
  have B1 := Lib.hid b1
  have e01 := cells_two h1
  have E01 := Lib.hid e01
  clear b1 h1 e01
  by_cases c1 : 60 < em.size
  · go_enter Tryd.func4, Tryd.ntmps4
    go_upto_region 1 with fail
    (try rw [hw1])
    clear hw1
    obtain ⟨e0, e1⟩ := E01.out
    go_wp2_with (go_at_call 6; ((with_reducible refine HA.out.mono ?_); rintro e w2 ⟨rfl, hb⟩))
    go_ret
    exact ⟨rfl, B1.out.trans (hb.mono B1.out.size)⟩
  · by_cases c2 : 200 < s.size
    · go_enter Tryd.func4, Tryd.ntmps4
      go_upto_region 1 with fail
      (try rw [hw1])
      clear hw1
      obtain ⟨e0, e1⟩ := E01.out
      go_wp2_with (go_at_call 6; ((with_reducible refine HA.out.mono ?_); rintro e w2 ⟨rfl, hb⟩))
      go_ret
      exact ⟨rfl, B1.out.trans (hb.mono B1.out.size)⟩
    · cases hf : farB M
      · have md : mdB M = false := by
          cases hm : mdB M
          · rfl
          · exact absurd ⟨by omega, by omega, hf, hm⟩ hd
        have MB := MA.out (fun j hj => by have := (FN.out hf).2 j hj; omega)
        rw [md] at MB
        rw [hf] at FA
        have MC := Lib.hid MB
        clear hf hd md MB MA FN
        go_enter Tryd.func4, Tryd.ntmps4
        go_upto_region 1 with fail
        (try rw [hw1])
        clear hw1
        obtain ⟨e0, e1⟩ := E01.out
        go_wp2_with (first
          | (go_at_call 5; ((with_reducible refine FA.out.mono ?_); rintro e w2 ⟨rfl, rfl⟩))
          | (go_at_call 9; ((with_reducible refine MC.out.mono ?_); rintro e w2 ⟨rfl, rfl⟩))
          | (go_at_call 6; ((with_reducible refine HA.out.mono ?_); rintro e w2 ⟨rfl, hb⟩))
          | fail)
        go_ret
        exact ⟨rfl, B1.out.trans (hb.mono B1.out.size)⟩
      · rw [hf] at FA
        clear hf hd MA FN
        go_enter Tryd.func4, Tryd.ntmps4
        go_upto_region 1 with fail
        (try rw [hw1])
        clear hw1
        obtain ⟨e0, e1⟩ := E01.out
        go_wp2_with (first
          | (go_at_call 5; ((with_reducible refine FA.out.mono ?_); rintro e w2 ⟨rfl, rfl⟩))
          | (go_at_call 6; ((with_reducible refine HA.out.mono ?_); rintro e w2 ⟨rfl, hb⟩))
          | fail)
        go_ret
        exact ⟨rfl, B1.out.trans (hb.mono B1.out.size)⟩

set_option maxRecDepth 100000 in
set_option maxHeartbeats 16000000 in
theorem back_main (em : ByteArray) (g : Int) (M : List ByteArray) (v : Value) (s : ByteArray) (w : World) (c1 : em.size ≤ 60) (c2 : s.size ≤ 200) (hf : farB M = false) (hm : mdB M = true) (hv : StrsAt w v M) (hT : Tab w) :
    Calls Tryd.prog 4 #[.agg #[.string em, .int .i64 g], v, .string s] w fun e w' => e = .returned (.bool true) ∧ Below w.heap.size w w' := by
  have hM := md_of hm
  obtain ⟨hml, hmz⟩ := far_no hf
  have HA := Lib.hid (fun W (h : Below w.heap.size w W) => alive_any W (hT.next h))
  have FA := Lib.hid (fun W (h : Below w.heap.size w W) => hf ▸ far_any M v W (hv.next h))
  have MA := Lib.hid (fun W (h : Below w.heap.size w W) => hm ▸ modes_any M v W (hv.next h) (fun j hj => by have := hmz j hj; omega))
  have RA := Lib.hid (fun W (h : Below w.heap.size w W) => rright_any em g M v W (by omega) (hv.next h))
  have PS := Lib.hid (fun W (h : Below w.heap.size w W) => parse_any s M v W (hT.next h) (hv.next h) (by omega))
  -- a text, and what is read of it
  have TX := Lib.hid (fun (a : ByteArray) (b : Int) (ho : OkN a) (hr : InR b M) W (h : Below w.heap.size w W) => text_any a b M v W (hv.next h) ho hr hM hmz)
  have PT := Lib.hid (fun (a : ByteArray) (b : Int) (ho : OkN a) (hr : InR b M) W (h : Below w.heap.size w W) => show Calls Tryd.prog 7 #[.string (textB a b M), v] W (fun e w' => e = .returned (.tuple #[.agg #[.string a, .int .i64 b], .agg #[.int .i64 0, .int .i64 0]]) ∧ Below W.heap.size W w') from by
    have hp := parse_any (textB a b M) M v W (hT.next h) (hv.next h) (text_size ho hr hmz)
    rw [back_any ho hr hM] at hp
    exact hp)
  have RY := Lib.hid (fun (a : ByteArray) (b : Int) (ho : OkN a) (hr : InR b M) W (h : Below w.heap.size w W) => right_yes a b M v W (hv.next h) ho hr hM)
  have hrt : (parseL s M).e = 0 → OkN (parseL s M).emit ∧ InR (parseL s M).goto M := fun h => fin_right h
  generalize parseL s M = r at *
  obtain ⟨em2, g2, e2, a2⟩ := r
  dsimp only at hrt
  unfold vRes at PS
  dsimp only at PS
  have HRT := Lib.hid hrt
  have hrr := @rr_of em g M
  obtain ⟨rr, hrrq⟩ : ∃ q, rrB em g M = q := ⟨_, rfl⟩
  rw [hrrq] at RA hrr
  have HRR := Lib.hid hrr
  have b1 := (Below.refl w.heap.size w).alloc (Nat.le_refl _) (.cells #[.string em, .int .i64 g] 26)
  have h1 := heap_alloc_new w (.cells #[.string em, .int .i64 g] 26)
  have B1 := Lib.hid b1
  have H1 := Lib.hid h1
  clear hT hv hf hm hM hml hmz hrt hrr hrrq b1 h1
  go_enter Tryd.func4, Tryd.ntmps4
  go_upto_region 1 with fail
  generalize w.alloc (.cells #[.string em, .int .i64 g] 26) = w1 at *
  obtain ⟨x0, x1⟩ := cells_two H1.out
  have hl1 := lt_of_heap H1.out
  go_upto_region 3 with (first
    | (go_at_call 5; ((with_reducible refine (FA.out _ B1.out).mono ?_); rintro e w2 ⟨rfl, rfl⟩))
    | (go_at_call 9; ((with_reducible refine (MA.out _ B1.out).mono ?_); rintro e w2 ⟨rfl, rfl⟩))
    | fail)
  clear FA MA
  cases rr
  · clear HRR
    go_upto_region 8 with (first
      | (go_at_call 10; ((with_reducible refine (RA.out _ B1.out).mono ?_); rintro e w2 ⟨rfl, hb⟩); go_must (have B2 := Lib.hid (B1.out.trans (hb.mono B1.out.size)); have K2 := Lib.hid (box_next H1.out hb); have y0 := cell_next x0 hb; have y1 := cell_next x1 hb; have hl2 := Nat.lt_of_lt_of_le hl1 hb.size; clear hb))
      | (go_at_call 7; ((with_reducible refine (PS.out _ B2.out).mono ?_); rintro e w7 ⟨rfl, hb⟩); go_must (have B7 := Lib.hid (B2.out.trans (hb.mono B2.out.size)); clear hb))
      | fail)
    have hn7 := B7.out.size
    obtain ⟨c8, h8, k8⟩ := two_boxes w7 (.string em2) (.int .i64 g2) (.int .i64 e2) (.int .i64 a2) 26 29
    have B8 := Lib.hid (B7.out.trans (c8.mono B7.out.size))
    generalize (w7.alloc (.cells #[.string em2, .int .i64 g2] 26)).alloc (.cells #[.int .i64 e2, .int .i64 a2] 29) = w8 at *
    have H8 := Lib.hid h8
    have K8 := Lib.hid k8
    clear c8 h8 k8
    generalize w7.heap.size = n7 at *
    obtain ⟨m0, m1⟩ := cells_two H8.out
    obtain ⟨m2, m3⟩ := cells_two K8.out
    have hl8 := lt_of_heap K8.out
    by_cases he : e2 = 0
    · subst he
      obtain ⟨ho2, hr2⟩ := HRT.out rfl
      have T2 := Lib.hid (TX.out em2 g2 ho2 hr2)
      have P2 := Lib.hid (PT.out em2 g2 ho2 hr2)
      have Y2 := Lib.hid (RY.out em2 g2 ho2 hr2)
      clear HRT TX PT RY PS RA
      go_upto_region 11 with (first
        | (go_at_call 11; ((with_reducible refine (T2.out _ B8.out).mono ?_); rintro e w9 ⟨rfl, hb⟩); go_must (have B9 := Lib.hid (B8.out.trans (hb.mono B8.out.size)); have H9 := Lib.hid (box_next H8.out hb); have K9 := Lib.hid (box_next K8.out hb); clear hb))
        | (go_at_call 7; ((with_reducible refine (P2.out _ B9.out).mono ?_); rintro e w10 ⟨rfl, hb⟩); go_must (have B10 := Lib.hid (B9.out.trans (hb.mono B9.out.size)); have H10 := Lib.hid (box_next H9.out hb); have k10 := box_next K9.out hb; have hl10 := lt_of_heap k10; obtain ⟨z0, z1⟩ := cells_two k10; have f0 := frozen_of_row w10 _ 0 _ _ k10; have f1 := frozen_of_row w10 _ 1 _ _ k10; have K10 := Lib.hid k10; clear hb k10))
        | fail)
      have k11 := (set_two (set_two K10.out (.int .i64 0)).1 (.int .i64 0)).2
      have h11 : ((w10.setCell ⟨n7 + 1, 0, none⟩ (.int .i64 0)).setCell ⟨n7 + 1, 1, none⟩ (.int .i64 0)).heap[n7]? = some (.cells #[.string em2, .int .i64 g2] 26 (0, 0)) := by
        rw [Below.heap_setCell _ _ _ _ (by simp), Below.heap_setCell _ _ _ _ (by simp)]; exact H10.out
      have b11 := (B10.out.setCell (p := ⟨n7 + 1, 0, none⟩) (show w.heap.size ≤ n7 + 1 by omega) (.int .i64 0)).setCell (p := ⟨n7 + 1, 1, none⟩) (show w.heap.size ≤ n7 + 1 by omega) (.int .i64 0)
      have hz11 : ((w10.setCell ⟨n7 + 1, 0, none⟩ (.int .i64 0)).setCell ⟨n7 + 1, 1, none⟩ (.int .i64 0)).heap.size = w10.heap.size := by simp
      clear z0 z1 f0 f1
      generalize (w10.setCell ⟨n7 + 1, 0, none⟩ (.int .i64 0)).setCell ⟨n7 + 1, 1, none⟩ (.int .i64 0) = w11 at *
      rw [← hz11] at hl10 ⊢
      have hb12 := (Below.refl w11.heap.size w11).alloc (Nat.le_refl _) (.cells #[.string em2, .int .i64 g2] 26)
      have h12 := heap_alloc_new w11 (.cells #[.string em2, .int .i64 g2] 26)
      have B12 := Lib.hid (b11.trans (hb12.mono b11.size))
      replace k11 := box_next k11 hb12
      replace h11 := box_next h11 hb12
      generalize w11.alloc (.cells #[.string em2, .int .i64 g2] 26) = w12 at *
      obtain ⟨z0, z1⟩ := cells_two k11
      obtain ⟨z2, z3⟩ := cells_two h11
      obtain ⟨z4, z5⟩ := cells_two h12
      clear k11 h11 h12 hb12 b11 hz11 T2 P2 B10 B9 B8
      go_wp2_with (first
        | (go_at_call 12; ((with_reducible refine (Y2.out _ B12.out).mono ?_); rintro e w13 ⟨rfl, hb⟩); go_must (have B13 := Lib.hid (B12.out.trans (hb.mono B12.out.size)); clear hb))
        | (go_at_call 6; ((with_reducible refine (HA.out _ B13.out).mono ?_); rintro e w14 ⟨rfl, hb⟩); go_must (have B14 := Lib.hid (B13.out.trans (hb.mono B13.out.size)); clear hb))
        | fail)
      go_ret
      exact ⟨rfl, B14.out⟩
    · have HE := Lib.hid he
      have d0 : (e2 == 0) = false := by simpa using he
      go_wp2_with (first
        | (go_at_call 6; ((with_reducible refine (HA.out _ B8.out).mono ?_); rintro e w9 ⟨rfl, hb⟩); go_must (have B9 := Lib.hid (B8.out.trans (hb.mono B8.out.size)); clear hb))
        | fail)
      go_ret
      exact ⟨rfl, B9.out⟩
  · obtain ⟨ho, hr⟩ := HRR.out rfl
    have T1 := Lib.hid (TX.out em g ho hr)
    have P1 := Lib.hid (PT.out em g ho hr)
    clear HRR
    go_upto_region 5 with (first
      | (go_at_call 10; ((with_reducible refine (RA.out _ B1.out).mono ?_); rintro e w2 ⟨rfl, hb⟩); go_must (have B2 := Lib.hid (B1.out.trans (hb.mono B1.out.size)); have K2 := Lib.hid (box_next H1.out hb); have y0 := cell_next x0 hb; have y1 := cell_next x1 hb; have hl2 := Nat.lt_of_lt_of_le hl1 hb.size; clear hb))
      | (go_at_call 11; ((with_reducible refine (T1.out _ B2.out).mono ?_); rintro e w3 ⟨rfl, hb⟩); go_must (have B3 := Lib.hid (B2.out.trans (hb.mono B2.out.size)); have K3 := Lib.hid (box_next K2.out hb); clear hb))
      | (go_at_call 7; ((with_reducible refine (P1.out _ B3.out).mono ?_); rintro e w4 ⟨rfl, hb⟩); go_must (have B4 := Lib.hid (B3.out.trans (hb.mono B3.out.size)); have k4 := box_next K3.out hb; clear hb))
      | fail)
    obtain ⟨c5, h5, k5⟩ := two_boxes w4 (.string em) (.int .i64 g) (.int .i64 0) (.int .i64 0) 26 29
    have B5 := Lib.hid (B4.out.trans (c5.mono B4.out.size))
    replace k4 := box_next k4 c5
    generalize (w4.alloc (.cells #[.string em, .int .i64 g] 26)).alloc (.cells #[.int .i64 0, .int .i64 0] 29) = w5 at *
    obtain ⟨v0, v1⟩ := cells_two k4
    obtain ⟨v2, v3⟩ := cells_two h5
    obtain ⟨v4, v5⟩ := cells_two k5
    have hl5 := lt_of_heap k5
    clear c5 k4 h5 k5 T1 P1
    go_upto_region 8 with (first
      | fail
      | (go_at_call 7; ((with_reducible refine (PS.out _ B5.out).mono ?_); rintro e w7 ⟨rfl, hb⟩); go_must (have B7 := Lib.hid (B5.out.trans (hb.mono B5.out.size)); clear hb))
      | fail)
    have hn7 := B7.out.size
    obtain ⟨c8, h8, k8⟩ := two_boxes w7 (.string em2) (.int .i64 g2) (.int .i64 e2) (.int .i64 a2) 26 29
    have B8 := Lib.hid (B7.out.trans (c8.mono B7.out.size))
    generalize (w7.alloc (.cells #[.string em2, .int .i64 g2] 26)).alloc (.cells #[.int .i64 e2, .int .i64 a2] 29) = w8 at *
    have H8 := Lib.hid h8
    have K8 := Lib.hid k8
    clear c8 h8 k8
    generalize w7.heap.size = n7 at *
    obtain ⟨m0, m1⟩ := cells_two H8.out
    obtain ⟨m2, m3⟩ := cells_two K8.out
    have hl8 := lt_of_heap K8.out
    by_cases he : e2 = 0
    · subst he
      obtain ⟨ho2, hr2⟩ := HRT.out rfl
      have T2 := Lib.hid (TX.out em2 g2 ho2 hr2)
      have P2 := Lib.hid (PT.out em2 g2 ho2 hr2)
      have Y2 := Lib.hid (RY.out em2 g2 ho2 hr2)
      clear HRT TX PT RY PS RA
      go_upto_region 11 with (first
        | (go_at_call 11; ((with_reducible refine (T2.out _ B8.out).mono ?_); rintro e w9 ⟨rfl, hb⟩); go_must (have B9 := Lib.hid (B8.out.trans (hb.mono B8.out.size)); have H9 := Lib.hid (box_next H8.out hb); have K9 := Lib.hid (box_next K8.out hb); clear hb))
        | (go_at_call 7; ((with_reducible refine (P2.out _ B9.out).mono ?_); rintro e w10 ⟨rfl, hb⟩); go_must (have B10 := Lib.hid (B9.out.trans (hb.mono B9.out.size)); have H10 := Lib.hid (box_next H9.out hb); have k10 := box_next K9.out hb; have hl10 := lt_of_heap k10; obtain ⟨z0, z1⟩ := cells_two k10; have f0 := frozen_of_row w10 _ 0 _ _ k10; have f1 := frozen_of_row w10 _ 1 _ _ k10; have K10 := Lib.hid k10; clear hb k10))
        | fail)
      have k11 := (set_two (set_two K10.out (.int .i64 0)).1 (.int .i64 0)).2
      have h11 : ((w10.setCell ⟨n7 + 1, 0, none⟩ (.int .i64 0)).setCell ⟨n7 + 1, 1, none⟩ (.int .i64 0)).heap[n7]? = some (.cells #[.string em2, .int .i64 g2] 26 (0, 0)) := by
        rw [Below.heap_setCell _ _ _ _ (by simp), Below.heap_setCell _ _ _ _ (by simp)]; exact H10.out
      have b11 := (B10.out.setCell (p := ⟨n7 + 1, 0, none⟩) (show w.heap.size ≤ n7 + 1 by omega) (.int .i64 0)).setCell (p := ⟨n7 + 1, 1, none⟩) (show w.heap.size ≤ n7 + 1 by omega) (.int .i64 0)
      have hz11 : ((w10.setCell ⟨n7 + 1, 0, none⟩ (.int .i64 0)).setCell ⟨n7 + 1, 1, none⟩ (.int .i64 0)).heap.size = w10.heap.size := by simp
      clear z0 z1 f0 f1
      generalize (w10.setCell ⟨n7 + 1, 0, none⟩ (.int .i64 0)).setCell ⟨n7 + 1, 1, none⟩ (.int .i64 0) = w11 at *
      rw [← hz11] at hl10 ⊢
      have hb12 := (Below.refl w11.heap.size w11).alloc (Nat.le_refl _) (.cells #[.string em2, .int .i64 g2] 26)
      have h12 := heap_alloc_new w11 (.cells #[.string em2, .int .i64 g2] 26)
      have B12 := Lib.hid (b11.trans (hb12.mono b11.size))
      replace k11 := box_next k11 hb12
      replace h11 := box_next h11 hb12
      generalize w11.alloc (.cells #[.string em2, .int .i64 g2] 26) = w12 at *
      obtain ⟨z0, z1⟩ := cells_two k11
      obtain ⟨z2, z3⟩ := cells_two h11
      obtain ⟨z4, z5⟩ := cells_two h12
      clear k11 h11 h12 hb12 b11 hz11 T2 P2 B10 B9 B8
      go_wp2_with (first
        | (go_at_call 12; ((with_reducible refine (Y2.out _ B12.out).mono ?_); rintro e w13 ⟨rfl, hb⟩); go_must (have B13 := Lib.hid (B12.out.trans (hb.mono B12.out.size)); clear hb))
        | (go_at_call 6; ((with_reducible refine (HA.out _ B13.out).mono ?_); rintro e w14 ⟨rfl, hb⟩); go_must (have B14 := Lib.hid (B13.out.trans (hb.mono B13.out.size)); clear hb))
        | fail)
      go_ret
      exact ⟨rfl, B14.out⟩
    · have HE := Lib.hid he
      have d0 : (e2 == 0) = false := by simpa using he
      go_wp2_with (first
        | (go_at_call 6; ((with_reducible refine (HA.out _ B8.out).mono ?_); rintro e w9 ⟨rfl, hb⟩); go_must (have B9 := Lib.hid (B8.out.trans (hb.mono B8.out.size)); clear hb))
        | fail)
      go_ret
      exact ⟨rfl, B9.out⟩

theorem law_back (em : ByteArray) (g : Int) (M : List ByteArray) (v : Value) (s : ByteArray) (w : World) (hem : em.size ≤ maxLen) (hs : s.size ≤ maxLen) (hv : StrsAt w v M) (hT : Tab w) :
    Calls Tryd.prog 4 #[.agg #[.string em, .int .i64 g], v, .string s] w fun e w' => e = .returned (.bool true) ∧ Below w.heap.size w w' := by
  by_cases h : em.size ≤ 60 ∧ s.size ≤ 200 ∧ farB M = false ∧ mdB M = true
  · exact back_main em g M v s w h.1 h.2.1 h.2.2.1 h.2.2.2 hv hT
  · exact back_dark em g M v s w hem hs hv hT h

end Go.Proofs.YtleejfkononjgaaDoor.Ac

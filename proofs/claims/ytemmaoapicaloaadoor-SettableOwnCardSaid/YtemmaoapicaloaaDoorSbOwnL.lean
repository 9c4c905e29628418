/- The third law: copies; tables that nobody made. -/
import Derived.Test.YtemmaoapicaloaaDoorSbOwn
namespace Go.Proofs.YtemmaoapicaloaaDoor.Sb
open Go Go.RowKit Go.Proofs.YtemmaoapicaloaaDoor.At
open Go.Proofs.YtemmaoapicaloaaDoor.Bt (SetAt setV memL nums roomF iV own_slice Tab all_any of_any OfOut)

theorem all_own (B room : Nat) (v : Value) (L : List Nat) (w : World) (hT : Tab w) (h : SetAt w B room v L) : Calls Tryd.prog 16 #[setV room v] w fun e w' => ∃ ao c, e = .returned (.slice ao (nums L).length c) ∧ w'.ownsRow w.heap.size 3 1 (.slice ao (nums L).length c) (nums L).length (iV (nums L)) ∧ Below w.heap.size w w' := by
  refine (all_any B room v L w hT h).mono ?_
  rintro e w' ⟨v', rfl, h1, h2⟩
  obtain ⟨ao, c, rfl⟩ := own_slice h1
  exact ⟨ao, c, rfl, h1, h2⟩

theorem same_true (a b : Value) (xs : List Int) (w : World) (ha : IntsAt w a xs) (hb : IntsAt w b xs) : Calls Tryd.prog 15 #[a, b] w fun e w' => e = .returned (.bool true) ∧ Below w.heap.size w w' := by
  refine (Ut.same_any a b xs xs w ha hb).mono ?_
  rintro e w' ⟨rfl, h⟩
  exact ⟨by simp, h⟩

set_option maxRecDepth 100000 in
set_option maxHeartbeats 8000000 in
theorem own_any (n : Int) (lv : Value) (l : List Int) (w : World) (hT : Tab w) (hl : IntsAt w lv l) : Calls Tryd.prog 4 #[lv, .int .i64 n] w fun e w' => e = .returned (.bool true) ∧ Below w.heap.size w w' := by
  have HT := Lib.hid hT
  have AL := Lib.hid (fun W => alive_any W)
  have OF := Lib.hid (fun W (hW : Below w.heap.size w W) => of_any 100 lv l W (hl.next hW))
  rw [show roomF 100 = 100 from rfl] at OF
  obtain ⟨lo, lc, rfl, hm, _⟩ := hl.shape
  clear hT hl
  by_cases h20 : 20 < l.length
  · have h1 : (20 : Int) < (l.length : Int) := by omega
    go_enter Tryd.func4, Tryd.ntmps4
    go_wp2_with (go_at_call 5; (with_reducible refine (AL.out _).mono ?_); rintro e w' ⟨rfl, hb⟩)
    go_ret
    exact ⟨rfl, hb⟩
  have h1 : ¬ (20 : Int) < (l.length : Int) := by omega
  have NW := Lib.hid (new_any 5 w)
  have CK := Lib.hid (fun W B T tb N (h : TK W B tb [N] 5 T) => get_as 0 h (by simp))
  unfold setV ptr at CK
  simp only [Int.cast_ofNat_Int, List.getD_cons_zero] at CK
  go_enter Tryd.func4, Tryd.ntmps4
  go_wp2_with (first
    | (go_at_call 6; (with_reducible refine NW.out.mono ?_); rintro e w1 ⟨tb, pv, rfl, ht, hb⟩; unfold ptr; go_must (have K1 := Lib.hid (And.intro ht hb); clear ht hb NW))
    | (go_at_call 10; (with_reducible refine (OF.out w1 K1.out.2).mono ?_); rintro e w2 ⟨v, L, rfl, hs, hmm, hb⟩; obtain ⟨so, sn, sc, rfl⟩ := hs.val; unfold setV; go_must (have A2 := (Below.refl w2.heap.size w2).alloc (Nat.le_refl _) (.cells #[.int .i64 (100 : Nat), .slice so sn sc] 34); have A1 := K1.out.2.trans (hb.mono K1.out.2.size); have AL2 := Lib.hid (all_own w1.heap.size 100 _ L (w2.alloc (.cells #[.int .i64 (100 : Nat), .slice so sn sc] 34)) (HT.out.next (A1.trans (A2.mono A1.size))) (hs.next A2)); unfold setV at AL2; simp only [Int.cast_ofNat_Int] at AL2; have K2 := Lib.hid (And.intro hs hb); clear hs hmm hb A1 A2))
    | (go_at_call 16; (with_reducible refine AL2.out.mono ?_); rintro e w4 ⟨wo, wc, rfl, hw, hb⟩; go_must (obtain ⟨T4, hS4, hc4⟩ := sa_start K1.out.1 K1.out.2 K2.out.1 K2.out.2 hw hb; have P4 := Lib.hid (sa_put hS4 rfl hc4); obtain ⟨y0, y1, y2⟩ := at2 hS4.box; simp only [Int.cast_ofNat_Int] at y0; unfold setV ptr at P4; simp only [Int.cast_ofNat_Int] at P4; clear hw hb hS4 hc4))
    | (go_at_call 11; (with_reducible refine P4.out.mono ?_); rintro e w5 ⟨T5, rfl, hS5⟩; go_must (have P5 := Lib.hid (sa_add n hS5); obtain ⟨z0, z1, z2⟩ := at2 hS5.box; simp only [Int.cast_ofNat_Int] at z0; unfold setV at P5; simp only [Int.cast_ofNat_Int] at P5; clear hS5))
    | (go_at_call 18; (with_reducible refine P5.out.mono ?_); rintro e w6 ⟨b6, L6, rfl, hS6⟩; go_must (have P6 := Lib.hid (sa_drop 0 hS6); obtain ⟨x0, x1, x2⟩ := at2 hS6.box; simp only [Int.cast_ofNat_Int] at x0; unfold setV at P6; simp only [Int.cast_ofNat_Int] at P6; clear hS6))
    | (go_at_call 19; (with_reducible refine P6.out.mono ?_); rintro e w7 ⟨b7, L7, rfl, hS7⟩; go_must (have P7 := Lib.hid (CK.out _ _ _ _ _ hS7.tk); have S7 := Lib.hid hS7; clear hS7))
    | (go_at_call 14; (with_reducible refine P7.out.mono ?_); rintro e w8 ⟨r, go8, gn, gc, L8, rfl, hs, hN8, hb⟩; go_must (have S8 := S7.out.got hs hb; have P8 := Lib.hid (sb_add n S8); obtain ⟨x3, x4, x5⟩ := at2 S8.box; unfold setV at P8; clear hs hN8 hb S8 S7))
    | (go_at_call 18; (with_reducible refine P8.out.mono ?_); rintro e w9 ⟨b9, L9, rfl, hS9⟩; go_must (have P9 := Lib.hid (sb_drop 1 hS9); obtain ⟨x6, x7, x8⟩ := at2 hS9.box; unfold setV at P9; clear hS9))
    | (go_at_call 19; (with_reducible refine P9.out.mono ?_); rintro e w10 ⟨b10, L10, rfl, hS10⟩; go_must (have P10 := Lib.hid (CK.out _ _ _ _ _ hS10.tk); have S10 := Lib.hid hS10; clear hS10))
    | (go_at_call 14; (with_reducible refine P10.out.mono ?_); rintro e w11 ⟨r2, ho, hn, hc, L11, rfl, hs, hN11, hb⟩; go_must (have S11 := Lib.hid (S10.out.got hs hb); have HN := Lib.hid hN11; have Z11 := Lib.hid (at_new (w11.alloc (.cells #[.int .i64 (r2 : Nat), .slice ho hn hc] 34)) (.cells #[.int .i64 0, .int .i64 0, .slice none 0 0, .slice none 0 0, .nilFunc] 47)); have E1 := Lib.hid (put_nil r2 ho hn hc ((w11.alloc (.cells #[.int .i64 (r2 : Nat), .slice ho hn hc] 34)).alloc (.cells #[.int .i64 0, .int .i64 0, .slice none 0 0, .slice none 0 0, .nilFunc] 47))); unfold setV at E1; simp only [World.size_alloc] at Z11; clear hs hb hN11))
    | (go_at_call 11; (with_reducible refine E1.out.mono ?_); rintro e w12 ⟨rfl, hb⟩; go_must (have A := (Below.refl (w11.alloc (.cells #[.int .i64 (r2 : Nat), .slice ho hn hc] 34)).heap.size (w11.alloc (.cells #[.int .i64 (r2 : Nat), .slice ho hn hc] 34))).alloc (Nat.le_refl _) (.cells #[.int .i64 0, .int .i64 0, .slice none 0 0, .slice none 0 0, .nilFunc] 47); have S12 := Lib.hid ((S11.out.next A).next hb); have Z12 := Lib.hid (at_next Z11.out hb); obtain ⟨u0, u1, u2⟩ := at2 S12.out.box; have E2 := Lib.hid (put_zero (w11.heap.size + 1) r2 ho hn hc w12 (by rw [at_cell Z12.out]; rfl)); unfold setV ptr at E2; have hl12 := at_lt Z12.out; clear hb A))
    | (go_at_call 11; (with_reducible refine E2.out.mono ?_); rintro e w13 ⟨rfl, hb⟩; go_must (have S13 := Lib.hid (S12.out.next hb); have Z13 := Lib.hid (at_next Z12.out hb); obtain ⟨u3, u4, u5⟩ := at2 S13.out.box; have E3 := Lib.hid (find_zero (w11.heap.size + 1) r2 ho hn hc w13 (by rw [at_cell Z13.out]; rfl)); unfold setV ptr at E3; clear hb))
    | (go_at_call 9; (with_reducible refine E3.out.mono ?_); rintro e w14 ⟨rfl, hb⟩; go_must (have S14 := Lib.hid (S13.out.next hb); have Z14 := Lib.hid (at_next Z13.out hb); have E4 := Lib.hid (get_none (.pointer none) 0 0 w14 (fun W _ => by rw [show ((0 : Nat) : Int) = 0 from rfl]; exact len_nil W) (by omega) (by omega)); clear hb))
    | (go_at_call 14; (with_reducible refine E4.out.mono ?_); rintro e w15 ⟨rfl, hb⟩; unfold setV; simp only [Int.cast_ofNat_Int]; go_must (have A := (Below.refl w15.heap.size w15).alloc (Nat.le_refl _) (.cells #[.int .i64 0, .slice none 0 0] 34); have S15 := Lib.hid ((S14.out.next hb).next A); have Z15 := Lib.hid (at_next (at_next Z14.out hb) A); obtain ⟨t0, t1, t2⟩ := at2 (S14.out.next hb).box; have E5 := Lib.hid (load_zero (w11.heap.size + 1) (w15.alloc (.cells #[.int .i64 0, .slice none 0 0] 34)) (by rw [at_cell Z15.out]; rfl)); unfold ptr at E5; have AL5 := Lib.hid (all_own w.heap.size r2 _ L11 (w15.alloc (.cells #[.int .i64 0, .slice none 0 0] 34)) (HT.out.next S15.out.below) S15.out.set); unfold setV at AL5; rw [HN.out] at AL5; clear hb A))
    | (go_at_call 20; (with_reducible refine E5.out.mono ?_); rintro e w16 ⟨rfl, hw⟩; subst hw)
    | (go_at_call 16; (with_reducible refine AL5.out.mono ?_); rintro e w17 ⟨qo, qc, rfl, hw, hb⟩; go_must (have S17 := Lib.hid (S15.out.next hb); have Z17 := Lib.hid (at_next Z15.out hb); have SM := Lib.hid (same_true _ _ (nums L) w17 (ints_of_row hw) (ints_of_row S17.out.want)); clear hw hb))
    | (go_at_call 15; (with_reducible refine SM.out.mono ?_); rintro e w18 ⟨rfl, hb⟩; go_must (have S18 := Lib.hid (S17.out.next hb); have Z18 := Lib.hid (at_next Z17.out hb); have E6 := Lib.hid (len_zero (w11.heap.size + 1) w18 (by rw [at_cell Z18.out]; rfl)); have E7 := Lib.hid (full_zero (w11.heap.size + 1) w18 (by rw [at_cell Z18.out]; rfl)); unfold ptr at E6 E7; have E8 := Lib.hid (len_nil w18); have E9 := Lib.hid (full_nil w18); clear hb))
    | (go_at_call 17; (with_reducible first | refine E8.out.mono ?_ | refine E6.out.mono ?_); rintro e w19 ⟨rfl, hw⟩; subst hw)
    | (go_at_call 13; (with_reducible first | refine E9.out.mono ?_ | refine E7.out.mono ?_); rintro e w20 ⟨rfl, hw⟩; subst hw)
    | (go_at_call 5; (with_reducible refine (AL.out _).mono ?_); rintro e w21 ⟨rfl, hb21⟩)
    | fail)
  go_ret
  exact ⟨rfl, S18.out.below.trans (hb21.mono S18.out.below.size)⟩

end Go.Proofs.YtemmaoapicaloaaDoor.Sb

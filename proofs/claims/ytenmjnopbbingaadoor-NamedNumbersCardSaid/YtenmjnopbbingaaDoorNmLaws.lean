/- The laws of named: NamedSets. -/
import Derived.Test.YtenmjnopbbingaaDoorNmAlive
namespace Go.Proofs.YtenmjnopbbingaaDoor.Nm
open Go.RowKit Go.Shelf Go.Proofs.YtenmjnopbbingaaDoor.Rg

theorem made_base {w w1 W : World} {v : Value} {L : List R} {P : Int → Bool} {n : Nat} (h : MadeAt w1 W v L P n) (hb : Below w.heap.size w w1) : MadeAt w W v L P n := ⟨h.at', h.set, h.has, h.len, hb.trans (h.below.mono hb.size)⟩
theorem made_nil {w W : World} (hb : Below w.heap.size w W) : MadeAt w W (.slice none 0 0) [] (fun _ => false) 0 := ⟨none_at W, trivial, fun _ => rfl, Nat.le_refl _, hb⟩
theorem short_none {w w' : World} {c : Int} {e : Ending} (hk : shortK c = none) (h : ShortOut w c e w') : e = .returned (.tuple #[.slice none 0 0, .bool false]) ∧ Below w.heap.size w w' := by
  unfold ShortOut at h; rw [hk] at h; exact h
theorem short_some {w w' : World} {c : Int} {k : Nat × Bool} {e : Ending} (hk : shortK c = some k) (h : ShortOut w c e w') : ∃ v L, e = .returned (.tuple #[v, .bool true]) ∧ MadeAt w w' v L (shortB k) 100000 := by
  unfold ShortOut at h; rw [hk] at h; exact h
theorem not_name {nm : ByteArray} (h : isB nm = false) (c : Int) : hasN nm c = false := by
  rcases row_cases nm with ⟨k, hk, rfl⟩ | hn
  · rw [isB_yes hk] at h; cases h
  · exact hasN_none hn c
theorem empty_of {L : List R} {nm : ByteArray} (h : isB nm = false) (h1 : setFrom 0 L) (h2 : ∀ c, hasB L c = hasN nm c) : L = [] :=
  uniq h1 (show setFrom 0 [] from trivial) fun c => by rw [h2, not_name h]; rfl

set_option maxRecDepth 100000 in
set_option maxHeartbeats 8000000 in
theorem lawSets_any (nm : ByteArray) (c : Int) (w : World) (hT : Tab w) (hL : Lets w) : Calls Tryd.prog 3 #[.string nm, .int .u8 c] w fun e w' => e = .returned (.bool true) ∧ Below w.heap.size w w' := by
  have AL := Lib.hid (fun W (h : Below w.heap.size w W) => alive_any W (hT.next h) (hL.next h))
  by_cases hlen : 40 < nm.size
  · have d1 : decide (40 < (nm.size : Int)) = true := by simp; omega
    clear hT hL hlen
    go_enter Tryd.func3, Tryd.ntmps3
    go_wp2_with (go_at_call 6; (with_reducible refine (AL.out w (Below.refl _ _)).mono ?_); rintro e w1 ⟨rfl, hb⟩)
    go_ret
    exact ⟨rfl, hb⟩
  · have d1 : decide (40 < (nm.size : Int)) = false := by simp; omega
    have cO := Lib.hid (of_name nm w hT)
    have cS := Lib.hid (fun W (h : Below w.heap.size w W) => short_any c W (hT.next h) (hL.next h))
    have cR := Lib.hid (fun W => rshort_any c W)
    have cI := Lib.hid (fun W => ris_any nm W)
    have cT := Lib.hid (fun W => rset_name nm W)
    have CM := Lib.hid (fun W v L v' L' P n n' (h : MadeAt w W v L P n) (k : MadeAt w W v' L' P n') => cmp_any h (Below.refl _ _) k (fun _ => rfl))
    clear hT hL hlen
    obtain ⟨x, hx⟩ : ∃ x, shortK c = x := ⟨_, rfl⟩
    have HX := Lib.hid hx
    clear hx
    obtain ⟨b, hb⟩ : ∃ b, isB nm = b := ⟨_, rfl⟩
    rw [hb] at cI
    have hb2 : decide (0 < (eachN nm).length) = b := hb
    have HB := Lib.hid hb
    clear hb
    cases b with
    | true =>
      cases x with
      | none =>
        go_enter Tryd.func3, Tryd.ntmps3
        go_wp2_with (first
          | (go_at_call 7; (with_reducible refine cO.out.mono ?_); rintro e w1 ⟨v1, L1, rfl, hr, h1, h2, h3, h4⟩; go_must (have M1 := Lib.hid (made_of hr h1 h2 h3 h4 (Below.refl _ _)); obtain ⟨ao, cap, rfl, _, _⟩ := M1.out.at'.shape; have B1 := Lib.hid h4; clear hr h1 h2 h3 h4))
          | (go_at_call 8; (with_reducible refine (cS.out w1 B1.out).mono ?_); intro e w2 ho; go_must (obtain ⟨rfl, hb⟩ := short_none HX.out ho; have U2 := Lib.hid hb; have B2 := Lib.hid (B1.out.trans (hb.mono B1.out.size)); clear ho hb))
          | (go_at_call 9; (with_reducible refine (cR.out w2).mono ?_); intro e w3 ho; go_must (obtain ⟨rfl, hb⟩ := short_none HX.out ho; have U13 := Lib.hid (U2.out.trans (hb.mono U2.out.size)); have B3 := Lib.hid (B2.out.trans (hb.mono B2.out.size)); clear ho hb))
          | (go_at_call 10; (with_reducible refine (cI.out w3).mono ?_); rintro e w4 ⟨rfl, hb⟩; go_must (have U4 := Lib.hid hb; have B4 := Lib.hid (B3.out.trans (hb.mono B3.out.size)); clear hb))
          | (go_at_call 12; (with_reducible refine (cT.out w4).mono ?_); rintro e w5 ⟨v5, L5, rfl, m5⟩; go_must (have U5 := Lib.hid m5.below; have M5 := Lib.hid (made_base m5 B4.out); have B5 := Lib.hid M5.out.below; have M1b := Lib.hid (((M1.out.next U13.out).next U4.out).next U5.out); clear m5))
          | (go_at_call 11; (with_reducible refine (CM.out w5 _ _ _ _ _ _ _ M1b.out M5.out).mono ?_); rintro e w6 ⟨rfl, hb⟩; go_must (have U6 := Lib.hid hb; have B6 := Lib.hid (B5.out.trans (hb.mono B5.out.size)); clear hb))
          | (go_at_call 11; (with_reducible refine (CM.out w6 _ _ _ _ _ _ _ (made_nil B6.out) (made_nil B6.out)).mono ?_); rintro e w7 ⟨rfl, hb⟩; go_must (have B7 := Lib.hid (B6.out.trans (hb.mono B6.out.size)); clear hb))
          | (go_at_call 6; (with_reducible refine (AL.out w7 B7.out).mono ?_); rintro e w8 ⟨rfl, hb⟩; go_must (have B8 := Lib.hid (B7.out.trans (hb.mono B7.out.size)); clear hb)))
        go_ret
        exact ⟨rfl, B8.out⟩
      | some k =>
        go_enter Tryd.func3, Tryd.ntmps3
        go_wp2_with (first
          | (go_at_call 7; (with_reducible refine cO.out.mono ?_); rintro e w1 ⟨v1, L1, rfl, hr, h1, h2, h3, h4⟩; go_must (have M1 := Lib.hid (made_of hr h1 h2 h3 h4 (Below.refl _ _)); obtain ⟨ao, cap, rfl, _, _⟩ := M1.out.at'.shape; have B1 := Lib.hid h4; clear hr h1 h2 h3 h4))
          | (go_at_call 8; (with_reducible refine (cS.out w1 B1.out).mono ?_); intro e w2 ho; go_must (obtain ⟨v2, L2, rfl, m2⟩ := short_some HX.out ho; have U2 := Lib.hid m2.below; have M2 := Lib.hid (made_base m2 B1.out); have B2 := Lib.hid M2.out.below; clear ho m2))
          | (go_at_call 9; (with_reducible refine (cR.out w2).mono ?_); intro e w3 ho; go_must (obtain ⟨v3, L3, rfl, m3⟩ := short_some HX.out ho; have U13 := Lib.hid (U2.out.trans (m3.below.mono U2.out.size)); have M3 := Lib.hid (made_base m3 B2.out); have M2b := Lib.hid (M2.out.next m3.below); have B3 := Lib.hid M3.out.below; clear ho m3))
          | (go_at_call 10; (with_reducible refine (cI.out w3).mono ?_); rintro e w4 ⟨rfl, hb⟩; go_must (have U4 := Lib.hid hb; have B4 := Lib.hid (B3.out.trans (hb.mono B3.out.size)); clear hb))
          | (go_at_call 12; (with_reducible refine (cT.out w4).mono ?_); rintro e w5 ⟨v5, L5, rfl, m5⟩; go_must (have U5 := Lib.hid m5.below; have M5 := Lib.hid (made_base m5 B4.out); have B5 := Lib.hid M5.out.below; have M1b := Lib.hid (((M1.out.next U13.out).next U4.out).next U5.out); clear m5))
          | (go_at_call 11; (with_reducible refine (CM.out w5 _ _ _ _ _ _ _ M1b.out M5.out).mono ?_); rintro e w6 ⟨rfl, hb⟩; go_must (have U6 := Lib.hid hb; have B6 := Lib.hid (B5.out.trans (hb.mono B5.out.size)); clear hb))
          | (go_at_call 11; (with_reducible refine (CM.out w6 _ _ _ _ _ _ _ (((M2b.out.next U4.out).next U5.out).next U6.out) (((M3.out.next U4.out).next U5.out).next U6.out)).mono ?_); rintro e w7 ⟨rfl, hb⟩; go_must (have B7 := Lib.hid (B6.out.trans (hb.mono B6.out.size)); clear hb))
          | (go_at_call 6; (with_reducible refine (AL.out w7 B7.out).mono ?_); rintro e w8 ⟨rfl, hb⟩; go_must (have B8 := Lib.hid (B7.out.trans (hb.mono B7.out.size)); clear hb)))
        go_ret
        exact ⟨rfl, B8.out⟩
    | false =>
      cases x with
      | none =>
        go_enter Tryd.func3, Tryd.ntmps3
        go_wp2_with (first
          | (go_at_call 7; (with_reducible refine cO.out.mono ?_); rintro e w1 ⟨v1, L1, rfl, hr, h1, h2, h3, h4⟩; go_must (obtain rfl := empty_of HB.out h1 h2; obtain ⟨ao, cap, rfl, _, _⟩ := (rngs_of_row hr).shape; have B1 := Lib.hid h4; clear hr h1 h2 h3 h4))
          | (go_at_call 8; (with_reducible refine (cS.out w1 B1.out).mono ?_); intro e w2 ho; go_must (obtain ⟨rfl, hb⟩ := short_none HX.out ho; have B2 := Lib.hid (B1.out.trans (hb.mono B1.out.size)); clear ho hb))
          | (go_at_call 9; (with_reducible refine (cR.out w2).mono ?_); intro e w3 ho; go_must (obtain ⟨rfl, hb⟩ := short_none HX.out ho; have B3 := Lib.hid (B2.out.trans (hb.mono B2.out.size)); clear ho hb))
          | (go_at_call 10; (with_reducible refine (cI.out w3).mono ?_); rintro e w4 ⟨rfl, hb⟩; go_must (have U4 := Lib.hid hb; have B4 := Lib.hid (B3.out.trans (hb.mono B3.out.size)); clear hb))
          | (go_at_call 11; (with_reducible refine (CM.out w4 _ _ _ _ _ _ _ (made_nil B4.out) (made_nil B4.out)).mono ?_); rintro e w7 ⟨rfl, hb⟩; go_must (have B7 := Lib.hid (B4.out.trans (hb.mono B4.out.size)); clear hb))
          | (go_at_call 6; (with_reducible refine (AL.out w7 B7.out).mono ?_); rintro e w8 ⟨rfl, hb⟩; go_must (have B8 := Lib.hid (B7.out.trans (hb.mono B7.out.size)); clear hb)))
        go_ret
        exact ⟨rfl, B8.out⟩
      | some k =>
        go_enter Tryd.func3, Tryd.ntmps3
        go_wp2_with (first
          | (go_at_call 7; (with_reducible refine cO.out.mono ?_); rintro e w1 ⟨v1, L1, rfl, hr, h1, h2, h3, h4⟩; go_must (obtain rfl := empty_of HB.out h1 h2; obtain ⟨ao, cap, rfl, _, _⟩ := (rngs_of_row hr).shape; have B1 := Lib.hid h4; clear hr h1 h2 h3 h4))
          | (go_at_call 8; (with_reducible refine (cS.out w1 B1.out).mono ?_); intro e w2 ho; go_must (obtain ⟨v2, L2, rfl, m2⟩ := short_some HX.out ho; have M2 := Lib.hid (made_base m2 B1.out); have B2 := Lib.hid M2.out.below; clear ho m2))
          | (go_at_call 9; (with_reducible refine (cR.out w2).mono ?_); intro e w3 ho; go_must (obtain ⟨v3, L3, rfl, m3⟩ := short_some HX.out ho; have M3 := Lib.hid (made_base m3 B2.out); have M2b := Lib.hid (M2.out.next m3.below); have B3 := Lib.hid M3.out.below; clear ho m3))
          | (go_at_call 10; (with_reducible refine (cI.out w3).mono ?_); rintro e w4 ⟨rfl, hb⟩; go_must (have U4 := Lib.hid hb; have B4 := Lib.hid (B3.out.trans (hb.mono B3.out.size)); clear hb))
          | (go_at_call 11; (with_reducible refine (CM.out w4 _ _ _ _ _ _ _ (M2b.out.next U4.out) (M3.out.next U4.out)).mono ?_); rintro e w7 ⟨rfl, hb⟩; go_must (have B7 := Lib.hid (B4.out.trans (hb.mono B4.out.size)); clear hb))
          | (go_at_call 6; (with_reducible refine (AL.out w7 B7.out).mono ?_); rintro e w8 ⟨rfl, hb⟩; go_must (have B8 := Lib.hid (B7.out.trans (hb.mono B7.out.size)); clear hb)))
        go_ret
        exact ⟨rfl, B8.out⟩

end Go.Proofs.YtenmjnopbbingaaDoor.Nm

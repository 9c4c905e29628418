/- The laws of named: NamedNumbers, NamedParts. -/
import Derived.Test.YtenmjnopbbingaaDoorNmLaws
import Derived.Test.YtenmjnopbbingaaDoorRgRight
import Derived.Deep.RegionHeld3
namespace Go.Proofs.YtenmjnopbbingaaDoor.Nm
open Go.RowKit Go.Shelf Go.Proofs.YtenmjnopbbingaaDoor.Rg

theorem ofK_prefix (c : Int) (k : Nat) : ∃ t, ofL c = ofK c k ++ t := by
  have h : ofL c = ((namesL.take k) ++ (namesL.drop k)).filter fun nm => hasN nm c := by rw [List.take_append_drop]; rfl
  rw [h, List.filter_append]
  exact ⟨_, rfl⟩
theorem ofL_get (c : Int) {k : Nat} (hk : k < 16) (h : hasN (nthW k).1 c = true) : (ofK c k).length < (ofL c).length ∧ (ofL c).getD (ofK c k).length ⟨#[]⟩ = (nthW k).1 := by
  obtain ⟨t, ht⟩ := ofK_prefix c (k + 1)
  rw [ofK_succ c hk, h, if_pos rfl] at ht
  rw [ht]
  constructor
  · simp
  · rw [List.getD_eq_getElem?_getD, List.append_assoc, List.getElem?_append_right (Nat.le_refl _)]; simp
theorem ofK_all (c : Int) : ofK c 16 = ofL c := rfl

def NumRel (c : Int) (w2 : World) (s i : Value) (wr : World) : Prop := ∃ k : Nat, i = .int .i64 (k : Nat) ∧ k ≤ 16 ∧ s = .int .i64 ((ofK c k).length : Nat) ∧ Below w2.heap.size w2 wr

set_option maxRecDepth 100000 in
set_option maxHeartbeats 8000000 in
theorem lawNumbers_any (c : Int) (w : World) (hT : Tab w) (hL : Lets w) : Calls Tryd.prog 4 #[.int .i64 c] w fun e w' => e = .returned (.bool true) ∧ Below w.heap.size w w' := by
  have AL := Lib.hid (fun W (h : Below w.heap.size w W) => alive_any W (hT.next h) (hL.next h))
  have c1 := Lib.hid (of2_any c w hT)
  have c2 := Lib.hid (fun W => rnames_any W)
  have hll : (ofL c).length ≤ 16 := ofK_len c (Nat.le_refl _)
  clear hT hL
  go_enter Tryd.func4, Tryd.ntmps4
  go_wp2_with (first
    | (go_at_call 13; (with_reducible refine c1.out.mono ?_); rintro e w1 ⟨v1, rfl, hs, hb⟩; go_must (have S1 := Lib.hid hs; have B1 := Lib.hid hb; clear hs hb))
    | (go_at_call 14; (with_reducible refine (c2.out w1).mono ?_); rintro e w2 ⟨v2, rfl, hs, hb⟩; go_must (obtain ⟨ao, cap, rfl, _, hc⟩ := (S1.out.next hb).shape; obtain ⟨bo, bcap, rfl, _, hd⟩ := hs.shape; have HC := Lib.hid hc; have HD := Lib.hid hd; have B2 := Lib.hid (B1.out.trans (hb.mono B1.out.size)); clear hs hb hc hd)))
  have hn16 : namesL.length = 16 := rfl
  obtain ⟨N, hN⟩ : ∃ N, namesL.length = N := ⟨_, rfl⟩
  have HN := Lib.hid (show N = 16 by rw [← hN]; exact hn16)
  rw [hN]
  clear hn16 hN
  go_loopw [5, 12] (fun s i wr => NumRel c w2 s i wr) (fun _ i _ => 16 - (intOf i).toNat)
  case atStart => exact ⟨0, rfl, Nat.zero_le _, rfl, Below.refl _ _⟩
  case round =>
    obtain ⟨k, rfl, hk, rfl, hbw⟩ := hrel
    by_cases hlt : k < 16
    · obtain ⟨bd, rfl, d0⟩ := HD.out k (show k < namesL.length from hlt)
      rw [List.getD_eq_getElem?_getD, names_get hlt, Option.getD_some] at d0
      replace d0 := cell_next d0 hbw
      have n1 : (k : Int) < (N : Int) := by have := HN.out; omega
      have cH := Lib.hid (rhas_any2 (nthW k).1 c wr)
      have hst := ofK_succ c hlt
      have hkl := ofK_len c hk
      have HBW := Lib.hid hbw
      cases hh : hasN (nthW k).1 c with
      | false =>
        rw [hh] at cH hst
        rw [if_neg (by simp)] at hst
        have HST := Lib.hid hst
        clear hst hh hbw
        go_wp2_with (go_at_call 15; (with_reducible refine cH.out.mono ?_); rintro e w' ⟨rfl, rfl⟩)
        go_roundw
        case rel => exact ⟨k + 1, by go_num, hlt, by rw [HST.out], HBW.out⟩
        case measure => simp [intOf]; omega
      | true =>
        obtain ⟨hm1, hm2⟩ := ofL_get c hlt hh
        rw [hh] at cH hst
        rw [if_pos rfl] at hst
        have HST := Lib.hid hst
        obtain ⟨ad, rfl, e0⟩ := HC.out _ hm1
        rw [hm2] at e0
        replace e0 := cell_next e0 hbw
        generalize hq : (ofK c k).length = q at *
        generalize hp : (ofL c).length = p at *
        have HQ := Lib.hid hq
        clear hst hh hbw hm2 hq
        have n2 : (q : Int) < (p : Int) := by omega
        have n3 : ¬ ((p : Int) ≤ (q : Int)) := by omega
        go_wp2_with (go_at_call 15; (with_reducible refine cH.out.mono ?_); rintro e w' ⟨rfl, rfl⟩)
        go_quiet (fail)
        go_wp2
        go_roundw
        case rel => exact ⟨k + 1, by go_num, hlt, by rw [HST.out, List.length_append, HQ.out]; simp, HBW.out.trans ((below_drewN _ _).mono HBW.out.size)⟩
        case measure => simp [intOf]; omega
    · obtain rfl : k = 16 := by omega
      rw [ofK_all]
      have n1 : ¬ (((16 : Nat) : Int) < (N : Int)) := by have := HN.out; omega
      have B3 := Lib.hid (B2.out.trans (hbw.mono B2.out.size))
      clear hbw
      go_wp2_with (go_at_call 6; (with_reducible refine (AL.out wr B3.out).mono ?_); rintro e w4 ⟨rfl, hb⟩)
      go_ret
      exact ⟨rfl, B3.out.trans (hb.mono B3.out.size)⟩

theorem right_yes {w W : World} {v : Value} {L : List R} {nm : ByteArray} (h : MadeAt w W v L (hasN nm) 30) : Calls Tryd.prog 17 #[v] W fun e w' => e = .returned (.bool true) ∧ Below W.heap.size W w' := by
  refine (rright_all L v W h.at' (by have := h.len; omega)).mono ?_
  rintro e w' ⟨rfl, hb⟩
  exact ⟨by rw [(rightB_iff L).2 h.set], hb⟩
theorem join_both {w W : World} {v v' : Value} {L L' : List R} {P P' : Int → Bool} (h : MadeAt w W v L P 30) (k : MadeAt w W v' L' P' 30) : Calls Tryd.prog 18 #[.int .i64 2, v, v'] W fun e w' => SetOut W (fun c => isC c && holdB 2 L L' c) (2 + 2 * (L.length + L'.length)) e w' :=
  set_any 2 (by omega) L L' v v' W h.at' k.at' (by have := h.len; have := k.len; omega)
theorem alphaL : eachN ⟨#[65, 108, 112, 104, 97]⟩ = eachN ⟨#[85, 112, 112, 101, 114]⟩ ++ eachN ⟨#[76, 111, 119, 101, 114]⟩ := by kernel_rfl
theorem alpha_set {w W : World} {v v' : Value} {L L' : List R} (h : MadeAt w W v L (hasN ⟨#[85, 112, 112, 101, 114]⟩) 30) (k : MadeAt w W v' L' (hasN ⟨#[76, 111, 119, 101, 114]⟩) 30) (x : Int) : (isC x && holdB 2 L L' x) = hasN ⟨#[65, 108, 112, 104, 97]⟩ x := by
  show (isC x && (inB L x || inB L' x)) = _
  rw [inB_set h.set, inB_set k.set, h.has, k.has, Bool.and_or_distrib_left, hasN_isC, hasN_isC, ← hasN_eq, ← hasN_eq, ← hasN_eq, alphaL, hasB_append]
theorem rem16 (i : Int) : ∃ k : Nat, k < 16 ∧ i % 16 = (k : Nat) := ⟨(i % 16).toNat, by omega, by omega⟩

set_option maxRecDepth 100000 in
set_option maxHeartbeats 8000000 in
theorem lawParts_any (i : Int) (hi0 : 0 ≤ i) (hi1 : i ≤ 255) (w : World) (hT : Tab w) (hL : Lets w) : Calls Tryd.prog 5 #[.int .u8 i] w fun e w' => e = .returned (.bool true) ∧ Below w.heap.size w w' := by
  have AL := Lib.hid (fun W (h : Below w.heap.size w W) => alive_any W (hT.next h) (hL.next h))
  have c1 := Lib.hid (names_any w hT)
  have c2 := Lib.hid (fun W => rnames_any W)
  have cO := Lib.hid (fun nm W (h : Below w.heap.size w W) => of_name nm W (hT.next h))
  obtain ⟨k, hk, hrem⟩ := rem16 i
  have hn16 : namesL.length = 16 := rfl
  have k0 : (k : Int) < 16 := by omega
  have cRt := Lib.hid (fun W v L nm (h : MadeAt w W v L (hasN nm) 30) => right_yes h)
  have cSet := Lib.hid (fun W v L v' L' (h : MadeAt w W v L (hasN ⟨#[85, 112, 112, 101, 114]⟩) 30) (k : MadeAt w W v' L' (hasN ⟨#[76, 111, 119, 101, 114]⟩) 30) => join_both h k)
  clear hT hL
  go_enter Tryd.func5, Tryd.ntmps5
  go_wp2_with (first
    | (go_at_call 16; (with_reducible refine c1.out.mono ?_); rintro e w1 ⟨v1, rfl, hs, hb⟩; go_must (have S1 := Lib.hid hs; have B1 := Lib.hid hb; clear hs hb))
    | (go_at_call 14; (with_reducible refine (c2.out w1).mono ?_); rintro e w2 ⟨v2, rfl, hs, hb⟩; go_must (obtain ⟨ao, cap, rfl, _, hc⟩ := (S1.out.next hb).shape; obtain ⟨bo, bcap, rfl, _, hd⟩ := hs.shape; obtain ⟨ad, rfl, e0⟩ := hc k hk; obtain ⟨bd, rfl, d0⟩ := hd k hk; rw [List.getD_eq_getElem?_getD, names_get hk, Option.getD_some] at e0 d0; have B2 := Lib.hid (B1.out.trans (hb.mono B1.out.size)); clear hs hb hc hd))
    | (go_at_call 7; (with_reducible refine (cO.out (nthW k).1 w2 B2.out).mono ?_); rintro e w3 ⟨v3, L3, rfl, hr, h1, h2, h3, h4⟩; go_must (have M3 := Lib.hid (made_of hr h1 h2 h3 h4 B2.out); have pt := decide_eq_true (eachN_pos hk); have e3 := cell_next e0 h4; have d3 := cell_next d0 h4; have B3 := Lib.hid M3.out.below; clear hr h1 h2 h3 h4 e0 d0))
    | (go_at_call 7; (with_reducible refine (cO.out ⟨#[85, 112, 112, 101, 114]⟩ w3 B3.out).mono ?_); rintro e w4 ⟨v4, L4, rfl, hr, h1, h2, h3, h4⟩; go_must (have M4 := Lib.hid (made_of hr h1 h2 h3 h4 B3.out); have M3a := Lib.hid (M3.out.next h4); have e4 := cell_next e3 h4; have d4 := cell_next d3 h4; have B4 := Lib.hid M4.out.below; clear hr h1 h2 h3 h4 e3 d3))
    | (go_at_call 7; (with_reducible refine (cO.out ⟨#[76, 111, 119, 101, 114]⟩ w4 B4.out).mono ?_); rintro e w5 ⟨v5, L5, rfl, hr, h1, h2, h3, h4⟩; go_must (have M5 := Lib.hid (made_of hr h1 h2 h3 h4 B4.out); have M3b := Lib.hid (M3a.out.next h4); have M4b := Lib.hid (M4.out.next h4); have e5 := cell_next e4 h4; have d5 := cell_next d4 h4; have B5 := Lib.hid M5.out.below; clear hr h1 h2 h3 h4 e4 d4))
    | (go_at_call 7; (with_reducible refine (cO.out ⟨#[65, 108, 112, 104, 97]⟩ w5 B5.out).mono ?_); rintro e w6 ⟨v6, L6, rfl, hr, h1, h2, h3, h4⟩; go_must (have M6 := Lib.hid (made_of hr h1 h2 h3 h4 B5.out); have M3c := Lib.hid (M3b.out.next h4); have M4c := Lib.hid (M4b.out.next h4); have M5c := Lib.hid (M5.out.next h4); have e6 := cell_next e5 h4; have d6 := cell_next d5 h4; have B6 := Lib.hid M6.out.below; clear hr h1 h2 h3 h4 e5 d5)))
  have D := (Below.refl w6.heap.size w6).drew
  have M3d := Lib.hid (M3c.out.next D)
  have M4d := Lib.hid (M4c.out.next D)
  have M5d := Lib.hid (M5c.out.next D)
  have M6d := Lib.hid (M6.out.next D)
  have B6d := Lib.hid M6d.out.below
  have e7 : w6.drew.cell? (ad.add k) = some (.string (nthW k).1) := e6
  have d7 : w6.drew.cell? (bd.add k) = some (.string (nthW k).1) := d6
  clear D M3 M3a M3b M3c M4 M4b M4c M5 M5c M6 c1 c2 cO S1 B1 B2 B3 B4 B5 B6
  go_region_held3 (fun W => W.cell? (ad.add k) = some (.string (nthW k).1) ∧ W.cell? (bd.add k) = some (.string (nthW k).1)) (first | go_keep | exact ⟨by assumption, by assumption⟩)
    (first
      | (go_at_call 17; (with_reducible refine (cRt.out w6.drew v3 L3 _ M3d.out).mono ?_); rintro e w7 ⟨rfl, hb⟩; go_must (have e8 := cell_next e7 hb; have d8 := cell_next d7 hb; have M4e := Lib.hid (M4d.out.next hb); have M5e := Lib.hid (M5d.out.next hb); have M6e := Lib.hid (M6d.out.next hb); have B7 := Lib.hid (B6d.out.trans (hb.mono B6d.out.size)); clear hb))
      | (go_at_call 18; (refine (cSet.out w7 _ _ _ _ M4e.out M5e.out).mono ?_); intro e w8 ho; go_must (obtain ⟨v8, L8, rfl, m8, hb⟩ := ho.made B7.out; have e9 := cell_next e8 hb; have d9 := cell_next d8 hb; have M8 := Lib.hid m8; have M6f := Lib.hid (M6e.out.next hb); have B8 := Lib.hid m8.below; clear hb m8 ho))
      | (go_at_call 11; (with_reducible refine (cmp_any M6f.out (Below.refl _ _) M8.out (fun x => (alpha_set M4e.out M5e.out x).symm)).mono ?_); rintro e w9 ⟨rfl, hb⟩; go_must (have e10 := cell_next e9 hb; have d10 := cell_next d9 hb; have B9 := Lib.hid (B8.out.trans (hb.mono B8.out.size)); clear hb))
      | (go_at_call 6; (with_reducible refine (AL.out w9 B9.out).mono ?_); rintro e w10 ⟨rfl, hb⟩; go_must (have e11 := cell_next e10 hb; have d11 := cell_next d10 hb; have B10 := Lib.hid (B9.out.trans (hb.mono B9.out.size)); clear hb))
      | fail)
  all_goals
    go_wp2
    go_ret
    exact ⟨rfl, B10.out⟩

end Go.Proofs.YtenmjnopbbingaaDoor.Nm

/- The document's Set, walked. -/
import Derived.Test.YtjmdlioakkibcaaGreatDoorPk02

namespace Go.Proofs.YtjmdlioakkibcaaGreatDoor.Rg
open Go.RowKit Go.Shelf

def SetRel (kind : Nat) (a b : List R) (E : List Int) (w3 : World) (s i : Value) (wr : World) : Prop :=
  ∃ (k : Nat) (out : List R), i = .int .i64 k ∧ k < E.length ∧ SetR (holdB kind a b) E k out ∧ wr.ownsRow w3.heap.size 92 2 s out.length (flatR out) ∧ (out = [] → s = .slice none 0 0) ∧ Below w3.heap.size w3 wr

set_option maxRecDepth 100000 in
set_option maxHeartbeats 8000000 in
theorem set_any (kind : Nat) (hkd : kind ≤ 4) (a b : List R) (va vb : Value) (w : World) (ha : RngsAt w va a) (hb : RngsAt w vb b) (hM : a.length + b.length ≤ 40000) :
    Calls Tryz.prog 43 #[.int .i64 kind, va, vb] w fun e w' => SetOut w (fun c => isC c && holdB kind a b c) (2 + 2 * (a.length + b.length)) e w' := by
  obtain ⟨i0, hi, hz0, hz1, hz2⟩ := info_parts infoR
  have HA := Lib.hid ha
  have HBB := Lib.hid hb
  have AN := Lib.hid (fun w1 v (h : RngsAt w1 v (a ++ b)) => ends_any (a ++ b) v w1 h (by simp; omega))
  have CO := Lib.hid (fun (E : List Int) (h : EndsOk (a ++ b) E) (i : Nat) (hi : i + 1 < E.length) (c : Int) h1 h2 => hold_const h kind hi (c := c) h1 h2)
  have HD := Lib.hid (fun c W (h : Below w.heap.size w W) => holds_any kind hkd a b c va vb W (ha.next h) (hb.next h))
  clear ha hb
  go_enter Tryz.func43, Tryz.ntmps43
  go_wp2_with (first
    | (at_builtin; first
      | (refine wpList_app rfl _ _ rfl w.heap.size (.slice none 0 0) 0 [] rfl (World.ownsRow_nil _ _ _ _) va a rfl HA.out (by omega) (Nat.le_refl _) ?_; intro v1 w1 hown1 hg1; go_must (have O1 := Lib.hid hown1; have B1 := Lib.hid ((Below.refl w.heap.size w).grown hg1 (Nat.le_refl _) (fun k hk => by simp [Value.ownBlock] at hk)); have s1 := B1.out.size; clear hown1 hg1))
      | (refine wpList_app rfl _ _ rfl w.heap.size v1 (0 + a.length) ([] ++ flatR a) rfl O1.out vb b rfl (HBB.out.next B1.out) (by omega) s1 ?_; intro v2 w2 hown2 hg2; go_must (have B2 := Lib.hid (B1.out.grown hg2 s1 (fun k hk => (O1.out.lt k hk).1)); have R2 := Lib.hid (rngs_of_row (v := v2) (l := a ++ b) (by rw [flatR_append]; simpa using hown2)); have s2 := B2.out.size; clear hown2 hg2)))
    | (go_at_call 62; refine (AN.out w2 v2 R2.out).mono ?_; rintro e w3 ⟨v3, E, rfl, hE, hok, hEl, hb3⟩; go_must (have B3 := Lib.hid (B2.out.trans (hb3.mono s2)); have s3 := B3.out.size; have OK := Lib.hid hok; rw [List.length_append] at hEl; obtain ⟨hE0, hE1⟩ := hok.first; have OE := Lib.hid hE; obtain ⟨ge, ce, rfl, _, _⟩ := hE.form hE0; clear hE hb3 hok)))
  go_loopw [9, 10] (fun s i wr => SetRel kind a b E w3 s i wr) (fun _ i _ => E.length - (intOf i).toNat)
  case atStart =>
    exact ⟨0, [], rfl, hE0, ⟨trivial, (by simp), fun c => by rw [hE1, hasB_nil]; have : (decide (0 ≤ c) && decide (c < 0)) = false := (by simp); rw [this]; rfl, Nat.le_refl _⟩, World.ownsRow_nil _ _ _ _, fun _ => rfl, Below.refl _ _⟩
  case round =>
    obtain ⟨k, out, rfl, hk, hR, hrow, hnil, hbw⟩ := hrel
    have hsz := hbw.size
    by_cases hlt : k + 1 < E.length
    · have OE' := rowI_next OE.out hbw
      have c1 := ownI_cell OE' rfl (i := k) (by omega)
      have c2 := ownI_cell OE' rfl (i := k + 1) hlt
      have hlt1 := nthI_lt OK.out.sorted (Nat.lt_succ_self k) hlt
      have hb1 := OK.out.bnd _ (nthI_mem (i := k) (by omega))
      have hb2 := OK.out.bnd _ (nthI_mem hlt)
      have hge := (ownI_cap OE').2.2.2
      have n1 : (k : Int) + 1 < (E.length : Int) := by omega
      have n2 : (k : Int) < (E.length : Int) := by omega
      have n3 : (0 : Int) ≤ (k : Int) + 1 := by omega
      have z1 : IntKind.i64.wrap ((k : Int) + 1) = (k : Int) + 1 := by rw [IntKind.wrap_i64]; omega
      have z3 : ((k : Int) + 1).toNat = k + 1 := by omega
      obtain ⟨b1, b2⟩ := hb1
      obtain ⟨b3, b4⟩ := hb2
      have z2 : IntKind.i64.wrap (nthI E (k + 1) - 1) = nthI E (k + 1) - 1 := by rw [IntKind.wrap_i64]; omega
      have z4 : IntKind.i64.wrap (nthI E k - 1) = nthI E k - 1 := by rw [IntKind.wrap_i64]; omega
      have st : Stp (holdB kind a b) E k := ⟨b1, hlt1, b4, fun c h1 h2 => CO.out E OK.out k hlt c h1 h2⟩
      have hd := HD.out (nthI E k) wr (B3.out.trans (hbw.mono s3))
      have HROW := Lib.hid hrow
      have HBW := Lib.hid hbw
      have hol := hR.len
      cases hh : holdB kind a b (nthI E k)
      · rw [hh] at hd
        have hn := hR.no st hh
        have HDD := Lib.hid hd
        have HN := Lib.hid hn
        have HNIL := Lib.hid hnil
        clear hd hn st hh hR hrow hbw hnil OE'
        go_wp2_with (go_at_call 63; refine HDD.out.mono ?_; rintro e w' ⟨rfl, hw⟩; subst hw)
        go_roundw
        case rel => exact ⟨k + 1, out, by go_num, hlt, HN.out, HROW.out, HNIL.out, HBW.out⟩
        case measure => simp [intOf]; omega
      · rw [hh] at hd
        have HDD := Lib.hid hd
        rcases snoc_cases out with rfl | ⟨c, ⟨x, y⟩, rfl⟩
        · obtain rfl := hnil rfl
          have hn := hR.app st hh (fun c a b e => by simp at e)
          have app : ∀ W v' w4, w4.ownsRow w3.heap.size 92 2 v' (0 + 1) ([] ++ [.int .i64 (nthI E k), .int .i64 (nthI E (k + 1) - 1)]) → W.grownBy w4 (Value.slice none 0 0).ownBlock → Below wr.heap.size wr W → SetRel kind a b E w3 v' (.int .i64 ((k : Int) + 1)) w4 := by
            intro W v' w4 hown hgr hW
            obtain ⟨r1, r2⟩ := app_row (G := []) (r := (nthI E k, nthI E (k + 1) - 1)) hown hgr (World.ownsRow_nil _ _ _ _) (hbw.trans (hW.mono hsz)) (by have := hW.size; omega)
            exact ⟨k + 1, _, by go_num, hlt, hn, r1, fun e => absurd e (by simp), r2⟩
          have AP := Lib.hid app
          clear hd hn st hh hR hrow hbw hnil OE' app
          go_wp2_with (go_at_call 63; refine HDD.out.mono ?_; rintro e w' ⟨rfl, hw⟩; subst hw)
          go_quiet (fail)
          go_wp2
          go_region_law (refine step_append_lies _ rfl (.tmp 69) (.tmp 81) 51 rfl w3.heap.size 92 i0 (.agg #[.int .i64 0, .int .i64 0]) 2 16 Tryz.underlying51 hi hz0 hz1 hz2 rfl (by decide) (.slice none 0 0) 0 [] rfl (World.ownsRow_nil _ _ _ _) ⟨w'.heap.size, 0, none⟩ 1 1 [.int .i64 (nthI E k), .int .i64 (nthI E (k + 1) - 1)] rfl rfl (two_new _ _ _ _ _ (by simp)) (by simp [Value.oneCell']) (by decide) (by unfold maxLen; omega) (by omega) (by simp; omega) _ rfl ?_; intro g cap w4 hown hgrow _ _; go_must (have ZZ := Lib.hid (AP.out _ _ _ hown hgrow ((below_drewN _ _).alloc (by simp) _)); clear hown hgrow))
          all_goals (
            go_wp2
            go_roundw
            case rel => exact ZZ.out
            case measure => simp [intOf]; omega)
        · have hcl : (c ++ [(x, y)]).length = c.length + 1 := by simp
          rw [hcl] at hrow hol
          obtain ⟨g2, cap2, rfl⟩ := ownsRow_succ hrow
          obtain ⟨d1, d2⟩ := rowR_last hrow
          have fz := hrow.frozenAt
          have hg2 := (hrow.lt g2 rfl).2
          have HROW2 := Lib.hid hrow
          have hyb := hR.below (x, y) (by simp)
          simp only at hyb
          obtain ⟨p1, p2, p3, p4, p5⟩ := set_parts hR.set
          simp only at p3 p4 p5
          by_cases hye : y = nthI E k - 1
          · have hn := hR.ext st hh hye
            have ext : ∀ W, Below wr.heap.size wr W → SetRel kind a b E w3 (.slice (some ⟨g2, 0, none⟩) (c.length + 1) cap2) (.int .i64 ((k : Int) + 1)) ((W.setCell ⟨g2, c.length * 2, none⟩ (.int .i64 x)).setCell ⟨g2, c.length * 2 + 1, none⟩ (.int .i64 (nthI E (k + 1) - 1))) := by
              intro W hW
              obtain ⟨r1, r2⟩ := rowR_store (rowR_next hrow hW) c.length x (nthI E (k + 1) - 1)
              rw [show (c ++ [(x, y)]).set c.length (x, nthI E (k + 1) - 1) = c ++ [(x, nthI E (k + 1) - 1)] by rw [List.set_append_right _ _ (Nat.le_refl _)]; simp] at r1
              exact ⟨k + 1, _, by go_num, hlt, hn, by simpa using r1, fun e => absurd e (by simp), (hbw.trans (hW.mono hsz)).grown r2 (by have := hW.size; omega) (fun k hk => by simp at hk; subst hk; exact (hrow.lt g2 rfl).1)⟩
            have EX := Lib.hid ext
            subst hye
            clear hd hn st hh hR hrow hbw hnil OE' ext p1 p2 hcl
            generalize hm : c.length = m at *
            have HM := Lib.hid hm
            clear hm
            have n5 : ¬ ((m : Int) < 0) := by omega
            have n6 : (0 : Int) ≤ m := by omega
            have n7 : (m : Int) < (m : Int) + 1 := by omega
            go_wp2_with (go_at_call 63; refine HDD.out.mono ?_; rintro e w' ⟨rfl, hw⟩; subst hw)
            go_quiet (fail)
            go_wp2
            go_region
            all_goals (
              go_wp2
              go_roundw
              case rel => exact EX.out _ (below_drewN _ _)
              case measure => simp [intOf]; omega)
          · have hn := hR.app st hh (fun c' a' b' e => by
              have := (List.append_inj' e rfl).2
              simp at this
              rw [← this.2]; exact hye)
            have app : ∀ W v' w4, w4.ownsRow w3.heap.size 92 2 v' (c.length + 1 + 1) (flatR (c ++ [(x, y)]) ++ [.int .i64 (nthI E k), .int .i64 (nthI E (k + 1) - 1)]) → W.grownBy w4 (Value.slice (some ⟨g2, 0, none⟩) (c.length + 1) cap2).ownBlock → Below wr.heap.size wr W → SetRel kind a b E w3 v' (.int .i64 ((k : Int) + 1)) w4 := by
              intro W v' w4 hown hgr hW
              obtain ⟨r1, r2⟩ := app_row (G := c ++ [(x, y)]) (r := (nthI E k, nthI E (k + 1) - 1)) (by simpa using hown) hgr (by simpa using rowR_next hrow hW) (hbw.trans (hW.mono hsz)) (by have := hW.size; omega)
              exact ⟨k + 1, _, by go_num, hlt, hn, r1, fun e => absurd e (by simp), r2⟩
            have AP := Lib.hid app
            have hye2 : (y == nthI E k - 1) = false := by simpa using hye
            clear hd hn st hh hR hrow hbw hnil OE' app p1 p2 hcl
            generalize hm : c.length = m at *
            have HM := Lib.hid hm
            clear hm
            have n5 : ¬ ((m : Int) < 0) := by omega
            have n6 : (0 : Int) ≤ m := by omega
            have n7 : (m : Int) < (m : Int) + 1 := by omega
            go_wp2_with (go_at_call 63; refine HDD.out.mono ?_; rintro e w' ⟨rfl, hw⟩; subst hw)
            go_quiet (fail)
            go_wp2
            go_region_law (refine step_append_lies _ rfl (.tmp 69) (.tmp 81) 51 rfl w3.heap.size 92 i0 (.agg #[.int .i64 0, .int .i64 0]) 2 16 Tryz.underlying51 hi hz0 hz1 hz2 rfl (by decide) (.slice (some ⟨g2, 0, none⟩) (m + 1) cap2) (m + 1) (flatR (c ++ [(x, y)])) rfl (rowR_next HROW2.out ((below_drewN _ _).alloc (by simp) _)) ⟨w'.heap.size, 0, none⟩ 1 1 [.int .i64 (nthI E k), .int .i64 (nthI E (k + 1) - 1)] rfl rfl (two_new _ _ _ _ _ (by simp)) (by simp [Value.oneCell']) (by decide) (by unfold maxLen; omega) (by omega) (by simp; omega) _ rfl ?_; intro g cap w4 hown hgrow _ _; go_must (have ZZ := Lib.hid (AP.out _ _ _ hown hgrow ((below_drewN _ _).alloc (by simp) _)); clear hown hgrow))
            all_goals (
              go_wp2
              go_roundw
              case rel => exact ZZ.out
              case measure => simp [intOf]; omega)
    · have he := OK.out.last hk hlt
      have fin : ∀ c, hasB out c = (isC c && holdB kind a b c) := fun c => by
        rw [hR.has, he, isC]
        congr 2
        rw [Bool.eq_iff_iff]; simp; omega
      have FI := Lib.hid fin
      have ST := Lib.hid hR.set
      have hol := hR.len
      have n9 : ¬ ((k : Int) + 1 < (E.length : Int)) := by omega
      have n8 : (k : Int) ≤ 1000000 := by omega
      clear hR fin
      go_wp2
      go_ret
      exact ⟨_, out, rfl, row_base hrow s3, ST.out, FI.out, by omega, B3.out.trans (hbw.mono s3)⟩

end Go.Proofs.YtjmdlioakkibcaaGreatDoor.Rg

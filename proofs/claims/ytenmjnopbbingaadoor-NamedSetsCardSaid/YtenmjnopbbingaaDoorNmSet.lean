/- The document's Set of a name. -/
import Derived.Test.YtenmjnopbbingaaDoorNmHasR2
import Derived.Test.YtenmjnopbbingaaDoorRgSet
namespace Go.Proofs.YtenmjnopbbingaaDoor.Nm
open Go.RowKit Go.Shelf Go.Proofs.YtenmjnopbbingaaDoor.Rg

/-- what tells a set, as a later world meets it -/
def Told (w : World) (P : Int → Bool) (n : Nat) (e : Ending) (w' : World) : Prop := ∃ v L, e = .returned v ∧ MadeAt w w' v L P n

theorem low_ok : ∀ l ∈ fullL.drop 1, ∀ r ∈ l, r.2 < 41000 := by decide +kernel
theorem low_has {nm : ByteArray} (hne : nm ≠ (nthW 0).1) {c : Int} (h : hasN nm c = true) : 0 ≤ c ∧ c < 41000 := by
  rcases row_cases nm with ⟨k, hk, rfl⟩ | hn
  · have h0 : 0 < k := by
      rcases Nat.eq_zero_or_pos k with rfl | h0
      · exact absurd rfl hne
      · exact h0
    have hl : fullL.getD k [] ∈ fullL.drop 1 := by
      have h16 : k < fullL.length := hk
      rw [List.getD_eq_getElem?_getD, List.getElem?_eq_getElem h16, Option.getD_some]
      obtain ⟨q, rfl⟩ : ∃ q, k = q + 1 := ⟨k - 1, by omega⟩
      have : (fullL.drop 1)[q]'(by rw [List.length_drop]; omega) = fullL[q + 1] := by simp
      rw [← this]
      exact List.getElem_mem _
    have hb : hasB (fullL.getD k []) c = true := by rw [← eachN_at hk, hasN_eq]; exact h
    unfold hasB at hb
    rw [List.any_eq_true] at hb
    obtain ⟨r, hr, h2⟩ := hb
    simp only [Bool.and_eq_true, decide_eq_true_eq] at h2
    have h3 := low_ok _ hl r hr
    unfold hasN inB at h
    simp only [Bool.and_eq_true, decide_eq_true_eq] at h
    omega
  · rw [hasN_none hn] at h; cases h
theorem any_eq (c : Int) : hasB [(0, 1114111)] c = hasN (nthW 0).1 c := by rw [← hasN_eq, eachN_at (by omega)]; rfl

theorem one_at (w : World) (x y : Int) : RngsAt (w.alloc (.cells #[.int .i64 x, .int .i64 y] 40)) (.slice (some ⟨w.heap.size, 0, none⟩) 1 1) [(x, y)] :=
  rngs_of_row (B := w.heap.size) (World.ownsRow_lit (e := 40) (size := 2) w #[.int .i64 x, .int .i64 y] 1 (Nat.le_refl _) (by decide) (by simp))
set_option maxRecDepth 100000 in
theorem rset_all (nm : ByteArray) (h : nm = (nthW 0).1) (w : World) : Calls Tryd.prog 12 #[.string nm] w fun e w' => Told w (hasN nm) 20500 e w' := by
  have e0 : (nm.toList == [65, 110, 121]) = true := by subst h; kernel_rfl
  have c0 : ∀ c, hasB [(0, 1114111)] c = hasN nm c := by subst h; exact any_eq
  have C0 := Lib.hid c0
  clear h c0
  go_enter Tryd.func12, Tryd.ntmps12
  go_wp2
  go_ret
  exact ⟨_, [(0, 1114111)], rfl, ⟨one_at w 0 1114111, ⟨by simp, by simp, by simp, trivial⟩, C0.out, by simp, (Below.refl _ _).alloc (Nat.le_refl _) _⟩⟩

theorem set_short : ∀ {L : List R} {m T : Int}, setFrom m L → (∀ r ∈ L, r.2 < T) → m + 2 * (L.length : Int) ≤ T + 1 ∨ L = []
  | [], _, _, _, _ => .inr rfl
  | r :: t, m, T, h, hr => by
    obtain ⟨h1, h2, _, h4⟩ := h
    have h0 := hr r (List.mem_cons_self ..)
    rcases set_short h4 (fun x hx => hr x (List.mem_cons_of_mem _ hx)) with h5 | rfl
    · left; simp only [List.length_cons]; omega
    · left; simp only [List.length_cons, List.length_nil]; omega
def RelR (nm : ByteArray) (E : List Int) (w : World) (s i : Value) (wr : World) : Prop :=
  ∃ (k : Nat) (out : List R), i = .int .i64 (k : Nat) ∧ k ≤ 41000 ∧ SetR (hasN nm) E k out ∧ wr.ownsRow w.heap.size 40 2 s out.length (flatR out) ∧ (out = [] → s = .slice none 0 0) ∧ Below w.heap.size w wr

set_option maxRecDepth 100000 in
set_option maxHeartbeats 8000000 in
theorem rset_any (nm : ByteArray) (hne : nm ≠ (nthW 0).1) (w : World) : Calls Tryd.prog 12 #[.string nm] w fun e w' => Told w (hasN nm) 20500 e w' := by
  obtain ⟨i0, hi, hz0, hz1, hz2⟩ := info_parts infoR
  have e0 : (nm.toList == [65, 110, 121]) = false := by
    rw [Bool.eq_false_iff]; intro e
    exact hne (bytes_eq (by rw [show (nthW 0).1.toList = [65, 110, 121] by kernel_rfl]; exact e))
  have LO := Lib.hid (fun c (h : hasN nm c = true) => low_has hne h)
  have HD := Lib.hid (fun c W => rhas_any2 nm c W)
  obtain ⟨E, hE⟩ : ∃ E : List Int, ∀ i, i ≤ 41000 → nthI E i = (i : Nat) := ⟨(List.range 41001).map fun (i : Nat) => (i : Int), fun i hi => by
    unfold nthI; rw [List.getD_eq_getElem?_getD, List.getElem?_map, List.getElem?_range (by omega)]; rfl⟩
  have HE := Lib.hid hE
  have h0 : SetR (hasN nm) E 0 [] := ⟨trivial, by simp, fun c => by
    rw [hE 0 (by omega), hasB_nil]
    have : (decide (0 ≤ c) && decide (c < ((0 : Nat) : Int))) = false := by simp
    rw [this]; rfl, Nat.le_refl _⟩
  have H0 := Lib.hid h0
  clear hne hE h0
  go_enter Tryd.func12, Tryd.ntmps12
  go_wp2
  go_loopw [3, 4] (fun s i wr => RelR nm E w s i wr) (fun _ i _ => 41000 - (intOf i).toNat)
  case atStart => exact ⟨0, [], rfl, Nat.zero_le _, H0.out, World.ownsRow_nil _ _ _ _, fun _ => rfl, Below.refl _ _⟩
  case round =>
    obtain ⟨k, out, rfl, hk, hR, hrow, hnil, hbw⟩ := hrel
    have hsz := hbw.size
    have hol := hR.len
    by_cases hlt : k < 41000
    · have q1 := HE.out k (by omega)
      have q2 := HE.out (k + 1) (by omega)
      have st : Stp (hasN nm) E k := ⟨by omega, by omega, by omega, fun c h1 h2 => by rw [show c = nthI E k by omega]⟩
      have hd := HD.out (nthI E k) wr
      rw [q1] at hd
      have n1 : (k : Int) < 41000 := by omega
      have HROW := Lib.hid hrow
      have HBW := Lib.hid hbw
      obtain ⟨b, hh⟩ : ∃ b, hasN nm (nthI E k) = b := ⟨_, rfl⟩
      have hh' := hh
      rw [q1] at hh'
      rw [hh'] at hd
      cases b with
      | false =>
        have HDD := Lib.hid hd
        have HN := Lib.hid (hR.no st hh)
        have HNIL := Lib.hid hnil
        obtain ⟨ao, cap, rfl, _, _⟩ := (rngs_of_row hrow).shape
        clear hd hh hh' hR hrow hbw hnil st q1 q2
        go_wp2_with (go_at_call 15; refine HDD.out.mono ?_; rintro e w' ⟨rfl, rfl⟩)
        go_roundw
        case rel => exact ⟨k + 1, out, by go_num, hlt, HN.out, HROW.out, HNIL.out, HBW.out⟩
        case measure => simp [intOf]; omega
      | true =>
        have HDD := Lib.hid hd
        rcases snoc_cases out with rfl | ⟨c, ⟨x, y⟩, rfl⟩
        · obtain rfl := hnil rfl
          have hn := hR.app st hh (fun c a b e => by simp at e)
          have hap : ∀ W v' w4, w4.ownsRow w.heap.size 40 2 v' (0 + 1) ([] ++ [.int .i64 (k : Nat), .int .i64 (k : Nat)]) → W.grownBy w4 (Value.slice none 0 0).ownBlock → Below wr.heap.size wr W → RelR nm E w v' (.int .i64 ((k : Int) + 1)) w4 := by
            intro W v' w4 hown hgr hW
            obtain ⟨r1, r2⟩ := app_row (G := []) (r := ((k : Int), (k : Int))) hown hgr (World.ownsRow_nil _ _ _ _) (hbw.trans (hW.mono hsz)) (by have := hW.size; omega)
            rw [q1, q2, show ((k + 1 : Nat) : Int) - 1 = (k : Int) by omega] at hn
            exact ⟨k + 1, _, by go_num, hlt, hn, r1, fun e => absurd e (by simp), r2⟩
          have AP := Lib.hid hap
          clear hd hn hh hh' hR hrow hbw hnil hap st q1 q2
          go_wp2_with (first
            | (go_at_call 15; refine HDD.out.mono ?_; rintro e w' ⟨rfl, rfl⟩)
            | (at_builtin; go_must (refine wpList_append_own _ rfl _ _ 23 rfl w.heap.size 40 i0 (.agg #[.int .i64 0, .int .i64 0]) 2 16 Tryd.underlying23 hi hz0 hz1 hz2 rfl (by decide) _ 0 [] rfl (World.ownsRow_nil _ _ _ _) ⟨wr.heap.size, 0, none⟩ 1 1 [.int .i64 (k : Nat), .int .i64 (k : Nat)] rfl rfl (two_new _ _ _ _ _ (by simp)) (by simp [Value.oneCell']) (by unfold maxLen; omega) (by omega) (by simp; omega) ?_); intro v' w4 hown hgrow _; go_must (have Z := Lib.hid (AP.out _ _ _ hown hgrow ((Below.refl _ _).alloc (Nat.le_refl _) _)); clear hown hgrow)))
          go_roundw
          case rel => exact Z.out
          case measure => simp [intOf]; omega
        · have hcl : (c ++ [(x, y)]).length = c.length + 1 := by simp
          rw [hcl] at hrow hol
          obtain ⟨g2, cap2, rfl⟩ := ownsRow_succ hrow
          obtain ⟨d1, d2⟩ := rowR_last hrow
          have fz := hrow.frozenAt
          have hg2 := (hrow.lt g2 rfl).2
          have HROW2 := Lib.hid hrow
          obtain ⟨p1, p2, p3, p4, p5⟩ := set_parts hR.set
          simp only at p3 p4 p5 d1 d2
          by_cases hye : y = (k : Int) - 1
          · have hn := hR.ext st hh (by rw [q1]; exact hye)
            rw [q2, show ((k + 1 : Nat) : Int) - 1 = (k : Int) by omega] at hn
            have ext : ∀ W, Below wr.heap.size wr W → RelR nm E w (.slice (some ⟨g2, 0, none⟩) (c.length + 1) cap2) (.int .i64 ((k : Int) + 1)) ((W.setCell ⟨g2, c.length * 2, none⟩ (.int .i64 x)).setCell ⟨g2, c.length * 2 + 1, none⟩ (.int .i64 (k : Nat))) := by
              intro W hW
              obtain ⟨r1, r2⟩ := rowR_store (rowR_next hrow hW) c.length x (k : Nat)
              rw [show (c ++ [(x, y)]).set c.length (x, (k : Int)) = c ++ [(x, (k : Int))] by rw [List.set_append_right _ _ (Nat.le_refl _)]; simp] at r1
              exact ⟨k + 1, _, by go_num, hlt, hn, by simpa using r1, fun e => absurd e (by simp), (hbw.trans (hW.mono hsz)).grown r2 (by have := hW.size; omega) (fun k hk => by simp at hk; subst hk; exact (hrow.lt g2 rfl).1)⟩
            have EX := Lib.hid ext
            subst hye
            clear hd hn hh hh' hR hrow hbw hnil ext p1 p2 hcl st q1 q2 HROW HROW2
            generalize hm : c.length = m at *
            have HM := Lib.hid hm
            clear hm
            have n6 : (0 : Int) ≤ m := by omega
            have n7 : (m : Int) < (m : Int) + 1 := by omega
            go_wp2_with (go_at_call 15; refine HDD.out.mono ?_; rintro e w' ⟨rfl, rfl⟩)
            go_roundw
            case rel => exact EX.out wr (Below.refl _ _)
            case measure => simp [intOf]; omega
          · have hn := hR.app st hh (fun c' a' b' e => by
              have := (List.append_inj' e rfl).2
              simp at this
              rw [← this.2, q1]; exact hye)
            rw [q1, q2, show ((k + 1 : Nat) : Int) - 1 = (k : Int) by omega] at hn
            have hap : ∀ W v' w4, w4.ownsRow w.heap.size 40 2 v' (c.length + 1 + 1) (flatR (c ++ [(x, y)]) ++ [.int .i64 (k : Nat), .int .i64 (k : Nat)]) → W.grownBy w4 (Value.slice (some ⟨g2, 0, none⟩) (c.length + 1) cap2).ownBlock → Below wr.heap.size wr W → RelR nm E w v' (.int .i64 ((k : Int) + 1)) w4 := by
              intro W v' w4 hown hgr hW
              obtain ⟨r1, r2⟩ := app_row (G := c ++ [(x, y)]) (r := ((k : Int), (k : Int))) (by simpa using hown) hgr (by simpa using rowR_next hrow hW) (hbw.trans (hW.mono hsz)) (by have := hW.size; omega)
              exact ⟨k + 1, _, by go_num, hlt, hn, r1, fun e => absurd e (by simp), r2⟩
            have AP := Lib.hid hap
            have hye2 : (y == (k : Int) - 1) = false := by simpa using hye
            clear hd hn hh hh' hR hrow hbw hnil hap p1 p2 hcl st q1 q2 HROW hye
            generalize hm : c.length = m at *
            have HM := Lib.hid hm
            clear hm
            have n6 : (0 : Int) ≤ m := by omega
            have n7 : (m : Int) < (m : Int) + 1 := by omega
            go_wp2_with (first
              | (go_at_call 15; refine HDD.out.mono ?_; rintro e w' ⟨rfl, rfl⟩)
              | (at_builtin; go_must (refine wpList_append_own _ rfl _ _ 23 rfl w.heap.size 40 i0 (.agg #[.int .i64 0, .int .i64 0]) 2 16 Tryd.underlying23 hi hz0 hz1 hz2 rfl (by decide) _ (m + 1) (flatR (c ++ [(x, y)])) rfl (rowR_next HROW2.out ((Below.refl _ _).alloc (Nat.le_refl _) _)) ⟨wr.heap.size, 0, none⟩ 1 1 [.int .i64 (k : Nat), .int .i64 (k : Nat)] rfl rfl (two_new _ _ _ _ _ (by simp)) (by simp [Value.oneCell']) (by unfold maxLen; omega) (by omega) (by simp; omega) ?_); intro v' w4 hown hgrow _; go_must (have Z := Lib.hid (AP.out _ _ _ hown hgrow ((Below.refl _ _).alloc (Nat.le_refl _) _)); clear hown hgrow)))
            go_roundw
            case rel => exact Z.out
            case measure => simp [intOf]; omega
    · obtain rfl : k = 41000 := by omega
      have q1 := HE.out 41000 (by omega)
      have fin : ∀ c, hasB out c = hasN nm c := fun c => by
        rw [hR.has, q1]
        cases h : hasN nm c with
        | false => simp
        | true =>
          obtain ⟨l1, l2⟩ := LO.out c h
          rw [decide_eq_true l1, decide_eq_true (show c < ((41000 : Nat) : Int) by omega)]; rfl
      have FI := Lib.hid fin
      have ST := Lib.hid hR.set
      have HAT := Lib.hid (rngs_of_row hrow)
      have hol2 : out.length ≤ 20500 := by
        rcases set_short hR.set (fun r hr => by have := hR.below r hr; rw [q1] at this; exact this) with h | h
        · have := h; omega
        · rw [h]; simp
      clear hR fin q1 hnil hrow
      go_wp2
      go_ret
      exact ⟨_, out, rfl, HAT.out, ST.out, FI.out, hol2, hbw⟩

theorem rset_name (nm : ByteArray) (w : World) : Calls Tryd.prog 12 #[.string nm] w fun e w' => Told w (hasN nm) 20500 e w' := by
  by_cases h : nm = (nthW 0).1
  · exact rset_all nm h w
  · exact rset_any nm h w

end Go.Proofs.YtenmjnopbbingaaDoor.Nm

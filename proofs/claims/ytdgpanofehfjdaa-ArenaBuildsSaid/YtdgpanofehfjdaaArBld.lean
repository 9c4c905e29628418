/- What is built may be: the walk. -/
import Derived.Test.YtdgpanofehfjdaaArBl1
import Derived.Deep.DeepCutAuto
import Derived.Deep.CutRange
import Derived.Deep.Cut
import Derived.Deep.CutBlock
namespace Go.Proofs.Ytdgpanofehfjdaa.Ar
open Go Go.RowKit Go.Shelf
open Go.Proofs.Ytdgpanofehfjdaa.Rg (R RngsAt RowsAt nthL nth add_zero own_next RowsOwn flatR infoS row_apart row_base SetOut inB hasB setFrom rngs_of_row rightB rsame_any)

set_option maxRecDepth 100000 in
set_option maxHeartbeats 16000000 in
theorem builds_near (l : List Actn) (q : Int) (v : Value) (w : World) (hv : ActsAt w v l) (h30 : l.length ≤ 30) : Calls Try.prog 4 #[v, .int .i64 q] w fun e w' => e = .returned (.bool true) ∧ Below w.heap.size w w' := by
  obtain ⟨ao, cap, rfl, hlm, hla⟩ := hv.shape
  have HLA := Lib.hid hla
  have CN := Lib.hid (new_any w)
  have CA := Lib.hid (fun W (_ : Below w.heap.size w W) => alive_any W)
  have h30' : ¬ (30 : Int) < (l.length : Int) := by omega
  obtain ⟨i0, hi, hz0, hz1, hz2⟩ := info_parts infoN
  clear hv hla
  go_enter Try.func4, Try.ntmps4
  go_wp2_with (first
    | (go_at_call 16; (with_reducible refine CN.out.mono ?_); rintro e w1 ⟨rfl, hbd, hb1⟩; go_must (have hs1 := hb1.size; have HBW := Lib.hid (BW.start w1 hbd hs1); have B1 := Lib.hid (hb1.alloc hs1 (.cells #[.slice none 0 0, .slice none 0 0, .int .i64 0] 25)); clear hbd hb1))
    | fail)
  generalize w1.alloc (.cells #[.slice none 0 0, .slice none 0 0, .int .i64 0] 25) = W1 at *
  obtain ⟨T, hT⟩ : ∃ T, T = w1.heap.size := ⟨_, rfl⟩
  rw [← hT] at HBW ⊢
  clear hT CN
  go_loopw [28] (fun i wr => ∃ (k : Nat) (ns : List Nd) (S : List (List R)) (nv sv : Value) (xs : List Value) (vn vs : Value) (r : Int) (ys : List Value), i = .int .i64 k ∧ k ≤ l.length ∧ BW w.heap.size wr w.heap.size T ns S nv sv xs ns S vn vs r ys ∧ Inv k ns S ∧ Below w.heap.size w wr) (fun i _ => l.length - (intOf i).toNat)
  case atStart => exact ⟨0, [], [], _, _, _, _, _, _, _, rfl, Nat.zero_le _, HBW.out, Inv.start, B1.out⟩
  case round =>
    clear HBW B1
    obtain ⟨k, ns, S, nv, sv, xs, vn, vs, r, ys, rfl, hk, hbw, hinv, hb⟩ := hrel
    obtain ⟨wo, rfl⟩ : ∃ x, x = wr := ⟨_, rfl⟩
    by_cases hlt : k < l.length
    · obtain ⟨g, e, ⟨lo, lcap, no, ncap, so, scap, c0, c1, c2, c3, c4, c5, c6, c7, hll, hrl, htt⟩⟩ := HLA.out k hlt
      subst e
      generalize acn l k = a at *
      replace c0 := cell_next c0 hb
      replace c1 := cell_next c1 hb
      replace c2 := cell_next c2 hb
      replace c3 := cell_next c3 hb
      replace c4 := cell_next c4 hb
      replace c5 := cell_next c5 hb
      replace c6 := cell_next c6 hb
      replace c7 := cell_next c7 hb
      have HRL := Lib.hid hrl
      have HTT := Lib.hid htt
      have HTW := Lib.hid (htt.next hb)
      have HRW := Lib.hid (hrl.next hb)
      have t0 := hbw.ts.cell0
      have t1 := hbw.ts.cell1
      have tlt := hbw.ts.lt
      obtain ⟨vo, vcap, hvo⟩ : ∃ o c, vn = .slice o ns.length c := by obtain ⟨o, c, e, _, _⟩ := (nodes_of_row hbw.ts.nodes).shape; exact ⟨o, c, e⟩
      obtain ⟨uo, ucap, hso⟩ := hbw.ts.shapeS
      subst hvo hso
      have HBW := Lib.hid hbw
      have HI := Lib.hid hinv
      have HB := Lib.hid hb
      have BA := Lib.hid (fun o => (Below.refl wo.heap.size wo).alloc (Nat.le_refl _) o)
      have CF := Lib.hid (fun W (hb : Below wo.heap.size wo W) => far_b a.t _ W (HTW.out.next hb))
      have A0 := Lib.hid (ABox.new wo (.int .i64 a.kind) (.int .i64 a.x) (.int .i64 a.y) (.int .i64 a.z) (.slice lo a.l.length lcap) (.slice no a.t.ns.length ncap) (.slice so a.t.sets.length scap) (.int .i64 a.t.root))
      clear hrl htt hbw hinv hb
      by_cases h20 : 20 < a.l.length
      · as_aux_lemma =>
          have h20' : (20 : Int) < (a.l.length : Int) := by omega
          go_wp2_with (go_at_call 7; (with_reducible refine (CA.out _ (HB.out.trans ((BA.out _).mono HB.out.size))).mono ?_); rintro e w9 ⟨rfl, hb9⟩; go_must (have B9 := Lib.hid ((HB.out.trans ((BA.out (.cells #[.int .i64 a.kind, .int .i64 a.x, .int .i64 a.y, .int .i64 a.z, .slice lo a.l.length lcap, .slice no a.t.ns.length ncap, .slice so a.t.sets.length scap, .int .i64 a.t.root] 39)).mono HB.out.size)).trans (hb9.mono (by have := HB.out.size; simp; omega))); clear hb9))
          go_ret
          exact ⟨rfl, B9.out⟩
      · have h20' : ¬ (20 : Int) < (a.l.length : Int) := by omega
        by_cases hn : Near a.t
        · rw [farB_no hn] at CF
          go_wp2_with (first
            | (go_at_call 6; (with_reducible refine (CF.out _ (BA.out _)).mono ?_); rintro e w2 ⟨rfl, hb2⟩; go_must (obtain ⟨d0, d1, d2, d3, d4, d5, d6, d7⟩ := A0.out.next hb2; have B2 := Lib.hid ((BA.out (.cells #[.int .i64 a.kind, .int .i64 a.x, .int .i64 a.y, .int .i64 a.z, .slice lo a.l.length lcap, .slice no a.t.ns.length ncap, .slice so a.t.sets.length scap, .int .i64 a.t.root] 39)).trans (hb2.mono (by simp))); have s2 := hb2.size; simp only [World.size_alloc] at s2; have p0 := cell_next t0 B2.out; have p1 := cell_next t1 B2.out; clear hb2))
            | fail)
          go_cut [10, 11] (fun x y wx => x = .bool (decide (0 ≤ a.x ∧ a.x < (ns.length : Int))) ∧ y = .bool (decide (0 ≤ a.y ∧ a.y < (ns.length : Int))) ∧ Below w2.heap.size w2 wx)
          case first =>
            by_cases hx : 0 ≤ a.x <;> by_cases hy : 0 ≤ a.y
            all_goals (
              go_quiet (fail)
              try go_wp2_with fail
              go_meet
              exact ⟨by first | (simp; done) | (simp; intros; omega), by first | (simp; done) | (simp; intros; omega), by first | exact below_drewQ _ _ | exact Below.refl _ _⟩)
          case rest =>
            obtain ⟨rfl, rfl, hbc⟩ := hcut
            have HBC := Lib.hid (B2.out.trans (hbc.mono (by omega)))
            have hszc : wo.heap.size + 1 ≤ wc.heap.size := by have := hbc.size; omega
            have AC := Lib.hid (ABox.next ⟨d0, d1, d2, d3, d4, d5, d6, d7⟩ hbc)
            replace p0 := cell_next p0 hbc
            replace p1 := cell_next p1 hbc
            clear d0 d1 d2 d3 d4 d5 d6 d7 hbc t0 t1 c0 c1 c2 c3 c4 c5 c6 c7 B2 A0 BA CF
            have BN := Lib.hid (fun o => HBC.out.alloc HBC.out.size o)
            have hl1 := HI.out.nl
            have hl2 := HI.out.sl
            have hx1 : ns.length + 1 ≤ 4096 := by omega
            have hx2 : S.length + 1 ≤ 4096 := by omega
            go_upto_region 13 with fail
            have HNB := Lib.hid (BN.out (.cells #[.int .i64 0, .int .i64 0, .int .i64 0, .int .i64 0, .int .i64 0, .int .i64 0] 41))
            have HZ0 := Lib.hid (ZBox.new wc)
            have hp0 := cell_next p0 ((Below.refl wc.heap.size wc).alloc (Nat.le_refl _) (.cells #[.int .i64 0, .int .i64 0, .int .i64 0, .int .i64 0, .int .i64 0, .int .i64 0] 41))
            have hp1 := cell_next p1 ((Below.refl wc.heap.size wc).alloc (Nat.le_refl _) (.cells #[.int .i64 0, .int .i64 0, .int .i64 0, .int .i64 0, .int .i64 0, .int .i64 0] 41))
            have AN := Lib.hid (AC.out.next ((Below.refl wc.heap.size wc).alloc (Nat.le_refl _) (.cells #[.int .i64 0, .int .i64 0, .int .i64 0, .int .i64 0, .int .i64 0, .int .i64 0] 41)))
            have hNs : (wc.alloc (.cells #[.int .i64 0, .int .i64 0, .int .i64 0, .int .i64 0, .int .i64 0, .int .i64 0] 41)).heap.size = wc.heap.size + 1 := by simp
            generalize wc.alloc (.cells #[.int .i64 0, .int .i64 0, .int .i64 0, .int .i64 0, .int .i64 0, .int .i64 0] 41) = Wn at *
            clear p0 p1 BN AC HBC
            generalize wc.heap.size = N at *
            obtain ⟨e0, e1, e2, e3, e4, e5, e6, e7⟩ := AN.out
            have HBN := Lib.hid (HBW.out.next HNB.out)
            obtain ⟨A, hA⟩ : ∃ A, A = wo.heap.size := ⟨_, rfl⟩
            rw [← hA] at AN e0 e1 e2 e3 e4 e5 e6 e7 ⊢
            have HLT := Lib.hid (fun j (hu : UB w.heap.size nv sv j) => (show j < A from hA ▸ (HBW.out.lt hu).2))
            have HAE := Lib.hid hA
            have hAN : A + 1 ≤ N := by omega
            clear hA
            have HNE := Lib.hid (show ¬ N = A from by omega)
            have HND := Lib.hid (show ¬ A = N from by omega)
            have HVN := Lib.hid (show (Value.slice vo ns.length vcap).ownBlock ≠ some N from fun h => by have := (HBW.out.ltT (.inr (.inl h))).2; have := HAE.out; omega)
            have HWN := Lib.hid (HB.out.trans (HNB.out.mono HB.out.size))
            have HBN2 := Lib.hid (show w.heap.size ≤ N from by have := HB.out.size; have := HAE.out; omega)
            obtain ⟨bx, hbx⟩ : ∃ b, b = decide (0 ≤ a.x ∧ a.x < (ns.length : Int)) := ⟨_, rfl⟩
            obtain ⟨bY, hby⟩ : ∃ b, b = decide (0 ≤ a.y ∧ a.y < (ns.length : Int)) := ⟨_, rfl⟩
            rw [← hbx, ← hby]
            have HBX := Lib.hid hbx
            have HBY := Lib.hid hby
            clear hbx hby
            go_upto_block 2 with fail
            go_cut [12, 13, 65] (fun s12 s13 _ wx => Meets w.heap.size T N k w ns S (.slice vo ns.length vcap) (.slice uo S.length ucap) r ys s12 s13 wx)
            case first =>
              by_cases k0 : a.kind = 0
              · as_aux_lemma =>
                  obtain ⟨g, hg⟩ : ∃ g, g = if true then (ns.length : Int) else -1 := ⟨_, rfl⟩
                  have CE := Lib.hid ((empty_any Wn HBN.out.bd hx1 (by omega)).mono (fun e w3 hq => told_add HBN.out AN.out HZ0.out HLT.out hAN (b := true) (n := ⟨1, 0, 0, 0, 0, 0⟩) (by simp [nodeB]) hg (Below.refl _ _) hq))
                  clear hg
                  go_wp2_with (first
                    | (go_at_call 17; (with_reducible refine CE.out.mono ?_); rintro e w3 ⟨rfl, hg, hb3, hA3, hZ3, nv', sv', xs', h1, hbw3⟩; go_must (obtain ⟨⟨z0, z1, z2, z3, z4, z5⟩, f0, f1, f2, f3, f4, f5⟩ := hZ3.cells; have HG := Lib.hid hg; have HB3 := Lib.hid hb3; have HZ3 := Lib.hid hZ3; have HV := Lib.hid h1; have HW3 := Lib.hid hbw3; clear hg hb3 hA3 hZ3 h1 hbw3))
                    | fail)
                  go_meet
                  case rel => exact met_add (n := ⟨1, 0, 0, 0, 0, 0⟩) (b := true) HWN.out HB3.out HBN2.out HZ3.out HG.out HV.out HVN.out HW3.out HI.out (by simp [nodeB])
              · by_cases k2 : a.kind = 2
                · as_aux_lemma =>
                    obtain ⟨g, hg⟩ : ∃ g, g = if (bx && bY) then (ns.length : Int) else -1 := ⟨_, rfl⟩
                    have HN := Lib.hid (show nodeB ⟨3, a.x, a.y, 0, 0, 0⟩ ns.length S.length = (bx && bY) from by rw [nodeB_3 (by simp), HBX.out, HBY.out, Bool.eq_iff_iff]; simp [and_assoc])
                    have CE := Lib.hid (fun W (hW : Below Wn.heap.size Wn W) => (cat_any a.x a.y W (HBN.out.next hW).bd hx1 (by omega)).mono (fun e w3 hq => told_add HBN.out AN.out HZ0.out HLT.out hAN HN.out hg hW hq))
                    have HD := Lib.hid (show Below Wn.heap.size Wn Wn.drew from below_drew _)
                    have HS0 := Lib.hid (And.intro (cell_next e1 HD.out) (cell_next e2 HD.out))
                    clear hg HBX HBY
                    cases bx
                    · go_upto_region 26 with fail
                      refine wp_region_noPanic ?_
                      refine wp_region_held_drew (S := fun W => W.cell? ⟨A, 1, none⟩ = some (.int .i64 a.x) ∧ W.cell? ⟨A, 2, none⟩ = some (.int .i64 a.y)) (by kernel_rfl) HS0.out (fun hS => ?_)
                      refine wpAnyH_take (i := 0) (v := ?_) rfl (by kernel_rfl) (by kernel_rfl) (by kernel_rfl) (fun _ _ _ h => h) (Or.inl ⟨by rfl, ?_⟩) hS ?_
                      rotate_left
                      · (intro W hSw; (try dsimp only at hSw); go_simp <;> with_reducible rfl)
                      simp only [Act.put, List.getElem_toArray, List.getElem_cons_zero, List.setIfInBounds_toArray, List.set_cons_zero, List.set_cons_succ]
                      refine wpAnyH_take (i := 1) (v := ?_) rfl (by kernel_rfl) (by kernel_rfl) (by kernel_rfl) (fun _ _ _ h => h) (Or.inl ⟨by rfl, ?_⟩) hS ?_
                      rotate_left
                      · (intro W hSw; (try dsimp only at hSw); go_simp <;> with_reducible rfl)
                      simp only [Act.put, List.getElem_toArray, List.getElem_cons_succ, List.getElem_cons_zero, List.setIfInBounds_toArray, List.set_cons_zero, List.set_cons_succ]
                      refine wpAnyH_take (i := 2) (v := ?_) rfl (by kernel_rfl) (by kernel_rfl) (by kernel_rfl) (fun _ _ _ h => h) (Or.inl ⟨by rfl, ?_⟩) hS ?_
                      rotate_left
                      · (intro W hSw; (try dsimp only at hSw); go_simp <;> with_reducible rfl)
                      simp only [Act.put, List.getElem_toArray, List.getElem_cons_succ, List.getElem_cons_zero, List.setIfInBounds_toArray, List.set_cons_zero, List.set_cons_succ]
                      refine wpAnyH_take (i := 3) (v := ?_) rfl (by kernel_rfl) (by kernel_rfl) (by kernel_rfl) (fun _ _ _ h => h) (Or.inl ⟨by rfl, ?_⟩) hS ?_
                      rotate_left
                      · (intro W hSw; (try dsimp only at hSw); go_simp <;> with_reducible rfl)
                      simp only [Act.put, List.getElem_toArray, List.getElem_cons_succ, List.getElem_cons_zero, List.setIfInBounds_toArray, List.set_cons_zero, List.set_cons_succ]
                      refine wpAnyH_take (i := 4) (v := ?_) rfl (by kernel_rfl) (by kernel_rfl) (by kernel_rfl) (fun _ _ _ h => h) (Or.inl ⟨by rfl, ?_⟩) hS ?_
                      rotate_left
                      · (intro W hSw; (try dsimp only at hSw); go_simp <;> with_reducible rfl)
                      simp only [Act.put, List.getElem_toArray, List.getElem_cons_succ, List.getElem_cons_zero, List.setIfInBounds_toArray, List.set_cons_zero, List.set_cons_succ]
                      refine wpAnyH_take (i := 6) (v := ?_) rfl (by kernel_rfl) (by kernel_rfl) (by kernel_rfl) (fun _ _ _ h => h) (Or.inl ⟨by rfl, ?_⟩) hS ?_
                      rotate_left
                      · (intro W hSw; (try dsimp only at hSw); go_simp <;> with_reducible rfl)
                      simp only [Act.put, List.getElem_toArray, List.getElem_cons_succ, List.getElem_cons_zero, List.setIfInBounds_toArray, List.set_cons_zero, List.set_cons_succ]
                      refine wpAnyH_take (i := 10) (v := ?_) rfl (by kernel_rfl) (by kernel_rfl) (by kernel_rfl) (fun _ _ _ h => h) (Or.inl ⟨by rfl, ?_⟩) hS ?_
                      rotate_left
                      · (intro W hSw; (try dsimp only at hSw); go_simp <;> with_reducible rfl)
                      simp only [Act.put, List.getElem_toArray, List.getElem_cons_succ, List.getElem_cons_zero, List.setIfInBounds_toArray, List.set_cons_zero, List.set_cons_succ]
                      refine wpAnyH_take (i := 11) (v := ?_) rfl (by kernel_rfl) (by kernel_rfl) (by kernel_rfl) (fun _ _ _ h => h) (Or.inl ⟨by rfl, ?_⟩) hS ?_
                      rotate_left
                      · (intro W hSw; (try dsimp only at hSw); go_simp <;> with_reducible rfl)
                      simp only [Act.put, List.getElem_toArray, List.getElem_cons_succ, List.getElem_cons_zero, List.setIfInBounds_toArray, List.set_cons_zero, List.set_cons_succ]
                      refine wpAnyH_take (i := 12) (v := ?_) rfl (by kernel_rfl) (by kernel_rfl) (by kernel_rfl) (fun _ _ _ h => h) (Or.inl ⟨by rfl, ?_⟩) hS ?_
                      rotate_left
                      · (intro W hSw; (try dsimp only at hSw); go_simp <;> with_reducible rfl)
                      simp only [Act.put, List.getElem_toArray, List.getElem_cons_succ, List.getElem_cons_zero, List.setIfInBounds_toArray, List.set_cons_zero, List.set_cons_succ]
                      refine wpAnyH_take (i := 13) (v := ?_) rfl (by kernel_rfl) (by kernel_rfl) (by kernel_rfl) (fun _ _ _ h => h) (Or.inl ⟨by rfl, ?_⟩) hS ?_
                      rotate_left
                      · (intro W hSw; (try dsimp only at hSw); go_simp <;> with_reducible rfl)
                      simp only [Act.put, List.getElem_toArray, List.getElem_cons_succ, List.getElem_cons_zero, List.setIfInBounds_toArray, List.set_cons_zero, List.set_cons_succ]
                      refine wpAnyH_take (i := 14) (v := ?_) rfl (by kernel_rfl) (by kernel_rfl) (by kernel_rfl) (fun _ _ _ h => h) (Or.inl ⟨by rfl, ?_⟩) hS ?_
                      rotate_left
                      · (intro W hSw; (try dsimp only at hSw); go_simp <;> with_reducible rfl)
                      simp only [Act.put, List.getElem_toArray, List.getElem_cons_succ, List.getElem_cons_zero, List.setIfInBounds_toArray, List.set_cons_zero, List.set_cons_succ]
                      refine wpAnyH_ready (rs := [5]) (by kernel_rfl) (by simp) ?_
                      refine AllReadyH.cons rfl (fun K hK => ?_) AllReadyH.nil
                      simp only [List.getElem_toArray, List.getElem_cons_succ, List.getElem_cons_zero]
                      go_simp
                      go_wp2_with (go_at_call 20; (with_reducible refine (CE.out _ HD.out).mono ?_); rintro e w3 ⟨rfl, hg, hb3, hA3, hZ3, nv', sv', xs', h1, hbw3⟩; go_must (obtain ⟨d0, d1, d2, d3, d4, d5, d6, d7⟩ := hA3; obtain ⟨⟨z0, z1, z2, z3, z4, z5⟩, f0, f1, f2, f3, f4, f5⟩ := hZ3.cells; have HG := Lib.hid hg; have HB3 := Lib.hid hb3; have HZ3 := Lib.hid hZ3; have HV := Lib.hid h1; have HW3 := Lib.hid hbw3; clear hg hb3 hZ3 h1 hbw3))
                      refine hK.out _ _ ⟨d1, d2⟩ (fun hS => ?_)
                      clear hK K
                      try simp only [Act.put, List.getElem_toArray, List.getElem_cons_succ, List.getElem_cons_zero, List.setIfInBounds_toArray, List.set_cons_zero, List.set_cons_succ]
                      refine wpAnyH_take (i := 7) (v := ?_) rfl (by kernel_rfl) (by kernel_rfl) (by kernel_rfl) (fun _ _ _ h => h) (Or.inl ⟨by rfl, ?_⟩) hS ?_
                      rotate_left
                      · (intro W hSw; (try dsimp only at hSw); go_simp <;> with_reducible rfl)
                      simp only [Act.put, List.getElem_toArray, List.getElem_cons_succ, List.getElem_cons_zero, List.setIfInBounds_toArray, List.set_cons_zero, List.set_cons_succ]
                      refine wpAnyH_take (i := 15) (v := ?_) rfl (by kernel_rfl) (by kernel_rfl) (by kernel_rfl) (fun _ _ _ h => h) (Or.inl ⟨by rfl, ?_⟩) hS ?_
                      rotate_left
                      · (intro W hSw; (try dsimp only at hSw); go_simp <;> with_reducible rfl)
                      simp only [Act.put, List.getElem_toArray, List.getElem_cons_succ, List.getElem_cons_zero, List.setIfInBounds_toArray, List.set_cons_zero, List.set_cons_succ]
                      refine wpAnyH_take (i := 8) (v := undef) rfl (by kernel_rfl) (by kernel_rfl) (by kernel_rfl) (fun _ _ _ h => h) (Or.inr ⟨by rfl, rfl⟩) hS ?_
                      simp only [Act.put, List.getElem_toArray, List.getElem_cons_succ, List.getElem_cons_zero, List.setIfInBounds_toArray, List.set_cons_zero, List.set_cons_succ]
                      refine wpAnyH_take (i := 9) (v := ?_) rfl (by kernel_rfl) (by kernel_rfl) (by kernel_rfl) (fun _ _ _ h => h) (Or.inl ⟨by rfl, ?_⟩) hS ?_
                      rotate_left
                      · (intro W hSw; (try dsimp only at hSw); go_simp <;> with_reducible rfl)
                      simp only [Act.put, List.getElem_toArray, List.getElem_cons_succ, List.getElem_cons_zero, List.setIfInBounds_toArray, List.set_cons_zero, List.set_cons_succ]
                      refine wpAnyH_take (i := 16) (v := ?_) rfl (by kernel_rfl) (by kernel_rfl) (by kernel_rfl) (fun _ _ _ h => h) (Or.inl ⟨by rfl, ?_⟩) hS ?_
                      rotate_left
                      · (intro W hSw; (try dsimp only at hSw); go_simp <;> with_reducible rfl)
                      simp only [Act.put, List.getElem_toArray, List.getElem_cons_succ, List.getElem_cons_zero, List.setIfInBounds_toArray, List.set_cons_zero, List.set_cons_succ]
                      refine wpAnyH_ready (rs := [17]) (by kernel_rfl) (by simp) ?_
                      refine AllReadyH.cons rfl (fun K hK => ?_) AllReadyH.nil
                      simp only [List.getElem_toArray, List.getElem_cons_succ, List.getElem_cons_zero]
                      go_simp
                      refine hK.out _ _ ⟨six_cell d1 hAN, six_cell d2 hAN⟩ (fun hS => ?_)
                      clear hK K
                      try simp only [Act.put, List.getElem_toArray, List.getElem_cons_succ, List.getElem_cons_zero, List.setIfInBounds_toArray, List.set_cons_zero, List.set_cons_succ]
                      refine wpAnyH_done (by kernel_rfl) ?_ _
                      refine NoPanic.normal ?_
                      go_wp2_with fail
                      go_meet
                      case rel => exact met_add (n := ⟨3, a.x, a.y, 0, 0, 0⟩) HWN.out HB3.out HBN2.out HZ3.out HG.out HV.out HVN.out HW3.out HI.out HN.out
                    · go_upto_region 26 with fail
                      first | (go_region_held3 (fun W => W.cell? ⟨A, 1, none⟩ = some (.int .i64 a.x) ∧ W.cell? ⟨A, 2, none⟩ = some (.int .i64 a.y)) (first | (with_reducible exact HS0.out) | (with_reducible exact ⟨by assumption, by assumption⟩) | (with_reducible exact ⟨six_cell d1 hAN, six_cell d2 hAN⟩) | fail)
                        (first
                          | (go_at_call 20; (with_reducible refine (CE.out _ HD.out).mono ?_); rintro e w3 ⟨rfl, hg, hb3, hA3, hZ3, nv', sv', xs', h1, hbw3⟩; go_must (obtain ⟨d0, d1, d2, d3, d4, d5, d6, d7⟩ := hA3; obtain ⟨⟨z0, z1, z2, z3, z4, z5⟩, f0, f1, f2, f3, f4, f5⟩ := hZ3.cells; have HG := Lib.hid hg; have HB3 := Lib.hid hb3; have HZ3 := Lib.hid hZ3; have HV := Lib.hid h1; have HW3 := Lib.hid hbw3; clear hg hb3 hZ3 h1 hbw3))
                          | fail)) | fail
                      all_goals (
                        go_wp2_with fail
                        go_meet
                        case rel => exact met_add (n := ⟨3, a.x, a.y, 0, 0, 0⟩) HWN.out HB3.out HBN2.out HZ3.out HG.out HV.out HVN.out HW3.out HI.out HN.out)
                · by_cases k3 : a.kind = 3
                  · as_aux_lemma =>
                      obtain ⟨g, hg⟩ : ∃ g, g = if (bx && bY) then (ns.length : Int) else -1 := ⟨_, rfl⟩
                      have HN := Lib.hid (show nodeB ⟨4, a.x, a.y, 0, 0, 0⟩ ns.length S.length = (bx && bY) from by rw [nodeB_3 (by simp), HBX.out, HBY.out, Bool.eq_iff_iff]; simp [and_assoc])
                      have CE := Lib.hid (fun W (hW : Below Wn.heap.size Wn W) => (alt_any a.x a.y W (HBN.out.next hW).bd hx1 (by omega)).mono (fun e w3 hq => told_add HBN.out AN.out HZ0.out HLT.out hAN HN.out hg hW hq))
                      have HD := Lib.hid (show Below Wn.heap.size Wn Wn.drew from below_drew _)
                      have HS0 := Lib.hid (And.intro (cell_next e1 HD.out) (cell_next e2 HD.out))
                      clear hg HBX HBY
                      cases bx
                      · go_upto_region 28 with fail
                        refine wp_region_noPanic ?_
                        refine wp_region_held_drew (S := fun W => W.cell? ⟨A, 1, none⟩ = some (.int .i64 a.x) ∧ W.cell? ⟨A, 2, none⟩ = some (.int .i64 a.y)) (by kernel_rfl) HS0.out (fun hS => ?_)
                        refine wpAnyH_take (i := 0) (v := ?_) rfl (by kernel_rfl) (by kernel_rfl) (by kernel_rfl) (fun _ _ _ h => h) (Or.inl ⟨by rfl, ?_⟩) hS ?_
                        rotate_left
                        · (intro W hSw; (try dsimp only at hSw); go_simp <;> with_reducible rfl)
                        simp only [Act.put, List.getElem_toArray, List.getElem_cons_zero, List.setIfInBounds_toArray, List.set_cons_zero, List.set_cons_succ]
                        refine wpAnyH_take (i := 1) (v := ?_) rfl (by kernel_rfl) (by kernel_rfl) (by kernel_rfl) (fun _ _ _ h => h) (Or.inl ⟨by rfl, ?_⟩) hS ?_
                        rotate_left
                        · (intro W hSw; (try dsimp only at hSw); go_simp <;> with_reducible rfl)
                        simp only [Act.put, List.getElem_toArray, List.getElem_cons_succ, List.getElem_cons_zero, List.setIfInBounds_toArray, List.set_cons_zero, List.set_cons_succ]
                        refine wpAnyH_take (i := 2) (v := ?_) rfl (by kernel_rfl) (by kernel_rfl) (by kernel_rfl) (fun _ _ _ h => h) (Or.inl ⟨by rfl, ?_⟩) hS ?_
                        rotate_left
                        · (intro W hSw; (try dsimp only at hSw); go_simp <;> with_reducible rfl)
                        simp only [Act.put, List.getElem_toArray, List.getElem_cons_succ, List.getElem_cons_zero, List.setIfInBounds_toArray, List.set_cons_zero, List.set_cons_succ]
                        refine wpAnyH_take (i := 3) (v := ?_) rfl (by kernel_rfl) (by kernel_rfl) (by kernel_rfl) (fun _ _ _ h => h) (Or.inl ⟨by rfl, ?_⟩) hS ?_
                        rotate_left
                        · (intro W hSw; (try dsimp only at hSw); go_simp <;> with_reducible rfl)
                        simp only [Act.put, List.getElem_toArray, List.getElem_cons_succ, List.getElem_cons_zero, List.setIfInBounds_toArray, List.set_cons_zero, List.set_cons_succ]
                        refine wpAnyH_take (i := 4) (v := ?_) rfl (by kernel_rfl) (by kernel_rfl) (by kernel_rfl) (fun _ _ _ h => h) (Or.inl ⟨by rfl, ?_⟩) hS ?_
                        rotate_left
                        · (intro W hSw; (try dsimp only at hSw); go_simp <;> with_reducible rfl)
                        simp only [Act.put, List.getElem_toArray, List.getElem_cons_succ, List.getElem_cons_zero, List.setIfInBounds_toArray, List.set_cons_zero, List.set_cons_succ]
                        refine wpAnyH_take (i := 6) (v := ?_) rfl (by kernel_rfl) (by kernel_rfl) (by kernel_rfl) (fun _ _ _ h => h) (Or.inl ⟨by rfl, ?_⟩) hS ?_
                        rotate_left
                        · (intro W hSw; (try dsimp only at hSw); go_simp <;> with_reducible rfl)
                        simp only [Act.put, List.getElem_toArray, List.getElem_cons_succ, List.getElem_cons_zero, List.setIfInBounds_toArray, List.set_cons_zero, List.set_cons_succ]
                        refine wpAnyH_take (i := 10) (v := ?_) rfl (by kernel_rfl) (by kernel_rfl) (by kernel_rfl) (fun _ _ _ h => h) (Or.inl ⟨by rfl, ?_⟩) hS ?_
                        rotate_left
                        · (intro W hSw; (try dsimp only at hSw); go_simp <;> with_reducible rfl)
                        simp only [Act.put, List.getElem_toArray, List.getElem_cons_succ, List.getElem_cons_zero, List.setIfInBounds_toArray, List.set_cons_zero, List.set_cons_succ]
                        refine wpAnyH_take (i := 11) (v := ?_) rfl (by kernel_rfl) (by kernel_rfl) (by kernel_rfl) (fun _ _ _ h => h) (Or.inl ⟨by rfl, ?_⟩) hS ?_
                        rotate_left
                        · (intro W hSw; (try dsimp only at hSw); go_simp <;> with_reducible rfl)
                        simp only [Act.put, List.getElem_toArray, List.getElem_cons_succ, List.getElem_cons_zero, List.setIfInBounds_toArray, List.set_cons_zero, List.set_cons_succ]
                        refine wpAnyH_take (i := 12) (v := ?_) rfl (by kernel_rfl) (by kernel_rfl) (by kernel_rfl) (fun _ _ _ h => h) (Or.inl ⟨by rfl, ?_⟩) hS ?_
                        rotate_left
                        · (intro W hSw; (try dsimp only at hSw); go_simp <;> with_reducible rfl)
                        simp only [Act.put, List.getElem_toArray, List.getElem_cons_succ, List.getElem_cons_zero, List.setIfInBounds_toArray, List.set_cons_zero, List.set_cons_succ]
                        refine wpAnyH_take (i := 13) (v := ?_) rfl (by kernel_rfl) (by kernel_rfl) (by kernel_rfl) (fun _ _ _ h => h) (Or.inl ⟨by rfl, ?_⟩) hS ?_
                        rotate_left
                        · (intro W hSw; (try dsimp only at hSw); go_simp <;> with_reducible rfl)
                        simp only [Act.put, List.getElem_toArray, List.getElem_cons_succ, List.getElem_cons_zero, List.setIfInBounds_toArray, List.set_cons_zero, List.set_cons_succ]
                        refine wpAnyH_take (i := 14) (v := ?_) rfl (by kernel_rfl) (by kernel_rfl) (by kernel_rfl) (fun _ _ _ h => h) (Or.inl ⟨by rfl, ?_⟩) hS ?_
                        rotate_left
                        · (intro W hSw; (try dsimp only at hSw); go_simp <;> with_reducible rfl)
                        simp only [Act.put, List.getElem_toArray, List.getElem_cons_succ, List.getElem_cons_zero, List.setIfInBounds_toArray, List.set_cons_zero, List.set_cons_succ]
                        refine wpAnyH_ready (rs := [5]) (by kernel_rfl) (by simp) ?_
                        refine AllReadyH.cons rfl (fun K hK => ?_) AllReadyH.nil
                        simp only [List.getElem_toArray, List.getElem_cons_succ, List.getElem_cons_zero]
                        go_simp
                        go_wp2_with (go_at_call 21; (with_reducible refine (CE.out _ HD.out).mono ?_); rintro e w3 ⟨rfl, hg, hb3, hA3, hZ3, nv', sv', xs', h1, hbw3⟩; go_must (obtain ⟨d0, d1, d2, d3, d4, d5, d6, d7⟩ := hA3; obtain ⟨⟨z0, z1, z2, z3, z4, z5⟩, f0, f1, f2, f3, f4, f5⟩ := hZ3.cells; have HG := Lib.hid hg; have HB3 := Lib.hid hb3; have HZ3 := Lib.hid hZ3; have HV := Lib.hid h1; have HW3 := Lib.hid hbw3; clear hg hb3 hZ3 h1 hbw3))
                        refine hK.out _ _ ⟨d1, d2⟩ (fun hS => ?_)
                        clear hK K
                        try simp only [Act.put, List.getElem_toArray, List.getElem_cons_succ, List.getElem_cons_zero, List.setIfInBounds_toArray, List.set_cons_zero, List.set_cons_succ]
                        refine wpAnyH_take (i := 7) (v := ?_) rfl (by kernel_rfl) (by kernel_rfl) (by kernel_rfl) (fun _ _ _ h => h) (Or.inl ⟨by rfl, ?_⟩) hS ?_
                        rotate_left
                        · (intro W hSw; (try dsimp only at hSw); go_simp <;> with_reducible rfl)
                        simp only [Act.put, List.getElem_toArray, List.getElem_cons_succ, List.getElem_cons_zero, List.setIfInBounds_toArray, List.set_cons_zero, List.set_cons_succ]
                        refine wpAnyH_take (i := 15) (v := ?_) rfl (by kernel_rfl) (by kernel_rfl) (by kernel_rfl) (fun _ _ _ h => h) (Or.inl ⟨by rfl, ?_⟩) hS ?_
                        rotate_left
                        · (intro W hSw; (try dsimp only at hSw); go_simp <;> with_reducible rfl)
                        simp only [Act.put, List.getElem_toArray, List.getElem_cons_succ, List.getElem_cons_zero, List.setIfInBounds_toArray, List.set_cons_zero, List.set_cons_succ]
                        refine wpAnyH_take (i := 8) (v := undef) rfl (by kernel_rfl) (by kernel_rfl) (by kernel_rfl) (fun _ _ _ h => h) (Or.inr ⟨by rfl, rfl⟩) hS ?_
                        simp only [Act.put, List.getElem_toArray, List.getElem_cons_succ, List.getElem_cons_zero, List.setIfInBounds_toArray, List.set_cons_zero, List.set_cons_succ]
                        refine wpAnyH_take (i := 9) (v := ?_) rfl (by kernel_rfl) (by kernel_rfl) (by kernel_rfl) (fun _ _ _ h => h) (Or.inl ⟨by rfl, ?_⟩) hS ?_
                        rotate_left
                        · (intro W hSw; (try dsimp only at hSw); go_simp <;> with_reducible rfl)
                        simp only [Act.put, List.getElem_toArray, List.getElem_cons_succ, List.getElem_cons_zero, List.setIfInBounds_toArray, List.set_cons_zero, List.set_cons_succ]
                        refine wpAnyH_take (i := 16) (v := ?_) rfl (by kernel_rfl) (by kernel_rfl) (by kernel_rfl) (fun _ _ _ h => h) (Or.inl ⟨by rfl, ?_⟩) hS ?_
                        rotate_left
                        · (intro W hSw; (try dsimp only at hSw); go_simp <;> with_reducible rfl)
                        simp only [Act.put, List.getElem_toArray, List.getElem_cons_succ, List.getElem_cons_zero, List.setIfInBounds_toArray, List.set_cons_zero, List.set_cons_succ]
                        refine wpAnyH_ready (rs := [17]) (by kernel_rfl) (by simp) ?_
                        refine AllReadyH.cons rfl (fun K hK => ?_) AllReadyH.nil
                        simp only [List.getElem_toArray, List.getElem_cons_succ, List.getElem_cons_zero]
                        go_simp
                        refine hK.out _ _ ⟨six_cell d1 hAN, six_cell d2 hAN⟩ (fun hS => ?_)
                        clear hK K
                        try simp only [Act.put, List.getElem_toArray, List.getElem_cons_succ, List.getElem_cons_zero, List.setIfInBounds_toArray, List.set_cons_zero, List.set_cons_succ]
                        refine wpAnyH_done (by kernel_rfl) ?_ _
                        refine NoPanic.normal ?_
                        go_wp2_with fail
                        go_meet
                        case rel => exact met_add (n := ⟨4, a.x, a.y, 0, 0, 0⟩) HWN.out HB3.out HBN2.out HZ3.out HG.out HV.out HVN.out HW3.out HI.out HN.out
                      · go_upto_region 28 with fail
                        first | (go_region_held3 (fun W => W.cell? ⟨A, 1, none⟩ = some (.int .i64 a.x) ∧ W.cell? ⟨A, 2, none⟩ = some (.int .i64 a.y)) (first | (with_reducible exact HS0.out) | (with_reducible exact ⟨by assumption, by assumption⟩) | (with_reducible exact ⟨six_cell d1 hAN, six_cell d2 hAN⟩) | fail)
                          (first
                            | (go_at_call 21; (with_reducible refine (CE.out _ HD.out).mono ?_); rintro e w3 ⟨rfl, hg, hb3, hA3, hZ3, nv', sv', xs', h1, hbw3⟩; go_must (obtain ⟨d0, d1, d2, d3, d4, d5, d6, d7⟩ := hA3; obtain ⟨⟨z0, z1, z2, z3, z4, z5⟩, f0, f1, f2, f3, f4, f5⟩ := hZ3.cells; have HG := Lib.hid hg; have HB3 := Lib.hid hb3; have HZ3 := Lib.hid hZ3; have HV := Lib.hid h1; have HW3 := Lib.hid hbw3; clear hg hb3 hZ3 h1 hbw3))
                            | fail)) | fail
                        all_goals (
                          go_wp2_with fail
                          go_meet
                          case rel => exact met_add (n := ⟨4, a.x, a.y, 0, 0, 0⟩) HWN.out HB3.out HBN2.out HZ3.out HG.out HV.out HVN.out HW3.out HI.out HN.out)
                  · by_cases k4 : a.kind = 4
                    · as_aux_lemma =>
                        obtain ⟨tb, htb⟩ : ∃ t, t = timesB a.y a.z := ⟨_, rfl⟩
                        obtain ⟨g, hg⟩ : ∃ g, g = if (bx && tb) then (ns.length : Int) else -1 := ⟨_, rfl⟩
                        have HN := Lib.hid (show nodeB ⟨5, a.x, 0, a.y, a.z, 0⟩ ns.length S.length = (bx && tb) from by rw [nodeB_5 rfl, HBX.out, htb]; simp)
                        have CE := Lib.hid (fun W (hW : Below Wn.heap.size Wn W) => (rep_any a.x a.y a.z W (HBN.out.next hW).bd hx1 (by omega)).mono (fun e w3 hq => told_add HBN.out AN.out HZ0.out HLT.out hAN HN.out hg hW hq))
                        have CT := Lib.hid (fun W => rtimes_any a.y a.z W)
                        rw [← htb] at CT
                        have HD := Lib.hid (show Below Wn.heap.size Wn Wn.drew from below_drew _)
                        have HS0 := Lib.hid (And.intro (cell_next e1 HD.out) (And.intro (cell_next e2 HD.out) (cell_next e3 HD.out)))
                        clear hg HBX HBY htb
                        cases bx
                        · go_upto_region 30 with fail
                          refine wp_region_noPanic ?_
                          refine wp_region_held_drew (S := fun W => W.cell? ⟨A, 1, none⟩ = some (.int .i64 a.x) ∧ W.cell? ⟨A, 2, none⟩ = some (.int .i64 a.y) ∧ W.cell? ⟨A, 3, none⟩ = some (.int .i64 a.z)) (by kernel_rfl) HS0.out (fun hS => ?_)
                          refine wpAnyH_take (i := 0) (v := ?_) rfl (by kernel_rfl) (by kernel_rfl) (by kernel_rfl) (fun _ _ _ h => h) (Or.inl ⟨by rfl, ?_⟩) hS ?_
                          rotate_left
                          · (intro W hSw; (try dsimp only at hSw); go_simp <;> with_reducible rfl)
                          simp only [Act.put, List.getElem_toArray, List.getElem_cons_zero, List.setIfInBounds_toArray, List.set_cons_zero, List.set_cons_succ]
                          refine wpAnyH_take (i := 1) (v := ?_) rfl (by kernel_rfl) (by kernel_rfl) (by kernel_rfl) (fun _ _ _ h => h) (Or.inl ⟨by rfl, ?_⟩) hS ?_
                          rotate_left
                          · (intro W hSw; (try dsimp only at hSw); go_simp <;> with_reducible rfl)
                          simp only [Act.put, List.getElem_toArray, List.getElem_cons_succ, List.getElem_cons_zero, List.setIfInBounds_toArray, List.set_cons_zero, List.set_cons_succ]
                          refine wpAnyH_take (i := 2) (v := ?_) rfl (by kernel_rfl) (by kernel_rfl) (by kernel_rfl) (fun _ _ _ h => h) (Or.inl ⟨by rfl, ?_⟩) hS ?_
                          rotate_left
                          · (intro W hSw; (try dsimp only at hSw); go_simp <;> with_reducible rfl)
                          simp only [Act.put, List.getElem_toArray, List.getElem_cons_succ, List.getElem_cons_zero, List.setIfInBounds_toArray, List.set_cons_zero, List.set_cons_succ]
                          refine wpAnyH_take (i := 3) (v := ?_) rfl (by kernel_rfl) (by kernel_rfl) (by kernel_rfl) (fun _ _ _ h => h) (Or.inl ⟨by rfl, ?_⟩) hS ?_
                          rotate_left
                          · (intro W hSw; (try dsimp only at hSw); go_simp <;> with_reducible rfl)
                          simp only [Act.put, List.getElem_toArray, List.getElem_cons_succ, List.getElem_cons_zero, List.setIfInBounds_toArray, List.set_cons_zero, List.set_cons_succ]
                          refine wpAnyH_take (i := 4) (v := ?_) rfl (by kernel_rfl) (by kernel_rfl) (by kernel_rfl) (fun _ _ _ h => h) (Or.inl ⟨by rfl, ?_⟩) hS ?_
                          rotate_left
                          · (intro W hSw; (try dsimp only at hSw); go_simp <;> with_reducible rfl)
                          simp only [Act.put, List.getElem_toArray, List.getElem_cons_succ, List.getElem_cons_zero, List.setIfInBounds_toArray, List.set_cons_zero, List.set_cons_succ]
                          refine wpAnyH_take (i := 5) (v := ?_) rfl (by kernel_rfl) (by kernel_rfl) (by kernel_rfl) (fun _ _ _ h => h) (Or.inl ⟨by rfl, ?_⟩) hS ?_
                          rotate_left
                          · (intro W hSw; (try dsimp only at hSw); go_simp <;> with_reducible rfl)
                          simp only [Act.put, List.getElem_toArray, List.getElem_cons_succ, List.getElem_cons_zero, List.setIfInBounds_toArray, List.set_cons_zero, List.set_cons_succ]
                          refine wpAnyH_take (i := 6) (v := ?_) rfl (by kernel_rfl) (by kernel_rfl) (by kernel_rfl) (fun _ _ _ h => h) (Or.inl ⟨by rfl, ?_⟩) hS ?_
                          rotate_left
                          · (intro W hSw; (try dsimp only at hSw); go_simp <;> with_reducible rfl)
                          simp only [Act.put, List.getElem_toArray, List.getElem_cons_succ, List.getElem_cons_zero, List.setIfInBounds_toArray, List.set_cons_zero, List.set_cons_succ]
                          refine wpAnyH_take (i := 8) (v := ?_) rfl (by kernel_rfl) (by kernel_rfl) (by kernel_rfl) (fun _ _ _ h => h) (Or.inl ⟨by rfl, ?_⟩) hS ?_
                          rotate_left
                          · (intro W hSw; (try dsimp only at hSw); go_simp <;> with_reducible rfl)
                          simp only [Act.put, List.getElem_toArray, List.getElem_cons_succ, List.getElem_cons_zero, List.setIfInBounds_toArray, List.set_cons_zero, List.set_cons_succ]
                          refine wpAnyH_take (i := 16) (v := ?_) rfl (by kernel_rfl) (by kernel_rfl) (by kernel_rfl) (fun _ _ _ h => h) (Or.inl ⟨by rfl, ?_⟩) hS ?_
                          rotate_left
                          · (intro W hSw; (try dsimp only at hSw); go_simp <;> with_reducible rfl)
                          simp only [Act.put, List.getElem_toArray, List.getElem_cons_succ, List.getElem_cons_zero, List.setIfInBounds_toArray, List.set_cons_zero, List.set_cons_succ]
                          refine wpAnyH_take (i := 17) (v := ?_) rfl (by kernel_rfl) (by kernel_rfl) (by kernel_rfl) (fun _ _ _ h => h) (Or.inl ⟨by rfl, ?_⟩) hS ?_
                          rotate_left
                          · (intro W hSw; (try dsimp only at hSw); go_simp <;> with_reducible rfl)
                          simp only [Act.put, List.getElem_toArray, List.getElem_cons_succ, List.getElem_cons_zero, List.setIfInBounds_toArray, List.set_cons_zero, List.set_cons_succ]
                          refine wpAnyH_take (i := 18) (v := ?_) rfl (by kernel_rfl) (by kernel_rfl) (by kernel_rfl) (fun _ _ _ h => h) (Or.inl ⟨by rfl, ?_⟩) hS ?_
                          rotate_left
                          · (intro W hSw; (try dsimp only at hSw); go_simp <;> with_reducible rfl)
                          simp only [Act.put, List.getElem_toArray, List.getElem_cons_succ, List.getElem_cons_zero, List.setIfInBounds_toArray, List.set_cons_zero, List.set_cons_succ]
                          refine wpAnyH_take (i := 19) (v := ?_) rfl (by kernel_rfl) (by kernel_rfl) (by kernel_rfl) (fun _ _ _ h => h) (Or.inl ⟨by rfl, ?_⟩) hS ?_
                          rotate_left
                          · (intro W hSw; (try dsimp only at hSw); go_simp <;> with_reducible rfl)
                          simp only [Act.put, List.getElem_toArray, List.getElem_cons_succ, List.getElem_cons_zero, List.setIfInBounds_toArray, List.set_cons_zero, List.set_cons_succ]
                          refine wpAnyH_take (i := 20) (v := ?_) rfl (by kernel_rfl) (by kernel_rfl) (by kernel_rfl) (fun _ _ _ h => h) (Or.inl ⟨by rfl, ?_⟩) hS ?_
                          rotate_left
                          · (intro W hSw; (try dsimp only at hSw); go_simp <;> with_reducible rfl)
                          simp only [Act.put, List.getElem_toArray, List.getElem_cons_succ, List.getElem_cons_zero, List.setIfInBounds_toArray, List.set_cons_zero, List.set_cons_succ]
                          refine wpAnyH_take (i := 21) (v := ?_) rfl (by kernel_rfl) (by kernel_rfl) (by kernel_rfl) (fun _ _ _ h => h) (Or.inl ⟨by rfl, ?_⟩) hS ?_
                          rotate_left
                          · (intro W hSw; (try dsimp only at hSw); go_simp <;> with_reducible rfl)
                          simp only [Act.put, List.getElem_toArray, List.getElem_cons_succ, List.getElem_cons_zero, List.setIfInBounds_toArray, List.set_cons_zero, List.set_cons_succ]
                          refine wpAnyH_take (i := 22) (v := ?_) rfl (by kernel_rfl) (by kernel_rfl) (by kernel_rfl) (fun _ _ _ h => h) (Or.inl ⟨by rfl, ?_⟩) hS ?_
                          rotate_left
                          · (intro W hSw; (try dsimp only at hSw); go_simp <;> with_reducible rfl)
                          simp only [Act.put, List.getElem_toArray, List.getElem_cons_succ, List.getElem_cons_zero, List.setIfInBounds_toArray, List.set_cons_zero, List.set_cons_succ]
                          refine wpAnyH_ready (rs := [7]) (by kernel_rfl) (by simp) ?_
                          refine AllReadyH.cons rfl (fun K hK => ?_) AllReadyH.nil
                          simp only [List.getElem_toArray, List.getElem_cons_succ, List.getElem_cons_zero]
                          go_simp
                          go_wp2_with (go_at_call 22; (with_reducible refine (CE.out _ HD.out).mono ?_); rintro e w3 ⟨rfl, hg, hb3, hA3, hZ3, nv', sv', xs', h1, hbw3⟩; go_must (obtain ⟨d0, d1, d2, d3, d4, d5, d6, d7⟩ := hA3; obtain ⟨⟨z0, z1, z2, z3, z4, z5⟩, f0, f1, f2, f3, f4, f5⟩ := hZ3.cells; have HG := Lib.hid hg; have HB3 := Lib.hid hb3; have HZ3 := Lib.hid hZ3; have HV := Lib.hid h1; have HW3 := Lib.hid hbw3; clear hg hb3 hZ3 h1 hbw3))
                          refine hK.out _ _ ⟨d1, d2, d3⟩ (fun hS => ?_)
                          clear hK K
                          try simp only [Act.put, List.getElem_toArray, List.getElem_cons_succ, List.getElem_cons_zero, List.setIfInBounds_toArray, List.set_cons_zero, List.set_cons_succ]
                          refine wpAnyH_take (i := 9) (v := ?_) rfl (by kernel_rfl) (by kernel_rfl) (by kernel_rfl) (fun _ _ _ h => h) (Or.inl ⟨by rfl, ?_⟩) hS ?_
                          rotate_left
                          · (intro W hSw; (try dsimp only at hSw); go_simp <;> with_reducible rfl)
                          simp only [Act.put, List.getElem_toArray, List.getElem_cons_succ, List.getElem_cons_zero, List.setIfInBounds_toArray, List.set_cons_zero, List.set_cons_succ]
                          refine wpAnyH_take (i := 10) (v := undef) rfl (by kernel_rfl) (by kernel_rfl) (by kernel_rfl) (fun _ _ _ h => h) (Or.inr ⟨by rfl, rfl⟩) hS ?_
                          simp only [Act.put, List.getElem_toArray, List.getElem_cons_succ, List.getElem_cons_zero, List.setIfInBounds_toArray, List.set_cons_zero, List.set_cons_succ]
                          refine wpAnyH_take (i := 11) (v := undef) rfl (by kernel_rfl) (by kernel_rfl) (by kernel_rfl) (fun _ _ _ h => h) (Or.inr ⟨by rfl, rfl⟩) hS ?_
                          simp only [Act.put, List.getElem_toArray, List.getElem_cons_succ, List.getElem_cons_zero, List.setIfInBounds_toArray, List.set_cons_zero, List.set_cons_succ]
                          refine wpAnyH_take (i := 12) (v := undef) rfl (by kernel_rfl) (by kernel_rfl) (by kernel_rfl) (fun _ _ _ h => h) (Or.inr ⟨by rfl, rfl⟩) hS ?_
                          simp only [Act.put, List.getElem_toArray, List.getElem_cons_succ, List.getElem_cons_zero, List.setIfInBounds_toArray, List.set_cons_zero, List.set_cons_succ]
                          refine wpAnyH_take (i := 13) (v := undef) rfl (by kernel_rfl) (by kernel_rfl) (by kernel_rfl) (fun _ _ _ h => h) (Or.inr ⟨by rfl, rfl⟩) hS ?_
                          simp only [Act.put, List.getElem_toArray, List.getElem_cons_succ, List.getElem_cons_zero, List.setIfInBounds_toArray, List.set_cons_zero, List.set_cons_succ]
                          refine wpAnyH_take (i := 14) (v := undef) rfl (by kernel_rfl) (by kernel_rfl) (by kernel_rfl) (fun _ _ _ h => h) (Or.inr ⟨by rfl, rfl⟩) hS ?_
                          simp only [Act.put, List.getElem_toArray, List.getElem_cons_succ, List.getElem_cons_zero, List.setIfInBounds_toArray, List.set_cons_zero, List.set_cons_succ]
                          refine wpAnyH_take (i := 23) (v := ?_) rfl (by kernel_rfl) (by kernel_rfl) (by kernel_rfl) (fun _ _ _ h => h) (Or.inl ⟨by rfl, ?_⟩) hS ?_
                          rotate_left
                          · (intro W hSw; (try dsimp only at hSw); go_simp <;> with_reducible rfl)
                          simp only [Act.put, List.getElem_toArray, List.getElem_cons_succ, List.getElem_cons_zero, List.setIfInBounds_toArray, List.set_cons_zero, List.set_cons_succ]
                          refine wpAnyH_take (i := 15) (v := ?_) rfl (by kernel_rfl) (by kernel_rfl) (by kernel_rfl) (fun _ _ _ h => h) (Or.inl ⟨by rfl, ?_⟩) hS ?_
                          rotate_left
                          · (intro W hSw; (try dsimp only at hSw); go_simp <;> with_reducible rfl)
                          simp only [Act.put, List.getElem_toArray, List.getElem_cons_succ, List.getElem_cons_zero, List.setIfInBounds_toArray, List.set_cons_zero, List.set_cons_succ]
                          refine wpAnyH_take (i := 24) (v := ?_) rfl (by kernel_rfl) (by kernel_rfl) (by kernel_rfl) (fun _ _ _ h => h) (Or.inl ⟨by rfl, ?_⟩) hS ?_
                          rotate_left
                          · (intro W hSw; (try dsimp only at hSw); go_simp <;> with_reducible rfl)
                          simp only [Act.put, List.getElem_toArray, List.getElem_cons_succ, List.getElem_cons_zero, List.setIfInBounds_toArray, List.set_cons_zero, List.set_cons_succ]
                          refine wpAnyH_ready (rs := [25]) (by kernel_rfl) (by simp) ?_
                          refine AllReadyH.cons rfl (fun K hK => ?_) AllReadyH.nil
                          simp only [List.getElem_toArray, List.getElem_cons_succ, List.getElem_cons_zero]
                          go_simp
                          refine hK.out _ _ ⟨six_cell d1 hAN, six_cell d2 hAN, six_cell d3 hAN⟩ (fun hS => ?_)
                          clear hK K
                          try simp only [Act.put, List.getElem_toArray, List.getElem_cons_succ, List.getElem_cons_zero, List.setIfInBounds_toArray, List.set_cons_zero, List.set_cons_succ]
                          refine wpAnyH_done (by kernel_rfl) ?_ _
                          refine NoPanic.normal ?_
                          go_wp2_with fail
                          go_meet
                          case rel => exact met_add (n := ⟨5, a.x, 0, a.y, a.z, 0⟩) HWN.out HB3.out HBN2.out HZ3.out HG.out HV.out HVN.out HW3.out HI.out HN.out
                        · go_upto_region 30 with fail
                          first | (go_region_held3 (fun W => W.cell? ⟨A, 1, none⟩ = some (.int .i64 a.x) ∧ W.cell? ⟨A, 2, none⟩ = some (.int .i64 a.y) ∧ W.cell? ⟨A, 3, none⟩ = some (.int .i64 a.z)) (first | (with_reducible exact HS0.out) | (with_reducible exact ⟨by assumption, by assumption, by assumption⟩) | (with_reducible exact ⟨six_cell d1 hAN, six_cell d2 hAN, six_cell d3 hAN⟩) | fail)
                            (first
                              | (go_at_call 22; (with_reducible refine (CE.out _ HD.out).mono ?_); rintro e w3 ⟨rfl, hg, hb3, hA3, hZ3, nv', sv', xs', h1, hbw3⟩; go_must (obtain ⟨d0, d1, d2, d3, d4, d5, d6, d7⟩ := hA3; obtain ⟨⟨z0, z1, z2, z3, z4, z5⟩, f0, f1, f2, f3, f4, f5⟩ := hZ3.cells; have HG := Lib.hid hg; have HB3 := Lib.hid hb3; have HZ3 := Lib.hid hZ3; have HV := Lib.hid h1; have HW3 := Lib.hid hbw3; clear hg hb3 hZ3 h1 hbw3))
                              | (go_at_call 23; (with_reducible refine (CT.out _).mono ?_); rintro e w5 ⟨rfl, hw⟩; subst w5)
                              | fail)) | fail
                          all_goals (
                            go_wp2_with fail
                            go_meet
                            case rel => exact met_add (n := ⟨5, a.x, 0, a.y, a.z, 0⟩) HWN.out HB3.out HBN2.out HZ3.out HG.out HV.out HVN.out HW3.out HI.out HN.out)
                    · by_cases k1 : a.kind = 1
                      · --K1
                        obtain ⟨j0, gi, gz0, gz1, gz2⟩ := info_parts infoS
                        have HLT2 := Lib.hid (fun j (hu : UT T (.slice vo ns.length vcap) (.slice uo S.length ucap) j) => (show j < A from by have := (HBW.out.ltT hu).2; have := HAE.out; omega))
                        have hTN : T + 1 ≤ N := by have := HLT2.out T (.inl rfl); omega
                        have HRN := Lib.hid (fun W (hW : Below Wn.heap.size Wn W) => (show RngsAt W (.slice lo a.l.length lcap) a.l from HRL.out.next (HWN.out.trans (hW.mono HWN.out.size))))
                        have CE := Lib.hid (fun W (hW : Below Wn.heap.size Wn W) => (setm_any a.l (.slice lo a.l.length lcap) W (HBN.out.next hW).bd (HRN.out W hW) hx1 hx2 (by omega)).mono (fun e w3 hq => told_set HBN.out AN.out HZ0.out HLT.out hAN hW hq))
                        have HD := Lib.hid (show Below Wn.heap.size Wn Wn.drew from below_drew _)
                        have HS0 := Lib.hid (And.intro (cell_next e4 HD.out) (cell_next hp1 HD.out))
                        go_upto_region 23 with fail
                        first | (go_region_held3 (fun W => W.cell? ⟨A, 4, none⟩ = some (.slice lo a.l.length lcap) ∧ W.cell? ⟨T, 1, none⟩ = some (.slice uo S.length ucap)) (first | (with_reducible exact HS0.out) | (with_reducible exact ⟨by assumption, by assumption⟩) | (with_reducible exact ⟨six_cell d4 hAN, six_cell q1 hTN⟩) | fail)
                          (first
                            | (go_at_call 18; (with_reducible refine (CE.out _ HD.out).mono ?_); rintro e w3 ⟨rfl, hb3, hA3, hZ3, L, nv', sv', xs', l1, l2, l3, h1, hbw3⟩; go_must (have q1 := hbw3.ts.cell1; obtain ⟨d0, d1, d2, d3, d4, d5, d6, d7⟩ := hA3; obtain ⟨⟨z0, z1, z2, z3, z4, z5⟩, f0, f1, f2, f3, f4, f5⟩ := hZ3.cells; have HL := Lib.hid (And.intro l1 (And.intro l2 l3)); have HB3 := Lib.hid hb3; have HZ3 := Lib.hid hZ3; have HV := Lib.hid h1; have HW3 := Lib.hid hbw3; clear l1 l2 l3 hb3 hZ3 h1 hbw3))
                            | fail)) | fail
                        all_goals (
                          obtain ⟨hbx6, hk6⟩ := boxed6 HZ3.out.box (.int .i64 2) (.int .i64 0) (.int .i64 0) (.int .i64 0) (.int .i64 0) (.int .i64 S.length)
                          have HW4 := Lib.hid (HW3.out.other hk6 HZ3.out.box HV.out HVN.out)
                          have HW5 := Lib.hid ((HWN.out.trans HB3.out).trans (hk6.below (by have := HWN.out.size; have := HB3.out.size; omega) (fun j hj (e : j = N) => by have := HBN2.out; omega)))
                          have d4' := six_cell d4 hAN (v0 := .int .i64 2) (v1 := .int .i64 0) (v2 := .int .i64 0) (v3 := .int .i64 0) (v4 := .int .i64 0) (v5 := .int .i64 S.length)
                          have HBX6 := Lib.hid hbx6
                          generalize (((((w3.setCell ⟨N, 0, none⟩ (.int .i64 2)).setCell ⟨N, 1, none⟩ (.int .i64 0)).setCell ⟨N, 2, none⟩ (.int .i64 0)).setCell ⟨N, 3, none⟩ (.int .i64 0)).setCell ⟨N, 4, none⟩ (.int .i64 0)).setCell ⟨N, 5, none⟩ (.int .i64 S.length) = W4 at *
                          have q4 := HW4.out.ts.cell1
                          have c2 := Lib.hid (fun W (hb : Below W4.heap.size W4 W) => (show Calls Try.prog 19 #[.int .i64 0, .slice lo a.l.length lcap, .slice none 0 0] W (fun e w' => SetOut W (fun c => Rg.isC c && Rg.holdB 0 a.l [] c) (2 + 2 * (a.l.length + ([] : List R).length)) e w') from Rg.set_any 0 (by omega) a.l [] (.slice lo a.l.length lcap) (.slice none 0 0) W (HRL.out.next (HW5.out.trans (hb.mono HW5.out.size))) (Rg.none_at W) (by simp; omega)))
                          have hsB : w.heap.size ≤ W4.heap.size := HW5.out.size
                          clear hbx6 hk6 d0 d1 d2 d3 d4 d5 d6 d7 z0 z1 z2 z3 z4 z5 f0 f1 f2 f3 f4 f5 q1 e0 e1 e2 e3 e4 e5 e6 e7 hp0 hp1 HB3 HZ3 HW3
                          go_upto_region 24 with fail
                          go_region_law (first
                            | (refine step_append_lies _ rfl (.tmp 120) (.tmp 124) 23 rfl w.heap.size 37 j0 (.slice none 0 0) 1 24 Try.underlying23 gi gz0 gz1 gz2 rfl (by decide) (.slice uo S.length ucap) S.length ys (by rfl) (own_next HW4.out.ts.sets.own (B3.out _)) ⟨w5.heap.size, 0, none⟩ 1 1 [.slice xo L.length xcap] (by rfl) rfl (World.news_of_block (World.alloc_heap_new w5 _)) (by simp [Value.oneCell']) (by decide) (by unfold maxLen; omega) (by omega) (by have := B2.out.size; simp; omega) _ rfl ?_; intro g cap2 w6 hown hg hat _; go_must (obtain ⟨y1, y2, y3⟩ := BW.set (L := L) HW4.out (B3.out _) ((row_base HX.out hsB).alloc _) hown hg hat; have Y3 := Lib.hid y3; clear y3 hown hg hat))
                            | ((have hg := c2); clear hg; go_simp; go_wp2_with (go_at_call 19; (with_reducible refine (c2.out _ (by first | exact below_drew _ | exact Below.refl _ _)).mono ?_); rintro e w5 ⟨x, L', rfl, hx, m1, m2, m3, h3⟩; go_must (obtain rfl : L = L' := (Rg.uniq m1 HL.out.1 (fun c => (m2 c).trans ((Rg.inB_isC a.l c).trans (HL.out.2.1 c).symm))).symm; obtain ⟨xo, xcap, rfl, _, _⟩ := (rngs_of_row hx).shape; have HX := Lib.hid hx; have hb2 : Below W4.heap.size W4 w5 := (below_drew _).trans h3; have q3 := cell_next q4 hb2; have q6 : ∀ (cs : Array Value) (t : TypeId), (w5.alloc (.cells cs t)).cell? ⟨T, 1, none⟩ = some (.slice uo S.length ucap) := (fun cs t => cell_next q3 ((Below.refl _ _).alloc (Nat.le_refl _) _)); have B2 := Lib.hid hb2; have B3 := Lib.hid (fun o => hb2.trans (((Below.refl w5.heap.size w5).alloc (Nat.le_refl _) o).mono hb2.size)); clear hx m1 m2 h3 hb2 c2)))
                            | fail)
                          all_goals (
                            go_wp2_with fail
                            go_meet
                            case rel => exact met_set HW5.out HW4.out HBX6.out Y3.out (fun j hu => by have := HLT2.out j hu; omega) HI.out HL.out.1 (by have := HL.out.2.2; omega)))
                      · --K5
                        have HD := Lib.hid (show Below Wn.heap.size Wn Wn.drew from below_drew _)
                        have HK := Lib.hid (fun W (hW : Below Wn.heap.size Wn W) => (show Below w.heap.size w W from HWN.out.trans (hW.mono HWN.out.size)))
                        have CK := Lib.hid (fun W (hW : Below w.heap.size w W) => rcheck_any a.t (.agg #[.slice no a.t.ns.length ncap, .slice so a.t.sets.length scap, .int .i64 a.t.root]) W (HTT.out.next hW) (fun i hi => by have := hn.each i hi; omega))
                        have CG := Lib.hid (fun W (hW : Below Wn.heap.size Wn W) => graftm_any a.t (.agg #[.slice no a.t.ns.length ncap, .slice so a.t.sets.length scap, .int .i64 a.t.root]) W w (HBN.out.next hW).bd HTT.out (HK.out W hW) (Nat.le_refl _) (by have := hn.ns; omega) (by have := hn.sets; omega) (fun s hs => by obtain ⟨i, hi, rfl⟩ := List.mem_iff_getElem.1 hs; have := hn.each i hi; rw [Rg.nthL_eq hi] at this; omega))
                        have HS0 := Lib.hid (And.intro (cell_next e5 HD.out) (And.intro (cell_next e6 HD.out) (cell_next e7 HD.out)))
                        by_cases ht : checkE a.t = 0
                        · as_aux_lemma =>
                            have ho := (check_ok ht).1
                            have hr0 := ho.root0
                            have hr1 := ho.root1
                            obtain ⟨p, hp⟩ := Int.eq_ofNat_of_zero_le (show 0 ≤ (ns.length : Int) + a.t.root by omega)
                            obtain ⟨ns2, hns2⟩ : ∃ x, (graft ns S a.t).ns = x := ⟨_, rfl⟩
                            obtain ⟨S2, hS2⟩ : ∃ x, (graft ns S a.t).sets = x := ⟨_, rfl⟩
                            have hgl : ns2.length = ns.length + a.t.ns.length := by rw [← hns2]; simp [graft]
                            have HIG := Lib.hid (HI.out.graft ho hn)
                            have HSB := Lib.hid (HI.out.grafted (by omega) ht hn)
                            rw [hns2, hS2] at HIG HSB
                            rw [hp] at HSB
                            have CG2 := Lib.hid (fun W (hW : Below Wn.heap.size Wn W) => (CG.out W hW).mono (fun e w3 hq => told_graft HBN.out AN.out HLT.out hp ht hns2 hS2 hW hq))
                            rw [ht] at CK
                            have hp2 : p < ns2.length := by omega
                            have hl3 := HIG.out.nl
                            have hl4 := HIG.out.sl
                            have hs3 := HIG.out.each
                            clear CG ho hns2 hS2 hp hr0 hr1
                            have HGL := Lib.hid hgl
                            clear hgl
                            go_upto_region 14 with fail
                            first | (go_region_held3 (fun W => W.cell? ⟨A, 5, none⟩ = some (.slice no a.t.ns.length ncap) ∧ W.cell? ⟨A, 6, none⟩ = some (.slice so a.t.sets.length scap) ∧ W.cell? ⟨A, 7, none⟩ = some (.int .i64 a.t.root)) (first | (with_reducible exact HS0.out) | (with_reducible exact ⟨by assumption, by assumption, by assumption⟩) | fail)
                              (first
                                | (go_at_call 24; (with_reducible refine (CG2.out _ (by first | exact HB4.out | exact HD.out)).mono ?_); rintro e w3 ⟨rfl, hb3, hA3, nv', sv', xs', hbw3⟩; go_must (have HW3 := Lib.hid hbw3; have HC4 := Lib.hid (HWN.out.trans hb3); obtain ⟨d0, d1, d2, d3, d4, d5, d6, d7⟩ := hA3; clear hb3 hbw3))
                                | (go_at_call 8; (with_reducible refine (CK.out _ (by first | exact HC4.out | exact HK.out _ HD.out)).mono ?_); rintro e w4 ⟨rfl, hb4⟩; go_must ((first | (have d5' := cell_next d5 hb4; have d6' := cell_next d6 hb4; have d7' := cell_next d7 hb4; have HW4 := Lib.hid (HW3.out.next hb4); have HC5 := Lib.hid (HC4.out.trans (hb4.mono HC4.out.size)); clear HC4 HW3; have HW3 := HW4; have HC4 := HC5; clear d5 d6 d7 HW4 HC5; have d5 := d5'; have d6 := d6'; have d7 := d7'; clear d5' d6' d7') | (have HB4 := Lib.hid (below_drawn hb4); have d5 := cell_next e5 HB4.out; have d6 := cell_next e6 HB4.out; have d7 := cell_next e7 HB4.out)); clear hb4))
                                | fail)) | fail
                            all_goals (
                              clear CK CG2 HS0 e0 e1 e2 e3 e4 e5 e6 e7 hp0 hp1 HD
                              have CT := Lib.hid (tree_any p _ HW3.out.bd hp2 (by omega) (by omega) (fun s hs => by have := hs3 s hs; omega))
                              unfold TreeOut at CT
                              go_upto_region 17 with (first
                                | (go_at_call 25; (with_reducible refine CT.out.mono ?_); rintro e w5 ⟨vn2, vs2, ys2, rfl, hn2, hs2, hb5⟩; go_must (obtain ⟨no2, ncap2, rfl, _, _⟩ := (nodes_of_row hn2).shape; obtain ⟨mo2, mcap2, rfl, _, _⟩ := (hs2.at').shape; have HN2 := Lib.hid hn2; have HS2 := Lib.hid hs2; have HB5 := Lib.hid hb5; clear hb5 hn2 hs2))
                                | fail)
                              obtain ⟨r0, r1, r2⟩ := TBox.new w5 (.slice no2 ns2.length ncap2) (.slice mo2 S2.length mcap2) p
                              have HB6 := Lib.hid (HB5.out.alloc HB5.out.size (.cells #[.slice no2 ns2.length ncap2, .slice mo2 S2.length mcap2, .int .i64 (p : Int)] 25))
                              have HN3 := Lib.hid (own_next HN2.out ((Below.refl w5.heap.size w5).alloc (Nat.le_refl _) (.cells #[.slice no2 ns2.length ncap2, .slice mo2 S2.length mcap2, .int .i64 (p : Int)] 25)))
                              have HS3 := Lib.hid (HS2.out.next ((Below.refl w5.heap.size w5).alloc (Nat.le_refl _) (.cells #[.slice no2 ns2.length ncap2, .slice mo2 S2.length mcap2, .int .i64 (p : Int)] 25)))
                              clear HN2 HS2 CT HB5
                              generalize w5.alloc (.cells #[.slice no2 ns2.length ncap2, .slice mo2 S2.length mcap2, .int .i64 (p : Int)] 25) = W6 at *
                              generalize w5.heap.size = U at *
                              have v0 := cell_next d5 HB6.out
                              have v1 := cell_next d6 HB6.out
                              have v2 := cell_next d7 HB6.out
                              have CS := Lib.hid (same_any ⟨ns2, S2, p⟩ a.t (.agg #[.slice no2 ns2.length ncap2, .slice mo2 S2.length mcap2, .int .i64 (p : Int)]) (.agg #[.slice no a.t.ns.length ncap, .slice so a.t.sets.length scap, .int .i64 a.t.root]) W6 ⟨_, _, rfl, nodes_of_row HN3.out, HS3.out.at'⟩ (HTT.out.next (HC4.out.trans (HB6.out.mono HC4.out.size))))
                              rw [HSB.out] at CS
                              have hgl2 : wrap64 ((ns.length : Int) + (a.t.ns.length : Int)) = (ns2.length : Int) := by have := HGL.out; have := hn.ns; unfold wrap64; omega
                              clear d0 d1 d2 d3 d4 d5 d6 d7
                              go_upto_region 19 with (first
                                | (go_at_call 12; (with_reducible refine CS.out.mono ?_); rintro e w7 ⟨rfl, hb7⟩; go_must (have s0 := cell_next r0 hb7; have s1 := cell_next r1 hb7; have s2 := cell_next r2 hb7; have HB8 := Lib.hid (HB6.out.trans (hb7.mono HB6.out.size)); have HN4 := Lib.hid (own_next HN3.out hb7); have HS4 := Lib.hid (HS3.out.next hb7); clear hb7 r0 r1 r2 v0 v1 v2))
                                | fail)
                              have u0 := (HW3.out.ts.next HB8.out).cell0
                              have u1 := (HW3.out.ts.next HB8.out).cell1
                              have u2 := (HW3.out.ts.next HB8.out).cell2
                              have g0 := frozen_of_row w7 T 0 _ _ (HW3.out.ts.next HB8.out).box
                              have g1 := frozen_of_row w7 T 1 _ _ (HW3.out.ts.next HB8.out).box
                              have g2 := frozen_of_row w7 T 2 _ _ (HW3.out.ts.next HB8.out).box
                              have TK := Lib.hid (BW.take (r2 := p) HW3.out HB8.out HN4.out HS4.out)
                              clear hgl2
                              go_wp2_with fail
                              refine ⟨⟨k + 1, ns2, S2, nv', sv', xs', _, _, _, _, by go_num, by omega, TK.out.1, HIG.out, HC4.out.trans (TK.out.2.below HC4.out.size (fun j hj hu => by have := (HW3.out.ltT hu).1; omega))⟩, ?_⟩
                              simp [intOf]; omega)
                        · as_aux_lemma =>
                            have CG2 := Lib.hid (fun W (hW : Below Wn.heap.size Wn W) => (CG.out W hW).mono (fun e w3 hq => told_none ht hq))
                            generalize checkE a.t = ce at *
                            have hcf : (ce == 0) = false := by simp [ht]
                            clear CG
                            go_upto_region 14 with fail
                            first | (go_region_held3 (fun W => W.cell? ⟨A, 5, none⟩ = some (.slice no a.t.ns.length ncap) ∧ W.cell? ⟨A, 6, none⟩ = some (.slice so a.t.sets.length scap) ∧ W.cell? ⟨A, 7, none⟩ = some (.int .i64 a.t.root)) (first | (with_reducible exact HS0.out) | (with_reducible exact ⟨by assumption, by assumption, by assumption⟩) | fail)
                              (first
                                | (go_at_call 24; (with_reducible refine (CG2.out _ (by first | exact HB4.out | exact HD.out)).mono ?_); rintro e w3 ⟨rfl, hb3⟩; go_must (have HB4 := Lib.hid (below_step (Wn := Wn) (by first | exact HB4.out | exact HD.out) hb3); have d5 := cell_next e5 HB4.out; have d6 := cell_next e6 HB4.out; have d7 := cell_next e7 HB4.out; clear hb3))
                                | (go_at_call 8; (with_reducible refine (CK.out _ (by first | exact HK.out _ HB4.out | exact HK.out _ HD.out)).mono ?_); rintro e w3 ⟨rfl, hb3⟩; go_must (have HB4 := Lib.hid (below_step (Wn := Wn) (by first | exact HB4.out | exact HD.out) hb3); have d5 := cell_next e5 HB4.out; have d6 := cell_next e6 HB4.out; have d7 := cell_next e7 HB4.out; clear hb3))
                                | fail)) | fail
                            all_goals (
                              go_wp2_with fail
                              go_meet
                              case rel => exact met_no HWN.out HB4.out HBN.out HI.out)
            case rest =>
              unfold Meets at hcut
              obtain ⟨hbm, hm⟩ := hcut
              have HBM := Lib.hid hbm
              have hs4 : w.heap.size ≤ wc.heap.size := hbm.size
              clear hbm e0 e1 e2 e3 e4 e5 e6 e7 hp0 hp1
              rcases hm with ⟨n, S', nv', sv', xs', vs', ys', rfl, rfl, hbox, hbw, hI⟩ | ⟨nv', sv', xs', rfl, rfl, hbw, hI⟩
              · have n0 := hbw.ts.cell0
                have x0 : wc.cell? ⟨N, 0, none⟩ = some (.int .i64 n.op) := by simp [World.cell?, hbox]
                have hxx := fun o => cell_of_row6 o hbox
                have x1 := hxx 1; have x2 := hxx 2; have x3 := hxx 3; have x4 := hxx 4; have x5 := hxx 5
                simp only [List.getElem?_toArray] at x1 x2 x3 x4 x5
                have HBW2 := Lib.hid hbw
                have HI2 := Lib.hid hI
                clear hbw hI hbox hxx
                have B4 := Lib.hid (fun o => (Below.refl wc.heap.size wc).alloc (Nat.le_refl _) o)
                have p4 : ∀ (cs : Array Value) (t : TypeId), (wc.alloc (.cells cs t)).cell? ⟨T, 0, none⟩ = some (.slice vo ns.length vcap) := fun cs t => cell_next n0 ((Below.refl _ _).alloc (Nat.le_refl _) _)
                go_wp2_with (at_builtin; (refine wpList_append_lies _ rfl _ _ 22 rfl w.heap.size 41 i0 (.agg #[.int .i64 0, .int .i64 0, .int .i64 0, .int .i64 0, .int .i64 0, .int .i64 0]) 6 48 Try.underlying22 hi hz0 hz1 hz2 rfl (by decide) (.slice vo ns.length vcap) ns.length (flatN ns) rfl (own_next HBW2.out.ts.nodes (B4.out _)) ⟨wc.heap.size, 0, none⟩ 1 1 (cellsN n) rfl rfl (World.news_of_block (World.alloc_heap_new wc _)) (by simp [cellsN, Value.oneCell']) (by decide) (by unfold maxLen; omega) (by omega) (by simp; omega) _ rfl ?_); intro g5 cap5 w5 hown hg hat _; go_must (obtain ⟨y1, y2, y3⟩ := BW.node (n := n) HBW2.out (B4.out _) hown hg hat; have Y3 := Lib.hid y3; clear y3 hown hg hat))
                have B8 := Lib.hid (HBM.out.trans (Y3.out.2.below hs4 (fun j hj hu => by have := (HBW2.out.ltT hu).1; omega)))
                refine ⟨⟨k + 1, ns ++ [n], S', nv', sv', xs', _, _, r, _, by go_num, by omega, Y3.out.1, HI2.out, B8.out⟩, ?_⟩
                simp [intOf]; omega
              · as_aux_lemma =>
                  have CL := Lib.hid (len_any wc hbw.bd)
                  have HBW2 := Lib.hid hbw
                  have HI2 := Lib.hid hI
                  clear hbw hI
                  go_wp2_with (first
                    | (go_at_call 26; (with_reducible refine CL.out.mono ?_); rintro e w5 ⟨rfl, hw⟩; subst w5)
                    | fail)
                  refine ⟨⟨k + 1, ns, S, nv', sv', xs', _, _, r, _, by go_num, by omega, HBW2.out, HI2.out, HBM.out⟩, ?_⟩
                  simp [intOf]; omega
        · as_aux_lemma =>
            rw [farB_yes hn] at CF
            clear hn
            go_wp2_with (first
              | (go_at_call 6; (with_reducible refine (CF.out _ (BA.out _)).mono ?_); rintro e w2 ⟨rfl, hb2⟩; go_must (have B2 := Lib.hid (HB.out.trans (((BA.out (.cells #[.int .i64 a.kind, .int .i64 a.x, .int .i64 a.y, .int .i64 a.z, .slice lo a.l.length lcap, .slice no a.t.ns.length ncap, .slice so a.t.sets.length scap, .int .i64 a.t.root] 39)).trans (hb2.mono (by simp))).mono HB.out.size)); clear hb2))
              | (go_at_call 7; (with_reducible refine (CA.out _ B2.out).mono ?_); rintro e w9 ⟨rfl, hb9⟩; go_must (have B9 := Lib.hid (B2.out.trans (hb9.mono B2.out.size)); clear hb9))
              | fail)
            go_ret
            exact ⟨rfl, B9.out⟩
    · as_aux_lemma =>
        obtain rfl : k = l.length := by omega
        have t0 := hbw.ts.cell0
        have t1 := hbw.ts.cell1
        obtain ⟨vo, vcap, hvo⟩ : ∃ o c, vn = .slice o ns.length c := by obtain ⟨o, c, e, _, _⟩ := (nodes_of_row hbw.ts.nodes).shape; exact ⟨o, c, e⟩
        obtain ⟨so, scap, hso⟩ := hbw.ts.shapeS
        subst hvo hso
        have HBW := Lib.hid hbw
        have HI := Lib.hid hinv
        have HB := Lib.hid hb
        have hnl := hinv.nl
        have hsl := hinv.sl
        clear hbw hinv hb
        by_cases hq : 0 ≤ q ∧ q < ns.length
        · obtain ⟨z, rfl⟩ := Int.eq_ofNat_of_zero_le hq.1
          have hz : z < ns.length := by omega
          have hz' : (z : Int) < (ns.length : Int) := by omega
          have CT := Lib.hid (tree_any z wo HBW.out.bd hz (by omega) (by omega) (fun s hs => by have := HI.out.each s hs; omega))
          have CL := Lib.hid (fun W (hb : Below wo.heap.size wo W) => len_any W (HBW.out.bd.next hb))
          have HZ := Lib.hid (HI.out.check (by omega) hz)
          have HNW := Lib.hid (nodes_of_row HBW.out.ts.nodes)
          have HSW := Lib.hid HBW.out.ts.sets.at'
          unfold TreeOut at CT
          clear hq hz
          go_wp2_with (first
            | (go_at_call 25; (with_reducible refine CT.out.mono ?_); rintro e w2 ⟨vn2, vs2, ys2, rfl, hn2, hs2, hb2⟩; go_must (obtain ⟨no, ncap, rfl, _, _⟩ := (nodes_of_row hn2).shape; obtain ⟨mo, mcap, rfl, _, _⟩ := (hs2.at').shape; have HN2 := Lib.hid (nodes_of_row hn2); have HS2 := Lib.hid hs2.at'; have HB2 := Lib.hid (hb2.alloc hb2.size (.cells #[.slice no ns.length ncap, .slice mo S.length mcap, .int .i64 (z : Int)] 25)); have a0 := cell_next t0 HB2.out; have a1 := cell_next t1 HB2.out; clear hb2 hn2 hs2))
            | fail)
          obtain ⟨r0, r1, r2⟩ := TBox.new w2 (.slice no ns.length ncap) (.slice mo S.length mcap) z
          have HN3 := Lib.hid (HN2.out.next ((Below.refl w2.heap.size w2).alloc (Nat.le_refl _) (.cells #[.slice no ns.length ncap, .slice mo S.length mcap, .int .i64 (z : Int)] 25)))
          have HS3 := Lib.hid (HS2.out.next ((Below.refl w2.heap.size w2).alloc (Nat.le_refl _) (.cells #[.slice no ns.length ncap, .slice mo S.length mcap, .int .i64 (z : Int)] 25)))
          clear HN2 HS2 CT
          generalize w2.alloc (.cells #[.slice no ns.length ncap, .slice mo S.length mcap, .int .i64 (z : Int)] 25) = W2 at *
          generalize w2.heap.size = U at *
          have HD := Lib.hid (show Below wo.heap.size wo W2.drew from HB2.out.trans (below_drew _))
          have HE := Lib.hid (show Below W2.heap.size W2 W2.drew from below_drew _)
          go_region_held3 (fun W => W.cell? ⟨U, 0, none⟩ = some (.slice no ns.length ncap) ∧ W.cell? ⟨U, 1, none⟩ = some (.slice mo S.length mcap) ∧ W.cell? ⟨U, 2, none⟩ = some (.int .i64 (z : Int)) ∧ W.cell? ⟨T, 0, none⟩ = some (.slice vo ns.length vcap) ∧ W.cell? ⟨T, 1, none⟩ = some (.slice so S.length scap) ∧ Below wo.heap.size wo W ∧ Below W2.heap.size W2 W) (first | exact ⟨by assumption, by assumption, by assumption, by assumption, by assumption, by assumption, by assumption⟩ | (refine ⟨by go_keep, by go_keep, by go_keep, by go_keep, by go_keep, ?_, ?_⟩; exact HD.out; exact HE.out) | go_keep)
            (first
              | (go_at_call 26; (with_reducible refine (CL.out _ (by first | assumption | exact HD.out)).mono ?_); rintro e w3 ⟨rfl, hw⟩; subst w3)
              | fail)
          all_goals (
            have CK := Lib.hid (fun W (hb : Below W2.heap.size W2 W) => rcheck_any ⟨ns, S, z⟩ (.agg #[.slice no ns.length ncap, .slice mo S.length mcap, .int .i64 (z : Int)]) W ⟨_, _, rfl, HN3.out.next hb, HS3.out.next hb⟩ (fun k hk => by have := HI.out.each (nthL S k) (by rw [Rg.nthL_eq hk]; exact List.getElem_mem hk); show (nthL S k).length ≤ 40000; omega))
            rw [HZ.out] at CK
            go_wp2_with (first
              | (go_at_call 8; (with_reducible refine (CK.out _ HE.out).mono ?_); rintro e w4 ⟨rfl, hb4⟩; go_must (have q0 := cell_next (cell_next r0 HE.out) hb4; have q1 := cell_next (cell_next r1 HE.out) hb4; have q3 := cell_next (cell_next a0 HE.out) hb4; have q4 := cell_next (cell_next a1 HE.out) hb4; have HB5 := Lib.hid (HD.out.trans (hb4.mono HD.out.size)); have HB6 := Lib.hid (HE.out.trans (hb4.mono HE.out.size)); clear hb4))
              | fail)
            have HN4 := Lib.hid (HN3.out.next HB6.out)
            have HS4 := Lib.hid (HS3.out.next HB6.out)
            have HNX := Lib.hid (HNW.out.next HB5.out)
            have HSX := Lib.hid (HSW.out.next HB5.out)
            clear HN3 HS3 HNW HSW r0 r1 r2 a0 a1 t0 t1 CK CL HE HD HB2
            go_loopw [272] (fun i wr => ∃ m : Nat, i = .int .i64 m ∧ m ≤ ns.length ∧ Below w4.heap.size w4 wr) (fun i _ => ns.length - (intOf i).toNat)
            case atStart => exact ⟨0, rfl, Nat.zero_le _, Below.refl _ _⟩
            case round =>
              obtain ⟨m, rfl, hm, hbr⟩ := hrel
              obtain ⟨wp, rfl⟩ : ∃ x, x = wr := ⟨_, rfl⟩
              have p0 := cell_next q0 hbr
              have p1 := cell_next q1 hbr
              have p3 := cell_next q3 hbr
              have p4 := cell_next q4 hbr
              by_cases hmn : m < ns.length
              · obtain ⟨o1, c1, e1, _, f1⟩ := (HN4.out.next hbr).shape
                obtain ⟨g1, h1, n1⟩ := f1 m hmn
                obtain ⟨o2, c2, e2, _, f2⟩ := (HNX.out.next hbr).shape
                obtain ⟨g2, h2, n2⟩ := f2 m hmn
                simp only [Value.slice.injEq] at e1 e2
                obtain ⟨rfl, _, rfl⟩ := e1
                obtain ⟨rfl, _, rfl⟩ := e2
                subst h1 h2
                obtain ⟨x0, x1, x2, x3, x4, x5⟩ := n1
                obtain ⟨y0, y1, y2, y3, y4, y5⟩ := n2
                have HBR := Lib.hid hbr
                clear q0 q1 q3 q4 f1 f2 hbr
                go_wp2
                go_quiet (fail)
                go_wp2
                go_roundw
                case rel => exact ⟨m + 1, by go_num, by omega, HBR.out.trans (by first | exact below_drewQ _ _ | exact (below_drewQ _ _).mono HBR.out.size | exact Below.refl _ _ | exact (Below.refl _ _).mono HBR.out.size)⟩
                case measure => simp [intOf]; omega
              · obtain rfl : m = ns.length := by omega
                have HB7 := Lib.hid (HB5.out.trans (hbr.mono HB5.out.size))
                have HS5 := Lib.hid (HS4.out.next hbr)
                have HSY := Lib.hid (HSX.out.next hbr)
                clear q0 q1 q3 q4 hbr HN4 HNX HS4 HSX HB5 HB6
                go_wp2
                go_loopw [290] (fun i wr => ∃ m : Nat, i = .int .i64 m ∧ m ≤ S.length ∧ Below wp.heap.size wp wr) (fun i _ => S.length - (intOf i).toNat)
                case atStart => exact ⟨0, rfl, Nat.zero_le _, Below.refl _ _⟩
                case round =>
                  obtain ⟨m, rfl, hm, hbr⟩ := hrel
                  obtain ⟨wq, rfl⟩ : ∃ x, x = wr := ⟨_, rfl⟩
                  have q0 := cell_next p0 hbr
                  have q1 := cell_next p1 hbr
                  have q3 := cell_next p3 hbr
                  have q4 := cell_next p4 hbr
                  have HBR := Lib.hid hbr
                  by_cases hmn : m < S.length
                  · obtain ⟨o1, c1, e1, _, f1⟩ := (HS5.out.next hbr).shape
                    obtain ⟨g1, x1, h1, n1, k1⟩ := f1 m hmn
                    obtain ⟨o2, c2, e2, _, f2⟩ := (HSY.out.next hbr).shape
                    obtain ⟨g2, x2, h2, n2, k2⟩ := f2 m hmn
                    simp only [Value.slice.injEq] at e1 e2
                    obtain ⟨rfl, _, rfl⟩ := e1
                    obtain ⟨rfl, _, rfl⟩ := e2
                    subst h1 h2
                    have CS := Lib.hid (fun W (hb : Below wq.heap.size wq W) => rsame_any (nthL S m) (nthL S m) x1 x2 W (k1.next hb) (k2.next hb))
                    rw [decide_eq_true rfl] at CS
                    obtain ⟨b1, d1, rfl, _, _⟩ := k1.shape
                    obtain ⟨b2, d2, rfl, _, _⟩ := k2.shape
                    clear p0 p1 p3 p4 f1 f2 hbr k1 k2
                    go_wp2
                    have HD := Lib.hid (show Below wq.heap.size wq wq.drew from below_drew _)
                    go_region_held3 (fun W => W.cell? ⟨U, 1, none⟩ = some (.slice (some g1) S.length mcap) ∧ W.cell? ⟨T, 1, none⟩ = some (.slice (some g2) S.length scap) ∧ W.cell? (g1.add m) = some (.slice b1 (nthL S m).length d1) ∧ W.cell? (g2.add m) = some (.slice b2 (nthL S m).length d2) ∧ Below wq.heap.size wq W) (first | exact ⟨by assumption, by assumption, by assumption, by assumption, by assumption⟩ | (refine ⟨by go_keep, by go_keep, by go_keep, by go_keep, ?_⟩; exact HD.out) | go_keep)
                      (first
                        | (go_at_call 27; (with_reducible refine (CS.out _ (by first | assumption | exact HD.out)).mono ?_); rintro e w5 ⟨rfl, hb5⟩; go_must (have z1 := cell_next (a := ⟨U, 1, none⟩) (v := .slice (some g1) S.length mcap) (by assumption) hb5; have z2 := cell_next (a := ⟨T, 1, none⟩) (v := .slice (some g2) S.length scap) (by assumption) hb5; have z3 := cell_next (a := g1.add m) (v := .slice b1 (nthL S m).length d1) (by assumption) hb5; have z4 := cell_next (a := g2.add m) (v := .slice b2 (nthL S m).length d2) (by assumption) hb5; have HF := Lib.hid ((below_drew wq).trans hb5); clear hb5))
                        | fail)
                    all_goals (
                      go_wp2
                      go_roundw
                      case rel => exact ⟨m + 1, by go_num, by omega, HBR.out.trans (HF.out.mono HBR.out.size)⟩
                      case measure => simp [intOf]; omega)
                  · obtain rfl : m = S.length := by omega
                    have HB8 := Lib.hid (HB7.out.trans (hbr.mono HB7.out.size))
                    have HB9 := Lib.hid (HB.out.trans (HB8.out.mono HB.out.size))
                    clear p0 p1 p3 p4 hbr
                    go_wp2_with (first
                      | (go_at_call 7; (with_reducible refine (CA.out _ HB9.out).mono ?_); rintro e w9 ⟨rfl, hb9⟩; go_must (have B9 := Lib.hid (HB9.out.trans (hb9.mono HB9.out.size)); clear hb9))
                      | fail)
                    go_ret
                    exact ⟨rfl, B9.out⟩)
        · have CT := Lib.hid (tree_no q wo HBW.out.bd hq)
          have CL := Lib.hid (fun W (hb : Below wo.heap.size wo W) => len_any W (HBW.out.bd.next hb))
          unfold NoTree at CT
          by_cases hq0 : q < 0
          · clear hq
            go_wp2_with (first
              | (go_at_call 25; (with_reducible refine CT.out.mono ?_); rintro e w2 ⟨rfl, hb2⟩; go_must (have HB2 := Lib.hid (hb2.alloc hb2.size (.cells #[.slice none 0 0, .slice none 0 0, .int .i64 0] 25)); have a0 := cell_next t0 HB2.out; have a1 := cell_next t1 HB2.out; clear hb2))
              | fail)
            obtain ⟨r0, r1, r2⟩ := TBox.new w2 (.slice none 0 0) (.slice none 0 0) 0
            generalize w2.alloc (.cells #[.slice none 0 0, .slice none 0 0, .int .i64 0] 25) = W2 at *
            generalize w2.heap.size = U at *
            have HD := Lib.hid (show Below wo.heap.size wo W2.drew from HB2.out.trans (below_drew _))
            go_region_held3 (fun W => W.cell? ⟨U, 0, none⟩ = some (.slice none 0 0) ∧ W.cell? ⟨T, 0, none⟩ = some (.slice vo ns.length vcap) ∧ Below wo.heap.size wo W) (first | exact ⟨by assumption, by assumption, by assumption⟩ | (refine ⟨by go_keep, by go_keep, ?_⟩; exact HD.out) | go_keep)
              (first
                | (go_at_call 26; (with_reducible refine (CL.out _ (by first | assumption | exact HD.out)).mono ?_); rintro e w3 ⟨rfl, hw⟩; subst w3)
                | fail)
            all_goals (
              have HB3 := Lib.hid (HB.out.trans (Below.mono (show Below wo.heap.size wo _ by assumption) HB.out.size))
              go_wp2_with (first
                | (go_at_call 7; (with_reducible refine (CA.out _ HB3.out).mono ?_); rintro e w9 ⟨rfl, hb9⟩; go_must (have B9 := Lib.hid (HB3.out.trans (hb9.mono HB3.out.size)); clear hb9))
                | fail)
              go_ret
              exact ⟨rfl, B9.out⟩)
          · have hq1 : ¬ q < ns.length := fun h => hq ⟨by omega, h⟩
            clear hq
            go_wp2_with (first
              | (go_at_call 25; (with_reducible refine CT.out.mono ?_); rintro e w2 ⟨rfl, hb2⟩; go_must (have HB2 := Lib.hid (hb2.alloc hb2.size (.cells #[.slice none 0 0, .slice none 0 0, .int .i64 0] 25)); have a0 := cell_next t0 HB2.out; have a1 := cell_next t1 HB2.out; clear hb2))
              | fail)
            obtain ⟨r0, r1, r2⟩ := TBox.new w2 (.slice none 0 0) (.slice none 0 0) 0
            generalize w2.alloc (.cells #[.slice none 0 0, .slice none 0 0, .int .i64 0] 25) = W2 at *
            generalize w2.heap.size = U at *
            have HD := Lib.hid (show Below wo.heap.size wo W2.drew from HB2.out.trans (below_drew _))
            go_region_held3 (fun W => W.cell? ⟨U, 0, none⟩ = some (.slice none 0 0) ∧ W.cell? ⟨T, 0, none⟩ = some (.slice vo ns.length vcap) ∧ Below wo.heap.size wo W) (first | exact ⟨by assumption, by assumption, by assumption⟩ | (refine ⟨by go_keep, by go_keep, ?_⟩; exact HD.out) | go_keep)
              (first
                | (go_at_call 26; (with_reducible refine (CL.out _ (by first | assumption | exact HD.out)).mono ?_); rintro e w3 ⟨rfl, hw⟩; subst w3)
                | fail)
            all_goals (
              have HB3 := Lib.hid (HB.out.trans (Below.mono (show Below wo.heap.size wo _ by assumption) HB.out.size))
              go_wp2_with (first
                | (go_at_call 7; (with_reducible refine (CA.out _ HB3.out).mono ?_); rintro e w9 ⟨rfl, hb9⟩; go_must (have B9 := Lib.hid (HB3.out.trans (hb9.mono HB3.out.size)); clear hb9))
                | fail)
              go_ret
              exact ⟨rfl, B9.out⟩)

theorem walkBuilds (l : List Actn) (v : Value) (q : Int) (w : World) (hv : ActsAt w v l) (_ : -9223372036854775808 ≤ q) (_ : q ≤ 9223372036854775807) : Calls Try.prog 4 #[v, .int .i64 q] w fun e w' => e = .returned (.bool true) ∧ Below w.heap.size w w' := by
  by_cases h : l.length ≤ 30
  · exact builds_near l q v w hv h
  · exact builds_many l q v w hv (by omega)

end Go.Proofs.Ytdgpanofehfjdaa.Ar

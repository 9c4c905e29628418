/- others: of each number that is in a pair, the other one. -/
import Derived.Test.YtdkiahelnomjpaaDoorFdTurn
import Derived.Test.YtdkiahelnomjpaaDoorRgSet
import Derived.Deep.AppendLies
namespace Go.Proofs.YtdkiahelnomjpaaDoor.Fd
open Go.RowKit Go.Shelf Go.Proofs.YtdkiahelnomjpaaDoor.Rg

def rwCells (r : Rw) : List Value := [.int .i64 r.1, .int .i64 r.2.1, .int .i64 r.2.2]
def tabCells : List Value := tab.flatMap rwCells
/-- the table as the program's text lays it -/
def Tab (w : World) : Prop := w.rangeAt 0 0 tabCells
theorem Tab.next {w w' : World} (h : Tab w) (hb : Below w.heap.size w w') : Tab w' := fun j v hj => cell_next (h j v hj) hb
/-- the k-th row -/
def nthW (k : Nat) : Rw := tab.getD k (0, 0, 0)
theorem index_tab (k : Nat) (hk : k < 7) (w : World) : (Instr.index 40 (.agg tabCells.toArray) (.int .i64 (k : Nat))).run Tryd.prog w = .ok (.agg #[.int .i64 (nthW k).1, .int .i64 (nthW k).2.1, .int .i64 (nthW k).2.2]) w := by
  obtain rfl | rfl | rfl | rfl | rfl | rfl | rfl : k = 0 ∨ k = 1 ∨ k = 2 ∨ k = 3 ∨ k = 4 ∨ k = 5 ∨ k = 6 := by omega
  all_goals kernel_rfl
theorem nthW_ok {k : Nat} (hk : k < 7) : RwOk (nthW k) := by
  have h7 : k < tab.length := hk
  unfold nthW
  rw [List.getD_eq_getElem?_getD, List.getElem?_eq_getElem h7]
  exact tab_ok _ (List.getElem_mem h7)

/-- 'append' of ranges that may be none, at a step of a region that draws -/
theorem step_app {W : World} {ops : Array Oper} {o : Oper} {a : Act} {K : Act → World → Prop} {Q : Exit → Act → World → Prop} {E : Prop} (hgd : o.guard = none) (s x : Operand)
    (ho : o.op = .call { callee := .builtin .append, args := #[s, x], argTypes := #[27, 27] }) (B : Nat) (v : Value) (n : Nat) (xs : List Value) (hs : a.eval s = v) (hown : W.ownsRow B 33 2 v n xs)
    (src : Value) (l : List R) (hx : a.eval x = src) (hsrc : RngsAt W src l) (hM : n + l.length ≤ 1000000) (hB : B ≤ W.heap.size)
    (h : ∀ v' w', w'.ownsRow B 33 2 v' (n + l.length) (xs ++ flatR l) → W.grownBy w' v.ownBlock → (v'.ownBlock = v.ownBlock ∨ v'.ownBlock = some W.heap.size) → K (a.put o.dst v') w') : if Region.wanted o (yielded ops a.tmps) = true then Oper.wp Tryd.prog o a W K Q else E := by
  have hw : Region.wanted o (yielded ops a.tmps) = true := by simp [Region.wanted, hgd]
  rw [if_pos hw]
  obtain ⟨i0, hi, hz0, hz1, hz2⟩ := info_parts infoR
  rcases hsrc with ⟨rfl, rfl⟩ | ⟨ad, cap, rfl, _, hc⟩
  · have hrun := run_append_owned_none (P := Tryd.prog) (w := W) B 27 o.type 33 i0 2 Tryd.underlying27 hi v n xs hown
    unfold Oper.wp
    simp [execOp, ho, resolve, invoke, builtin, hs, hx, hrun, Result.andThen]
    exact h v W (by simpa [flatR] using hown) ⟨rfl, rfl, rfl, Nat.le_refl _, fun _ _ _ => rfl⟩ (.inl rfl)
  · have hnews : ∀ j u, (flatR l)[j]? = some u → W.cell? (ad.add j) = some u := fun j u hj => by
      obtain ⟨i, hil, ⟨rfl, rfl⟩ | ⟨rfl, rfl⟩⟩ := flatR_cells hj
      · exact (hc i hil).1
      · rw [add_pair]; exact (hc i hil).2
    obtain ⟨v', w', hrun, h1, h2, _, h4⟩ := run_append_own_at (P := Tryd.prog) W B 27 o.type 33 i0 (.agg #[.int .i64 0, .int .i64 0]) 2 16 Tryd.underlying27 hi hz0 hz1 hz2 rfl (by decide) v n xs hown ad l.length cap (flatR l) (flatR_len l) hnews flatR_one (by unfold maxLen; omega) (by omega) hB
    unfold Oper.wp
    simp [execOp, ho, resolve, invoke, builtin, hs, hx, hrun, Result.andThen]
    exact h v' w' h1 h2 h4

/-- what the first k rows tell -/
def oth (l : List R) (k : Nat) : List R := (tab.take k).flatMap (rowL l)
theorem oth_succ (l : List R) {k : Nat} (hk : k < 7) : oth l (k + 1) = oth l k ++ rowL l (nthW k) := by
  have h7 : k < tab.length := hk
  unfold oth nthW
  rw [List.take_add_one, List.flatMap_append, List.getElem?_eq_getElem h7, List.getD_eq_getElem?_getD, List.getElem?_eq_getElem h7]
  simp
theorem oth_len (l : List R) {k : Nat} (hk : k ≤ 7) : (oth l k).length ≤ 14 * l.length := by
  have := rows_len l (tab.take k)
  have hl : (tab.take k).length ≤ 7 := by rw [List.length_take]; omega
  have h2 : (tab.take k).length * (2 * l.length) ≤ 7 * (2 * l.length) := Nat.mul_le_mul_right _ hl
  unfold oth; omega
theorem oth_all (l : List R) : oth l 7 = othersL l := rfl

def OthRel (l : List R) (w : World) (s i : Value) (wr : World) : Prop :=
  ∃ k : Nat, i = .int .i64 k ∧ k ≤ 7 ∧ wr.ownsRow w.heap.size 33 2 s (oth l k).length (flatR (oth l k)) ∧ Below w.heap.size w wr
/-- a row of the call's own that has been appended to, in a later world -/
theorem app_next {W w4 : World} {B n : Nat} {v v4 : Value} {xs : List Value} {A L : List R} (hown : w4.ownsRow B 33 2 v4 (n + L.length) (xs ++ flatR L)) (hn : n = A.length) (hx : xs = flatR A) (hg : W.grownBy w4 v.ownBlock) (hrow : W.ownsRow B 33 2 v n xs) {w1 : World} (hb : Below B w1 W) (hB : B ≤ W.heap.size) :
    w4.ownsRow B 33 2 v4 (A ++ L).length (flatR (A ++ L)) ∧ Below B w1 w4 := by
  subst hn hx
  exact ⟨by rw [flatR_append, List.length_append]; exact hown, hb.grown hg hB fun k hk => (hrow.lt k hk).1⟩
theorem far_cell {W w4 : World} {N i : Nat} {v u : Value} (hg : W.grownBy w4 v.ownBlock) (hN : N < W.heap.size) (hne : v.ownBlock ≠ some N) (hc : W.cell? ⟨N, i, none⟩ = some u) : w4.cell? ⟨N, i, none⟩ = some u :=
  (hg.cell_far ⟨N, i, none⟩ hN (Ne.symm hne)).trans hc
theorem own_ne {w : World} {B n N : Nat} {v : Value} {xs : List Value} (h : w.ownsRow B 33 2 v n xs) (hN : w.heap.size ≤ N) : v.ownBlock ≠ some N := fun e => by
  have := (h.lt N e).2; omega

theorem own_after {v v4 : Value} {N M : Nat} (h : v4.ownBlock = v.ownBlock ∨ v4.ownBlock = some M) (hne : v.ownBlock ≠ some N) (hN : N < M) : v4.ownBlock ≠ some N := by
  rcases h with h | h <;> rw [h]
  · exact hne
  · simp; omega

set_option maxRecDepth 100000 in
set_option maxHeartbeats 8000000 in
theorem others_any (l : List R) (v : Value) (w : World) (hv : RngsAt w v l) (hT : Tab w) (hM : l.length ≤ 10000) :
    Calls Tryd.prog 17 #[v] w fun e w' => ∃ v', e = .returned v' ∧ w'.ownsRow w.heap.size 33 2 v' (othersL l).length (flatR (othersL l)) ∧ Below w.heap.size w w' := by
  have HV := Lib.hid hv
  have HT := Lib.hid hT
  clear hv hT
  go_enter Tryd.func17, Tryd.ntmps17
  go_wp2_with (refine wpList_load_mid rfl 40 (.global 0) rfl 0 0 rfl tabCells _ HT.out Tryd.underlying40 rfl (by kernel_rfl) ?_)
  go_loopw [3, 7] (fun s i wr => OthRel l w s i wr) (fun _ i _ => 7 - (intOf i).toNat)
  case atStart => exact ⟨0, rfl, Nat.zero_le _, World.ownsRow_nil _ _ _ _, Below.refl _ _⟩
  case round =>
    obtain ⟨k, rfl, hk, hrow, hbw⟩ := hrel
    have hsz := hbw.size
    by_cases hlt : k < 7
    · have IX := index_tab k hlt
      have hok := nthW_ok hlt
      have hlen := oth_len l (k := k + 1) hlt
      rw [oth_succ l hlt, rowL, List.length_append, List.length_append] at hlen
      obtain ⟨⟨f, q, a⟩, hr⟩ : ∃ r, nthW k = r := ⟨_, rfl⟩
      have hr2 := oth_succ l hlt
      rw [hr] at IX hok hlen hr2
      simp only [rowL, gHalf, sHalf] at IX hlen hr2
      obtain ⟨o1, o2, o3, o4, o5⟩ := hok
      simp only at o1 o2 o3 o4 o5
      obtain ⟨L1, hL1⟩ : ∃ L, turnL l (f, q) a = L := ⟨_, rfl⟩
      obtain ⟨L2, hL2⟩ : ∃ L, turnL l (f + a, q + a) (-a) = L := ⟨_, rfl⟩
      have cg := Lib.hid (fun W => greats_m f q a W)
      have cs := Lib.hid (fun W => smalls_m f q a (by omega) (by omega) (by omega) (by omega) W)
      have ct := Lib.hid (fun W (h : Below w.heap.size w W) => turned_any 26 (.agg #[.int .i64 f, .int .i64 q, .int .i64 a]) a f q l v W (HV.out.next h) (enters_of Tryd.func26 (by kernel_rfl) rfl) (fun c W h1 h2 => (small_m f q a c (by omega) (by omega) W).mono fun e w' h => ⟨h.1, h.2 ▸ (Below.refl _ _).alloc (Nat.le_refl _) _⟩) (by omega))
      have cu := Lib.hid (fun W (h : Below w.heap.size w W) => turned_any 28 (.agg #[.int .i64 f, .int .i64 q, .int .i64 a]) (-a) (f + a) (q + a) l v W (HV.out.next h) (enters_of Tryd.func28 (by kernel_rfl) rfl) (fun c W h1 h2 => (great_m f q a c (by omega) (by omega) W).mono fun e w' h => ⟨by rw [h.1, Int.sub_eq_add_neg], h.2 ▸ (Below.refl _ _).alloc (Nat.le_refl _) _⟩) (by omega))
      rw [hL1] at ct hlen hr2
      rw [hL2] at cu hlen hr2
      have HR2 := Lib.hid hr2
      have HROW := Lib.hid hrow
      have HBW := Lib.hid hbw
      have HLEN := Lib.hid hlen
      have NE := Lib.hid (own_ne hrow (Nat.le_refl wr.heap.size))
      have HO := Lib.hid (And.intro o1 (And.intro o2 (And.intro o3 o4)))
      clear hr hr2 hrow hbw hlen hL1 hL2 o1 o2 o3 o4 o5
      go_wp2
      go_region_held3 (fun W => W.cell? ⟨wr.heap.size, 0, none⟩ = some (.int .i64 f) ∧ W.cell? ⟨wr.heap.size, 1, none⟩ = some (.int .i64 q) ∧ W.cell? ⟨wr.heap.size, 2, none⟩ = some (.int .i64 a)) (first | go_keep | exact ⟨by assumption, by assumption, by assumption⟩)
        (first
          | (go_at_call 25; (with_reducible refine (cg.out _).mono ?_); rintro e w2 ⟨rfl, hb⟩; go_must (have p0 := cell_next (a := ⟨wr.heap.size, 0, none⟩) (v := .int .i64 f) (by simp) hb; have p1 := cell_next (a := ⟨wr.heap.size, 1, none⟩) (v := .int .i64 q) (by simp) hb; have p2 := cell_next (a := ⟨wr.heap.size, 2, none⟩) (v := .int .i64 a) (by simp) hb; have B2 := Lib.hid (show Below wr.heap.size wr w2 from (below_ad wr _ 1).trans (hb.mono (below_ad wr _ 1).size)); clear hb))
          | (go_at_call 24; (with_reducible refine (ct.out w2 (HBW.out.trans (B2.out.mono hsz))).mono ?_); rintro e w3 ⟨v3, rfl, hown, hb⟩; go_must (have p3 := cell_next p0 hb; have p4 := cell_next p1 hb; have p5 := cell_next p2 hb; have B3 := Lib.hid (B2.out.trans (hb.mono B2.out.size)); have R3 := Lib.hid (rngs_of_row hown); clear hb hown))
          | ((refine step_app rfl (.tmp 10) (.tmp 16) (by rfl) w.heap.size u3 (oth l k).length (flatR (oth l k)) (by rfl) (rowR_next HROW.out B3.out) v3 L1 (by rfl) R3.out (by have := HLEN.out; omega) (by have := B3.out.size; omega) ?_); intro v4 w4 hown hg hat; go_must (have hN := cell_lt p3; have p6 := far_cell hg hN NE.out p3; have p7 := far_cell hg hN NE.out p4; have p8 := far_cell hg hN NE.out p5; have N4 := Lib.hid (app_next (A := oth l k) (L := L1) hown rfl rfl hg (rowR_next HROW.out B3.out) (HBW.out.trans (B3.out.mono hsz)) (by have := B3.out.size; omega)); have NE4 := Lib.hid (own_after hat NE.out hN); clear hown hg hat hN))
          | fail)
      all_goals (
        go_wp2
        go_region_held3 (fun W => W.cell? ⟨wr.heap.size, 0, none⟩ = some (.int .i64 f) ∧ W.cell? ⟨wr.heap.size, 1, none⟩ = some (.int .i64 q) ∧ W.cell? ⟨wr.heap.size, 2, none⟩ = some (.int .i64 a)) (first | go_keep | exact ⟨by assumption, by assumption, by assumption⟩)
          (first
            | (go_at_call 27; (with_reducible refine (cs.out _).mono ?_); rintro e w5 ⟨rfl, hb⟩; go_must (have hb4 := (below_drewN w4 1).trans hb; have s0 := cell_next p6 hb4; have s1 := cell_next p7 hb4; have s2 := cell_next p8 hb4; have B5 := Lib.hid hb4; clear hb hb4))
            | (go_at_call 24; (with_reducible refine (cu.out w5 (N4.out.2.trans (B5.out.mono N4.out.2.size))).mono ?_); rintro e w6 ⟨v6, rfl, hown, hb⟩; go_must (have s3 := cell_next s0 hb; have s4 := cell_next s1 hb; have s5 := cell_next s2 hb; have B6 := Lib.hid (B5.out.trans (hb.mono B5.out.size)); have R6 := Lib.hid (rngs_of_row hown); clear hb hown))
            | ((refine step_app rfl (.tmp 18) (.tmp 24) (by rfl) w.heap.size v4 (oth l k ++ L1).length (flatR (oth l k ++ L1)) (by rfl) (rowR_next N4.out.1 B6.out) v6 L2 (by rfl) R6.out (by have := HLEN.out; rw [List.length_append]; omega) (by have := B6.out.size; have := N4.out.2.size; omega) ?_); intro v7 w7 hown hg hat; go_must (have hN := cell_lt s3; have s6 := far_cell hg hN NE4.out s3; have s7 := far_cell hg hN NE4.out s4; have s8 := far_cell hg hN NE4.out s5; have N7 := Lib.hid (app_next (A := oth l k ++ L1) (L := L2) hown rfl rfl hg (rowR_next N4.out.1 B6.out) (N4.out.2.trans (B6.out.mono N4.out.2.size)) (by have := B6.out.size; have := N4.out.2.size; omega)); clear hown hg hat hN))
            | fail)
        all_goals (
          go_wp2
          go_roundw
          case rel => exact ⟨k + 1, by go_num, hlt, by rw [HR2.out, ← List.append_assoc]; exact N7.out.1, N7.out.2⟩
          case measure => simp [intOf]; omega))
    · obtain rfl : k = 7 := by omega
      rw [oth_all] at hrow
      have HROW := Lib.hid hrow
      have HBW := Lib.hid hbw
      clear hrow hbw
      go_wp2
      go_ret
      exact ⟨_, rfl, HROW.out, HBW.out⟩

end Go.Proofs.YtdkiahelnomjpaaDoor.Fd

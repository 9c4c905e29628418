/- Run. -/
import Derived.Test.YtfbphiamelongaaDoorClTop2
namespace Go.Proofs.YtfbphiamelongaaDoor.Cl
open Go Go.RowKit Go.Shelf
open Go.Proofs.YtfbphiamelongaaDoor.Bt (SetAt setV memL hasI iV own_slice grown_trans grown_cell grown_row two_stores Tab nums mem_nums nums_rise nums_nat fromL cntX allX_len)

/-- a text's byte -/
def byteI (s : ByteArray) (k : Nat) : Int := ((s.data.toList.getD k 0).toNat : Int)
theorem byteI_at {s : ByteArray} {k : Nat} (h : k < s.size) : (s[k].toNat : Int) = byteI s k := by
  have h' : k < s.data.size := h
  have e : s.data.toList.getD k 0 = s[k] := by
    rw [List.getD_eq_getElem?_getD, Array.getElem?_toList, Array.getElem?_eq_getElem h']
    rfl
  rw [byteI, e]
theorem byteI_bound (s : ByteArray) (k : Nat) : 0 ≤ byteI s k ∧ byteI s k ≤ 255 := by
  have := (s.data.toList.getD k 0).toNat_lt
  unfold byteI
  omega
theorem cnt_pos {L : List Nat} : 0 < cntX (fromL 0 L) ↔ ∃ m, memL L m = true := by
  rw [← allX_len, show Bt.allX (fromL 0 L) = nums L from rfl]
  constructor
  · intro h
    obtain ⟨x, hx⟩ := List.exists_mem_of_length_pos h
    have := (mem_nums L x).1 hx
    simp only [hasI, Bool.and_eq_true] at this
    exact ⟨_, this.2⟩
  · rintro ⟨m, hm⟩
    exact List.length_pos_of_mem ((nums_nat L m).2 hm)

set_option maxRecDepth 100000 in
set_option maxHeartbeats 2000000 in
theorem Run_no (a : Int) (l : List St) (v : Value) (s : ByteArray) (w : World) (h : NfaAt w v a l) (hf : faultE a l ≠ 0) :
    Calls Tryd.prog 25 #[v, .string s] w fun e w' => e = .returned (.tuple #[.int .i64 (-1), .int .i64 (faultE a l)]) ∧ Below w.heap.size w w' := by
  have FT := Lib.hid (fun W (hW : Below w.heap.size w W) => fault_any a l v W (h.next hW))
  obtain ⟨sv, rfl, hs⟩ := h
  obtain ⟨ao, cap, rfl, _, _⟩ := hs.shape
  have d0 : (faultE a l != 0) = true := by simpa using hf
  have B1 := Lib.hid ((Below.refl w.heap.size w).alloc (Nat.le_refl _) (.cells #[.int .i64 a, .slice ao l.length cap] 24))
  clear hs hf
  generalize faultE a l = F at *
  unfold nfaV at *
  go_enter Tryd.func25, Tryd.ntmps25
  go_wp2_with (go_at_call 30; (with_reducible refine (FT.out _ B1.out).mono ?_); rintro e w2 ⟨rfl, h1⟩)
  go_ret2
  exact ⟨rfl, B1.out.trans (h1.mono B1.out.size)⟩

set_option maxRecDepth 100000 in
set_option maxHeartbeats 4000000 in
theorem Run_yes (a : Int) (l : List St) (v : Value) (s : ByteArray) (hs0 : s.size ≤ 1000000000) (w : World) (hg : TagsOk l) (h : NfaAt w v a l) (hT : Tab w) (hf : faultE a l = 0) :
    Calls Tryd.prog 25 #[v, .string s] w fun e w' => ∃ t : Int, e = .returned (.tuple #[.int .i64 t, .int .i64 0]) ∧ BestIs l (runP a l (byteI s) s.size) t ∧ Below w.heap.size w w' := by
  have FT := Lib.hid (fun W (hW : Below w.heap.size w W) => fault_any a l v W (h.next hW))
  have hn := (fault_zero.1 hf).1
  obtain ⟨sv, rfl, hs⟩ := h
  have ST := Lib.hid (fun W (hW : Below w.heap.size w W) => start_any a l sv hn W (hs.next hW))
  have SP := Lib.hid (fun W (hW : Below w.heap.size w W) B1 v1 L1 (hs1 : SetAt W B1 l.length v1 L1) c (hc : 0 ≤ c ∧ c ≤ 255) => step_any a l sv hn B1 l.length v1 L1 c hc.1 hc.2 W (hT.next hW) (hs.next hW) hs1)
  have CN := Lib.hid (fun W B1 v1 L1 (hs1 : SetAt W B1 l.length v1 L1) => Bt.count_any B1 l.length v1 L1 W hs1)
  have BE := Lib.hid (fun W (hW : Below w.heap.size w W) B1 n1 v1 L1 (hs1 : SetAt W B1 n1 v1 L1) => best_any a l sv hg B1 n1 v1 L1 W (hT.next hW) (hs.next hW) hs1)
  obtain ⟨ao, cap, rfl, _, _⟩ := hs.shape
  have B1 := Lib.hid ((Below.refl w.heap.size w).alloc (Nat.le_refl _) (.cells #[.int .i64 a, .slice ao l.length cap] 24))
  have X1 := Lib.hid (at_new w (.cells #[.int .i64 a, .slice ao l.length cap] 24))
  clear hs hT
  rw [hf] at FT
  clear hf
  unfold nfaV setV at *
  go_enter Tryd.func25, Tryd.ntmps25
  go_wp2_with (first
    | (go_at_call 30; (with_reducible refine (FT.out _ B1.out).mono ?_); rintro e w2 ⟨rfl, h1⟩; go_must (have B2 := Lib.hid (B1.out.trans (h1.mono B1.out.size)); have Y1 := Lib.hid (at_next X1.out h1); have g0 := at_cell Y1.out 0; have g1 := at_cell Y1.out 1; clear h1))
    | (go_at_call 36; (with_reducible refine (ST.out w2 B2.out).mono ?_); rintro e w3 ⟨v, rfl, L, hs, hL, hb⟩; obtain ⟨vo, vn, vc, rfl⟩ := hs.val; (try unfold setV); go_must (have B3 := Lib.hid (B2.out.trans (hb.mono B2.out.size)); have Z1 := Lib.hid (at_next Y1.out hb); have S3 := Lib.hid (And.intro hs hL); have hsz3 := hb.size; clear hs hL hb g0 g1))
    | fail)
  have x3 := at_new w3 (.cells #[.int .i64 (l.length : Nat), .slice vo vn vc] 30)
  have B4 := Lib.hid (B3.out.alloc B3.out.size (.cells #[.int .i64 (l.length : Nat), .slice vo vn vc] 30))
  have R0 := Lib.hid (And.intro x3 (And.intro (at_next Z1.out ((Below.refl _ w3).alloc (Nat.le_refl _) (.cells #[.int .i64 (l.length : Nat), .slice vo vn vc] 30))) ((S3.out.1.base B2.out.size).next ((Below.refl _ w3).alloc (Nat.le_refl _) (.cells #[.int .i64 (l.length : Nat), .slice vo vn vc] 30)))))
  have hw3 := B3.out.size
  have hl0 : w.heap.size < w2.heap.size := cell_lt (at_cell Y1.out 0)
  have hw30 : w2.heap.size ≤ w3.heap.size := hsz3
  clear x3
  generalize w3.alloc (.cells #[.int .i64 (l.length : Nat), .slice vo vn vc] 30) = W4 at *
  go_loopw [8] (fun i wr => ∃ (k : Nat) (v : Value) (L : List Nat), i = .int .i64 k ∧ k ≤ s.size ∧ wr.heap[w3.heap.size]? = some (.cells #[.int .i64 (l.length : Nat), v] 30 (0, 0)) ∧ wr.heap[w.heap.size]? = some (.cells #[.int .i64 a, .slice ao l.length cap] 24 (0, 0)) ∧ SetAt wr w.heap.size l.length v L ∧ (∀ m, memL L m = true ↔ runP a l (byteI s) k m) ∧ Below w.heap.size w wr) (fun i _ => s.size - (intOf i).toNat)
  case atStart => exact ⟨0, _, L, rfl, by omega, R0.out.1, R0.out.2.1, R0.out.2.2, S3.out.2, B4.out⟩
  case round =>
    obtain ⟨k, v, L, rfl, hk, x7, x0, hs, hL, hb⟩ := hrel
    have g0 := at_cell x0 0
    have g1 := at_cell x0 1
    have g2 := at_cell x7 0
    have g3 := at_cell x7 1
    have R := Lib.hid (And.intro x7 (And.intro x0 (And.intro hs (And.intro hL hb))))
    obtain ⟨vo, vn, vc, rfl⟩ := hs.val
    clear x7 x0 hs hL hb
    by_cases hlt : k < s.size
    · have C1 := Lib.hid (CN.out wr w.heap.size _ L R.out.2.2.1)
      have CP := Lib.hid (cnt_pos (L := L))
      generalize cntX (fromL 0 L) = q at *
      by_cases hq : 0 < q
      · go_wp2_with (go_at_call 13; (with_reducible refine C1.out.mono ?_); rintro e w5 ⟨rfl, h5⟩; go_must (have f0 := cell_next g0 h5; have f1 := cell_next g1 h5; have f2 := cell_next g2 h5; have f3 := cell_next g3 h5; have z3 := at_froz (at_next R.out.1 h5) 0; have z4 := at_froz (at_next R.out.1 h5) 1; have B5 := Lib.hid (And.intro h5 (R.out.2.2.2.2.trans (h5.mono R.out.2.2.2.2.size))); clear h5 g0 g1 g2 g3))
        have SC := Lib.hid (SP.out w5.drew B5.out.2.drew w.heap.size _ L (R.out.2.2.1.next (B5.out.1.drew)) (s[k].toNat : Int) (by rw [byteI_at hlt]; exact byteI_bound s k))
        have PR : Hid (∀ L2, (∀ m, memL L2 m = true ↔ stepP l (fun i => memL L i = true) (s[k].toNat : Int) m) → ∀ m, memL L2 m = true ↔ runP a l (byteI s) (k + 1) m) := Lib.hid (fun L2 h2 m => by
          rw [h2, byteI_at hlt]
          exact stepP_congr (fun j _ => R.out.2.2.2.1 j) m)
        have hl1 := cell_lt f0
        have hl2 := cell_lt f2
        (try unfold setV at SC)
        clear hq
        go_region_with (go_at_call 35; (refine SC.out.mono ?_); rintro e w6 ⟨v6, rfl, L6, hs6, hL6, hb6⟩; obtain ⟨vo6, vn6, vc6, rfl⟩ := hs6.val; (try unfold setV); go_must (have h56 : Below w5.heap.size w5 w6 := Below.trans ((Below.refl _ w5).drew) hb6; have x6 := at_next (at_next R.out.1 B5.out.1) h56; have d0 := at_cell x6 0; have d1 := at_cell x6 1; have q0 := at_froz x6 0; have q1 := at_froz x6 1; have hl6 := cell_lt d0; have D := Lib.hid (And.intro hs6 (And.intro (PR.out L6 hL6) (And.intro h56 (And.intro x6 (two_stores (x := .int .i64 (l.length : Nat)) (y := .slice vo6 vn6 vc6) x6))))); clear hs6 hL6 hb6 h56 x6 f0 f1 f2 f3 z3 z4))
        all_goals
          go_wp2
          go_roundw
          case rel =>
            obtain ⟨hs6, hP, h56, x6, m1, m2⟩ := D.out
            have hb6 := B5.out.2.trans (h56.mono B5.out.2.size)
            have hlt0 : w.heap.size < w3.heap.size := Nat.lt_of_lt_of_le hl0 hw30
            have hsz6 := hb6.size
            exact ⟨k + 1, _, L6, by go_num, by omega, m1, at_kept (at_next R.out.2.1 (Below.trans B5.out.1 (h56.mono B5.out.1.size))) m2 (.inr (by simp; omega)), (hs6.kept m2 (ne_row hs6.row x6 (by decide))).base (B5.out.2.drew).size, hP, hb6.grown m2 hsz6 (fun j e => by cases e; omega)⟩
          case measure => simp [intOf]; omega
      · obtain rfl : q = 0 := by omega
        have HE : Hid (∀ j, ¬ runP a l (byteI s) s.size j) := Lib.hid (fun j => by
          have := runP_none (a := a) (l := l) (s := byteI s) (k := k) (fun j _ hr => absurd (CP.out.2 ⟨j, (R.out.2.2.2.1 j).2 hr⟩) (by omega)) (s.size - k) j
          rwa [show k + (s.size - k) = s.size by omega] at this)
        have PB : Hid (∀ t, BestIs l (fun i => memL L i = true) t → BestIs l (runP a l (byteI s) s.size) t) := Lib.hid (fun t ht => ht.same (fun i _ => ⟨fun h => absurd h (HE.out i), fun h => absurd (CP.out.2 ⟨i, h⟩) (by omega)⟩))
        clear hq
        go_wp2_with (first
          | (go_at_call 13; (with_reducible refine C1.out.mono ?_); rintro e w5 ⟨rfl, h5⟩; go_must (have f0 := cell_next g0 h5; have f1 := cell_next g1 h5; have f2 := cell_next g2 h5; have f3 := cell_next g3 h5; have B5 := Lib.hid (And.intro h5 (R.out.2.2.2.2.trans (h5.mono R.out.2.2.2.2.size))); clear h5 g0 g1 g2 g3))
          | (go_at_call 40; (refine (BE.out w5 B5.out.2 _ _ _ L (R.out.2.2.1.next B5.out.1)).mono ?_); rintro e w6 ⟨t, rfl, ht, hb⟩; go_must (have T6 := Lib.hid (And.intro ht hb); clear ht hb))
          | fail)
        go_ret2
        exact ⟨t, rfl, PB.out t T6.out.1, B5.out.2.trans (T6.out.2.mono B5.out.2.size)⟩
    · obtain rfl : k = s.size := by omega
      go_wp2_with (go_at_call 40; (refine (BE.out wr R.out.2.2.2.2 _ _ _ L R.out.2.2.1).mono ?_); rintro e w6 ⟨t, rfl, ht, hb⟩; go_must (have T6 := Lib.hid (And.intro ht hb); clear ht hb))
      go_ret2
      exact ⟨t, rfl, T6.out.1.same (fun i _ => (R.out.2.2.2.1 i).symm), R.out.2.2.2.2.trans (T6.out.2.mono R.out.2.2.2.2.size)⟩

end Go.Proofs.YtfbphiamelongaaDoor.Cl

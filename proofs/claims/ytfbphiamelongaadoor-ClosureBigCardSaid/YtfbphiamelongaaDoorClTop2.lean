/- Best, Alive, Close. -/
import Derived.Test.YtfbphiamelongaaDoorClTop
import Derived.Test.YtfbphiamelongaaDoorBtJoin
namespace Go.Proofs.YtfbphiamelongaaDoor.Cl
open Go Go.RowKit Go.Shelf
open Go.Proofs.YtfbphiamelongaaDoor.Bt (SetAt setV memL hasI iV own_slice grown_trans grown_cell grown_row two_stores Tab nums mem_nums nums_rise nums_nat fromL JoinOut Joined join_any memP memP_all)

set_option maxRecDepth 100000 in
set_option maxHeartbeats 2000000 in
theorem Best_no (a : Int) (l : List St) (v : Value) (B0 room : Nat) (v0 : Value) (L0 : List Nat) (w : World) (h : NfaAt w v a l) (hset : SetAt w B0 room v0 L0) (hf : faultE a l ≠ 0) :
    Calls Tryd.prog 14 #[v, setV room v0] w fun e w' => e = .returned (.int .i64 (-1)) ∧ Below w.heap.size w w' := by
  have FT := Lib.hid (fun W (hW : Below w.heap.size w W) => fault_any a l v W (h.next hW))
  obtain ⟨sv, rfl, hs⟩ := h
  obtain ⟨ao, cap, rfl, _, _⟩ := hs.shape
  obtain ⟨so, sn, sc, rfl⟩ := hset.val
  have d0 : (faultE a l != 0) = true := by simpa using hf
  have b1 := (Below.refl w.heap.size w).alloc (Nat.le_refl _) (.cells #[.int .i64 a, .slice ao l.length cap] 24)
  have B2 := Lib.hid (b1.alloc b1.size (.cells #[.int .i64 (room : Nat), .slice so sn sc] 30))
  clear hs b1 hset hf
  generalize faultE a l = F at *
  unfold nfaV setV at *
  go_enter Tryd.func14, Tryd.ntmps14
  go_wp2_with (go_at_call 30; (with_reducible refine (FT.out _ B2.out).mono ?_); rintro e w2 ⟨rfl, h1⟩)
  go_ret
  exact ⟨rfl, B2.out.trans (h1.mono B2.out.size)⟩

set_option maxRecDepth 100000 in
set_option maxHeartbeats 2000000 in
theorem Best_yes (a : Int) (l : List St) (v : Value) (B0 room : Nat) (v0 : Value) (L0 : List Nat) (w : World) (hg : TagsOk l) (h : NfaAt w v a l) (hT : Tab w) (hset : SetAt w B0 room v0 L0) (hf : faultE a l = 0) :
    Calls Tryd.prog 14 #[v, setV room v0] w fun e w' => ∃ t : Int, e = .returned (.int .i64 t) ∧ BestIs l (fun i => memL L0 i = true) t ∧ Below w.heap.size w w' := by
  have FT := Lib.hid (fun W (hW : Below w.heap.size w W) => fault_any a l v W (h.next hW))
  obtain ⟨sv, rfl, hs⟩ := h
  have ST := Lib.hid (fun W (hW : Below w.heap.size w W) => best_any a l sv hg B0 room v0 L0 W (hT.next hW) (hs.next hW) (hset.next hW))
  obtain ⟨ao, cap, rfl, _, _⟩ := hs.shape
  obtain ⟨so, sn, sc, rfl⟩ := hset.val
  have b1 := (Below.refl w.heap.size w).alloc (Nat.le_refl _) (.cells #[.int .i64 a, .slice ao l.length cap] 24)
  have B2 := Lib.hid (b1.alloc b1.size (.cells #[.int .i64 (room : Nat), .slice so sn sc] 30))
  have X1 := Lib.hid (at_next (at_new w (.cells #[.int .i64 a, .slice ao l.length cap] 24)) ((Below.refl _ _).alloc (Nat.le_refl _) (.cells #[.int .i64 (room : Nat), .slice so sn sc] 30)))
  have X3 := Lib.hid (at_new (w.alloc (.cells #[.int .i64 a, .slice ao l.length cap] 24)) (.cells #[.int .i64 (room : Nat), .slice so sn sc] 30))
  simp only [World.size_alloc] at X3
  clear hs b1 hset hT
  rw [hf] at FT
  clear hf
  unfold nfaV setV at *
  go_enter Tryd.func14, Tryd.ntmps14
  go_wp2_with (first
    | (go_at_call 30; (with_reducible refine (FT.out _ B2.out).mono ?_); rintro e w2 ⟨rfl, h1⟩; go_must (have g0 := at_cell (at_next X1.out h1) 0; have g1 := at_cell (at_next X1.out h1) 1; have hl := cell_lt g0; have g2 := at_cell (at_next X3.out h1) 0; have g3 := at_cell (at_next X3.out h1) 1; have hl2 := cell_lt g2; have B3 := Lib.hid (B2.out.trans (h1.mono B2.out.size)); clear h1))
    | (go_at_call 40; (with_reducible refine (ST.out w2 B3.out).mono ?_); rintro e w3 ⟨t, rfl, ht, hb⟩; go_must (have HT := Lib.hid ht; clear ht))
    | fail)
  go_ret
  exact ⟨t, rfl, HT.out, B3.out.trans (hb.mono B3.out.size)⟩

set_option maxRecDepth 100000 in
set_option maxHeartbeats 2000000 in
theorem Alive_no (a : Int) (l : List St) (v : Value) (B0 room : Nat) (v0 : Value) (L0 : List Nat) (w : World) (h : NfaAt w v a l) (hset : SetAt w B0 room v0 L0) (hf : faultE a l ≠ 0) :
    Calls Tryd.prog 15 #[v, setV room v0] w fun e w' => e = .returned (.bool false) ∧ Below w.heap.size w w' := by
  have FT := Lib.hid (fun W (hW : Below w.heap.size w W) => fault_any a l v W (h.next hW))
  obtain ⟨sv, rfl, hs⟩ := h
  obtain ⟨ao, cap, rfl, _, _⟩ := hs.shape
  obtain ⟨so, sn, sc, rfl⟩ := hset.val
  have d0 : (faultE a l != 0) = true := by simpa using hf
  have b1 := (Below.refl w.heap.size w).alloc (Nat.le_refl _) (.cells #[.int .i64 a, .slice ao l.length cap] 24)
  have B2 := Lib.hid (b1.alloc b1.size (.cells #[.int .i64 (room : Nat), .slice so sn sc] 30))
  clear hs b1 hset hf
  generalize faultE a l = F at *
  unfold nfaV setV at *
  go_enter Tryd.func15, Tryd.ntmps15
  go_wp2_with (go_at_call 30; (with_reducible refine (FT.out _ B2.out).mono ?_); rintro e w2 ⟨rfl, h1⟩)
  go_ret
  exact ⟨rfl, B2.out.trans (h1.mono B2.out.size)⟩

/-- a tag is come to just if the least one is none -/
theorem best_alive {l : List St} {P : Nat → Prop} {t : Int} (h : BestIs l (Re allF l P) t) : (t != -1) = true ↔ aliveP l P := by
  rw [bne_iff_ne]
  rcases h with ⟨rfl, h⟩ | ⟨h0, ⟨i, hi, hp, ht⟩, _⟩
  · constructor
    · intro h; exact absurd rfl h
    · rintro ⟨i, hi, hr, h0⟩
      have := h i hi hr
      omega
  · exact ⟨fun _ => ⟨i, hi, hp, by omega⟩, fun _ => by omega⟩

set_option maxRecDepth 100000 in
set_option maxHeartbeats 4000000 in
theorem Alive_yes (a : Int) (l : List St) (v : Value) (B0 room : Nat) (v0 : Value) (L0 : List Nat) (w : World) (hg : TagsOk l) (h : NfaAt w v a l) (hT : Tab w) (hset : SetAt w B0 room v0 L0) (hf : faultE a l = 0) :
    Calls Tryd.prog 15 #[v, setV room v0] w fun e w' => ∃ q : Bool, e = .returned (.bool q) ∧ (q = true ↔ aliveP l (fun i => memL L0 i = true)) ∧ Below w.heap.size w w' := by
  have FT := Lib.hid (fun W (hW : Below w.heap.size w W) => fault_any a l v W (h.next hW))
  have hn := (fault_zero.1 hf).1
  obtain ⟨sv, rfl, hs⟩ := h
  have H0 := Lib.hid hs
  have AL := Lib.hid (fun W (hW : Below w.heap.size w W) => all_row B0 room v0 L0 W (hT.next hW) (hset.next hW))
  have BE := Lib.hid (fun W (hW : Below w.heap.size w W) B1 n1 v1 L1 (hs1 : SetAt W B1 n1 v1 L1) => best_any a l sv hg B1 n1 v1 L1 W (hT.next hW) (hs.next hW) hs1)
  have FO := Lib.hid (fun B X b v W2 xs hB1 hB2 hW2 hq => fol_all l xs B X b a sv v hn w W2 H0.out hB1 hB2 hW2 hq)
  have PN : Hid (∀ L1 : List Nat, (∀ m, memL L1 m = true ↔ Re allF l (fun i => (i : Int) ∈ nums L0) m) → ∀ t, BestIs l (fun i => memL L1 i = true) t → ((t != -1) = true ↔ aliveP l (fun i => memL L0 i = true))) := Lib.hid (fun L1 h1 t ht => best_alive (ht.same (fun i _ => by rw [h1]; exact Re.congr (fun j _ => (nums_nat L0 j).symm))))
  obtain ⟨ao, cap, rfl, _, _⟩ := hs.shape
  obtain ⟨so, sn, sc, rfl⟩ := hset.val
  have WO := Lib.hid (fun W lv (hl : IntsAt W lv (nums L0)) => walkOf_any a ao l.length cap hn lv (nums L0) W hl)
  have b1 := (Below.refl w.heap.size w).alloc (Nat.le_refl _) (.cells #[.int .i64 a, .slice ao l.length cap] 24)
  have B2 := Lib.hid (b1.alloc b1.size (.cells #[.int .i64 (room : Nat), .slice so sn sc] 30))
  have X1 := Lib.hid (at_next (at_new w (.cells #[.int .i64 a, .slice ao l.length cap] 24)) ((Below.refl _ _).alloc (Nat.le_refl _) (.cells #[.int .i64 (room : Nat), .slice so sn sc] 30)))
  have X3 := Lib.hid (at_new (w.alloc (.cells #[.int .i64 a, .slice ao l.length cap] 24)) (.cells #[.int .i64 (room : Nat), .slice so sn sc] 30))
  simp only [World.size_alloc] at X3
  clear hs b1 hset hT
  rw [hf] at FT
  clear hf
  unfold nfaV setV at *
  go_enter Tryd.func15, Tryd.ntmps15
  go_wp2_with (go_at_call 30; (with_reducible refine (FT.out _ B2.out).mono ?_); rintro e w2 ⟨rfl, h1⟩; go_must (have B3 := Lib.hid (B2.out.trans (h1.mono B2.out.size)); have Y1 := Lib.hid (at_next X1.out h1); have Y3 := Lib.hid (at_next X3.out h1); have g0 := at_cell Y1.out 0; have g1 := at_cell Y1.out 1; have g2 := at_cell Y3.out 0; have g3 := at_cell Y3.out 1; clear h1))
  go_region_held3 (fun W => W.cell? ⟨w.heap.size, 0, none⟩ = some (.int .i64 a) ∧ W.cell? ⟨w.heap.size, 1, none⟩ = some (.slice ao l.length cap) ∧ W.cell? ⟨w.heap.size + 1, 0, none⟩ = some (.int .i64 (room : Nat)) ∧ W.cell? ⟨w.heap.size + 1, 1, none⟩ = some (.slice so sn sc)) (first | exact ⟨by assumption, by assumption, by assumption, by assumption⟩ | go_keep)
    (first
    | (go_at_call 19; (with_reducible refine (AL.out w2.drew (B3.out.drew)).mono ?_); rintro e w3 ⟨lv, rfl, h1, h2⟩; obtain ⟨lo, lc, rfl⟩ := own_slice h1; go_must (have h3 : Below w2.heap.size w2 w3 := Below.trans ((Below.refl _ w2).drew) h2; have B4 := Lib.hid (B3.out.trans (h3.mono B3.out.size)); have Z1 := Lib.hid (at_next Y1.out h3); have Z3 := Lib.hid (at_next Y3.out h3); have f0 := at_cell Z1.out 0; have f0' := f0; have f1 := at_cell Z1.out 1; have f2 := at_cell Z3.out 0; have f3 := at_cell Z3.out 1; have I3 := Lib.hid (ints_of_row h1); clear h1 h2 h3 g0 g1 g2 g3))
    | (go_at_call 31; (with_reducible refine (WO.out w3 _ I3.out).mono ?_); rintro e w4 ⟨b, v, rfl, h1, h2⟩; go_must (have B5 := Lib.hid (B4.out.trans (h2.mono B4.out.size)); have V1 := Lib.hid (at_next Z1.out h2); have V3 := Lib.hid (at_next Z3.out h2); have e0 := at_cell V1.out 0; have e1 := at_cell V1.out 1; have e2 := at_cell V3.out 0; have e3 := at_cell V3.out 1; have Q4 := Lib.hid (And.intro h1 h2.size); clear h1 h2 f0 f1 f2 f3))
    | fail)
  go_wp2
  go_region_held3 (fun W => W.cell? ⟨w.heap.size, 0, none⟩ = some (.int .i64 a) ∧ W.cell? ⟨w.heap.size, 1, none⟩ = some (.slice ao l.length cap)) (first | exact ⟨by assumption, by assumption⟩ | go_keep)
    (first
    | (go_at_call 33; (refine (FO.out w3.heap.size _ b v w4.drew (nums L0) B4.out.size Q4.out.2 (B5.out.drew) (Q4.out.1.next ((Below.refl _ w4).drew))).mono ?_); rintro e w5 ⟨rfl, ⟨L1, hs, hL⟩, hk⟩; obtain ⟨vo, vn, vc, rfl⟩ := hs.val; (try unfold setV); go_must (have h5 : Below w3.heap.size w4 w5 := Below.trans (((Below.refl _ w4).drew).mono Q4.out.2) (hk.below Q4.out.2); have B6 := Lib.hid (B5.out.trans (h5.mono B4.out.size)); have U1 := (h5.block w.heap.size (cell_lt f0')).trans V1.out; have k0 := at_cell U1 0; have k1 := at_cell U1 1; have S5 := Lib.hid (And.intro hs hL); clear hs hL hk h5 U1 e0 e1))
    | (go_at_call 40; (with_reducible refine (BE.out w5 B6.out _ _ _ L1 S5.out.1).mono ?_); rintro e w6 ⟨t, rfl, ht, hb⟩; go_must (have j0 := cell_next k0 hb; have j1 := cell_next k1 hb; have T6 := Lib.hid (And.intro ht hb); clear ht hb k0 k1))
    | fail)
  go_wp2
  go_ret
  exact ⟨_, rfl, PN.out L1 S5.out.2 t T6.out.1, B6.out.trans (T6.out.2.mono B6.out.size)⟩

end Go.Proofs.YtfbphiamelongaaDoor.Cl

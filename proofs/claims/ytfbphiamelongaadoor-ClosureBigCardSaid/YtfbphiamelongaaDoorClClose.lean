/- Close. -/
import Derived.Test.YtfbphiamelongaaDoorClTop2
namespace Go.Proofs.YtfbphiamelongaaDoor.Cl
open Go Go.RowKit Go.Shelf
open Go.Proofs.YtfbphiamelongaaDoor.Bt (SetAt setV memL hasI iV own_slice grown_trans grown_cell grown_row two_stores Tab nums mem_nums nums_rise nums_nat fromL JoinOut Joined join_any memP memP_all)

set_option maxRecDepth 100000 in
set_option maxHeartbeats 2000000 in
theorem Close_no (a : Int) (l : List St) (v : Value) (B0 room : Nat) (v0 : Value) (L0 : List Nat) (w : World) (h : NfaAt w v a l) (hset : SetAt w B0 room v0 L0) (hf : faultE a l ≠ 0) :
    Calls Tryd.prog 9 #[v, setV room v0] w fun e w' => e = .returned (.int .i64 (faultE a l)) ∧ Below w.heap.size w w' := by
  have FT := Lib.hid (fun W (hW : Below w.heap.size w W) => fault_any a l v W (h.next hW))
  obtain ⟨sv, rfl, hs⟩ := h
  obtain ⟨ao, cap, rfl, _, _⟩ := hs.shape
  obtain ⟨so, sn, sc, rfl⟩ := hset.val
  have d0 : (faultE a l != 0) = true := by simpa using hf
  have b1 := (Below.refl w.heap.size w).alloc (Nat.le_refl _) (.cells #[.int .i64 a, .slice ao l.length cap] 24)
  have B2 := Lib.hid (b1.alloc b1.size (.cells #[.int .i64 (room : Nat), .slice so sn sc] 30))
  clear hs b1 hset hf
  generalize faultE a l = F at *
  unfold nfaV setV at *
  go_enter Tryd.func9, Tryd.ntmps9
  go_wp2_with (go_at_call 30; (with_reducible refine (FT.out _ B2.out).mono ?_); rintro e w2 ⟨rfl, h1⟩)
  go_ret
  exact ⟨rfl, B2.out.trans (h1.mono B2.out.size)⟩

/-- what Close tells, and what becomes of the set -/
def CloseOut (w : World) (B0 room : Nat) (v0 : Value) (L0 : List Nat) (l : List St) (e : Ending) (w' : World) : Prop :=
  e = .returned (.int .i64 0) ∧ (∃ Lc, SetAt w' B0 room v0 Lc ∧ ∀ m, memL Lc m = true ↔ memL L0 m = true ∨ (m < room ∧ Re nilF l (fun i => memL L0 i = true) m)) ∧ w.grownBy w' v0.ownBlock

set_option maxRecDepth 100000 in
set_option maxHeartbeats 4000000 in
theorem Close_yes (a : Int) (l : List St) (v : Value) (B0 room : Nat) (v0 : Value) (L0 : List Nat) (w : World) (h : NfaAt w v a l) (hT : Tab w) (hset : SetAt w B0 room v0 L0) (hf : faultE a l = 0) :
    Calls Tryd.prog 9 #[v, setV room v0] w fun e w' => CloseOut w B0 room v0 L0 l e w' := by
  have FT := Lib.hid (fun W (hW : Below w.heap.size w W) => fault_any a l v W (h.next hW))
  have hn := (fault_zero.1 hf).1
  obtain ⟨sv, rfl, hs⟩ := h
  have H0 := Lib.hid hs
  have AL := Lib.hid (fun W (hW : Below w.heap.size w W) => all_row B0 room v0 L0 W (hT.next hW) (hset.next hW))
  have FO := Lib.hid (fun B X b v W2 xs hB1 hB2 hW2 hq => fol_nil l xs B X b a sv v hn w W2 H0.out hB1 hB2 hW2 hq)
  have HS := Lib.hid (fun W (hW : Below w.heap.size w W) => hset.next hW)
  have HLT : Hid (∀ k, v0.ownBlock = some k → k < w.heap.size) := Lib.hid (fun k hk => (hset.row.lt k hk).2)
  have PN : Hid (∀ L1 : List Nat, (∀ m, memL L1 m = true ↔ Re nilF l (fun i => (i : Int) ∈ nums L0) m) → ∀ Lc more, Joined room L0 Lc (fromL 0 L1) more → ∀ m, memL Lc m = true ↔ memL L0 m = true ∨ (m < room ∧ Re nilF l (fun i => memL L0 i = true) m)) := Lib.hid (fun L1 h1 Lc more hj m => by
    rw [hj.1, memP_all, Bool.or_eq_true, Bool.and_eq_true, decide_eq_true_eq, h1, and_comm (a := m < room)]
    rw [show Re nilF l (fun i => (i : Int) ∈ nums L0) m ↔ Re nilF l (fun i => memL L0 i = true) m from Re.congr (fun j _ => nums_nat L0 j)])
  obtain ⟨ao, cap, rfl, _, _⟩ := hs.shape
  obtain ⟨so, sn, sc, rfl⟩ := hset.val
  have JO := Lib.hid (fun W (hW : Below w.heap.size w W) B2 n2 v2 L2 (hs2 : SetAt W B2 n2 v2 L2) (hB2 : w.heap.size ≤ B2) => join_any B0 room B2 n2 _ v2 L0 L2 W (HS.out W hW) hs2 (by
    cases hb : v2.ownBlock with
    | none => exact .inl rfl
    | some k =>
      refine .inr fun e => ?_
      have h1 := HLT.out k e.symm
      have h2 := (hs2.row.lt k hb).1
      omega))
  have WO := Lib.hid (fun W lv (hl : IntsAt W lv (nums L0)) => walkOf_any a ao l.length cap hn lv (nums L0) W hl)
  have b1 := (Below.refl w.heap.size w).alloc (Nat.le_refl _) (.cells #[.int .i64 a, .slice ao l.length cap] 24)
  have B2 := Lib.hid (b1.alloc b1.size (.cells #[.int .i64 (room : Nat), .slice so sn sc] 30))
  have X1 := Lib.hid (at_next (at_new w (.cells #[.int .i64 a, .slice ao l.length cap] 24)) ((Below.refl _ _).alloc (Nat.le_refl _) (.cells #[.int .i64 (room : Nat), .slice so sn sc] 30)))
  have X3 := Lib.hid (at_new (w.alloc (.cells #[.int .i64 a, .slice ao l.length cap] 24)) (.cells #[.int .i64 (room : Nat), .slice so sn sc] 30))
  simp only [World.size_alloc] at X3
  clear hs b1 hset hT
  rw [hf] at FT
  clear hf
  unfold nfaV setV at *
  go_enter Tryd.func9, Tryd.ntmps9
  go_wp2_with (go_at_call 30; (with_reducible refine (FT.out _ B2.out).mono ?_); rintro e w2 ⟨rfl, h1⟩; go_must (have B3 := Lib.hid (B2.out.trans (h1.mono B2.out.size)); have Y1 := Lib.hid (at_next X1.out h1); have Y3 := Lib.hid (at_next X3.out h1); have g0 := at_cell Y1.out 0; have g1 := at_cell Y1.out 1; have g2 := at_cell Y3.out 0; have g3 := at_cell Y3.out 1; clear h1))
  go_region_held3 (fun W => W.cell? ⟨w.heap.size, 0, none⟩ = some (.int .i64 a) ∧ W.cell? ⟨w.heap.size, 1, none⟩ = some (.slice ao l.length cap) ∧ W.cell? ⟨w.heap.size + 1, 0, none⟩ = some (.int .i64 (room : Nat)) ∧ W.cell? ⟨w.heap.size + 1, 1, none⟩ = some (.slice so sn sc)) (first | exact ⟨by assumption, by assumption, by assumption, by assumption⟩ | go_keep)
    (first
    | (go_at_call 19; (with_reducible refine (AL.out w2.drew (B3.out.drew)).mono ?_); rintro e w3 ⟨lv, rfl, h1, h2⟩; obtain ⟨lo, lc, rfl⟩ := own_slice h1; go_must (have h3 : Below w2.heap.size w2 w3 := Below.trans ((Below.refl _ w2).drew) h2; have B4 := Lib.hid (B3.out.trans (h3.mono B3.out.size)); have Z1 := Lib.hid (at_next Y1.out h3); have Z3 := Lib.hid (at_next Y3.out h3); have f0 := at_cell Z1.out 0; have f1 := at_cell Z1.out 1; have f2 := at_cell Z3.out 0; have f2' := f2; have f3 := at_cell Z3.out 1; have I3 := Lib.hid (ints_of_row h1); clear h1 h2 h3 g0 g1 g2 g3))
    | (go_at_call 31; (with_reducible refine (WO.out w3 _ I3.out).mono ?_); rintro e w4 ⟨b, v, rfl, h1, h2⟩; go_must (have B5 := Lib.hid (B4.out.trans (h2.mono B4.out.size)); have V1 := Lib.hid (at_next Z1.out h2); have V3 := Lib.hid (at_next Z3.out h2); have e0 := at_cell V1.out 0; have e1 := at_cell V1.out 1; have e2 := at_cell V3.out 0; have e3 := at_cell V3.out 1; have Q4 := Lib.hid (And.intro h1 h2.size); clear h1 h2 f0 f1 f2 f3))
    | fail)
  go_wp2
  go_region_held3 (fun W => W.cell? ⟨w.heap.size + 1, 0, none⟩ = some (.int .i64 (room : Nat)) ∧ W.cell? ⟨w.heap.size + 1, 1, none⟩ = some (.slice so sn sc)) (first | exact ⟨by assumption, by assumption⟩ | go_keep)
    (first
    | (go_at_call 33; (refine (FO.out w3.heap.size _ b v w4.drew (nums L0) B4.out.size Q4.out.2 (B5.out.drew) (Q4.out.1.next ((Below.refl _ w4).drew))).mono ?_); rintro e w5 ⟨rfl, ⟨L1, hs, hL⟩, hk⟩; obtain ⟨vo, vn, vc, rfl⟩ := hs.val; (try unfold setV); go_must (have h5 : Below w3.heap.size w4 w5 := Below.trans (((Below.refl _ w4).drew).mono Q4.out.2) (hk.below Q4.out.2); have B6 := Lib.hid (B5.out.trans (h5.mono B4.out.size)); have U3 := (h5.block (w.heap.size + 1) (cell_lt f2')).trans V3.out; have k0 := at_cell U3 0; have k1 := at_cell U3 1; have S5 := Lib.hid (And.intro hs (And.intro hL U3)); clear hs hL hk h5 U3 e2 e3))
    | (go_at_call 32; (refine (JO.out w5 B6.out w3.heap.size l.length _ L1 S5.out.1 B4.out.size).mono ?_); rintro e w6 ⟨Lc, more, rfl, hs, hj, hg⟩; go_must (have U6 := at_kept S5.out.2.2 hg (ne_row (HS.out w5 B6.out).row S5.out.2.2 (by decide)); have j0 := at_cell U6 0; have j1 := at_cell U6 1; have T6 := Lib.hid (And.intro hs (And.intro hj hg)); clear hs hj hg k0 k1 U6))
    | fail)
  go_wp2
  go_ret
  exact ⟨rfl, ⟨Lc, T6.out.1, PN.out L1 S5.out.2.1 Lc more T6.out.2.1⟩, grown_trans (grown_row B6.out) T6.out.2.2⟩

end Go.Proofs.YtfbphiamelongaaDoor.Cl

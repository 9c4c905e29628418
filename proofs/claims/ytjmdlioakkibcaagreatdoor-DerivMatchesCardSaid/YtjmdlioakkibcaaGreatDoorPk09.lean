/- Rep, where a part comes. -/
import Derived.Test.YtjmdlioakkibcaaGreatDoorPk08

namespace Go.Proofs.YtjmdlioakkibcaaGreatDoor.Dv
open Go Go.RowKit Go.Shelf Go.Maps
open Go.Proofs.YtjmdlioakkibcaaGreatDoor.Ar (timesB Nd nd nodeB nodeB_ways NRow cellsN aggN flatN Book WfN Wf NodeAt nodes_of_row)
open Go.Proofs.YtjmdlioakkibcaaGreatDoor.Rg (R RngsAt RowsAt nthL add_zero own_next)

section
variable {w0 w : World} {bb M : Nat} {B : Bk}
set_option maxRecDepth 100000 in
set_option maxHeartbeats 8000000 in
theorem rep_numT (h : BookAt w0 bb M B w) (g : Good B) {x : Nat} (hx : x < B.parts.length) {lo hi : Int} (ht : timesB lo hi = true) (hb : bareAt B x = true) (f : hi ≠ 0) (f1 : x ≠ 0) (f2 : x ≠ 1) (f3 : hi ≠ 1) (hst : (nd B.parts x).op ≠ 5 ∨ (nd B.parts x).lo ≠ 0 ∨ (nd B.parts x).hi ≠ -1) :
    Calls Tryz.prog 99 #[.pointer (some ⟨bb, 0, none⟩), .int .i64 (x : Nat), .int .i64 lo, .int .i64 hi] w (OpAt w0 bb M w (number B (nRep x 0 hi) true)) := by
  have g3 := in1 f3
  have fh := inz f
  have g1 := nz f1
  have g2 := Dv.n1 f2
  have HB := Lib.hid h
  have HBB := Lib.hid (BookAt.lt h)
  have BW := Lib.hid (fun o => (Below.refl w.heap.size w).alloc (Nat.le_refl _) o)
  have hs := g.small
  rw [times_iff] at ht
  have cn := fun (W : World) (hW : Below w.heap.size w W) => number_any (nRep x 0 hi) true (show BookAt w0 bb M B W from by obtain ⟨_, _, _, _, hh⟩ := h; exact ⟨_, _, _, _, hh.next hW⟩) g (wfN_of (by simp [nRep]; omega))
  have CN := Lib.hid cn
  obtain ⟨pv, sv, bv, xs, h⟩ := h
  have c0 := h.cell0
  have c2 := h.cell2
  have hlt := h.lt
  obtain ⟨gb, cap, rfl, hl, hcx⟩ := h.bareAt g hx
  obtain ⟨ao, pcap, rfl, hl2, hn⟩ := (nodes_of_row h.parts).shape
  obtain ⟨ga, rfl, n0, n1, n2, n3, n4, n5⟩ := hn x hx
  rw [hb] at hcx
  have hgb := cell_lt hcx
  have hga := cell_lt n0
  clear hn h g hb cn f f1 f2 ht
  generalize nd B.parts x = n at *
  have NUM : ∀ W e w1, Below w.heap.size w W → OpAt w0 bb M W (number B (nRep x 0 hi) true) e w1 → OpAt w0 bb M w (number B (nRep x 0 hi) true) e w1 := fun W e w1 hW h => ⟨h.1, h.2.1, (Fz.of_below hW HBB.out).trans h.2.2⟩
  have NU := Lib.hid NUM
  generalize number B (nRep x 0 hi) true = R at *
  unfold nRep aggN at CN
  unfold OpAt at *
  clear NUM
  rcases hst with hst | hst | hst
  · have q := in5 hst
    clear hst
    go_enter Tryz.func99, Tryz.ntmps99
    go_wp2_with (go_at_call 46; (with_reducible refine (CN.out _ (BW.out _)).mono ?_); rintro e w1 ⟨rfl, h1⟩; go_must (have H1 := Lib.hid h1; clear h1))
    go_ret
    exact NU.out _ _ _ (BW.out _) ⟨rfl, H1.out⟩
  · have q := inz hst
    clear hst
    go_enter Tryz.func99, Tryz.ntmps99
    go_wp2_with (go_at_call 46; (with_reducible refine (CN.out _ (BW.out _)).mono ?_); rintro e w1 ⟨rfl, h1⟩; go_must (have H1 := Lib.hid h1; clear h1))
    go_ret
    exact NU.out _ _ _ (BW.out _) ⟨rfl, H1.out⟩
  · have q := inm hst
    clear hst
    go_enter Tryz.func99, Tryz.ntmps99
    go_wp2_with (go_at_call 46; (with_reducible refine (CN.out _ (BW.out _)).mono ?_); rintro e w1 ⟨rfl, h1⟩; go_must (have H1 := Lib.hid h1; clear h1))
    go_ret
    exact NU.out _ _ _ (BW.out _) ⟨rfl, H1.out⟩
set_option maxRecDepth 100000 in
set_option maxHeartbeats 8000000 in
theorem rep_numF (h : BookAt w0 bb M B w) (g : Good B) {x : Nat} (hx : x < B.parts.length) {lo hi : Int} (ht : timesB lo hi = true) (hb : bareAt B x = false) (f : hi ≠ 0) (f1 : x ≠ 0) (f2 : x ≠ 1) (f3 : hi ≠ 1) (hst : (nd B.parts x).op ≠ 5 ∨ (nd B.parts x).lo ≠ 0 ∨ (nd B.parts x).hi ≠ -1) :
    Calls Tryz.prog 99 #[.pointer (some ⟨bb, 0, none⟩), .int .i64 (x : Nat), .int .i64 lo, .int .i64 hi] w (OpAt w0 bb M w (number B (nRep x lo hi) (decide (lo = 0)))) := by
  have g3 := in1 f3
  have fh := inz f
  have g1 := nz f1
  have g2 := Dv.n1 f2
  have HB := Lib.hid h
  have HBB := Lib.hid (BookAt.lt h)
  have BW := Lib.hid (fun o => (Below.refl w.heap.size w).alloc (Nat.le_refl _) o)
  have hs := g.small
  rw [times_iff] at ht
  rw [show decide (lo = 0) = (lo == 0) by rw [Bool.eq_iff_iff]; simp]
  have cn := fun (W : World) (hW : Below w.heap.size w W) => number_any (nRep x lo hi) (lo == 0) (show BookAt w0 bb M B W from by obtain ⟨_, _, _, _, hh⟩ := h; exact ⟨_, _, _, _, hh.next hW⟩) g (wfN_of (by simp [nRep]; omega))
  have CN := Lib.hid cn
  obtain ⟨pv, sv, bv, xs, h⟩ := h
  have c0 := h.cell0
  have c2 := h.cell2
  have hlt := h.lt
  obtain ⟨gb, cap, rfl, hl, hcx⟩ := h.bareAt g hx
  obtain ⟨ao, pcap, rfl, hl2, hn⟩ := (nodes_of_row h.parts).shape
  obtain ⟨ga, rfl, n0, n1, n2, n3, n4, n5⟩ := hn x hx
  rw [hb] at hcx
  have hgb := cell_lt hcx
  have hga := cell_lt n0
  clear hn h g hb cn f f1 f2 ht
  generalize nd B.parts x = n at *
  have NUM : ∀ W e w1, Below w.heap.size w W → OpAt w0 bb M W (number B (nRep x lo hi) (lo == 0)) e w1 → OpAt w0 bb M w (number B (nRep x lo hi) (lo == 0)) e w1 := fun W e w1 hW h => ⟨h.1, h.2.1, (Fz.of_below hW HBB.out).trans h.2.2⟩
  have NU := Lib.hid NUM
  generalize number B (nRep x lo hi) (lo == 0) = R at *
  unfold nRep aggN at CN
  unfold OpAt at *
  clear NUM
  rcases hst with hst | hst | hst
  · have q := in5 hst
    clear hst
    go_enter Tryz.func99, Tryz.ntmps99
    go_wp2_with (go_at_call 46; (with_reducible refine (CN.out _ (BW.out _)).mono ?_); rintro e w1 ⟨rfl, h1⟩; go_must (have H1 := Lib.hid h1; clear h1))
    go_ret
    exact NU.out _ _ _ (BW.out _) ⟨rfl, H1.out⟩
  · have q := inz hst
    clear hst
    go_enter Tryz.func99, Tryz.ntmps99
    go_wp2_with (go_at_call 46; (with_reducible refine (CN.out _ (BW.out _)).mono ?_); rintro e w1 ⟨rfl, h1⟩; go_must (have H1 := Lib.hid h1; clear h1))
    go_ret
    exact NU.out _ _ _ (BW.out _) ⟨rfl, H1.out⟩
  · have q := inm hst
    clear hst
    go_enter Tryz.func99, Tryz.ntmps99
    go_wp2_with (go_at_call 46; (with_reducible refine (CN.out _ (BW.out _)).mono ?_); rintro e w1 ⟨rfl, h1⟩; go_must (have H1 := Lib.hid h1; clear h1))
    go_ret
    exact NU.out _ _ _ (BW.out _) ⟨rfl, H1.out⟩
set_option maxRecDepth 100000 in
set_option maxHeartbeats 8000000 in
theorem rep_numG (h : BookAt w0 bb M B w) (g : Good B) {x : Nat} (hx : x < B.parts.length) {lo hi : Int} (ht : timesB lo hi = true) (hb : bareAt B x = false) (f : hi ≠ 0) (f1 : x ≠ 0) (f2 : x ≠ 1) (f3 : hi = 1) (f4 : lo ≠ 1) (hst : (nd B.parts x).op ≠ 5 ∨ (nd B.parts x).lo ≠ 0 ∨ (nd B.parts x).hi ≠ -1) :
    Calls Tryz.prog 99 #[.pointer (some ⟨bb, 0, none⟩), .int .i64 (x : Nat), .int .i64 lo, .int .i64 hi] w (OpAt w0 bb M w (number B (nRep x lo hi) (decide (lo = 0)))) := by
  subst f3
  have g4 := in1 f4
  have fh := inz f
  have g1 := nz f1
  have g2 := Dv.n1 f2
  have HB := Lib.hid h
  have HBB := Lib.hid (BookAt.lt h)
  have BW := Lib.hid (fun o => (Below.refl w.heap.size w).alloc (Nat.le_refl _) o)
  have hs := g.small
  rw [times_iff] at ht
  rw [show decide (lo = 0) = (lo == 0) by rw [Bool.eq_iff_iff]; simp]
  have cn := fun (W : World) (hW : Below w.heap.size w W) => number_any (nRep x lo 1) (lo == 0) (show BookAt w0 bb M B W from by obtain ⟨_, _, _, _, hh⟩ := h; exact ⟨_, _, _, _, hh.next hW⟩) g (wfN_of (by simp [nRep]; omega))
  have CN := Lib.hid cn
  obtain ⟨pv, sv, bv, xs, h⟩ := h
  have c0 := h.cell0
  have c2 := h.cell2
  have hlt := h.lt
  obtain ⟨gb, cap, rfl, hl, hcx⟩ := h.bareAt g hx
  obtain ⟨ao, pcap, rfl, hl2, hn⟩ := (nodes_of_row h.parts).shape
  obtain ⟨ga, rfl, n0, n1, n2, n3, n4, n5⟩ := hn x hx
  rw [hb] at hcx
  have hgb := cell_lt hcx
  have hga := cell_lt n0
  clear hn h g hb cn f f1 f2 ht
  generalize nd B.parts x = n at *
  have NUM : ∀ W e w1, Below w.heap.size w W → OpAt w0 bb M W (number B (nRep x lo 1) (lo == 0)) e w1 → OpAt w0 bb M w (number B (nRep x lo 1) (lo == 0)) e w1 := fun W e w1 hW h => ⟨h.1, h.2.1, (Fz.of_below hW HBB.out).trans h.2.2⟩
  have NU := Lib.hid NUM
  generalize number B (nRep x lo 1) (lo == 0) = R at *
  unfold nRep aggN at CN
  unfold OpAt at *
  clear NUM
  rcases hst with hst | hst | hst
  · have q := in5 hst
    clear hst
    go_enter Tryz.func99, Tryz.ntmps99
    go_wp2_with (go_at_call 46; (with_reducible refine (CN.out _ (BW.out _)).mono ?_); rintro e w1 ⟨rfl, h1⟩; go_must (have H1 := Lib.hid h1; clear h1))
    go_ret
    exact NU.out _ _ _ (BW.out _) ⟨rfl, H1.out⟩
  · have q := inz hst
    clear hst
    go_enter Tryz.func99, Tryz.ntmps99
    go_wp2_with (go_at_call 46; (with_reducible refine (CN.out _ (BW.out _)).mono ?_); rintro e w1 ⟨rfl, h1⟩; go_must (have H1 := Lib.hid h1; clear h1))
    go_ret
    exact NU.out _ _ _ (BW.out _) ⟨rfl, H1.out⟩
  · have q := inm hst
    clear hst
    go_enter Tryz.func99, Tryz.ntmps99
    go_wp2_with (go_at_call 46; (with_reducible refine (CN.out _ (BW.out _)).mono ?_); rintro e w1 ⟨rfl, h1⟩; go_must (have H1 := Lib.hid h1; clear h1))
    go_ret
    exact NU.out _ _ _ (BW.out _) ⟨rfl, H1.out⟩
end

end Go.Proofs.YtjmdlioakkibcaaGreatDoor.Dv

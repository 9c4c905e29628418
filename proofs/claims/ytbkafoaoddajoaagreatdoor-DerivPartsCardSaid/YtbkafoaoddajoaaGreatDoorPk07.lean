/- What a book is asked: Rep, fewer. Rep, where a part comes. Rep, whatever is asked; fewer. A walk in memory: the spots that were met, those that wait, what is left. A spot is met. The program's Has. -/
import Derived.Test.YtbkafoaoddajoaaGreatDoorPk06
import Derived.Test.YtbkafoaoddajoaaGreatDoorPk01

namespace Go.Proofs.YtbkafoaoddajoaaGreatDoor.Dv
open Go Go.RowKit Go.Shelf Go.Maps
open Go.Proofs.YtbkafoaoddajoaaGreatDoor.Ar (timesB Nd nd nodeB nodeB_ways NRow cellsN aggN flatN Book WfN Wf NodeAt nodes_of_row)
open Go.Proofs.YtbkafoaoddajoaaGreatDoor.Rg (R RngsAt RowsAt nthL add_zero own_next)

theorem inz {x : Int} (h : x ≠ 0) : (x == 0) = false := by simpa using h
theorem in1 {x : Int} (h : x ≠ 1) : (x == 1) = false := by simpa using h
theorem inm {x : Int} (h : x ≠ -1) : (x == -1) = false := by simpa using h
theorem in5 {x : Int} (h : x ≠ 5) : (x == 5) = false := by simpa using h

theorem yz {x : Nat} (h : x = 0) : ((x : Int) == 0) = true := by simp [h]
theorem y1 {x : Nat} (h : x = 1) : ((x : Int) == 1) = true := by simp [h]

section
variable {w0 w : World} {bb M : Nat} {B : Bk}
set_option maxRecDepth 100000 in
set_option maxHeartbeats 8000000 in
theorem rep_hi0T (h : BookAt w0 bb M B w) (g : Good B) {x : Nat} (hx : x < B.parts.length) {lo hi : Int} (hb : bareAt B x = true) (e : hi = 0) :
    Calls Tryz.prog 99 #[.pointer (some ⟨bb, 0, none⟩), .int .i64 (x : Nat), .int .i64 lo, .int .i64 hi] w (OpAt w0 bb M w (B, 1)) := by
  subst e
  have HB := Lib.hid h
  have BW := Lib.hid (fun o => (Below.refl w.heap.size w).alloc (Nat.le_refl _) o)
  have hs := g.small
  obtain ⟨pv, sv, bv, xs, h⟩ := h
  have c0 := h.cell0
  have c2 := h.cell2
  have hlt := h.lt
  obtain ⟨gb, cap, rfl, hl, hcx⟩ := h.bareAt g hx
  obtain ⟨ao, pcap, rfl, hl2, hn⟩ := (nodes_of_row h.parts).shape
  obtain ⟨ga, rfl, n0, n1, n2, n3, n4, n5⟩ := hn x hx
  rw [hb] at hcx
  have hgb := cell_lt hcx
  clear hn h g hb
  go_enter Tryz.func99, Tryz.ntmps99
  go_wp2
  go_ret
  exact .same HB.out (BW.out _)
set_option maxRecDepth 100000 in
set_option maxHeartbeats 8000000 in
theorem rep_1T (h : BookAt w0 bb M B w) (g : Good B) {x : Nat} (hx : x < B.parts.length) {lo hi : Int} (hb : bareAt B x = true) (f : hi ≠ 0) (e : x = 1) :
    Calls Tryz.prog 99 #[.pointer (some ⟨bb, 0, none⟩), .int .i64 (x : Nat), .int .i64 lo, .int .i64 hi] w (OpAt w0 bb M w (B, x)) := by
  have ge := nz (show x ≠ 0 by omega)
  have ge1 := y1 e
  have fh := inz f
  have HB := Lib.hid h
  have BW := Lib.hid (fun o => (Below.refl w.heap.size w).alloc (Nat.le_refl _) o)
  have hs := g.small
  obtain ⟨pv, sv, bv, xs, h⟩ := h
  have c0 := h.cell0
  have c2 := h.cell2
  have hlt := h.lt
  obtain ⟨gb, cap, rfl, hl, hcx⟩ := h.bareAt g hx
  obtain ⟨ao, pcap, rfl, hl2, hn⟩ := (nodes_of_row h.parts).shape
  obtain ⟨ga, rfl, n0, n1, n2, n3, n4, n5⟩ := hn x hx
  rw [hb] at hcx
  have hgb := cell_lt hcx
  clear hn h g hb e
  go_enter Tryz.func99, Tryz.ntmps99
  go_wp2
  go_ret
  exact .same HB.out (BW.out _)
set_option maxRecDepth 100000 in
set_option maxHeartbeats 8000000 in
theorem rep_h1T (h : BookAt w0 bb M B w) (g : Good B) {x : Nat} (hx : x < B.parts.length) {lo hi : Int} (hb : bareAt B x = true) (e : hi = 1) (f1 : x ≠ 0) (f2 : x ≠ 1) :
    Calls Tryz.prog 99 #[.pointer (some ⟨bb, 0, none⟩), .int .i64 (x : Nat), .int .i64 lo, .int .i64 hi] w (OpAt w0 bb M w (B, x)) := by
  subst e
  have g1 := nz f1
  have g2 := Dv.n1 f2
  have HB := Lib.hid h
  have BW := Lib.hid (fun o => (Below.refl w.heap.size w).alloc (Nat.le_refl _) o)
  have hs := g.small
  obtain ⟨pv, sv, bv, xs, h⟩ := h
  have c0 := h.cell0
  have c2 := h.cell2
  have hlt := h.lt
  obtain ⟨gb, cap, rfl, hl, hcx⟩ := h.bareAt g hx
  obtain ⟨ao, pcap, rfl, hl2, hn⟩ := (nodes_of_row h.parts).shape
  obtain ⟨ga, rfl, n0, n1, n2, n3, n4, n5⟩ := hn x hx
  rw [hb] at hcx
  have hgb := cell_lt hcx
  clear hn h g hb
  go_enter Tryz.func99, Tryz.ntmps99
  go_wp2
  go_ret
  exact .same HB.out (BW.out _)
set_option maxRecDepth 100000 in
set_option maxHeartbeats 8000000 in
theorem rep_hi0F (h : BookAt w0 bb M B w) (g : Good B) {x : Nat} (hx : x < B.parts.length) {lo hi : Int} (hb : bareAt B x = false) (e : hi = 0) :
    Calls Tryz.prog 99 #[.pointer (some ⟨bb, 0, none⟩), .int .i64 (x : Nat), .int .i64 lo, .int .i64 hi] w (OpAt w0 bb M w (B, 1)) := by
  subst e
  have HB := Lib.hid h
  have BW := Lib.hid (fun o => (Below.refl w.heap.size w).alloc (Nat.le_refl _) o)
  have hs := g.small
  obtain ⟨pv, sv, bv, xs, h⟩ := h
  have c0 := h.cell0
  have c2 := h.cell2
  have hlt := h.lt
  obtain ⟨gb, cap, rfl, hl, hcx⟩ := h.bareAt g hx
  obtain ⟨ao, pcap, rfl, hl2, hn⟩ := (nodes_of_row h.parts).shape
  obtain ⟨ga, rfl, n0, n1, n2, n3, n4, n5⟩ := hn x hx
  rw [hb] at hcx
  have hgb := cell_lt hcx
  clear hn h g hb
  go_enter Tryz.func99, Tryz.ntmps99
  go_wp2
  go_ret
  exact .same HB.out (BW.out _)
set_option maxRecDepth 100000 in
set_option maxHeartbeats 8000000 in
theorem rep_00F (h : BookAt w0 bb M B w) (g : Good B) {x : Nat} (hx : x < B.parts.length) {lo hi : Int} (hb : bareAt B x = false) (f : hi ≠ 0) (e : x = 0) (e2 : lo = 0) :
    Calls Tryz.prog 99 #[.pointer (some ⟨bb, 0, none⟩), .int .i64 (x : Nat), .int .i64 lo, .int .i64 hi] w (OpAt w0 bb M w (B, 1)) := by
  have ge := yz e
  subst e2
  have fh := inz f
  have HB := Lib.hid h
  have BW := Lib.hid (fun o => (Below.refl w.heap.size w).alloc (Nat.le_refl _) o)
  have hs := g.small
  obtain ⟨pv, sv, bv, xs, h⟩ := h
  have c0 := h.cell0
  have c2 := h.cell2
  have hlt := h.lt
  obtain ⟨gb, cap, rfl, hl, hcx⟩ := h.bareAt g hx
  obtain ⟨ao, pcap, rfl, hl2, hn⟩ := (nodes_of_row h.parts).shape
  obtain ⟨ga, rfl, n0, n1, n2, n3, n4, n5⟩ := hn x hx
  rw [hb] at hcx
  have hgb := cell_lt hcx
  clear hn h g hb e
  go_enter Tryz.func99, Tryz.ntmps99
  go_wp2
  go_ret
  exact .same HB.out (BW.out _)
set_option maxRecDepth 100000 in
set_option maxHeartbeats 8000000 in
theorem rep_0F (h : BookAt w0 bb M B w) (g : Good B) {x : Nat} (hx : x < B.parts.length) {lo hi : Int} (hb : bareAt B x = false) (f : hi ≠ 0) (e : x = 0) (f2 : lo ≠ 0) :
    Calls Tryz.prog 99 #[.pointer (some ⟨bb, 0, none⟩), .int .i64 (x : Nat), .int .i64 lo, .int .i64 hi] w (OpAt w0 bb M w (B, x)) := by
  have ge := yz e
  have fh := inz f
  have fl := inz f2
  have HB := Lib.hid h
  have BW := Lib.hid (fun o => (Below.refl w.heap.size w).alloc (Nat.le_refl _) o)
  have hs := g.small
  obtain ⟨pv, sv, bv, xs, h⟩ := h
  have c0 := h.cell0
  have c2 := h.cell2
  have hlt := h.lt
  obtain ⟨gb, cap, rfl, hl, hcx⟩ := h.bareAt g hx
  obtain ⟨ao, pcap, rfl, hl2, hn⟩ := (nodes_of_row h.parts).shape
  obtain ⟨ga, rfl, n0, n1, n2, n3, n4, n5⟩ := hn x hx
  rw [hb] at hcx
  have hgb := cell_lt hcx
  clear hn h g hb e
  go_enter Tryz.func99, Tryz.ntmps99
  go_wp2
  go_ret
  exact .same HB.out (BW.out _)
set_option maxRecDepth 100000 in
set_option maxHeartbeats 8000000 in
theorem rep_1F (h : BookAt w0 bb M B w) (g : Good B) {x : Nat} (hx : x < B.parts.length) {lo hi : Int} (hb : bareAt B x = false) (f : hi ≠ 0) (e : x = 1) :
    Calls Tryz.prog 99 #[.pointer (some ⟨bb, 0, none⟩), .int .i64 (x : Nat), .int .i64 lo, .int .i64 hi] w (OpAt w0 bb M w (B, x)) := by
  have ge := nz (show x ≠ 0 by omega)
  have ge1 := y1 e
  have fh := inz f
  have HB := Lib.hid h
  have BW := Lib.hid (fun o => (Below.refl w.heap.size w).alloc (Nat.le_refl _) o)
  have hs := g.small
  obtain ⟨pv, sv, bv, xs, h⟩ := h
  have c0 := h.cell0
  have c2 := h.cell2
  have hlt := h.lt
  obtain ⟨gb, cap, rfl, hl, hcx⟩ := h.bareAt g hx
  obtain ⟨ao, pcap, rfl, hl2, hn⟩ := (nodes_of_row h.parts).shape
  obtain ⟨ga, rfl, n0, n1, n2, n3, n4, n5⟩ := hn x hx
  rw [hb] at hcx
  have hgb := cell_lt hcx
  clear hn h g hb e
  go_enter Tryz.func99, Tryz.ntmps99
  go_wp2
  go_ret
  exact .same HB.out (BW.out _)
set_option maxRecDepth 100000 in
set_option maxHeartbeats 8000000 in
theorem rep_h1F (h : BookAt w0 bb M B w) (g : Good B) {x : Nat} (hx : x < B.parts.length) {lo hi : Int} (hb : bareAt B x = false) (e : hi = 1) (f1 : x ≠ 0) (f2 : x ≠ 1) (e2 : lo = 1) :
    Calls Tryz.prog 99 #[.pointer (some ⟨bb, 0, none⟩), .int .i64 (x : Nat), .int .i64 lo, .int .i64 hi] w (OpAt w0 bb M w (B, x)) := by
  subst e
  subst e2
  have g1 := nz f1
  have g2 := Dv.n1 f2
  have HB := Lib.hid h
  have BW := Lib.hid (fun o => (Below.refl w.heap.size w).alloc (Nat.le_refl _) o)
  have hs := g.small
  obtain ⟨pv, sv, bv, xs, h⟩ := h
  have c0 := h.cell0
  have c2 := h.cell2
  have hlt := h.lt
  obtain ⟨gb, cap, rfl, hl, hcx⟩ := h.bareAt g hx
  obtain ⟨ao, pcap, rfl, hl2, hn⟩ := (nodes_of_row h.parts).shape
  obtain ⟨ga, rfl, n0, n1, n2, n3, n4, n5⟩ := hn x hx
  rw [hb] at hcx
  have hgb := cell_lt hcx
  clear hn h g hb
  go_enter Tryz.func99, Tryz.ntmps99
  go_wp2
  go_ret
  exact .same HB.out (BW.out _)
set_option maxRecDepth 100000 in
set_option maxHeartbeats 8000000 in
theorem rep_starT (h : BookAt w0 bb M B w) (g : Good B) {x : Nat} (hx : x < B.parts.length) {lo hi : Int} (hb : bareAt B x = true) (f : hi ≠ 0) (f1 : x ≠ 0) (f2 : x ≠ 1) (f3 : hi ≠ 1) (hst : nd B.parts x = ⟨5, (nd B.parts x).a, 0, 0, -1, 0⟩) :
    Calls Tryz.prog 99 #[.pointer (some ⟨bb, 0, none⟩), .int .i64 (x : Nat), .int .i64 lo, .int .i64 hi] w (OpAt w0 bb M w (B, x)) := by
  have g3 := in1 f3
  have fh := inz f
  have g1 := nz f1
  have g2 := Dv.n1 f2
  have HB := Lib.hid h
  have BW := Lib.hid (fun o => (Below.refl w.heap.size w).alloc (Nat.le_refl _) o)
  obtain ⟨pv, sv, bv, xs, h⟩ := h
  have c0 := h.cell0
  have c2 := h.cell2
  have hlt := h.lt
  obtain ⟨gb, cap, rfl, hl, hcx⟩ := h.bareAt g hx
  obtain ⟨ao, pcap, rfl, hl2, hn⟩ := (nodes_of_row h.parts).shape
  obtain ⟨ga, rfl, n0, n1, n2, n3, n4, n5⟩ := hn x hx
  rw [hb] at hcx
  have hgb := cell_lt hcx
  have hga := cell_lt n0
  clear hn h g hb f f1 f2
  rw [congrArg Nd.op hst] at n0
  rw [congrArg Nd.b hst] at n2
  rw [congrArg Nd.lo hst] at n3
  rw [congrArg Nd.hi hst] at n4
  rw [congrArg Nd.set hst] at n5
  generalize (nd B.parts x).a = na at *
  clear hst
  go_enter Tryz.func99, Tryz.ntmps99
  go_wp2
  go_ret
  exact .same HB.out (BW.out _)
set_option maxRecDepth 100000 in
set_option maxHeartbeats 8000000 in
theorem rep_starF (h : BookAt w0 bb M B w) (g : Good B) {x : Nat} (hx : x < B.parts.length) {lo hi : Int} (hb : bareAt B x = false) (f : hi ≠ 0) (f1 : x ≠ 0) (f2 : x ≠ 1) (f3 : hi ≠ 1) (hst : nd B.parts x = ⟨5, (nd B.parts x).a, 0, 0, -1, 0⟩) :
    Calls Tryz.prog 99 #[.pointer (some ⟨bb, 0, none⟩), .int .i64 (x : Nat), .int .i64 lo, .int .i64 hi] w (OpAt w0 bb M w (B, x)) := by
  have g3 := in1 f3
  have fh := inz f
  have g1 := nz f1
  have g2 := Dv.n1 f2
  have HB := Lib.hid h
  have BW := Lib.hid (fun o => (Below.refl w.heap.size w).alloc (Nat.le_refl _) o)
  obtain ⟨pv, sv, bv, xs, h⟩ := h
  have c0 := h.cell0
  have c2 := h.cell2
  have hlt := h.lt
  obtain ⟨gb, cap, rfl, hl, hcx⟩ := h.bareAt g hx
  obtain ⟨ao, pcap, rfl, hl2, hn⟩ := (nodes_of_row h.parts).shape
  obtain ⟨ga, rfl, n0, n1, n2, n3, n4, n5⟩ := hn x hx
  rw [hb] at hcx
  have hgb := cell_lt hcx
  have hga := cell_lt n0
  clear hn h g hb f f1 f2
  rw [congrArg Nd.op hst] at n0
  rw [congrArg Nd.b hst] at n2
  rw [congrArg Nd.lo hst] at n3
  rw [congrArg Nd.hi hst] at n4
  rw [congrArg Nd.set hst] at n5
  generalize (nd B.parts x).a = na at *
  clear hst
  go_enter Tryz.func99, Tryz.ntmps99
  go_wp2
  go_ret
  exact .same HB.out (BW.out _)
set_option maxRecDepth 100000 in
set_option maxHeartbeats 8000000 in
theorem rep_starG (h : BookAt w0 bb M B w) (g : Good B) {x : Nat} (hx : x < B.parts.length) {lo hi : Int} (hb : bareAt B x = false) (f : hi ≠ 0) (f1 : x ≠ 0) (f2 : x ≠ 1) (f3 : hi = 1) (f4 : lo ≠ 1) (hst : nd B.parts x = ⟨5, (nd B.parts x).a, 0, 0, -1, 0⟩) :
    Calls Tryz.prog 99 #[.pointer (some ⟨bb, 0, none⟩), .int .i64 (x : Nat), .int .i64 lo, .int .i64 hi] w (OpAt w0 bb M w (B, x)) := by
  subst f3
  have g4 := in1 f4
  have fh := inz f
  have g1 := nz f1
  have g2 := Dv.n1 f2
  have HB := Lib.hid h
  have BW := Lib.hid (fun o => (Below.refl w.heap.size w).alloc (Nat.le_refl _) o)
  obtain ⟨pv, sv, bv, xs, h⟩ := h
  have c0 := h.cell0
  have c2 := h.cell2
  have hlt := h.lt
  obtain ⟨gb, cap, rfl, hl, hcx⟩ := h.bareAt g hx
  obtain ⟨ao, pcap, rfl, hl2, hn⟩ := (nodes_of_row h.parts).shape
  obtain ⟨ga, rfl, n0, n1, n2, n3, n4, n5⟩ := hn x hx
  rw [hb] at hcx
  have hgb := cell_lt hcx
  have hga := cell_lt n0
  clear hn h g hb f f1 f2
  rw [congrArg Nd.op hst] at n0
  rw [congrArg Nd.b hst] at n2
  rw [congrArg Nd.lo hst] at n3
  rw [congrArg Nd.hi hst] at n4
  rw [congrArg Nd.set hst] at n5
  generalize (nd B.parts x).a = na at *
  clear hst
  go_enter Tryz.func99, Tryz.ntmps99
  go_wp2
  go_ret
  exact .same HB.out (BW.out _)
end

end Go.Proofs.YtbkafoaoddajoaaGreatDoor.Dv

namespace Go.Proofs.YtbkafoaoddajoaaGreatDoor.Dv
open Go Go.RowKit Go.Shelf Go.Maps
open Go.Proofs.YtbkafoaoddajoaaGreatDoor.Ar (timesB Nd nd nodeB nodeB_ways NRow cellsN aggN flatN Book WfN Wf NodeAt nodes_of_row)
open Go.Proofs.YtbkafoaoddajoaaGreatDoor.Rg (R RngsAt RowsAt nthL add_zero own_next)

section
variable {w0 w : World} {bb M : Nat} {B : Bk}
set_option maxRecDepth 100000 in
set_option maxHeartbeats 8000000 in
theorem rep_numT (h : BookAt w0 bb M B w) (g : Good B) {x : Nat} (hx : x < B.parts.length) {lo hi : Int} (ht : timesB lo hi = true) (hb : bareAt B x = true) (f : hi ≠ 0) (f1 : x ≠ 0) (f2 : x ≠ 1) (f3 : hi ≠ 1) (hst : (nd B.parts x).op ≠ 5 ∨ (nd B.parts x).lo ≠ 0 ∨ (nd B.parts x).hi ≠ -1) :
    Calls Tryz.prog 99 #[.pointer (some ⟨bb, 0, none⟩), .int .i64 (x : Nat), .int .i64 lo, .int .i64 hi] w (OpAt w0 bb M w (number B (nRep x 0 hi) true)) := by
  have g3 := in1 f3
  have fh := inz f
  have g1 := nz f1
  have g2 := Dv.n1 f2
  have HB := Lib.hid h
  have HBB := Lib.hid (BookAt.lt h)
  have BW := Lib.hid (fun o => (Below.refl w.heap.size w).alloc (Nat.le_refl _) o)
  have hs := g.small
  rw [times_iff] at ht
  have cn := fun (W : World) (hW : Below w.heap.size w W) => number_any (nRep x 0 hi) true (show BookAt w0 bb M B W from by obtain ⟨_, _, _, _, hh⟩ := h; exact ⟨_, _, _, _, hh.next hW⟩) g (wfN_of (by simp [nRep]; omega))
  have CN := Lib.hid cn
  obtain ⟨pv, sv, bv, xs, h⟩ := h
  have c0 := h.cell0
  have c2 := h.cell2
  have hlt := h.lt
  obtain ⟨gb, cap, rfl, hl, hcx⟩ := h.bareAt g hx
  obtain ⟨ao, pcap, rfl, hl2, hn⟩ := (nodes_of_row h.parts).shape
  obtain ⟨ga, rfl, n0, n1, n2, n3, n4, n5⟩ := hn x hx
  rw [hb] at hcx
  have hgb := cell_lt hcx
  have hga := cell_lt n0
  clear hn h g hb cn f f1 f2 ht
  generalize nd B.parts x = n at *
  have NUM : ∀ W e w1, Below w.heap.size w W → OpAt w0 bb M W (number B (nRep x 0 hi) true) e w1 → OpAt w0 bb M w (number B (nRep x 0 hi) true) e w1 := fun W e w1 hW h => ⟨h.1, h.2.1, (Fz.of_below hW HBB.out).trans h.2.2⟩
  have NU := Lib.hid NUM
  generalize number B (nRep x 0 hi) true = R at *
  unfold nRep aggN at CN
  unfold OpAt at *
  clear NUM
  rcases hst with hst | hst | hst
  · have q := in5 hst
    clear hst
    go_enter Tryz.func99, Tryz.ntmps99
    go_wp2_with (go_at_call 46; (with_reducible refine (CN.out _ (BW.out _)).mono ?_); rintro e w1 ⟨rfl, h1⟩; go_must (have H1 := Lib.hid h1; clear h1))
    go_ret
    exact NU.out _ _ _ (BW.out _) ⟨rfl, H1.out⟩
  · have q := inz hst
    clear hst
    go_enter Tryz.func99, Tryz.ntmps99
    go_wp2_with (go_at_call 46; (with_reducible refine (CN.out _ (BW.out _)).mono ?_); rintro e w1 ⟨rfl, h1⟩; go_must (have H1 := Lib.hid h1; clear h1))
    go_ret
    exact NU.out _ _ _ (BW.out _) ⟨rfl, H1.out⟩
  · have q := inm hst
    clear hst
    go_enter Tryz.func99, Tryz.ntmps99
    go_wp2_with (go_at_call 46; (with_reducible refine (CN.out _ (BW.out _)).mono ?_); rintro e w1 ⟨rfl, h1⟩; go_must (have H1 := Lib.hid h1; clear h1))
    go_ret
    exact NU.out _ _ _ (BW.out _) ⟨rfl, H1.out⟩
set_option maxRecDepth 100000 in
set_option maxHeartbeats 8000000 in
theorem rep_numF (h : BookAt w0 bb M B w) (g : Good B) {x : Nat} (hx : x < B.parts.length) {lo hi : Int} (ht : timesB lo hi = true) (hb : bareAt B x = false) (f : hi ≠ 0) (f1 : x ≠ 0) (f2 : x ≠ 1) (f3 : hi ≠ 1) (hst : (nd B.parts x).op ≠ 5 ∨ (nd B.parts x).lo ≠ 0 ∨ (nd B.parts x).hi ≠ -1) :
    Calls Tryz.prog 99 #[.pointer (some ⟨bb, 0, none⟩), .int .i64 (x : Nat), .int .i64 lo, .int .i64 hi] w (OpAt w0 bb M w (number B (nRep x lo hi) (decide (lo = 0)))) := by
  have g3 := in1 f3
  have fh := inz f
  have g1 := nz f1
  have g2 := Dv.n1 f2
  have HB := Lib.hid h
  have HBB := Lib.hid (BookAt.lt h)
  have BW := Lib.hid (fun o => (Below.refl w.heap.size w).alloc (Nat.le_refl _) o)
  have hs := g.small
  rw [times_iff] at ht
  rw [show decide (lo = 0) = (lo == 0) by rw [Bool.eq_iff_iff]; simp]
  have cn := fun (W : World) (hW : Below w.heap.size w W) => number_any (nRep x lo hi) (lo == 0) (show BookAt w0 bb M B W from by obtain ⟨_, _, _, _, hh⟩ := h; exact ⟨_, _, _, _, hh.next hW⟩) g (wfN_of (by simp [nRep]; omega))
  have CN := Lib.hid cn
  obtain ⟨pv, sv, bv, xs, h⟩ := h
  have c0 := h.cell0
  have c2 := h.cell2
  have hlt := h.lt
  obtain ⟨gb, cap, rfl, hl, hcx⟩ := h.bareAt g hx
  obtain ⟨ao, pcap, rfl, hl2, hn⟩ := (nodes_of_row h.parts).shape
  obtain ⟨ga, rfl, n0, n1, n2, n3, n4, n5⟩ := hn x hx
  rw [hb] at hcx
  have hgb := cell_lt hcx
  have hga := cell_lt n0
  clear hn h g hb cn f f1 f2 ht
  generalize nd B.parts x = n at *
  have NUM : ∀ W e w1, Below w.heap.size w W → OpAt w0 bb M W (number B (nRep x lo hi) (lo == 0)) e w1 → OpAt w0 bb M w (number B (nRep x lo hi) (lo == 0)) e w1 := fun W e w1 hW h => ⟨h.1, h.2.1, (Fz.of_below hW HBB.out).trans h.2.2⟩
  have NU := Lib.hid NUM
  generalize number B (nRep x lo hi) (lo == 0) = R at *
  unfold nRep aggN at CN
  unfold OpAt at *
  clear NUM
  rcases hst with hst | hst | hst
  · have q := in5 hst
    clear hst
    go_enter Tryz.func99, Tryz.ntmps99
    go_wp2_with (go_at_call 46; (with_reducible refine (CN.out _ (BW.out _)).mono ?_); rintro e w1 ⟨rfl, h1⟩; go_must (have H1 := Lib.hid h1; clear h1))
    go_ret
    exact NU.out _ _ _ (BW.out _) ⟨rfl, H1.out⟩
  · have q := inz hst
    clear hst
    go_enter Tryz.func99, Tryz.ntmps99
    go_wp2_with (go_at_call 46; (with_reducible refine (CN.out _ (BW.out _)).mono ?_); rintro e w1 ⟨rfl, h1⟩; go_must (have H1 := Lib.hid h1; clear h1))
    go_ret
    exact NU.out _ _ _ (BW.out _) ⟨rfl, H1.out⟩
  · have q := inm hst
    clear hst
    go_enter Tryz.func99, Tryz.ntmps99
    go_wp2_with (go_at_call 46; (with_reducible refine (CN.out _ (BW.out _)).mono ?_); rintro e w1 ⟨rfl, h1⟩; go_must (have H1 := Lib.hid h1; clear h1))
    go_ret
    exact NU.out _ _ _ (BW.out _) ⟨rfl, H1.out⟩
set_option maxRecDepth 100000 in
set_option maxHeartbeats 8000000 in
theorem rep_numG (h : BookAt w0 bb M B w) (g : Good B) {x : Nat} (hx : x < B.parts.length) {lo hi : Int} (ht : timesB lo hi = true) (hb : bareAt B x = false) (f : hi ≠ 0) (f1 : x ≠ 0) (f2 : x ≠ 1) (f3 : hi = 1) (f4 : lo ≠ 1) (hst : (nd B.parts x).op ≠ 5 ∨ (nd B.parts x).lo ≠ 0 ∨ (nd B.parts x).hi ≠ -1) :
    Calls Tryz.prog 99 #[.pointer (some ⟨bb, 0, none⟩), .int .i64 (x : Nat), .int .i64 lo, .int .i64 hi] w (OpAt w0 bb M w (number B (nRep x lo hi) (decide (lo = 0)))) := by
  subst f3
  have g4 := in1 f4
  have fh := inz f
  have g1 := nz f1
  have g2 := Dv.n1 f2
  have HB := Lib.hid h
  have HBB := Lib.hid (BookAt.lt h)
  have BW := Lib.hid (fun o => (Below.refl w.heap.size w).alloc (Nat.le_refl _) o)
  have hs := g.small
  rw [times_iff] at ht
  rw [show decide (lo = 0) = (lo == 0) by rw [Bool.eq_iff_iff]; simp]
  have cn := fun (W : World) (hW : Below w.heap.size w W) => number_any (nRep x lo 1) (lo == 0) (show BookAt w0 bb M B W from by obtain ⟨_, _, _, _, hh⟩ := h; exact ⟨_, _, _, _, hh.next hW⟩) g (wfN_of (by simp [nRep]; omega))
  have CN := Lib.hid cn
  obtain ⟨pv, sv, bv, xs, h⟩ := h
  have c0 := h.cell0
  have c2 := h.cell2
  have hlt := h.lt
  obtain ⟨gb, cap, rfl, hl, hcx⟩ := h.bareAt g hx
  obtain ⟨ao, pcap, rfl, hl2, hn⟩ := (nodes_of_row h.parts).shape
  obtain ⟨ga, rfl, n0, n1, n2, n3, n4, n5⟩ := hn x hx
  rw [hb] at hcx
  have hgb := cell_lt hcx
  have hga := cell_lt n0
  clear hn h g hb cn f f1 f2 ht
  generalize nd B.parts x = n at *
  have NUM : ∀ W e w1, Below w.heap.size w W → OpAt w0 bb M W (number B (nRep x lo 1) (lo == 0)) e w1 → OpAt w0 bb M w (number B (nRep x lo 1) (lo == 0)) e w1 := fun W e w1 hW h => ⟨h.1, h.2.1, (Fz.of_below hW HBB.out).trans h.2.2⟩
  have NU := Lib.hid NUM
  generalize number B (nRep x lo 1) (lo == 0) = R at *
  unfold nRep aggN at CN
  unfold OpAt at *
  clear NUM
  rcases hst with hst | hst | hst
  · have q := in5 hst
    clear hst
    go_enter Tryz.func99, Tryz.ntmps99
    go_wp2_with (go_at_call 46; (with_reducible refine (CN.out _ (BW.out _)).mono ?_); rintro e w1 ⟨rfl, h1⟩; go_must (have H1 := Lib.hid h1; clear h1))
    go_ret
    exact NU.out _ _ _ (BW.out _) ⟨rfl, H1.out⟩
  · have q := inz hst
    clear hst
    go_enter Tryz.func99, Tryz.ntmps99
    go_wp2_with (go_at_call 46; (with_reducible refine (CN.out _ (BW.out _)).mono ?_); rintro e w1 ⟨rfl, h1⟩; go_must (have H1 := Lib.hid h1; clear h1))
    go_ret
    exact NU.out _ _ _ (BW.out _) ⟨rfl, H1.out⟩
  · have q := inm hst
    clear hst
    go_enter Tryz.func99, Tryz.ntmps99
    go_wp2_with (go_at_call 46; (with_reducible refine (CN.out _ (BW.out _)).mono ?_); rintro e w1 ⟨rfl, h1⟩; go_must (have H1 := Lib.hid h1; clear h1))
    go_ret
    exact NU.out _ _ _ (BW.out _) ⟨rfl, H1.out⟩
end

end Go.Proofs.YtbkafoaoddajoaaGreatDoor.Dv

namespace Go.Proofs.YtbkafoaoddajoaaGreatDoor.Dv
open Go Go.RowKit Go.Shelf Go.Maps
open Go.Proofs.YtbkafoaoddajoaaGreatDoor.Ar (timesB Nd nd nodeB nodeB_ways NRow cellsN aggN flatN Book WfN Wf NodeAt nodes_of_row node_new)
open Go.Proofs.YtbkafoaoddajoaaGreatDoor.Rg (R RngsAt RowsAt nthL add_zero own_next)

section
variable {w0 w : World} {bb M : Nat} {B : Bk}
theorem not_star {n : Nd} {i s : Int} (h : nodeB n i s = true) (hn : ¬ n = ⟨5, n.a, 0, 0, -1, 0⟩) : n.op ≠ 5 ∨ n.lo ≠ 0 ∨ n.hi ≠ -1 := by
  rcases nodeB_ways h with ⟨h1, h2⟩ | ⟨h1, h2⟩ | ⟨h1, h2⟩ | ⟨h1, h2⟩
  · exact .inl (by omega)
  · exact .inl (by omega)
  · exact .inl (by omega)
  · by_cases a : n.lo = 0
    · by_cases b : n.hi = -1
      · exact absurd ((Ar.Nd.eq_iff n ⟨5, n.a, 0, 0, -1, 0⟩).2 ⟨h1, rfl, h2.2.2.1, a, b, h2.2.2.2⟩) hn
      · exact .inr (.inr b)
    · exact .inr (.inl a)
theorem rep_any (h : BookAt w0 bb M B w) (g : Good B) {x : Nat} (hx : x < B.parts.length) {lo hi : Int} (ht : timesB lo hi = true) :
    Calls Tryz.prog 99 #[.pointer (some ⟨bb, 0, none⟩), .int .i64 (x : Nat), .int .i64 lo, .int .i64 hi] w (OpAt w0 bb M w (repF B x lo hi)) := by
  have hnode := g.node x hx
  unfold repF
  cases hb : bareAt B x
  · rw [if_neg (by simp)]
    unfold repG
    rw [hb]
    by_cases e : hi = 0
    · rw [if_pos (.inl e)]; exact rep_hi0F h g hx hb e
    · by_cases e0 : x = 0
      · by_cases el : lo = 0
        · rw [if_pos (.inr ⟨e0, el⟩)]; exact rep_00F h g hx hb e e0 el
        · rw [if_neg (by omega), if_pos (.inl e0)]; exact rep_0F h g hx hb e e0 el
      · rw [if_neg (by omega)]
        by_cases e1 : x = 1
        · rw [if_pos (.inr e1)]; exact rep_1F h g hx hb e e1
        · rw [if_neg (by omega)]
          by_cases eh : hi = 1
          · by_cases el : lo = 1
            · rw [if_pos ⟨eh, .inl el⟩]; exact rep_h1F h g hx hb eh e0 e1 el
            · rw [if_neg (by simp [el])]
              by_cases hst : nd B.parts x = ⟨5, (nd B.parts x).a, 0, 0, -1, 0⟩
              · rw [if_pos hst]; exact rep_starG h g hx hb e e0 e1 eh el hst
              · rw [if_neg hst]; exact rep_numG h g hx ht hb e e0 e1 eh el (not_star hnode hst)
          · rw [if_neg (by omega)]
            by_cases hst : nd B.parts x = ⟨5, (nd B.parts x).a, 0, 0, -1, 0⟩
            · rw [if_pos hst]; exact rep_starF h g hx hb e e0 e1 eh hst
            · rw [if_neg hst]; exact rep_numF h g hx ht hb e e0 e1 eh (not_star hnode hst)
  · have e0 : x ≠ 0 := by
      rintro rfl
      have := (g.bare 0 hx).1 hb
      rw [g.den0] at this
      exact this
    rw [if_pos rfl]
    unfold repG
    rw [hb]
    by_cases e : hi = 0
    · rw [if_pos (.inl e)]; exact rep_hi0T h g hx hb e
    · rw [if_neg (by omega)]
      by_cases e1 : x = 1
      · rw [if_pos (.inr e1)]; exact rep_1T h g hx hb e e1
      · rw [if_neg (by omega)]
        by_cases eh : hi = 1
        · rw [if_pos ⟨eh, .inr rfl⟩]; exact rep_h1T h g hx hb eh e0 e1
        · rw [if_neg (by omega)]
          by_cases hst : nd B.parts x = ⟨5, (nd B.parts x).a, 0, 0, -1, 0⟩
          · rw [if_pos hst]; exact rep_starT h g hx hb e e0 e1 eh hst
          · rw [if_neg hst]; exact rep_numT h g hx ht hb e e0 e1 eh (not_star hnode hst)

set_option maxRecDepth 100000 in
set_option maxHeartbeats 4000000 in
theorem fewer_any (h : BookAt w0 bb M B w) (g : Good B) {n : Nd} (ha : 0 ≤ n.a) (hx : n.a.toNat < B.parts.length) (ht : timesB n.lo n.hi = true) (h0 : n.hi ≠ 0) :
    Calls Tryz.prog 81 #[.pointer (some ⟨bb, 0, none⟩), aggN n] w (OpAt w0 bb M w (fewerF B n)) := by
  have BW := Lib.hid (fun o => (Below.refl w.heap.size w).alloc (Nat.le_refl _) o)
  have HBB := Lib.hid (BookAt.lt h)
  have cr := fun (W : World) (hW : Below w.heap.size w W) => rep_any (show BookAt w0 bb M B W from by obtain ⟨_, _, _, _, hh⟩ := h; exact ⟨_, _, _, _, hh.next hW⟩) g hx (fewer_times ht h0)
  have hs := g.small
  rw [times_iff] at ht
  unfold fewerF
  obtain ⟨op, a, b, lo, hi, set⟩ := n
  dsimp only at *
  obtain ⟨x, rfl⟩ := Int.eq_ofNat_of_zero_le ha
  rw [Int.toNat_natCast] at *
  have NU := Lib.hid (fun W e w1 (hW : Below w.heap.size w W) (h : e = .returned (.int .i64 ((repF B x (max (lo - 1) 0) (max (hi - 1) (-1))).2 : Nat)) ∧ BookAt w0 bb M (repF B x (max (lo - 1) 0) (max (hi - 1) (-1))).1 w1 ∧ Fz bb M W w1) => show OpAt w0 bb M w (repF B x (max (lo - 1) 0) (max (hi - 1) (-1))) e w1 from ⟨h.1, h.2.1, (Fz.of_below hW HBB.out).trans h.2.2⟩)
  have CR := Lib.hid cr
  unfold OpAt at CR NU
  generalize hR : repF B x (max (lo - 1) 0) (max (hi - 1) (-1)) = R at *
  unfold OpAt
  obtain ⟨L, hL⟩ : ∃ L, L = max (lo - 1) 0 := ⟨_, rfl⟩
  obtain ⟨H, hH⟩ : ∃ H, H = max (hi - 1) (-1) := ⟨_, rfl⟩
  rw [← hL, ← hH] at CR
  clear cr hR h g ha h0
  unfold aggN
  rcases (show lo = 0 ∨ 1 ≤ lo by omega) with rfl | l1
  · obtain rfl : L = 0 := by omega
    clear hL
    rcases (show hi = -1 ∨ 0 ≤ hi by omega) with rfl | k1
    · obtain rfl : H = -1 := by omega
      clear hH ht
      go_enter Tryz.func81, Tryz.ntmps81
      go_wp2_with (go_at_call 99; (with_reducible refine (CR.out _ (BW.out _)).mono ?_); rintro e w1 ⟨rfl, h1⟩; go_must (have H1 := Lib.hid h1; clear h1))
      go_ret
      exact NU.out _ _ _ (BW.out _) ⟨rfl, H1.out⟩
    · obtain rfl : H = hi - 1 := by omega
      have q : ¬ (hi - 1 < -1) := by omega
      have q2 : hi ≤ 255 := by omega
      clear hH ht
      go_enter Tryz.func81, Tryz.ntmps81
      go_wp2_with (go_at_call 99; (with_reducible refine (CR.out _ (BW.out _)).mono ?_); rintro e w1 ⟨rfl, h1⟩; go_must (have H1 := Lib.hid h1; clear h1))
      go_ret
      exact NU.out _ _ _ (BW.out _) ⟨rfl, H1.out⟩
  · obtain rfl : L = lo - 1 := by omega
    have r : ¬ (lo - 1 < 0) := by omega
    have r2 : lo ≤ 255 := by omega
    clear hL
    rcases (show hi = -1 ∨ 0 ≤ hi by omega) with rfl | k1
    · obtain rfl : H = -1 := by omega
      clear hH ht
      go_enter Tryz.func81, Tryz.ntmps81
      go_wp2_with (go_at_call 99; (with_reducible refine (CR.out _ (BW.out _)).mono ?_); rintro e w1 ⟨rfl, h1⟩; go_must (have H1 := Lib.hid h1; clear h1))
      go_ret
      exact NU.out _ _ _ (BW.out _) ⟨rfl, H1.out⟩
    · obtain rfl : H = hi - 1 := by omega
      have q : ¬ (hi - 1 < -1) := by omega
      have q2 : hi ≤ 255 := by omega
      clear hH ht
      go_enter Tryz.func81, Tryz.ntmps81
      go_wp2_with (go_at_call 99; (with_reducible refine (CR.out _ (BW.out _)).mono ?_); rintro e w1 ⟨rfl, h1⟩; go_must (have H1 := Lib.hid h1; clear h1))
      go_ret
      exact NU.out _ _ _ (BW.out _) ⟨rfl, H1.out⟩
end

end Go.Proofs.YtbkafoaoddajoaaGreatDoor.Dv

namespace Go.Proofs.YtbkafoaoddajoaaGreatDoor.Dv
open Go Go.RowKit Go.Shelf Go.Maps
open Go.Proofs.YtbkafoaoddajoaaGreatDoor.Ar (Nd nd nodeB NRow cellsN aggN flatN Book WfN Wf)
open Go.Proofs.YtbkafoaoddajoaaGreatDoor.Rg (R RngsAt RowsAt nthL add_zero own_next)

theorem lawS : Keyed Tryz.prog 100 := Keyed.of_law (deep_law_laid laidOut (m := 2) (by omega) (of_decide_eq_true (by kernel_rfl)) (by kernel_rfl) (by rw [Tryz.underlying100]))
theorem ktS : Tryz.prog.keyType 100 = true := by kernel_rfl
theorem kcS : Tryz.prog.cellsOf 100 = 2 := by kernel_rfl
abbrev Sp := Nat × Nat
def aggS (s : Sp) : Value := .agg #[.int .i64 (s.1 : Nat), .int .i64 (s.2 : Nat)]
def cellsS (s : Sp) : List Value := [.int .i64 (s.1 : Nat), .int .i64 (s.2 : Nat)]
def flatS (l : List Sp) : List Value := l.flatMap cellsS
theorem flatS_snoc (l : List Sp) (s : Sp) : flatS (l ++ [s]) = flatS l ++ cellsS s := by simp [flatS]
theorem flatS_len : ∀ l : List Sp, (flatS l).length = l.length * 2
  | [] => rfl
  | p :: r => by
    have := flatS_len r
    simp only [flatS, List.flatMap_cons, List.length_append, List.length_cons, List.length_nil, cellsS] at this ⊢
    omega
theorem flatS_at : ∀ (l : List Sp) (i : Nat), i < l.length → (flatS l)[i * 2]? = some (.int .i64 ((l.getD i (0, 0)).1 : Nat)) ∧ (flatS l)[i * 2 + 1]? = some (.int .i64 ((l.getD i (0, 0)).2 : Nat))
  | [], i, h => by simp at h
  | p :: r, 0, h => by simp [flatS, cellsS]
  | p :: r, i + 1, h => by
    have := flatS_at r i (by simpa using h)
    rw [show (i + 1) * 2 = (i * 2) + 1 + 1 by omega]
    simpa [flatS, cellsS] using this
/-- numbers of parts -/
structure WfS (s : Sp) : Prop where
  fst : s.1 < 1000000
  snd : s.2 < 1000000
def ks (s : Sp) : Lit := .string (keyBytes [.int .i64 (s.1 : Nat), .int .i64 (s.2 : Nat)])
theorem key_mkS {s : Sp} (h : WfS s) : keyOf Tryz.prog 100 (aggS s) = some (ks s) := by
  have h1 : (aggS s).formed Tryz.prog 100 = true := by simp [aggS, Value.formed, Tryz.underlying100, kcS]
  obtain ⟨m, hm⟩ := Ar.ktypesN
  have h0 : Wf (s.1 : Nat) := WalkArith.wf_i64 (by have := h.fst; omega)
  have h3 : Wf (s.2 : Nat) := WalkArith.wf_i64 (by have := h.snd; omega)
  have h2 : Tryz.prog.keyLits (m + 1 + 1) 100 (cellsS s) = some [.int .i64 (s.1 : Nat), .int .i64 (s.2 : Nat)] := by
    simp [Program.keyLits, Tryz.underlying100, Tryz.underlying3, Ar.kcI, kcS, cellsS, h0, h3]
  unfold keyOf
  rw [Tryz.underlying100]
  simp only [ktS, hm, h1, Bool.and_self, if_true]
  show Option.map _ (Tryz.prog.keyLits (m + 1 + 1) 100 (cellsS s)) = _
  rw [h2]; rfl
theorem ks_inj {a b : Sp} (ha : WfS a) (hb : WfS b) (h : ks a = ks b) : a = b := by
  have h1 := lawS.inj (key_mkS ha) (h ▸ key_mkS hb)
  simp only [aggS, Value.agg.injEq] at h1
  obtain ⟨a1, a2⟩ := a
  obtain ⟨b1, b2⟩ := b
  simp at h1
  simp only [Prod.mk.injEq]
  omega

/-- a set in which these spots are -/
structure Spots (Mw : Nat) (l : List Sp) (w : World) : Prop where
  wf : ∀ s, s ∈ l → WfS s
  map : ∃ D : DataW Unit, w.ownsMap Tryz.prog 100 (unitElem (H := Unit)) Mw l.length D ∧ (∀ s, WfS s → (Maps.has D (ks s) = true ↔ s ∈ l)) ∧ Maps.size D = l.length
theorem spots_new (w : World) : Spots w.heap.size [] (w.alloc (.map #[] 0)) :=
  ⟨fun s h => (by cases h), .map [], World.ownsMap_made _ _ _ _, fun s _ => by simp [Maps.has], rfl⟩
theorem Spots.lt {Mw : Nat} {l : List Sp} {w : World} (h : Spots Mw l w) : Mw < w.heap.size := by
  obtain ⟨D, h1, _⟩ := h.map
  exact h1.lt
theorem Spots.kg {Mw : Nat} {l : List Sp} {w w' : World} {N0 : Nat} {U : Nat → Prop} {T : TypeId → Prop} (h : Spots Mw l w) (k : Kg N0 U T w w') (hU : ¬ U Mw) : Spots Mw l w' := by
  obtain ⟨D, h1, h2⟩ := h.map
  exact ⟨h.wf, D, k.map h1 hU, h2⟩
theorem spots_put {Mw : Nat} {l : List Sp} {w3 : World} {D : DataW Unit} {s : Sp} (hwf : ∀ s, s ∈ l → WfS s) (hs : WfS s) (hT : Tidy D) (hh : Maps.has D (ks s) = false)
    (hhas : ∀ s, WfS s → (Maps.has D (ks s) = true ↔ s ∈ l)) (hsize : Maps.size D = l.length)
    (hown : w3.ownsMap Tryz.prog 100 (unitElem (H := Unit)) Mw (l.length + 1) (D.put (ks s) (.agg []))) : Spots Mw (l ++ [s]) w3 := by
  have hK : WideAt.IsKeyLit (ks s) := lawS.key (key_mkS hs)
  refine ⟨fun a ha => ?_, _, by rw [List.length_append]; exact hown, fun a ha => ?_, by rw [size_put hT, hh, hsize]; simp⟩
  · rcases List.mem_append.1 ha with h | h
    · exact hwf a h
    · simp at h; subst h; exact hs
  · by_cases e : a = s
    · subst e
      rw [has_put_same hT.isMap hK]; simp
    · rw [has_put_other (fun h => e (ks_inj ha hs h)), hhas a ha]; simp [e]
theorem look_spot {Mw : Nat} {l : List Sp} {w : World} (h : Spots Mw l w) {s : Sp} (hs : WfS s) :
    (Instr.lookup 94 (.map (some Mw)) (aggS s) true).run Tryz.prog w = .ok (.tuple #[.agg #[], .bool (decide (s ∈ l))]) w := by
  obtain ⟨D, hown, hhas, hsize⟩ := h.map
  obtain ⟨v, ps, h1, h2⟩ := hown.look_ok lawS Tryz.underlying94 (show (zeroValue 115).run Tryz.prog w = .ok (.agg #[]) w by kernel_rfl) (zd := .agg []) (zp := []) unitElem_mk (key_mkS hs)
  obtain ⟨rfl, _⟩ := unitElem_inv h2
  rw [h1]
  have : Maps.has D (ks s) = decide (s ∈ l) := by rw [Bool.eq_iff_iff, hhas s hs]; simp
  rw [this]

/-- a walk: its box, its book, its spots, what is left -/
structure WkAt (w0 : World) (bb M wb Mw : Nat) (c : Int) (W : Wk) (wv lv : Value) (w : World) : Prop where
  book : BookAt w0 bb M W.b w
  base : w0.heap.size ≤ wb
  baseM : w0.heap.size ≤ Mw
  ne : Mw ≠ M
  box : w.heap[wb]? = some (.cells #[.pointer (some ⟨bb, 0, none⟩), .int .i64 c, .map (some Mw), wv, lv] 97 (0, 0))
  wait : w.ownsRow w0.heap.size 100 2 wv W.wait.length (flatS W.wait)
  left : w.ownsRow w0.heap.size 3 1 lv W.left.length ((castL W.left).map (Value.int .i64))
  met : Spots Mw W.met w
def WAt (w0 : World) (bb M wb Mw : Nat) (c : Int) (W : Wk) (w : World) : Prop := ∃ wv lv, WkAt w0 bb M wb Mw c W wv lv w
def Um (bb wb Mw : Nat) : Nat → Prop := fun k => k = bb ∨ k = wb ∨ k = Mw
abbrev Km (w0 : World) (bb wb Mw : Nat) (w w' : World) : Prop := Kg w0.heap.size (Um bb wb Mw) (fun t => t = 100) w w'
def Uw (bb M wb Mw : Nat) : Nat → Prop := fun k => k = bb ∨ k = M ∨ k = wb ∨ k = Mw
def Tw (t : TypeId) : Prop := Tb t ∨ t = 100 ∨ t = 3
abbrev Kw (w0 : World) (bb M wb Mw : Nat) (w w' : World) : Prop := Kg w0.heap.size (Uw bb M wb Mw) Tw w w'
section
variable {w0 w w' : World} {bb M wb Mw : Nat} {c : Int} {W : Wk} {wv lv : Value}
theorem Km.kw (h : Km w0 bb wb Mw w w') : Kw w0 bb M wb Mw w w' := h.mono (fun _ _ h => h.elim .inl (fun h => h.elim (fun h => .inr (.inr (.inl h))) (fun h => .inr (.inr (.inr h))))) (fun _ h => .inr (.inl h))
theorem Kb.kw (h : Kb w0 bb M w w') : Kw w0 bb M wb Mw w w' := h.mono (fun _ _ h => h.elim .inl (fun h => .inr (.inl h))) (fun _ h => .inl h)
theorem WkAt.lt (h : WkAt w0 bb M wb Mw c W wv lv w) : wb < w.heap.size := (Array.getElem?_eq_some_iff.1 h.box).1
theorem WkAt.cell0 (h : WkAt w0 bb M wb Mw c W wv lv w) : w.cell? ⟨wb, 0, none⟩ = some (.pointer (some ⟨bb, 0, none⟩)) := by simp [World.cell?, h.box]
theorem WkAt.cell1 (h : WkAt w0 bb M wb Mw c W wv lv w) : w.cell? ⟨wb, 1, none⟩ = some (.int .i64 c) := by simp [World.cell?, h.box]
theorem WkAt.cell2 (h : WkAt w0 bb M wb Mw c W wv lv w) : w.cell? ⟨wb, 2, none⟩ = some (.map (some Mw)) := by simp [World.cell?, h.box]
theorem WkAt.cell3 (h : WkAt w0 bb M wb Mw c W wv lv w) : w.cell? ⟨wb, 3, none⟩ = some wv := by simp [World.cell?, h.box]
theorem WkAt.cell4 (h : WkAt w0 bb M wb Mw c W wv lv w) : w.cell? ⟨wb, 4, none⟩ = some lv := by simp [World.cell?, h.box]
theorem BookAt.next (h : BookAt w0 bb M W.b w) (hb : Below w.heap.size w w') : BookAt w0 bb M W.b w' := by
  obtain ⟨_, _, _, _, h⟩ := h
  exact ⟨_, _, _, _, h.next hb⟩
theorem WkAt.next (h : WkAt w0 bb M wb Mw c W wv lv w) (hb : Below w.heap.size w w') : WkAt w0 bb M wb Mw c W wv lv w' :=
  ⟨h.book.next hb, h.base, h.baseM, h.ne, (hb.block _ h.lt).trans h.box, own_next h.wait hb, own_next h.left hb, h.met.kg (Kg.of_below hb : Kg 0 (fun _ => False) (fun _ => False) w w') id⟩
theorem WkAt.bne (h : WkAt w0 bb M wb Mw c W wv lv w) : wb ≠ bb := by
  obtain ⟨_, _, _, _, hb⟩ := h.book
  rintro rfl
  have := h.box
  rw [hb.box] at this
  simp at this
theorem WkAt.bneM (h : WkAt w0 bb M wb Mw c W wv lv w) : wb ≠ M := by
  obtain ⟨_, _, _, _, hb⟩ := h.book
  obtain ⟨D, h1, _⟩ := hb.map.map
  obtain ⟨es, clock, hh, _⟩ := h1
  rintro rfl
  rw [h.box] at hh; cases hh
theorem WkAt.bneMw (h : WkAt w0 bb M wb Mw c W wv lv w) : wb ≠ Mw := by
  obtain ⟨D, h1, _⟩ := h.met.map
  obtain ⟨es, clock, hh, _⟩ := h1
  rintro rfl
  rw [h.box] at hh; cases hh
theorem WkAt.bbMw (h : WkAt w0 bb M wb Mw c W wv lv w) : bb ≠ Mw := by
  obtain ⟨_, _, _, _, hb⟩ := h.book
  obtain ⟨D, h1, _⟩ := h.met.map
  obtain ⟨es, clock, hh, _⟩ := h1
  rintro rfl
  rw [hb.box] at hh; cases hh
theorem WkAt.ne_row (h : WkAt w0 bb M wb Mw c W wv lv w) {e : TypeId} {s n N : Nat} {v : Value} {ys : List Value} (hr : w.ownsRow N e s v n ys) (he : e ≠ 97) : v.ownBlock ≠ some wb := fun hg => by
  obtain ⟨_, cs, hh⟩ := row_block hr hg
  rw [h.box] at hh
  simp only [Option.some.injEq, Obj.cells.injEq] at hh
  exact he hh.2.1.symm
theorem WkAt.since (h : WkAt w0 bb M wb Mw c W wv lv w) : Below w0.heap.size w0 w := by
  obtain ⟨_, _, _, _, hb⟩ := h.book
  exact hb.below
/-- what is done to the book keeps the rest of a walk -/
theorem WkAt.kb (h : WkAt w0 bb M wb Mw c W wv lv w) {B : Bk} (hb : BookAt w0 bb M B w') (k : Kb w0 bb M w w') : WkAt w0 bb M wb Mw c { W with b := B } wv lv w' :=
  ⟨hb, h.base, h.baseM, h.ne, k.heap h.box (fun e => e.elim h.bne h.bneM) (fun cs t fz e => by cases e; rintro (h | h | h) <;> exact absurd h (by decide)),
    k.own h.wait (by rintro (h | h | h) <;> exact absurd h (by decide)) (fun g hg e => by
      obtain ⟨_, _, _, _, hb0⟩ := h.book
      obtain ⟨D, h1, _⟩ := hb0.map.map
      exact e.elim (fun e => hb0.ne_row h.wait (by decide) (e ▸ hg)) (fun e => map_ne_row h1 h.wait (e ▸ hg))),
    k.own h.left (by rintro (h | h | h) <;> exact absurd h (by decide)) (fun g hg e => by
      obtain ⟨_, _, _, _, hb0⟩ := h.book
      obtain ⟨D, h1, _⟩ := hb0.map.map
      exact e.elim (fun e => hb0.ne_row h.left (by decide) (e ▸ hg)) (fun e => map_ne_row h1 h.left (e ▸ hg))),
    h.met.kg k (fun e => e.elim (fun e => h.bbMw e.symm) h.ne)⟩
end

end Go.Proofs.YtbkafoaoddajoaaGreatDoor.Dv

namespace Go.Proofs.YtbkafoaoddajoaaGreatDoor.Dv
open Go Go.RowKit Go.Shelf Go.Maps
open Go.Proofs.YtbkafoaoddajoaaGreatDoor.Ar (Nd nd nodeB NRow cellsN aggN flatN Book WfN Wf)
open Go.Proofs.YtbkafoaoddajoaaGreatDoor.Rg (R RngsAt RowsAt nthL add_zero own_next)

theorem infoSp : (Tryz.prog.info? 100).map (fun i => (i.zero, i.size, i.bytes)) = some (some (.agg #[.int .i64 0, .int .i64 0]), 2, 16) := by kernel_rfl

theorem below_drew {n : Nat} (w : World) : Below n w w.drew := ⟨rfl, rfl, rfl, Nat.le_refl _, fun _ _ => rfl⟩
/-- what a walk's method tells -/
def WOut (w0 : World) (bb M wb Mw : Nat) (c : Int) (V : Wk) (K : World → World → Prop) (w : World) (e : Ending) (w' : World) : Prop := e = .returned (.tuple #[]) ∧ WAt w0 bb M wb Mw c V w' ∧ K w w'
section
variable {w0 w : World} {bb M wb Mw : Nat} {c : Int} {W : Wk}

set_option maxRecDepth 100000 in
set_option maxHeartbeats 4000000 in
theorem meet_old (h : WAt w0 bb M wb Mw c W w) {p q : Nat} (hs : WfS (p, q)) (hm : (p, q) ∈ W.met) :
    Calls Tryz.prog 55 #[.pointer (some ⟨wb, 0, none⟩), .int .i64 (p : Nat), .int .i64 (q : Nat)] w (WOut w0 bb M wb Mw c W (Km w0 bb wb Mw) w) := by
  obtain ⟨wv, lv, h⟩ := h
  have HB := Lib.hid h
  have c2 := h.cell2
  have hlt := h.lt
  have BW := Lib.hid (fun o => (Below.refl w.heap.size w).alloc (Nat.le_refl _) o)
  have hbd : Below w.heap.size w (w.alloc (.cells #[.int .i64 (p : Nat), .int .i64 (q : Nat)] 100)).drew := (BW.out _).trans ((Rg.below_drewN _ 1).mono (by simp))
  have hbe : Below w.heap.size w ((w.alloc (.cells #[.int .i64 (p : Nat), .int .i64 (q : Nat)] 100)).alloc (.cells #[] 115)).drew := (BW.out _).trans ((((Below.refl _ _).alloc (Nat.le_refl _) _).trans ((Rg.below_drewN _ 1).mono (by simp))).mono (by simp))
  have HBD := Lib.hid hbd
  have HBE := Lib.hid hbe
  have hL := look_spot ((h.next hbd).met) hs
  have hL2 := look_spot ((h.next hbe).met) hs
  rw [decide_eq_true hm] at hL hL2
  unfold aggS at hL hL2
  dsimp only at hL hL2
  clear h hm hs hbd hbe
  go_enter Tryz.func55, Tryz.ntmps55
  go_wp2
  go_region_held3 (fun X => X.cell? ⟨wb, 2, none⟩ = some (.map (some Mw)) ∧ X.cell? ⟨w.heap.size, 0, none⟩ = some (.int .i64 (p : Nat)) ∧ X.cell? ⟨w.heap.size, 1, none⟩ = some (.int .i64 (q : Nat))) (first | exact ⟨by assumption, by assumption, by assumption⟩ | go_keep)
    (first | fail)
  all_goals (
    go_wp2
    go_end0
    exact ⟨rfl, ⟨wv, lv, HB.out.next HBE.out⟩, Kg.of_below HBE.out⟩)

theorem book_full {w0 w : World} {bb M : Nat} {B : Bk} (h : BookAt w0 bb M B w) :
    (w.cell? ⟨bb, 4, none⟩ = some (.bool B.full) ∧ w.frozen? ⟨bb, 4, none⟩ = false) ∧ BookAt w0 bb M { B with full := true } (w.setCell ⟨bb, 4, none⟩ (.bool true)) ∧ Kg w0.heap.size (fun k => k = bb) (fun _ => False) w (w.setCell ⟨bb, 4, none⟩ (.bool true)) := by
  obtain ⟨pv, sv, bv, xs, hW⟩ := h
  have ks : Kg w0.heap.size (fun k => k = bb) (fun _ => False) w (w.setCell ⟨bb, 4, none⟩ (.bool true)) := Kg.of_set hW.base rfl
  refine ⟨⟨hW.cell4, frozen_of_row w bb 4 _ _ hW.box⟩, ⟨_, sv, bv, xs, ks.since hW.below rfl, hW.base, hW.baseM, ?_, ks.own hW.parts id (fun g hg e => hW.ne_row hW.parts (by decide) (e ▸ hg)), ks.own hW.sets id (fun g hg e => hW.ne_row hW.sets (by decide) (e ▸ hg)), hW.row, ks.own hW.bare id (fun g hg e => hW.ne_row hW.bare (by decide) (e ▸ hg)), hW.map.nodup, hW.map.wf, ?_⟩, ks⟩
  · have := heap_setCell_same w bb 4 _ 58 (.bool true) hW.box
    simpa using this
  · obtain ⟨D, h1, h2⟩ := hW.map.map
    exact ⟨D, ks.map h1 (fun e => hW.ne e.symm), h2⟩
theorem wk_full (h : WAt w0 bb M wb Mw c W w) : WAt w0 bb M wb Mw c { W with b := { W.b with full := true } } (w.setCell ⟨bb, 4, none⟩ (.bool true)) ∧ Km w0 bb wb Mw w (w.setCell ⟨bb, 4, none⟩ (.bool true)) := by
  obtain ⟨wv, lv, h⟩ := h
  obtain ⟨_, h1, h2⟩ := book_full h.book
  exact ⟨⟨wv, lv, h.kb h1 (h2.mono (fun _ _ h => .inl h) (fun _ h => h.elim))⟩, h2.mono (fun _ _ h => .inl h) (fun _ h => h.elim)⟩

set_option maxRecDepth 100000 in
set_option maxHeartbeats 4000000 in
theorem meet_full (h : WAt w0 bb M wb Mw c W w) {p q : Nat} (hs : WfS (p, q)) (hm : (p, q) ∉ W.met) (hl : W.met.length = 12288) :
    Calls Tryz.prog 55 #[.pointer (some ⟨wb, 0, none⟩), .int .i64 (p : Nat), .int .i64 (q : Nat)] w (WOut w0 bb M wb Mw c { W with b := { W.b with full := true } } (Km w0 bb wb Mw) w) := by
  have HW := Lib.hid h
  obtain ⟨wv, lv, h⟩ := h
  have HB := Lib.hid h
  have c2 := h.cell2
  have c0 := h.cell0
  have hlt := h.lt
  have BW := Lib.hid (fun o => (Below.refl w.heap.size w).alloc (Nat.le_refl _) o)
  have hbd : Below w.heap.size w (w.alloc (.cells #[.int .i64 (p : Nat), .int .i64 (q : Nat)] 100)).drew := (BW.out _).trans ((Rg.below_drewN _ 1).mono (by simp))
  have hbe : Below w.heap.size w ((w.alloc (.cells #[.int .i64 (p : Nat), .int .i64 (q : Nat)] 100)).alloc (.cells #[] 115)).drew := (BW.out _).trans ((((Below.refl _ _).alloc (Nat.le_refl _) _).trans ((Rg.below_drewN _ 1).mono (by simp))).mono (by simp))
  have HBE := Lib.hid hbe
  have hL := look_spot ((h.next hbd).met) hs
  have hL2 := look_spot ((h.next hbe).met) hs
  rw [decide_eq_false hm] at hL hL2
  unfold aggS at hL hL2
  dsimp only at hL hL2
  obtain ⟨D, hown, _, hsize⟩ := (h.next hbe).met.map
  have F := Lib.hid (wk_full ⟨wv, lv, h.next hbe⟩)
  have d0 := (h.next hbe).cell0
  have d2 := (h.next hbe).cell2
  obtain ⟨⟨c4, fz⟩, _⟩ := book_full (h.next hbe).book
  rw [hl] at hown hsize
  have hbb : bb < w.heap.size := by
    obtain ⟨_, _, _, _, hb⟩ := h.book
    exact hb.lt
  clear h hm hs hbd hbe hl
  go_enter Tryz.func55, Tryz.ntmps55
  go_wp2
  go_region_held3 (fun X => X.cell? ⟨wb, 2, none⟩ = some (.map (some Mw)) ∧ X.cell? ⟨w.heap.size, 0, none⟩ = some (.int .i64 (p : Nat)) ∧ X.cell? ⟨w.heap.size, 1, none⟩ = some (.int .i64 (q : Nat))) (first | exact ⟨by assumption, by assumption, by assumption⟩ | go_keep)
    (first | fail)
  all_goals (
    generalize ((w.alloc (.cells #[.int .i64 (p : Nat), .int .i64 (q : Nat)] 100)).alloc (.cells #[] 115)).drew = X1 at *
    clear hL hL2
    go_wp2_with (at_len; refine wpList_len_own _ rfl _ 94 rfl 100 115 Tryz.underlying94 _ Mw 12288 D rfl hown ?_; rw [hsize])
    go_end0
    exact ⟨rfl, F.out.1, (Kg.of_below HBE.out).trans F.out.2⟩)

/-- a spot is in the set, and then among those that wait -/
theorem wk_new {X Y Z : World} {wv lv : Value} {s : Sp} {g cap : Nat} (h : WkAt w0 bb M wb Mw c W wv lv X) (hY : Spots Mw (W.met ++ [s]) Y) (k : Kg w0.heap.size (fun k => k = Mw) (fun _ => False) X Y) {Y' : World} (hb : Below Y.heap.size Y Y')
    (hown : Z.ownsRow w0.heap.size 100 2 (.slice (some ⟨g, 0, none⟩) (W.wait.length + 1) cap) (W.wait.length + 1) (flatS W.wait ++ cellsS s)) (hg : Y'.grownBy Z wv.ownBlock) :
    (Z.cell? ⟨wb, 3, none⟩ = some wv ∧ Z.frozen? ⟨wb, 3, none⟩ = false) ∧
    WAt w0 bb M wb Mw c { W with met := W.met ++ [s], wait := W.wait ++ [s] } (Z.setCell ⟨wb, 3, none⟩ (.slice (some ⟨g, 0, none⟩) (W.wait.length + 1) cap)) ∧
    Km w0 bb wb Mw X (Z.setCell ⟨wb, 3, none⟩ (.slice (some ⟨g, 0, none⟩) (W.wait.length + 1) cap)) := by
  obtain ⟨pv, sv, bv, xs, hbk⟩ := h.book
  have kY : Kg w0.heap.size (fun k => k = Mw) (fun _ => False) X Y' := k.trans (Kg.of_below hb)
  have hM := hbk.ne
  have hrow : ∀ {e : TypeId} {s m : Nat} {v : Value} {ys : List Value}, X.ownsRow w0.heap.size e s v m ys → ∀ g, v.ownBlock = some g → ¬ g = Mw := fun hr g hv e => by
    obtain ⟨D, h1, _⟩ := h.met.map
    exact map_ne_row h1 hr (e ▸ hv)
  have bookY : BkAt w0 bb M W.b pv sv bv xs Y' := hbk.keep kY rfl (fun e => h.bbMw e) (fun e => h.ne e.symm) (fun _ _ => id) (fun g hg => by
    rcases hg with hg | hg | hg
    · exact hrow hbk.parts g hg
    · exact hrow hbk.sets g hg
    · exact hrow hbk.bare g hg)
  have waitY := kY.own h.wait id (hrow h.wait)
  have leftY := kY.own h.left id (hrow h.left)
  have boxY := kY.heap h.box (fun e => h.bneMw e) (fun _ _ _ _ => id)
  have metY : Spots Mw (W.met ++ [s]) Y' := hY.kg (Kg.of_below hb : Kg 0 (fun _ => False) (fun _ => False) Y Y') id
  have kZ : Kg w0.heap.size (fun _ => False) (fun t => t = 100) Y' Z := Kg.of_grown hg fun g hv => by
    obtain ⟨h1, cs, hh⟩ := row_block waitY hv
    exact ⟨h1, .inr ⟨cs, _, _, hh, rfl⟩⟩
  have boxZ := kZ.heap boxY id (fun _ _ _ e => by cases e; decide)
  have kS : Kg w0.heap.size (fun k => k = wb) (fun _ => False) Z (Z.setCell ⟨wb, 3, none⟩ (.slice (some ⟨g, 0, none⟩) (W.wait.length + 1) cap)) := Kg.of_set h.base rfl
  have bookZ : BkAt w0 bb M W.b pv sv bv xs Z := bookY.keep kZ rfl id id (fun t ht e => by subst e; rcases ht with (h | h | h) | h <;> exact absurd h (by decide)) (fun _ _ => id)
  have leftZ := kZ.own leftY (by decide) (fun _ _ => id)
  have metZ := metY.kg kZ id
  have hbox := heap_setCell_same Z wb 3 _ 97 (.slice (some ⟨g, 0, none⟩) (W.wait.length + 1) cap) boxZ
  have hz : ∀ {e : TypeId} {s m : Nat} {v : Value} {ys : List Value}, Z.ownsRow w0.heap.size e s v m ys → e ≠ 97 → ∀ g, v.ownBlock = some g → ¬ g = wb := fun hr he g hv e => by
    obtain ⟨_, cs, hh⟩ := row_block hr hv
    rw [e, boxZ] at hh
    simp only [Option.some.injEq, Obj.cells.injEq] at hh
    exact he hh.2.1.symm
  refine ⟨⟨by simp [World.cell?, boxZ], frozen_of_row Z wb 3 _ _ boxZ⟩, ⟨_, lv, ⟨⟨pv, sv, bv, xs, bookZ.keep kS rfl (fun e => h.bne e.symm) (fun e => h.bneM e.symm) (fun _ _ => id) (fun g hg => ?_)⟩, h.base, h.baseM, h.ne, by simpa using hbox, ?_, kS.own leftZ id (hz leftZ (by decide)), metZ.kg kS (fun e => h.bneMw e.symm)⟩⟩, ?_⟩
  · rcases hg with hg | hg | hg
    · exact hz bookZ.parts (by decide) g hg
    · exact hz bookZ.sets (by decide) g hg
    · exact hz bookZ.bare (by decide) g hg
  · have := kS.own hown id (hz hown (by decide))
    rw [← flatS_snoc] at this
    simpa using this
  · exact ((kY.mono (fun _ _ h => .inr (.inr h)) (fun _ h => h.elim)).trans (kZ.mono (fun _ _ h => h.elim) (fun _ h => h))).trans (kS.mono (fun _ _ h => .inr (.inl h)) (fun _ h => h.elim))

set_option maxRecDepth 100000 in
set_option maxHeartbeats 8000000 in
theorem meet_new (h : WAt w0 bb M wb Mw c W w) {p q : Nat} (hs : WfS (p, q)) (hm : (p, q) ∉ W.met) (hl : W.met.length < 12288) (hwl : W.wait.length ≤ W.met.length) :
    Calls Tryz.prog 55 #[.pointer (some ⟨wb, 0, none⟩), .int .i64 (p : Nat), .int .i64 (q : Nat)] w (WOut w0 bb M wb Mw c { W with met := W.met ++ [(p, q)], wait := W.wait ++ [(p, q)] } (Km w0 bb wb Mw) w) := by
  obtain ⟨i0, hi, hz0, hz1, hz2⟩ := info_parts infoSp
  obtain ⟨wv, lv, h⟩ := h
  have c2 := h.cell2
  have hlt := h.lt
  have BW := Lib.hid (fun o => (Below.refl w.heap.size w).alloc (Nat.le_refl _) o)
  have hbd : Below w.heap.size w (w.alloc (.cells #[.int .i64 (p : Nat), .int .i64 (q : Nat)] 100)).drew := (BW.out _).trans ((Rg.below_drewN _ 1).mono (by simp))
  have hbe : Below w.heap.size w ((w.alloc (.cells #[.int .i64 (p : Nat), .int .i64 (q : Nat)] 100)).alloc (.cells #[] 115)).drew := (BW.out _).trans ((((Below.refl _ _).alloc (Nat.le_refl _) _).trans ((Rg.below_drewN _ 1).mono (by simp))).mono (by simp))
  have HBE := Lib.hid hbe
  have hL := look_spot ((h.next hbd).met) hs
  have hL2 := look_spot ((h.next hbe).met) hs
  rw [decide_eq_false hm] at hL hL2
  unfold aggS at hL hL2
  dsimp only at hL hL2
  have hX := h.next hbe
  obtain ⟨D, hown, hhas, hsize⟩ := hX.met.map
  have HWF := Lib.hid hX.met.wf
  have HX := Lib.hid hX
  have d2 := hX.cell2
  have d3 := hX.cell3
  have s0 : ((w.alloc (.cells #[.int .i64 (p : Nat), .int .i64 (q : Nat)] 100)).alloc (.cells #[] 115)).drew.cell? ⟨w.heap.size, 0, none⟩ = some (.int .i64 (p : Nat)) := by simp
  have s1 : ((w.alloc (.cells #[.int .i64 (p : Nat), .int .i64 (q : Nat)] 100)).alloc (.cells #[] 115)).drew.cell? ⟨w.heap.size, 1, none⟩ = some (.int .i64 (q : Nat)) := by simp
  have hsX : w.heap.size < ((w.alloc (.cells #[.int .i64 (p : Nat), .int .i64 (q : Nat)] 100)).alloc (.cells #[] 115)).drew.heap.size := cell_lt s0
  have hT := hown.tidy lawS
  have hkey := key_mkS hs
  have hh : Maps.has D (ks (p, q)) = false := by rw [← Bool.not_eq_true, hhas _ hs]; exact hm
  have hne : ((W.met.length : Int) == 12288) = false := by simp; omega
  have HHAS := Lib.hid hhas
  have HS := Lib.hid hs
  have hlM := h.met.lt
  have hbase := h.base
  have hbaseM := h.baseM
  have hw0 := h.since.size
  obtain ⟨n, hn⟩ : ∃ n, n = W.met.length := ⟨_, rfl⟩
  rw [← hn] at hne hown hsize hl hwl
  have HN := Lib.hid hn
  have HSZ := Lib.hid hsize
  unfold aggS at hkey
  dsimp only at hkey
  clear h hm hs hbd hbe hX hhas hn
  go_enter Tryz.func55, Tryz.ntmps55
  go_wp2
  go_region_held3 (fun X => X.cell? ⟨wb, 2, none⟩ = some (.map (some Mw)) ∧ X.cell? ⟨w.heap.size, 0, none⟩ = some (.int .i64 (p : Nat)) ∧ X.cell? ⟨w.heap.size, 1, none⟩ = some (.int .i64 (q : Nat))) (first | exact ⟨by assumption, by assumption, by assumption⟩ | go_keep)
    (first | fail)
  all_goals (
    generalize ((w.alloc (.cells #[.int .i64 (p : Nat), .int .i64 (q : Nat)] 100)).alloc (.cells #[] 115)).drew = X1 at *
    clear hL hL2
    go_wp2_with (at_len; refine wpList_len_own _ rfl _ 94 rfl 100 115 Tryz.underlying94 _ Mw n D rfl hown ?_; rw [hsize])
    obtain ⟨w3, hrun, hown3, hturn⟩ := ((Kg.of_below (Rg.below_drewN X1 1) : Kg 0 (fun _ => False) (fun _ => False) X1 X1.drew).map hown id).store lawS Tryz.underlying94 (by unfold maxLen; omega) hkey (unitElem_mk (H := Unit))
    have k3 : Kg w0.heap.size (fun k => k = Mw) (fun _ => False) X1.drew w3 := Kg.of_turned hturn hbaseM rfl
    have kk : Kg w0.heap.size (fun k => k = Mw) (fun _ => False) X1 w3 := (Kg.of_below (Rg.below_drewN X1 1)).trans k3
    have K3 := Lib.hid kk
    have e2 := kk.cell d2 (fun e => HX.out.bneMw e) (fun _ _ _ _ h => h)
    have e3 := kk.cell d3 (fun e => HX.out.bneMw e) (fun _ _ _ _ h => h)
    have hwM : ¬ w.heap.size = Mw := by omega
    have t0 := kk.cell s0 hwM (fun _ _ _ _ h => h)
    have t1 := kk.cell s1 hwM (fun _ _ _ _ h => h)
    have SP := Lib.hid (spots_put HWF.out HS.out hT hh HHAS.out (HSZ.out.trans HN.out) (HN.out ▸ hown3))
    have hwX : w0.heap.size ≤ w3.heap.size := by have := kk.size; omega
    have hwX3 : w.heap.size < w3.heap.size := by have := kk.size; omega
    clear hturn hown3 k3 kk hT hh
    go_region_held3 (fun X => X.cell? ⟨wb, 2, none⟩ = some (.map (some Mw)) ∧ X.cell? ⟨w.heap.size, 0, none⟩ = some (.int .i64 (p : Nat)) ∧ X.cell? ⟨w.heap.size, 1, none⟩ = some (.int .i64 (q : Nat))) (first | exact ⟨by assumption, by assumption, by assumption⟩ | go_keep)
      (first | fail)
    clear hrun d2 d3 s0 s1 e2 hown hsize
    go_wp2
    have hbn : ∀ o, Below w3.heap.size w3 (w3.alloc o).drew := fun o => ((Below.refl w3.heap.size w3).alloc (Nat.le_refl _) o).trans (below_drew _)
    have HBN := Lib.hid hbn
    have pA : ∀ (cs : Array Value) (t : TypeId), (w3.alloc (.cells cs t)).cell? ⟨wb, 3, none⟩ = some wv := fun cs t => cell_next e3 ((Below.refl _ _).alloc (Nat.le_refl _) _)
    have hwb3 := cell_lt e3
    have HWT := Lib.hid (K3.out.own HX.out.wait id (fun g hv e => by obtain ⟨D', h1, _⟩ := HX.out.met.map; exact map_ne_row h1 HX.out.wait (e ▸ hv)))
    clear hbn
    go_region_law (refine step_append_lies _ rfl (.tmp 44) (.tmp 46) 95 rfl w0.heap.size 100 i0 (.agg #[.int .i64 0, .int .i64 0]) 2 16 Tryz.underlying95 hi hz0 hz1 hz2 rfl (by decide) wv W.wait.length (flatS W.wait) rfl (own_next HWT.out (HBN.out _)) ⟨w3.heap.size, 0, none⟩ 1 1 [.int .i64 (p : Nat), .int .i64 (q : Nat)] rfl rfl (World.news_of_block (World.alloc_heap_new w3 _)) (by simp [Value.oneCell']) (by decide) (by unfold maxLen; omega) (by omega) (by simp; omega) _ rfl ?_; intro g cap2 w5 hown5 hg5 hat5 _; go_must (obtain ⟨⟨y1, y2⟩, y3, y4⟩ := wk_new (s := (p, q)) HX.out SP.out K3.out (HBN.out _) hown5 hg5; have Y3 := Lib.hid y3; have Y4 := Lib.hid y4; clear y3 y4 hown5 hg5 hat5))
    all_goals (
      go_wp2
      go_end0
      exact ⟨rfl, Y3.out, (Kg.of_below HBE.out).trans Y4.out⟩))
end

end Go.Proofs.YtbkafoaoddajoaaGreatDoor.Dv

namespace Go.Proofs.YtbkafoaoddajoaaGreatDoor.Rg
open Go.RowKit

set_option maxHeartbeats 800000 in
theorem has_any (l : List R) (c : Int) (v : Value) (w : World) (hv : RngsAt w v l) :
    Calls Tryz.prog 79 #[v, .int .i64 c] w fun e w' => e = .returned (.bool (inB l c)) ∧ Below w.heap.size w w' := by
  obtain ⟨ao, cap, rfl, hm, hcs⟩ := hv.shape
  have HC := Lib.hid hcs
  clear hcs hv
  go_enter Tryz.func79, Tryz.ntmps79
  go_wp2
  all_goals first
    | (go_ret; exact ⟨retB (by simp [inB]; omega), Below.refl _ _⟩)
    | skip
  go_loopw [15] (fun i wr => ∃ k : Nat, k ≤ l.length ∧ i = .int .i64 k ∧ inB l c = hasB (l.drop k) c ∧ Below w.heap.size w wr) (fun i _ => l.length - (intOf i).toNat)
  case atStart => exact ⟨0, by omega, rfl, by simp [inB]; omega, Below.refl _ _⟩
  case round =>
    obtain ⟨k, hk, rfl, hh, hb⟩ := hrel
    by_cases hlt : k < l.length
    · obtain ⟨g, rfl, c1, c2⟩ := HC.out k hlt
      have HH := Lib.hid hh
      have c1' := cell_next c1 hb
      have c2' := cell_next c2 hb
      clear hh c1 c2
      have hsz := hb.size
      go_wp2
      all_goals first
        | (go_ret; exact ⟨retB (by rw [HH.out]; simp [hasB_drop hlt]; omega), by first | exact hb.alloc hsz _ | skip⟩)
        | (go_roundw
           case rel => exact ⟨k + 1, by omega, by go_num, by rw [HH.out]; simp only [hasB_drop hlt]; grind, hb.alloc hsz _⟩
           case measure => simp [intOf]; omega)
    · obtain rfl : k = l.length := by omega
      rw [List.drop_length] at hh
      have HH := Lib.hid hh
      clear hh
      go_wp2
      go_ret
      exact ⟨retB (by rw [HH.out]; simp [hasB]), hb⟩

end Go.Proofs.YtbkafoaoddajoaaGreatDoor.Rg

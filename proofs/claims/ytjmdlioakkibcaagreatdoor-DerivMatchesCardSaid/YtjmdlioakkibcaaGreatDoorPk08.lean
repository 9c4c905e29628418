/- What a book is asked: Rep, fewer. -/
import Derived.Test.YtjmdlioakkibcaaGreatDoorPk07

namespace Go.Proofs.YtjmdlioakkibcaaGreatDoor.Dv
open Go Go.RowKit Go.Shelf Go.Maps
open Go.Proofs.YtjmdlioakkibcaaGreatDoor.Ar (timesB Nd nd nodeB nodeB_ways NRow cellsN aggN flatN Book WfN Wf NodeAt nodes_of_row)
open Go.Proofs.YtjmdlioakkibcaaGreatDoor.Rg (R RngsAt RowsAt nthL add_zero own_next)

theorem inz {x : Int} (h : x ≠ 0) : (x == 0) = false := by simpa using h
theorem in1 {x : Int} (h : x ≠ 1) : (x == 1) = false := by simpa using h
theorem inm {x : Int} (h : x ≠ -1) : (x == -1) = false := by simpa using h
theorem in5 {x : Int} (h : x ≠ 5) : (x == 5) = false := by simpa using h

theorem yz {x : Nat} (h : x = 0) : ((x : Int) == 0) = true := by simp [h]
theorem y1 {x : Nat} (h : x = 1) : ((x : Int) == 1) = true := by simp [h]

section
variable {w0 w : World} {bb M : Nat} {B : Bk}
set_option maxRecDepth 100000 in
set_option maxHeartbeats 8000000 in
theorem rep_hi0T (h : BookAt w0 bb M B w) (g : Good B) {x : Nat} (hx : x < B.parts.length) {lo hi : Int} (hb : bareAt B x = true) (e : hi = 0) :
    Calls Tryz.prog 99 #[.pointer (some ⟨bb, 0, none⟩), .int .i64 (x : Nat), .int .i64 lo, .int .i64 hi] w (OpAt w0 bb M w (B, 1)) := by
  subst e
  have HB := Lib.hid h
  have BW := Lib.hid (fun o => (Below.refl w.heap.size w).alloc (Nat.le_refl _) o)
  have hs := g.small
  obtain ⟨pv, sv, bv, xs, h⟩ := h
  have c0 := h.cell0
  have c2 := h.cell2
  have hlt := h.lt
  obtain ⟨gb, cap, rfl, hl, hcx⟩ := h.bareAt g hx
  obtain ⟨ao, pcap, rfl, hl2, hn⟩ := (nodes_of_row h.parts).shape
  obtain ⟨ga, rfl, n0, n1, n2, n3, n4, n5⟩ := hn x hx
  rw [hb] at hcx
  have hgb := cell_lt hcx
  clear hn h g hb
  go_enter Tryz.func99, Tryz.ntmps99
  go_wp2
  go_ret
  exact .same HB.out (BW.out _)
set_option maxRecDepth 100000 in
set_option maxHeartbeats 8000000 in
theorem rep_1T (h : BookAt w0 bb M B w) (g : Good B) {x : Nat} (hx : x < B.parts.length) {lo hi : Int} (hb : bareAt B x = true) (f : hi ≠ 0) (e : x = 1) :
    Calls Tryz.prog 99 #[.pointer (some ⟨bb, 0, none⟩), .int .i64 (x : Nat), .int .i64 lo, .int .i64 hi] w (OpAt w0 bb M w (B, x)) := by
  have ge := nz (show x ≠ 0 by omega)
  have ge1 := y1 e
  have fh := inz f
  have HB := Lib.hid h
  have BW := Lib.hid (fun o => (Below.refl w.heap.size w).alloc (Nat.le_refl _) o)
  have hs := g.small
  obtain ⟨pv, sv, bv, xs, h⟩ := h
  have c0 := h.cell0
  have c2 := h.cell2
  have hlt := h.lt
  obtain ⟨gb, cap, rfl, hl, hcx⟩ := h.bareAt g hx
  obtain ⟨ao, pcap, rfl, hl2, hn⟩ := (nodes_of_row h.parts).shape
  obtain ⟨ga, rfl, n0, n1, n2, n3, n4, n5⟩ := hn x hx
  rw [hb] at hcx
  have hgb := cell_lt hcx
  clear hn h g hb e
  go_enter Tryz.func99, Tryz.ntmps99
  go_wp2
  go_ret
  exact .same HB.out (BW.out _)
set_option maxRecDepth 100000 in
set_option maxHeartbeats 8000000 in
theorem rep_h1T (h : BookAt w0 bb M B w) (g : Good B) {x : Nat} (hx : x < B.parts.length) {lo hi : Int} (hb : bareAt B x = true) (e : hi = 1) (f1 : x ≠ 0) (f2 : x ≠ 1) :
    Calls Tryz.prog 99 #[.pointer (some ⟨bb, 0, none⟩), .int .i64 (x : Nat), .int .i64 lo, .int .i64 hi] w (OpAt w0 bb M w (B, x)) := by
  subst e
  have g1 := nz f1
  have g2 := Dv.n1 f2
  have HB := Lib.hid h
  have BW := Lib.hid (fun o => (Below.refl w.heap.size w).alloc (Nat.le_refl _) o)
  have hs := g.small
  obtain ⟨pv, sv, bv, xs, h⟩ := h
  have c0 := h.cell0
  have c2 := h.cell2
  have hlt := h.lt
  obtain ⟨gb, cap, rfl, hl, hcx⟩ := h.bareAt g hx
  obtain ⟨ao, pcap, rfl, hl2, hn⟩ := (nodes_of_row h.parts).shape
  obtain ⟨ga, rfl, n0, n1, n2, n3, n4, n5⟩ := hn x hx
  rw [hb] at hcx
  have hgb := cell_lt hcx
  clear hn h g hb
  go_enter Tryz.func99, Tryz.ntmps99
  go_wp2
  go_ret
  exact .same HB.out (BW.out _)
set_option maxRecDepth 100000 in
set_option maxHeartbeats 8000000 in
theorem rep_hi0F (h : BookAt w0 bb M B w) (g : Good B) {x : Nat} (hx : x < B.parts.length) {lo hi : Int} (hb : bareAt B x = false) (e : hi = 0) :
    Calls Tryz.prog 99 #[.pointer (some ⟨bb, 0, none⟩), .int .i64 (x : Nat), .int .i64 lo, .int .i64 hi] w (OpAt w0 bb M w (B, 1)) := by
  subst e
  have HB := Lib.hid h
  have BW := Lib.hid (fun o => (Below.refl w.heap.size w).alloc (Nat.le_refl _) o)
  have hs := g.small
  obtain ⟨pv, sv, bv, xs, h⟩ := h
  have c0 := h.cell0
  have c2 := h.cell2
  have hlt := h.lt
  obtain ⟨gb, cap, rfl, hl, hcx⟩ := h.bareAt g hx
  obtain ⟨ao, pcap, rfl, hl2, hn⟩ := (nodes_of_row h.parts).shape
  obtain ⟨ga, rfl, n0, n1, n2, n3, n4, n5⟩ := hn x hx
  rw [hb] at hcx
  have hgb := cell_lt hcx
  clear hn h g hb
  go_enter Tryz.func99, Tryz.ntmps99
  go_wp2
  go_ret
  exact .same HB.out (BW.out _)
set_option maxRecDepth 100000 in
set_option maxHeartbeats 8000000 in
theorem rep_00F (h : BookAt w0 bb M B w) (g : Good B) {x : Nat} (hx : x < B.parts.length) {lo hi : Int} (hb : bareAt B x = false) (f : hi ≠ 0) (e : x = 0) (e2 : lo = 0) :
    Calls Tryz.prog 99 #[.pointer (some ⟨bb, 0, none⟩), .int .i64 (x : Nat), .int .i64 lo, .int .i64 hi] w (OpAt w0 bb M w (B, 1)) := by
  have ge := yz e
  subst e2
  have fh := inz f
  have HB := Lib.hid h
  have BW := Lib.hid (fun o => (Below.refl w.heap.size w).alloc (Nat.le_refl _) o)
  have hs := g.small
  obtain ⟨pv, sv, bv, xs, h⟩ := h
  have c0 := h.cell0
  have c2 := h.cell2
  have hlt := h.lt
  obtain ⟨gb, cap, rfl, hl, hcx⟩ := h.bareAt g hx
  obtain ⟨ao, pcap, rfl, hl2, hn⟩ := (nodes_of_row h.parts).shape
  obtain ⟨ga, rfl, n0, n1, n2, n3, n4, n5⟩ := hn x hx
  rw [hb] at hcx
  have hgb := cell_lt hcx
  clear hn h g hb e
  go_enter Tryz.func99, Tryz.ntmps99
  go_wp2
  go_ret
  exact .same HB.out (BW.out _)
set_option maxRecDepth 100000 in
set_option maxHeartbeats 8000000 in
theorem rep_0F (h : BookAt w0 bb M B w) (g : Good B) {x : Nat} (hx : x < B.parts.length) {lo hi : Int} (hb : bareAt B x = false) (f : hi ≠ 0) (e : x = 0) (f2 : lo ≠ 0) :
    Calls Tryz.prog 99 #[.pointer (some ⟨bb, 0, none⟩), .int .i64 (x : Nat), .int .i64 lo, .int .i64 hi] w (OpAt w0 bb M w (B, x)) := by
  have ge := yz e
  have fh := inz f
  have fl := inz f2
  have HB := Lib.hid h
  have BW := Lib.hid (fun o => (Below.refl w.heap.size w).alloc (Nat.le_refl _) o)
  have hs := g.small
  obtain ⟨pv, sv, bv, xs, h⟩ := h
  have c0 := h.cell0
  have c2 := h.cell2
  have hlt := h.lt
  obtain ⟨gb, cap, rfl, hl, hcx⟩ := h.bareAt g hx
  obtain ⟨ao, pcap, rfl, hl2, hn⟩ := (nodes_of_row h.parts).shape
  obtain ⟨ga, rfl, n0, n1, n2, n3, n4, n5⟩ := hn x hx
  rw [hb] at hcx
  have hgb := cell_lt hcx
  clear hn h g hb e
  go_enter Tryz.func99, Tryz.ntmps99
  go_wp2
  go_ret
  exact .same HB.out (BW.out _)
set_option maxRecDepth 100000 in
set_option maxHeartbeats 8000000 in
theorem rep_1F (h : BookAt w0 bb M B w) (g : Good B) {x : Nat} (hx : x < B.parts.length) {lo hi : Int} (hb : bareAt B x = false) (f : hi ≠ 0) (e : x = 1) :
    Calls Tryz.prog 99 #[.pointer (some ⟨bb, 0, none⟩), .int .i64 (x : Nat), .int .i64 lo, .int .i64 hi] w (OpAt w0 bb M w (B, x)) := by
  have ge := nz (show x ≠ 0 by omega)
  have ge1 := y1 e
  have fh := inz f
  have HB := Lib.hid h
  have BW := Lib.hid (fun o => (Below.refl w.heap.size w).alloc (Nat.le_refl _) o)
  have hs := g.small
  obtain ⟨pv, sv, bv, xs, h⟩ := h
  have c0 := h.cell0
  have c2 := h.cell2
  have hlt := h.lt
  obtain ⟨gb, cap, rfl, hl, hcx⟩ := h.bareAt g hx
  obtain ⟨ao, pcap, rfl, hl2, hn⟩ := (nodes_of_row h.parts).shape
  obtain ⟨ga, rfl, n0, n1, n2, n3, n4, n5⟩ := hn x hx
  rw [hb] at hcx
  have hgb := cell_lt hcx
  clear hn h g hb e
  go_enter Tryz.func99, Tryz.ntmps99
  go_wp2
  go_ret
  exact .same HB.out (BW.out _)
set_option maxRecDepth 100000 in
set_option maxHeartbeats 8000000 in
theorem rep_h1F (h : BookAt w0 bb M B w) (g : Good B) {x : Nat} (hx : x < B.parts.length) {lo hi : Int} (hb : bareAt B x = false) (e : hi = 1) (f1 : x ≠ 0) (f2 : x ≠ 1) (e2 : lo = 1) :
    Calls Tryz.prog 99 #[.pointer (some ⟨bb, 0, none⟩), .int .i64 (x : Nat), .int .i64 lo, .int .i64 hi] w (OpAt w0 bb M w (B, x)) := by
  subst e
  subst e2
  have g1 := nz f1
  have g2 := Dv.n1 f2
  have HB := Lib.hid h
  have BW := Lib.hid (fun o => (Below.refl w.heap.size w).alloc (Nat.le_refl _) o)
  have hs := g.small
  obtain ⟨pv, sv, bv, xs, h⟩ := h
  have c0 := h.cell0
  have c2 := h.cell2
  have hlt := h.lt
  obtain ⟨gb, cap, rfl, hl, hcx⟩ := h.bareAt g hx
  obtain ⟨ao, pcap, rfl, hl2, hn⟩ := (nodes_of_row h.parts).shape
  obtain ⟨ga, rfl, n0, n1, n2, n3, n4, n5⟩ := hn x hx
  rw [hb] at hcx
  have hgb := cell_lt hcx
  clear hn h g hb
  go_enter Tryz.func99, Tryz.ntmps99
  go_wp2
  go_ret
  exact .same HB.out (BW.out _)
set_option maxRecDepth 100000 in
set_option maxHeartbeats 8000000 in
theorem rep_starT (h : BookAt w0 bb M B w) (g : Good B) {x : Nat} (hx : x < B.parts.length) {lo hi : Int} (hb : bareAt B x = true) (f : hi ≠ 0) (f1 : x ≠ 0) (f2 : x ≠ 1) (f3 : hi ≠ 1) (hst : nd B.parts x = ⟨5, (nd B.parts x).a, 0, 0, -1, 0⟩) :
    Calls Tryz.prog 99 #[.pointer (some ⟨bb, 0, none⟩), .int .i64 (x : Nat), .int .i64 lo, .int .i64 hi] w (OpAt w0 bb M w (B, x)) := by
  have g3 := in1 f3
  have fh := inz f
  have g1 := nz f1
  have g2 := Dv.n1 f2
  have HB := Lib.hid h
  have BW := Lib.hid (fun o => (Below.refl w.heap.size w).alloc (Nat.le_refl _) o)
  obtain ⟨pv, sv, bv, xs, h⟩ := h
  have c0 := h.cell0
  have c2 := h.cell2
  have hlt := h.lt
  obtain ⟨gb, cap, rfl, hl, hcx⟩ := h.bareAt g hx
  obtain ⟨ao, pcap, rfl, hl2, hn⟩ := (nodes_of_row h.parts).shape
  obtain ⟨ga, rfl, n0, n1, n2, n3, n4, n5⟩ := hn x hx
  rw [hb] at hcx
  have hgb := cell_lt hcx
  have hga := cell_lt n0
  clear hn h g hb f f1 f2
  rw [congrArg Nd.op hst] at n0
  rw [congrArg Nd.b hst] at n2
  rw [congrArg Nd.lo hst] at n3
  rw [congrArg Nd.hi hst] at n4
  rw [congrArg Nd.set hst] at n5
  generalize (nd B.parts x).a = na at *
  clear hst
  go_enter Tryz.func99, Tryz.ntmps99
  go_wp2
  go_ret
  exact .same HB.out (BW.out _)
set_option maxRecDepth 100000 in
set_option maxHeartbeats 8000000 in
theorem rep_starF (h : BookAt w0 bb M B w) (g : Good B) {x : Nat} (hx : x < B.parts.length) {lo hi : Int} (hb : bareAt B x = false) (f : hi ≠ 0) (f1 : x ≠ 0) (f2 : x ≠ 1) (f3 : hi ≠ 1) (hst : nd B.parts x = ⟨5, (nd B.parts x).a, 0, 0, -1, 0⟩) :
    Calls Tryz.prog 99 #[.pointer (some ⟨bb, 0, none⟩), .int .i64 (x : Nat), .int .i64 lo, .int .i64 hi] w (OpAt w0 bb M w (B, x)) := by
  have g3 := in1 f3
  have fh := inz f
  have g1 := nz f1
  have g2 := Dv.n1 f2
  have HB := Lib.hid h
  have BW := Lib.hid (fun o => (Below.refl w.heap.size w).alloc (Nat.le_refl _) o)
  obtain ⟨pv, sv, bv, xs, h⟩ := h
  have c0 := h.cell0
  have c2 := h.cell2
  have hlt := h.lt
  obtain ⟨gb, cap, rfl, hl, hcx⟩ := h.bareAt g hx
  obtain ⟨ao, pcap, rfl, hl2, hn⟩ := (nodes_of_row h.parts).shape
  obtain ⟨ga, rfl, n0, n1, n2, n3, n4, n5⟩ := hn x hx
  rw [hb] at hcx
  have hgb := cell_lt hcx
  have hga := cell_lt n0
  clear hn h g hb f f1 f2
  rw [congrArg Nd.op hst] at n0
  rw [congrArg Nd.b hst] at n2
  rw [congrArg Nd.lo hst] at n3
  rw [congrArg Nd.hi hst] at n4
  rw [congrArg Nd.set hst] at n5
  generalize (nd B.parts x).a = na at *
  clear hst
  go_enter Tryz.func99, Tryz.ntmps99
  go_wp2
  go_ret
  exact .same HB.out (BW.out _)
set_option maxRecDepth 100000 in
set_option maxHeartbeats 8000000 in
theorem rep_starG (h : BookAt w0 bb M B w) (g : Good B) {x : Nat} (hx : x < B.parts.length) {lo hi : Int} (hb : bareAt B x = false) (f : hi ≠ 0) (f1 : x ≠ 0) (f2 : x ≠ 1) (f3 : hi = 1) (f4 : lo ≠ 1) (hst : nd B.parts x = ⟨5, (nd B.parts x).a, 0, 0, -1, 0⟩) :
    Calls Tryz.prog 99 #[.pointer (some ⟨bb, 0, none⟩), .int .i64 (x : Nat), .int .i64 lo, .int .i64 hi] w (OpAt w0 bb M w (B, x)) := by
  subst f3
  have g4 := in1 f4
  have fh := inz f
  have g1 := nz f1
  have g2 := Dv.n1 f2
  have HB := Lib.hid h
  have BW := Lib.hid (fun o => (Below.refl w.heap.size w).alloc (Nat.le_refl _) o)
  obtain ⟨pv, sv, bv, xs, h⟩ := h
  have c0 := h.cell0
  have c2 := h.cell2
  have hlt := h.lt
  obtain ⟨gb, cap, rfl, hl, hcx⟩ := h.bareAt g hx
  obtain ⟨ao, pcap, rfl, hl2, hn⟩ := (nodes_of_row h.parts).shape
  obtain ⟨ga, rfl, n0, n1, n2, n3, n4, n5⟩ := hn x hx
  rw [hb] at hcx
  have hgb := cell_lt hcx
  have hga := cell_lt n0
  clear hn h g hb f f1 f2
  rw [congrArg Nd.op hst] at n0
  rw [congrArg Nd.b hst] at n2
  rw [congrArg Nd.lo hst] at n3
  rw [congrArg Nd.hi hst] at n4
  rw [congrArg Nd.set hst] at n5
  generalize (nd B.parts x).a = na at *
  clear hst
  go_enter Tryz.func99, Tryz.ntmps99
  go_wp2
  go_ret
  exact .same HB.out (BW.out _)
end

end Go.Proofs.YtjmdlioakkibcaaGreatDoor.Dv

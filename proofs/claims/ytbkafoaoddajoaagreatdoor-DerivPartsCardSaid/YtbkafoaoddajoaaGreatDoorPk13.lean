/- What is left of one part or the other, and of a repetition. What is left of one part behind the other. What is left of a part: the program's left. What is left as one part: the program's whole. Code points and their bytes, in plain words: what utf tells. -/
import Derived.Test.YtbkafoaoddajoaaGreatDoorPk12
import Derived.Test.YtbkafoaoddajoaaGreatDoorPk09
import Derived.Lib.RuneBytes
import Derived.Lib.TrimUEq
import Derived.Lib.DecodeNEq

namespace Go.Proofs.YtbkafoaoddajoaaGreatDoor.Dv
open Go Go.RowKit Go.Shelf Go.Maps
open Go.Proofs.YtbkafoaoddajoaaGreatDoor.Ar (timesB Nd nd nodeB nodeB_ways NRow cellsN aggN flatN Book WfN Wf NodeAt node_new nodes_of_row)
open Go.Proofs.YtbkafoaoddajoaaGreatDoor.Rg (R RngsAt RowsAt nthL add_zero own_next has_any inB)
section
variable {w0 w w' : World} {bb M sb Md : Nat} {c : Int} {B B0 : Bk} {D : Mm} {f : Nat}
set_option maxRecDepth 100000 in
set_option maxHeartbeats 8000000 in
theorem lalt_any (g0 : Good B0) (ih : LeftOk w0 bb M sb Md c B0 f) (h : StAt w0 bb M sb Md c B D w) (hm : Lem c B0 B D) (hk : (D.map Prod.fst).Nodup) {n : Nd} (h4 : n.op = 4) (ha : 0 ≤ n.a) (hb : 0 ≤ n.b) (hx : n.a.toNat < f) (hy : n.b.toNat < f) (hxl : n.a.toNat < B0.parts.length) (hyl : n.b.toNat < B0.parts.length) :
    Calls Tryz.prog 97 #[.pointer (some ⟨sb, 0, none⟩), aggN n] w (LeftAt w0 bb M sb Md c w (lwN c f B D n)) := by
  obtain ⟨op, a, b, lo, hi, set⟩ := n
  dsimp only at h4 ha hb hx hy hxl hyl
  subst h4
  obtain ⟨x, rfl⟩ := Int.eq_ofNat_of_zero_le ha
  obtain ⟨y, rfl⟩ := Int.eq_ofNat_of_zero_le hb
  rw [Int.toNat_natCast] at hx hy hxl hyl
  obtain ⟨l1, l2, l3, l4, l5, l6, _⟩ := h.ltAll
  have p := lw_out g0 f B D x hm hx hxl
  have kp := lw_keys g0 f B D x hm hk hx hxl
  have q := lw_out g0 f _ _ y p.mem hy hyl
  have hpl := p.lt
  have hle := q.ext.le
  have hp : lwN c f B D ⟨4, x, y, lo, hi, set⟩ = ((altF (lw c f (lw c f B D x).1 (lw c f B D x).2.1 y).1 (lw c f B D x).2.2 (lw c f (lw c f B D x).1 (lw c f B D x).2.1 y).2.2).1, (lw c f (lw c f B D x).1 (lw c f B D x).2.1 y).2.1, (altF (lw c f (lw c f B D x).1 (lw c f B D x).2.1 y).1 (lw c f B D x).2.2 (lw c f (lw c f B D x).1 (lw c f B D x).2.1 y).2.2).2) := by
    unfold lwN
    rw [if_neg (by simp), if_neg (by simp), if_pos rfl]
    rfl
  rw [hp]
  have BW := Lib.hid (fun o => (Below.refl w.heap.size w).alloc (Nat.le_refl _) o)
  have BD := Lib.hid ((BW.out (.cells #[.int .i64 4, .int .i64 (x : Nat), .int .i64 (y : Nat), .int .i64 lo, .int .i64 hi, .int .i64 set] 35)).trans (below_drew _))
  have NB := Lib.hid ((nbox_new w ⟨4, (x : Nat), (y : Nat), lo, hi, set⟩).below (below_drew _))
  have HD := Lib.hid (h.next BD.out)
  have hyo := young (N := w.heap.size) h.book (fun hr => (rowsOf_same (BD.out.block bb l1) _).1 hr) (Nat.le_refl _)
  have HYO := Lib.hid hyo
  have C1 := Lib.hid (ih B D x _ HD.out hm hk hx hxl)
  have C2 := Lib.hid (fun X hX => ih _ _ y X hX p.mem kp.nodup hy hyl)
  have C3 := Lib.hid (fun X (hX : BookAt w0 bb M (lw c f (lw c f B D x).1 (lw c f B D x).2.1 y).1 X) => alt_any hX q.mem.good (x := (lw c f B D x).2.2) (y := (lw c f (lw c f B D x).1 (lw c f B D x).2.1 y).2.2) (by omega) q.lt)
  have hsz : w.heap.size < ((w.alloc (.cells #[.int .i64 4, .int .i64 (x : Nat), .int .i64 (y : Nat), .int .i64 lo, .int .i64 hi, .int .i64 set] 35)).drew).heap.size := by simp
  have c0 := HD.out.c0
  have c0w := h.c0
  generalize hP : lw c f B D x = P at *
  generalize hQ : lw c f P.1 P.2.1 y = Q at *
  generalize hR : altF Q.1 P.2.2 Q.2.2 = R at *
  unfold LeftAt at C1 C2 ⊢
  unfold OpAt at C3
  unfold aggN
  dsimp only
  clear hp p kp q hP hQ hR hm hk h ih hyo hpl hle
  go_enter Tryz.func97, Tryz.ntmps97
  go_wp2
  go_region_held3 (fun X => X.cell? ⟨sb, 0, none⟩ = some (.pointer (some ⟨bb, 0, none⟩)) ∧ X.cell? ⟨w.heap.size, 1, none⟩ = some (.int .i64 (x : Nat)) ∧ X.cell? ⟨w.heap.size, 2, none⟩ = some (.int .i64 (y : Nat))) (first | exact ⟨by assumption, by assumption, by assumption⟩ | go_keep)
    (first
      | (go_at_call 60; ((with_reducible refine C1.out.mono ?_); rintro e w1 ⟨rfl, h1, k1⟩); go_must (have nb := NB.out.fm k1 (by omega) (by omega) (by omega) HYO.out; have m1 := nb.at'.c1; have m2 := nb.at'.c2; have H1 := Lib.hid h1; have p0 := h1.c0; have NB1 := Lib.hid nb; have Y1 := Lib.hid (k1.young HYO.out hsz); have K1 := Lib.hid k1; have hs1 := k1.size; clear nb h1 k1 C1))
      | (go_at_call 60; ((with_reducible refine (C2.out _ H1.out).mono ?_); rintro e w2 ⟨rfl, h2, k2⟩); go_must (have nb := NB1.out.fm k2 (by omega) (by omega) (by omega) Y1.out; have r1 := nb.at'.c1; have r2 := nb.at'.c2; have H2 := Lib.hid h2; have r0 := h2.c0; have NB2 := Lib.hid nb; have Y2 := Lib.hid (k2.young Y1.out (by omega)); have K2 := Lib.hid k2; clear nb h2 k2 C2 m1 m2 p0))
      | (go_at_call 59; ((with_reducible refine (C3.out _ H2.out.book).mono ?_); rintro e w3 ⟨rfl, h3, k3⟩); go_must (have nb := NB2.out.fz k3 (by omega) (by omega) Y2.out; have t1 := nb.at'.c1; have t2 := nb.at'.c2; have H3 := Lib.hid (H2.out.kb h3 k3); have t0 := H3.out.c0; have K3 := Lib.hid k3; clear nb h3 k3 C3 r0 r1 r2))
      | fail)
  go_wp2
  go_ret
  exact ⟨rfl, H3.out, (((Fm.of_below BD.out l1).trans K1.out).trans K2.out).trans (Fm.of_fz K3.out)⟩

set_option maxRecDepth 100000 in
set_option maxHeartbeats 8000000 in
theorem lrep_any (g0 : Good B0) (ih : LeftOk w0 bb M sb Md c B0 f) (h : StAt w0 bb M sb Md c B D w) (hm : Lem c B0 B D) (hk : (D.map Prod.fst).Nodup) {n : Nd} (h5 : n.op = 5) (ha : 0 ≤ n.a) (hx : n.a.toNat < f) (hxl : n.a.toNat < B0.parts.length) (ht : timesB n.lo n.hi = true) (h0 : n.hi ≠ 0) :
    Calls Tryz.prog 98 #[.pointer (some ⟨sb, 0, none⟩), aggN n] w (LeftAt w0 bb M sb Md c w (lwN c f B D n)) := by
  obtain ⟨op, a, b, lo, hi, set⟩ := n
  dsimp only at h5 ha hx hxl ht h0
  subst h5
  obtain ⟨x, rfl⟩ := Int.eq_ofNat_of_zero_le ha
  rw [Int.toNat_natCast] at hx hxl
  obtain ⟨l1, l2, l3, l4, l5, l6, _⟩ := h.ltAll
  have p := lw_out g0 f B D x hm hx hxl
  have hpl := p.mem.ext.le
  have y := fewerF_out p.mem.good (n := ⟨5, (x : Nat), b, lo, hi, set⟩) (by dsimp only; rw [Int.toNat_natCast]; omega) ht h0
  have hyl := y.ext.le
  have hp : lwN c f B D ⟨5, x, b, lo, hi, set⟩ = ((catF (fewerF (lw c f B D x).1 ⟨5, x, b, lo, hi, set⟩).1 (lw c f B D x).2.2 (fewerF (lw c f B D x).1 ⟨5, x, b, lo, hi, set⟩).2).1, (lw c f B D x).2.1, (catF (fewerF (lw c f B D x).1 ⟨5, x, b, lo, hi, set⟩).1 (lw c f B D x).2.2 (fewerF (lw c f B D x).1 ⟨5, x, b, lo, hi, set⟩).2).2) := by
    unfold lwN
    rw [if_neg (by simp), if_neg (by simp), if_neg (by simp), if_pos rfl]
    rfl
  rw [hp]
  have BW := Lib.hid (fun o => (Below.refl w.heap.size w).alloc (Nat.le_refl _) o)
  have BD := Lib.hid ((BW.out (.cells #[.int .i64 5, .int .i64 (x : Nat), .int .i64 b, .int .i64 lo, .int .i64 hi, .int .i64 set] 35)).trans (below_drew _))
  have NB := Lib.hid ((nbox_new w ⟨5, (x : Nat), b, lo, hi, set⟩).below (below_drew _))
  have HD := Lib.hid (h.next BD.out)
  have hyo := young (N := w.heap.size) h.book (fun hr => (rowsOf_same (BD.out.block bb l1) _).1 hr) (Nat.le_refl _)
  have HYO := Lib.hid hyo
  have C1 := Lib.hid (ih B D x _ HD.out hm hk hx hxl)
  have C2 := Lib.hid (fun X (hX : BookAt w0 bb M (lw c f B D x).1 X) => fewer_any hX p.mem.good (n := ⟨5, (x : Nat), b, lo, hi, set⟩) ha (by dsimp only; rw [Int.toNat_natCast]; omega) ht h0)
  have C3 := Lib.hid (fun X (hX : BookAt w0 bb M (fewerF (lw c f B D x).1 ⟨5, x, b, lo, hi, set⟩).1 X) => cat_any hX y.good (x := (lw c f B D x).2.2) (y := (fewerF (lw c f B D x).1 ⟨5, x, b, lo, hi, set⟩).2) (by have := p.lt; omega) y.lt)
  have hsz : w.heap.size < ((w.alloc (.cells #[.int .i64 5, .int .i64 (x : Nat), .int .i64 b, .int .i64 lo, .int .i64 hi, .int .i64 set] 35)).drew).heap.size := by simp
  have c0 := HD.out.c0
  have c0w := h.c0
  unfold aggN at C2 ⊢
  dsimp only at C2 ⊢
  generalize hP : lw c f B D x = P at *
  generalize hQ : fewerF P.1 ⟨5, x, b, lo, hi, set⟩ = Q at *
  generalize hR : catF Q.1 P.2.2 Q.2 = R at *
  unfold LeftAt at C1 ⊢
  unfold OpAt at C2 C3
  clear hp p y hP hQ hR hm hk h ih hyo hpl hyl
  go_enter Tryz.func98, Tryz.ntmps98
  go_wp2
  go_region_held3 (fun X => X.cell? ⟨sb, 0, none⟩ = some (.pointer (some ⟨bb, 0, none⟩)) ∧ X.cell? ⟨w.heap.size, 0, none⟩ = some (.int .i64 5) ∧ X.cell? ⟨w.heap.size, 1, none⟩ = some (.int .i64 (x : Nat)) ∧ X.cell? ⟨w.heap.size, 2, none⟩ = some (.int .i64 b) ∧ X.cell? ⟨w.heap.size, 3, none⟩ = some (.int .i64 lo) ∧ X.cell? ⟨w.heap.size, 4, none⟩ = some (.int .i64 hi) ∧ X.cell? ⟨w.heap.size, 5, none⟩ = some (.int .i64 set)) (first | exact ⟨by assumption, by assumption, by assumption, by assumption, by assumption, by assumption, by assumption⟩ | go_keep)
    (first
      | (go_at_call 60; ((with_reducible refine C1.out.mono ?_); rintro e w1 ⟨rfl, h1, k1⟩); go_must (have nb := NB.out.fm k1 (by omega) (by omega) (by omega) HYO.out; have m0 := nb.at'.c0; have m1 := nb.at'.c1; have m2 := nb.at'.c2; have m3 := nb.at'.c3; have m4 := nb.at'.c4; have m5 := nb.at'.c5; have H1 := Lib.hid h1; have p0 := h1.c0; have NB1 := Lib.hid nb; have Y1 := Lib.hid (k1.young HYO.out hsz); have K1 := Lib.hid k1; have hs1 := k1.size; clear nb h1 k1 C1))
      | (go_at_call 81; ((with_reducible refine (C2.out _ H1.out.book).mono ?_); rintro e w2 ⟨rfl, h2, k2⟩); go_must (have nb := NB1.out.fz k2 (by omega) (by omega) Y1.out; have r0 := nb.at'.c0; have r1 := nb.at'.c1; have r2 := nb.at'.c2; have r3 := nb.at'.c3; have r4 := nb.at'.c4; have r5 := nb.at'.c5; have H2 := Lib.hid (H1.out.kb h2 k2); have s0 := H2.out.c0; have NB2 := Lib.hid nb; have Y2 := Lib.hid (show ¬ rowsOf w2 bb w.heap.size from fun hr => (k2.rows _ hr).elim Y1.out (fun hge => by omega)); have K2 := Lib.hid k2; clear nb h2 k2 C2 m0 m1 m2 m3 m4 m5 p0))
      | (go_at_call 80; ((with_reducible refine (C3.out _ H2.out.book).mono ?_); rintro e w3 ⟨rfl, h3, k3⟩); go_must (have nb := NB2.out.fz k3 (by omega) (by omega) Y2.out; have t0 := nb.at'.c0; have t1 := nb.at'.c1; have t2 := nb.at'.c2; have t3 := nb.at'.c3; have t4 := nb.at'.c4; have t5 := nb.at'.c5; have H3 := Lib.hid (H2.out.kb h3 k3); have u0 := H3.out.c0; have K3 := Lib.hid k3; clear nb h3 k3 C3 r0 r1 r2 r3 r4 r5 s0))
      | fail)
  go_wp2
  go_ret
  exact ⟨rfl, H3.out, ((Fm.of_below BD.out l1).trans K1.out).trans (Fm.of_fz (K2.out.trans K3.out))⟩
end
end Go.Proofs.YtbkafoaoddajoaaGreatDoor.Dv

namespace Go.Proofs.YtbkafoaoddajoaaGreatDoor.Dv
open Go Go.RowKit Go.Shelf Go.Maps
open Go.Proofs.YtbkafoaoddajoaaGreatDoor.Ar (timesB Nd nd nodeB nodeB_ways NRow cellsN aggN flatN Book WfN Wf NodeAt node_new nodes_of_row)
open Go.Proofs.YtbkafoaoddajoaaGreatDoor.Rg (R RngsAt RowsAt nthL add_zero own_next has_any inB)
section
variable {w0 w w' : World} {bb M sb Md : Nat} {c : Int} {B B0 : Bk} {D : Mm} {f : Nat}
set_option maxRecDepth 100000 in
set_option maxHeartbeats 8000000 in
theorem lcat_any (g0 : Good B0) (ih : LeftOk w0 bb M sb Md c B0 f) (h : StAt w0 bb M sb Md c B D w) (hm : Lem c B0 B D) (hk : (D.map Prod.fst).Nodup) {n : Nd} (h3 : n.op = 3) (ha : 0 ≤ n.a) (hb : 0 ≤ n.b) (hx : n.a.toNat < f) (hy : n.b.toNat < f) (hxl : n.a.toNat < B0.parts.length) (hyl : n.b.toNat < B0.parts.length) :
    Calls Tryz.prog 96 #[.pointer (some ⟨sb, 0, none⟩), aggN n] w (LeftAt w0 bb M sb Md c w (lwN c f B D n)) := by
  obtain ⟨op, a, b, lo, hi, set⟩ := n
  dsimp only at h3 ha hb hx hy hxl hyl
  subst h3
  obtain ⟨x, rfl⟩ := Int.eq_ofNat_of_zero_le ha
  obtain ⟨y, rfl⟩ := Int.eq_ofNat_of_zero_le hb
  rw [Int.toNat_natCast] at hx hy hxl hyl
  obtain ⟨l1, l2, l3, l4, l5, l6, _⟩ := h.ltAll
  have p := lw_out g0 f B D x hm hx hxl
  have kp := lw_keys g0 f B D x hm hk hx hxl
  have hpl := p.mem.ext.le
  have k := catF_out p.mem.good p.lt (y := y) (by omega)
  have hkl := k.ext.le
  have hm1 := p.mem.next k.good k.ext
  have q := lw_out g0 f _ _ y hm1 hy hyl
  have hql := q.ext.le
  have hp : lwN c f B D ⟨3, x, y, lo, hi, set⟩ = if bareAt (catF (lw c f B D x).1 (lw c f B D x).2.2 y).1 x = true then
      ((altF (lw c f (catF (lw c f B D x).1 (lw c f B D x).2.2 y).1 (lw c f B D x).2.1 y).1 (catF (lw c f B D x).1 (lw c f B D x).2.2 y).2 (lw c f (catF (lw c f B D x).1 (lw c f B D x).2.2 y).1 (lw c f B D x).2.1 y).2.2).1,
        (lw c f (catF (lw c f B D x).1 (lw c f B D x).2.2 y).1 (lw c f B D x).2.1 y).2.1,
        (altF (lw c f (catF (lw c f B D x).1 (lw c f B D x).2.2 y).1 (lw c f B D x).2.1 y).1 (catF (lw c f B D x).1 (lw c f B D x).2.2 y).2 (lw c f (catF (lw c f B D x).1 (lw c f B D x).2.2 y).1 (lw c f B D x).2.1 y).2.2).2)
    else ((catF (lw c f B D x).1 (lw c f B D x).2.2 y).1, (lw c f B D x).2.1, (catF (lw c f B D x).1 (lw c f B D x).2.2 y).2) := by
    unfold lwN
    rw [if_neg (by simp), if_pos rfl]
    rfl
  rw [hp]
  have BW := Lib.hid (fun o => (Below.refl w.heap.size w).alloc (Nat.le_refl _) o)
  have BD := Lib.hid ((BW.out (.cells #[.int .i64 3, .int .i64 (x : Nat), .int .i64 (y : Nat), .int .i64 lo, .int .i64 hi, .int .i64 set] 35)).trans (below_drew _))
  have NB := Lib.hid ((nbox_new w ⟨3, (x : Nat), (y : Nat), lo, hi, set⟩).below (below_drew _))
  have HD := Lib.hid (h.next BD.out)
  have hyo := young (N := w.heap.size) h.book (fun hr => (rowsOf_same (BD.out.block bb l1) _).1 hr) (Nat.le_refl _)
  have HYO := Lib.hid hyo
  have C1 := Lib.hid (ih B D x _ HD.out hm hk hx hxl)
  have C2 := Lib.hid (fun X (hX : BookAt w0 bb M (lw c f B D x).1 X) => cat_any hX p.mem.good (x := (lw c f B D x).2.2) (y := y) p.lt (by omega))
  have C3 := Lib.hid (fun X hX => ih _ _ y X hX hm1 kp.nodup hy hyl)
  have C4 := Lib.hid (fun X (hX : BookAt w0 bb M (lw c f (catF (lw c f B D x).1 (lw c f B D x).2.2 y).1 (lw c f B D x).2.1 y).1 X) => alt_any hX q.mem.good (x := (catF (lw c f B D x).1 (lw c f B D x).2.2 y).2) (y := (lw c f (catF (lw c f B D x).1 (lw c f B D x).2.2 y).1 (lw c f B D x).2.1 y).2.2) (by have := k.lt; omega) q.lt)
  have hsz : w.heap.size < ((w.alloc (.cells #[.int .i64 3, .int .i64 (x : Nat), .int .i64 (y : Nat), .int .i64 lo, .int .i64 hi, .int .i64 set] 35)).drew).heap.size := by simp
  have c0 := HD.out.c0
  have c0w := h.c0
  have gK := k.good
  have hxK : x < (catF (lw c f B D x).1 (lw c f B D x).2.2 y).1.parts.length := by omega
  generalize hP : lw c f B D x = P at *
  generalize hK : catF P.1 P.2.2 y = K at *
  generalize hQ : lw c f K.1 P.2.1 y = Q at *
  generalize hR : altF Q.1 K.2 Q.2.2 = R at *
  unfold LeftAt at C1 C3 ⊢
  unfold OpAt at C2 C4
  unfold aggN
  dsimp only
  clear hp p kp k q hm1 hP hK hQ hR hm hk h ih hyo hpl hkl hql
  obtain ⟨bx, hbx⟩ : ∃ bx, bx = bareAt K.1 x := ⟨_, rfl⟩
  rw [← hbx]
  have HBX := Lib.hid hbx
  clear hbx
  cases bx
  · rw [if_neg (by simp)]
    go_enter Tryz.func96, Tryz.ntmps96
    go_wp2
    go_region_held3 (fun X => X.cell? ⟨sb, 0, none⟩ = some (.pointer (some ⟨bb, 0, none⟩)) ∧ X.cell? ⟨w.heap.size, 1, none⟩ = some (.int .i64 (x : Nat)) ∧ X.cell? ⟨w.heap.size, 2, none⟩ = some (.int .i64 (y : Nat))) (first | exact ⟨by assumption, by assumption, by assumption⟩ | go_keep)
      (first
        | (go_at_call 60; ((with_reducible refine C1.out.mono ?_); rintro e w1 ⟨rfl, h1, k1⟩); go_must (have nb := NB.out.fm k1 (by omega) (by omega) (by omega) HYO.out; have m1 := nb.at'.c1; have m2 := nb.at'.c2; have H1 := Lib.hid h1; have p0 := h1.c0; have NB1 := Lib.hid nb; have Y1 := Lib.hid (k1.young HYO.out hsz); have K1 := Lib.hid k1; have hs1 := k1.size; clear nb h1 k1 C1))
        | (go_at_call 80; ((with_reducible refine (C2.out _ H1.out.book).mono ?_); rintro e w2 ⟨rfl, h2, k2⟩); go_must (have nb := NB1.out.fz k2 (by omega) (by omega) Y1.out; have r1 := nb.at'.c1; have r2 := nb.at'.c2; have H2 := Lib.hid (H1.out.kb h2 k2); have r0 := H2.out.c0; have NB2 := Lib.hid nb; have Y2 := Lib.hid (show ¬ rowsOf w2 bb w.heap.size from fun hr => (k2.rows _ hr).elim Y1.out (fun hge => by omega)); have K2 := Lib.hid (((Fm.of_below BD.out l1).trans K1.out).trans (Fm.of_fz (Md := Md) k2)); have hs2 := k2.size; clear nb h2 k2 C2 m1 m2 p0))
        | fail)
    clear c0w c0
    obtain ⟨pv, sv, bv, xs, hb2⟩ := H2.out.book
    have b2 := hb2.cell2
    obtain ⟨gb, cap, rfl, hlb, hcx⟩ := hb2.bareAt gK hxK
    rw [← HBX.out] at hcx
    have HDQ := Lib.hid (fun nq => H2.out.next (Rg.below_drewN w2 nq))
    have BDQ := Lib.hid (fun nq => Rg.below_drewN w2 nq)
    have hlt2 := H2.out.ltAll.1
    clear hb2
    have hxi : (x : Int) < (K.1.parts.length : Int) := by omega
    go_wp2
    go_quiet (fail)
    go_wp2
    go_ret
    exact ⟨rfl, HDQ.out _, K2.out.trans (Fm.of_below (BDQ.out _) hlt2)⟩
  · rw [if_pos rfl]
    go_enter Tryz.func96, Tryz.ntmps96
    go_wp2
    go_region_held3 (fun X => X.cell? ⟨sb, 0, none⟩ = some (.pointer (some ⟨bb, 0, none⟩)) ∧ X.cell? ⟨w.heap.size, 1, none⟩ = some (.int .i64 (x : Nat)) ∧ X.cell? ⟨w.heap.size, 2, none⟩ = some (.int .i64 (y : Nat))) (first | exact ⟨by assumption, by assumption, by assumption⟩ | go_keep)
      (first
        | (go_at_call 60; ((with_reducible refine C1.out.mono ?_); rintro e w1 ⟨rfl, h1, k1⟩); go_must (have nb := NB.out.fm k1 (by omega) (by omega) (by omega) HYO.out; have m1 := nb.at'.c1; have m2 := nb.at'.c2; have H1 := Lib.hid h1; have p0 := h1.c0; have NB1 := Lib.hid nb; have Y1 := Lib.hid (k1.young HYO.out hsz); have K1 := Lib.hid k1; have hs1 := k1.size; clear nb h1 k1 C1))
        | (go_at_call 80; ((with_reducible refine (C2.out _ H1.out.book).mono ?_); rintro e w2 ⟨rfl, h2, k2⟩); go_must (have nb := NB1.out.fz k2 (by omega) (by omega) Y1.out; have r1 := nb.at'.c1; have r2 := nb.at'.c2; have H2 := Lib.hid (H1.out.kb h2 k2); have r0 := H2.out.c0; have NB2 := Lib.hid nb; have Y2 := Lib.hid (show ¬ rowsOf w2 bb w.heap.size from fun hr => (k2.rows _ hr).elim Y1.out (fun hge => by omega)); have K2 := Lib.hid (((Fm.of_below BD.out l1).trans K1.out).trans (Fm.of_fz (Md := Md) k2)); have hs2 := k2.size; clear nb h2 k2 C2 m1 m2 p0))
        | fail)
    clear c0w c0
    obtain ⟨pv, sv, bv, xs, hb2⟩ := H2.out.book
    have b2 := hb2.cell2
    obtain ⟨gb, cap, rfl, hlb, hcx⟩ := hb2.bareAt gK hxK
    rw [← HBX.out] at hcx
    have HDQ := Lib.hid (fun nq => H2.out.next (Rg.below_drewN w2 nq))
    have BDQ := Lib.hid (fun nq => Rg.below_drewN w2 nq)
    have hlt2 := H2.out.ltAll.1
    clear hb2
    have hxi : (x : Int) < (K.1.parts.length : Int) := by omega
    go_wp2
    go_quiet (fail)
    have FIN := Lib.hid (fun X (hb : Below w2.heap.size w2 X) => (show StAt w0 bb M sb Md c K.1 P.2.1 X ∧ NBox X w.heap.size ⟨3, x, y, lo, hi, set⟩ ∧ ¬ rowsOf X bb w.heap.size ∧ w.heap.size < X.heap.size ∧ Fm bb M Md w X from ⟨H2.out.next hb, NB2.out.below hb, fun hr => Y2.out ((rowsOf_same (hb.block bb hlt2) _).1 hr), (by have := hb.size; omega), K2.out.trans (Fm.of_below hb hlt2)⟩))
    clear NB2 Y2 K2 H2 K1 H1 NB1 Y1 hcx b2
    have Z0 := Lib.hid (fun X (hb : Below w2.heap.size w2 X) => (FIN.out X hb).1.c0)
    go_upto_region 3 with fail
    generalize hw3 : w2.drewN _ = w3
    have hb3 : Below w2.heap.size w2 w3 := hw3 ▸ Rg.below_drewN w2 _
    clear hw3 HDQ BDQ
    obtain ⟨h3, n3, y3, s3, k3⟩ := FIN.out w3 hb3
    have d0 := h3.c0
    have d1 := n3.at'.c1
    have d2 := n3.at'.c2
    have hl3 := h3.ltAll.1
    have E0 := Lib.hid (h3.next (below_drew _))
    have E1 := Lib.hid (n3.below (below_drew _))
    have E2 := Lib.hid (show ¬ rowsOf w3.drew bb w.heap.size from y3)
    have E3 := Lib.hid (k3.trans (Fm.of_below (below_drew _) hl3))
    have s3' : w.heap.size < w3.drew.heap.size := s3
    have e0 := E0.out.c0
    have e1 := E1.out.at'.c1
    have e2 := E1.out.at'.c2
    clear h3 n3 y3 k3 FIN Z0 hb3
    go_region_held3 (fun X => X.cell? ⟨sb, 0, none⟩ = some (.pointer (some ⟨bb, 0, none⟩)) ∧ X.cell? ⟨w.heap.size, 2, none⟩ = some (.int .i64 (y : Nat))) (first | exact ⟨by assumption, by assumption⟩ | go_keep)
      (first
        | (go_at_call 60; ((with_reducible refine (C3.out _ E0.out).mono ?_); rintro e w4 ⟨rfl, h4, k4⟩); go_must (have nb := E1.out.fm k4 (by omega) (by omega) (by omega) E2.out; have m2 := nb.at'.c2; have H4 := Lib.hid h4; have p0 := h4.c0; have NB4 := Lib.hid nb; have Y4 := Lib.hid (k4.young E2.out s3'); have K4 := Lib.hid k4; have hs4 := k4.size; clear nb h4 k4 C3))
        | (go_at_call 59; ((with_reducible refine (C4.out _ H4.out.book).mono ?_); rintro e w5 ⟨rfl, h5, k5⟩); go_must (have nb := NB4.out.fz k5 (by omega) (by omega) Y4.out; have r2 := nb.at'.c2; have H5 := Lib.hid (H4.out.kb h5 k5); have r0 := H5.out.c0; have K5 := Lib.hid k5; clear nb h5 k5 C4 m2 p0))
        | fail)
    go_wp2
    go_ret
    exact ⟨rfl, H5.out, (E3.out.trans K4.out).trans (Fm.of_fz K5.out)⟩
end
end Go.Proofs.YtbkafoaoddajoaaGreatDoor.Dv

namespace Go.Proofs.YtbkafoaoddajoaaGreatDoor.Dv
open Go Go.RowKit Go.Shelf Go.Maps
open Go.Proofs.YtbkafoaoddajoaaGreatDoor.Ar (timesB Nd nd nodeB nodeB_ways NRow cellsN aggN flatN Book WfN Wf NodeAt node_new nodes_of_row)
open Go.Proofs.YtbkafoaoddajoaaGreatDoor.Rg (R RngsAt RowsAt nthL add_zero own_next has_any inB)
section
variable {w0 w w' : World} {bb M sb Md : Nat} {c : Int} {B B0 : Bk} {D : Mm} {f : Nat}
/-- the method of a kind -/
theorem methS_any (g0 : Good B0) (ih : LeftOk w0 bb M sb Md c B0 f) (h : StAt w0 bb M sb Md c B D w) (hm : Lem c B0 B D) (hk : (D.map Prod.fst).Nodup) {x : Nat} (hx : x ≤ f) (hxl : x < B0.parts.length) :
    Calls Tryz.prog (kindS (nd B.parts x).op) #[.pointer (some ⟨sb, 0, none⟩), aggN (nd B.parts x)] w (LeftAt w0 bb M sb Md c w (lwN c f B D (nd B.parts x))) := by
  have hnode := g0.node x hxl
  have hreps := g0.reps x hxl
  have hsl : B0.sets.length ≤ B.sets.length := hm.ext.sets.length_le
  rw [hm.ext.nd hxl]
  generalize nd B0.parts x = n at *
  unfold kindS
  rcases nodeB_ways hnode with ⟨h1, h2⟩ | ⟨h1, h2⟩ | ⟨h1 | h1, h2⟩ | ⟨h1, h2⟩
  · rw [if_neg (by omega), if_neg (by omega), if_neg (by omega), if_neg (by omega)]
    have e : lwN c f B D n = (B, D, 0) := by unfold lwN; rw [if_neg (by omega), if_neg (by omega), if_neg (by omega), if_neg (by omega)]
    rw [e]
    exact lempty_any h n
  · rw [if_pos h1]
    have e : lwN c f B D n = (B, D, if inB (B.sets.getD n.set.toNat []) c = true then 1 else 0) := by unfold lwN; rw [if_pos h1]
    rw [e]
    exact lset_any h (by omega) (by omega)
  · rw [if_neg (by omega), if_pos h1]
    exact lcat_any g0 ih h hm hk h1 (by omega) (by omega) (by omega) (by omega) (by omega) (by omega)
  · rw [if_neg (by omega), if_neg (by omega), if_pos h1]
    exact lalt_any g0 ih h hm hk h1 (by omega) (by omega) (by omega) (by omega) (by omega) (by omega)
  · rw [if_neg (by omega), if_neg (by omega), if_neg (by omega), if_pos h1]
    exact lrep_any g0 ih h hm hk h1 (by omega) (by omega) (by omega) (node_times hnode h1) (hreps h1)
theorem StAt.note (h : StAt w0 bb M sb Md c B D w) {i x : Nat} (hi : i < 1000000) (hx : x < 1000000) (hl : D.length < 1000000) (hn : D.lookup i = none) :
    ∃ w3, (Instr.mapUpdate 83 (.map (some Md)) (.int .i64 (i : Nat)) (.int .i64 (x : Nat))).run Tryz.prog w = .ok () w3 ∧ StAt w0 bb M sb Md c B ((i, x) :: D) w3 ∧ Fm bb M Md w w3 := by
  obtain ⟨w3, h1, h2, h3⟩ := istore h.done hi hx hl hn
  obtain ⟨_, _, _, _, h4, _⟩ := h.ltAll
  exact ⟨w3, h1, h.turned h2 h3, Fm.of_turned h3 h4⟩

set_option maxRecDepth 100000 in
set_option maxHeartbeats 8000000 in
theorem left_old (h : StAt w0 bb M sb Md c B D w) {x y : Nat} (hx : x < 1000000) (hy : D.lookup x = some y) :
    Calls Tryz.prog 60 #[.pointer (some ⟨sb, 0, none⟩), .int .i64 (x : Nat)] w (LeftAt w0 bb M sb Md c w (B, D, y)) := by
  have c2 := h.c2
  have hl := ilook_in h.done hx hy
  have HB := Lib.hid h
  have l1 := h.ltAll.1
  clear h hy
  go_enter Tryz.func60, Tryz.ntmps60
  go_wp2
  go_ret
  exact ⟨rfl, HB.out, Fm.of_below (Below.refl _ _) l1⟩

set_option maxRecDepth 100000 in
set_option maxHeartbeats 8000000 in
theorem left_new (g0 : Good B0) (ih : LeftOk w0 bb M sb Md c B0 f) (h : StAt w0 bb M sb Md c B D w) (hm : Lem c B0 B D) (hk : (D.map Prod.fst).Nodup) {x : Nat} (hx : x ≤ f) (hxl : x < B0.parts.length) (hy : D.lookup x = none) :
    Calls Tryz.prog 60 #[.pointer (some ⟨sb, 0, none⟩), .int .i64 (x : Nat)] w (LeftAt w0 bb M sb Md c w (lw c (f + 1) B D x)) := by
  have s0 := g0.small
  have o := lw_out g0 (f + 1) B D x hm (by omega) hxl
  have ok := lw_keys g0 (f + 1) B D x hm hk (by omega) hxl
  rw [lw_none hy] at o ok ⊢
  have hkn := ok.nodup
  rw [List.map_cons, List.nodup_cons] at hkn
  have hlen := o.mem.len ok.nodup
  have hlt := o.lt
  have hgs := o.mem.good.small
  dsimp only at hkn hlen hlt hgs
  rw [List.length_cons] at hlen
  have hnot := lookup_keys hkn.1
  have CP := Lib.hid (fun X (hX : StAt w0 bb M sb Md c B D X) => methS_any g0 ih hX hm hk hx hxl)
  have NOTE := Lib.hid (fun X (hX : StAt w0 bb M sb Md c (lwN c f B D (nd B.parts x)).1 (lwN c f B D (nd B.parts x)).2.1 X) => hX.note (i := x) (x := (lwN c f B D (nd B.parts x)).2.2) (by omega) (by omega) (by omega) hnot)
  obtain ⟨l1, l2, l3, l4, l5, l6, l7, _⟩ := h.ltAll
  have hxb : x < B.parts.length := by have := hm.ext.le; omega
  have c0 := h.c0
  have c2 := h.c2
  obtain ⟨cv, hlk0⟩ := ilook_out h.done (by omega) hy
  have hlk := hlk0 w (Below.refl _ _)
  obtain ⟨pv, sv, bv, xs, hb⟩ := h.book
  have b0 := hb.cell0
  obtain ⟨po, pcap, rfl, hpl, hpn⟩ := (nodes_of_row hb.parts).shape
  obtain ⟨ga, rfl, q0, q1, q2, q3, q4, q5⟩ := hpn x hxb
  have hxi : (x : Int) < (B.parts.length : Int) := by omega
  have BW := Lib.hid (fun o => (Below.refl w.heap.size w).alloc (Nat.le_refl _) o)
  have HB := Lib.hid h
  have hyo := fun X (hb : Below w.heap.size w X) => young (N := w.heap.size) h.book (fun hr => (rowsOf_same (w' := X) (hb.block bb l1) _).1 hr) (Nat.le_refl _)
  have HYO := Lib.hid hyo
  have PA := Lib.hid (fun X => reckoned_any (nd B.parts x).op X)
  have hE : ∀ (args : Array Value) (w : World), (callFunc (kindS (nd B.parts x).op) args).run Tryz.prog w = .ok (.enter (kindS (nd B.parts x).op) args) w := enters_s (nd B.parts x).op
  clear o ok hkn hlen hlt hgs hnot hlk0 hpn hb hyo hm hk ih hy h
  generalize lwN c f B D (nd B.parts x) = r at *
  generalize nd B.parts x = n at *
  unfold LeftAt at CP ⊢
  go_enter Tryz.func60, Tryz.ntmps60
  go_upto_region 5 with fail
  have BD := Lib.hid ((BW.out (.cells #[.int .i64 n.op, .int .i64 n.a, .int .i64 n.b, .int .i64 n.lo, .int .i64 n.hi, .int .i64 n.set] 35)).trans (below_drew _))
  have NB := Lib.hid ((nbox_new w n).below (below_drew _))
  have HD := Lib.hid (HB.out.next BD.out)
  have HY := Lib.hid (HYO.out _ BD.out)
  have e0 := NB.out.at'.c0
  have e1 := NB.out.at'.c1
  have e2 := NB.out.at'.c2
  have e3 := NB.out.at'.c3
  have e4 := NB.out.at'.c4
  have e5 := NB.out.at'.c5
  have z := (nbox_new w n).at'
  have z0 := z.c0
  have z1 := z.c1
  have z2 := z.c2
  have z3 := z.c3
  have z4 := z.c4
  have z5 := z.c5
  unfold aggN at CP
  clear z q0 q1 q2 q3 q4 q5 b0 c0 c2 hlk
  generalize hK : kindS n.op = K at *
  go_region_held3 (fun X => X.cell? ⟨w.heap.size, 0, none⟩ = some (.int .i64 n.op) ∧ X.cell? ⟨w.heap.size, 1, none⟩ = some (.int .i64 n.a) ∧ X.cell? ⟨w.heap.size, 2, none⟩ = some (.int .i64 n.b) ∧ X.cell? ⟨w.heap.size, 3, none⟩ = some (.int .i64 n.lo) ∧ X.cell? ⟨w.heap.size, 4, none⟩ = some (.int .i64 n.hi) ∧ X.cell? ⟨w.heap.size, 5, none⟩ = some (.int .i64 n.set)) (first | exact ⟨by assumption, by assumption, by assumption, by assumption, by assumption, by assumption⟩ | go_keep)
    (first
      | (go_at_call 76; ((with_reducible refine (PA.out _).mono ?_); rintro e w3 ⟨rfl, rfl⟩))
      | (go_at_fn K; ((with_reducible refine (CP.out _ HD.out).mono ?_); rintro e w4 ⟨rfl, h4, k4⟩); go_must (have nb := NB.out.fm k4 (by omega) (by omega) (by omega) HY.out; have m0 := nb.at'.c0; have m1 := nb.at'.c1; have m2 := nb.at'.c2; have m3 := nb.at'.c3; have m4 := nb.at'.c4; have m5 := nb.at'.c5; have K4 := Lib.hid ((Fm.of_below BD.out l1).trans k4); have s2 := h4.c2; obtain ⟨w5, hrun, h5, k5⟩ := NOTE.out _ h4; have H5 := Lib.hid h5; have K5 := Lib.hid k5; clear nb h4 k4 h5 k5))
      | fail)
  go_wp2
  go_ret
  exact ⟨rfl, H5.out, K4.out.trans K5.out⟩

theorem left_any (g0 : Good B0) : ∀ f, LeftOk w0 bb M sb Md c B0 f
  | 0 => fun B D x w _ _ _ h => by omega
  | f + 1 => fun B D x w h hm hk hx hxl => by
    have s0 := g0.small
    cases hy : D.lookup x with
    | some y => rw [lw_some hy]; exact left_old h (by omega) hy
    | none => exact left_new g0 (left_any g0 f) h hm hk (by omega) hxl hy
end
end Go.Proofs.YtbkafoaoddajoaaGreatDoor.Dv

namespace Go.Proofs.YtbkafoaoddajoaaGreatDoor.Dv
open Go Go.RowKit Go.Shelf Go.Maps
open Go.Proofs.YtbkafoaoddajoaaGreatDoor.Ar (timesB Nd nd nodeB nodeB_ways NRow cellsN aggN flatN Book WfN Wf NodeAt node_new nodes_of_row)
open Go.Proofs.YtbkafoaoddajoaaGreatDoor.Rg (R RngsAt RowsAt nthL add_zero own_next has_any inB)
section
variable {w0 w w' : World} {bb M : Nat} {c : Int} {B : Bk} {lv : Value} {l : List Nat}
/-- a step that begins -/
theorem step_new (h : BookAt w0 bb M B w) (c : Int) : StAt w0 bb M (w.heap.size + 1) w.heap.size c B [] ((w.alloc (.map #[] 0)).alloc (.cells #[.pointer (some ⟨bb, 0, none⟩), .int .i64 c, .map (some w.heap.size)] 107)) := by
  have b1 := (Below.refl w.heap.size w).alloc (Nat.le_refl _) (.map #[] 0)
  have b2 := (Below.refl (w.alloc (.map #[] 0)).heap.size _).alloc (Nat.le_refl _) (.cells #[.pointer (some ⟨bb, 0, none⟩), .int .i64 c, .map (some w.heap.size)] 107)
  obtain ⟨_, _, _, _, hb⟩ := h
  have hM := hb.ltM
  have h0 := hb.below.size
  have hs : (w.alloc (.map #[] 0)).heap.size = w.heap.size + 1 := by simp
  refine ⟨⟨_, _, _, _, (hb.next b1).next b2⟩, (imap_new w).kg (Kg.of_below b2 : Kg 0 (fun _ => False) (fun _ => False) _ _) id, by omega, h0, by omega, ?_⟩
  rw [← hs]
  exact World.alloc_heap_new _ _
abbrev Uh (bb M Md : Nat) : Nat → Prop := fun k => Ub bb M k ∨ k = Md
theorem Fm.kh {Md : Nat} {X Y : World} (k : Fm bb M Md X Y) (h : BookAt w0 bb M B X) (hd : w0.heap.size ≤ Md) : Kg w0.heap.size (Uh bb M Md) Tb X Y := by
  obtain ⟨pv, sv, bv, xs, h⟩ := h
  refine ⟨k.os, k.tape, k.output, k.size, fun i hi hc => k.block i hi ?_ ?_ ?_ ?_⟩
  · rintro rfl
    have := h.base
    rcases hc with hc | hc
    · omega
    · exact hc.1 (.inl (.inl rfl))
  · rintro rfl
    have := h.baseM
    rcases hc with hc | hc
    · omega
    · exact hc.1 (.inl (.inr rfl))
  · rintro rfl
    rcases hc with hc | hc
    · omega
    · exact hc.1 (.inr rfl)
  · intro hr
    obtain ⟨h1, cs, t, fz, h2, h3⟩ := h.rowTb hr
    rcases hc with hc | hc
    · omega
    · exact hc.2 cs t fz h2 h3
theorem wholeG_cons (c : Int) {l : List Nat} {k : Nat} (hk : k < l.length) (B : Bk) (D : Mm) (left : Nat) :
    wholeG c (l.drop k) B D left = wholeG c (l.drop (k + 1)) (altF (lw c (l.getD k 0 + 1) B D (l.getD k 0)).1 left (lw c (l.getD k 0 + 1) B D (l.getD k 0)).2.2).1 (lw c (l.getD k 0 + 1) B D (l.getD k 0)).2.1 (altF (lw c (l.getD k 0 + 1) B D (l.getD k 0)).1 left (lw c (l.getD k 0 + 1) B D (l.getD k 0)).2.2).2 := by
  rw [List.drop_eq_getElem_cons hk, show l.getD k 0 = l[k] by simp [List.getD, hk]]
  rfl

set_option maxRecDepth 100000 in
set_option maxHeartbeats 16000000 in
theorem whole_any (h : BookAt w0 bb M B w) (g : Good B) (hr : RowI w lv l) (hl : ∀ x, x ∈ l → x < B.parts.length) :
    Calls Tryz.prog 39 #[.pointer (some ⟨bb, 0, none⟩), lv, .int .i64 c] w (WayAt w0 bb M w (wholeF B l c)) := by
  obtain ⟨ao, cap, rfl, hm, _⟩ := hr.at'
  have hbk := h
  obtain ⟨pv, sv, bv, xs, hb⟩ := hbk
  have hws := hb.below.size
  have hne : ∀ k, (Value.slice ao l.length cap).ownBlock = some k → ¬ Uh bb M w.heap.size k := fun k hk e => by
    have h1 := hr.lt hk
    rcases e with (e | e) | e
    · exact hr.ne hb.box (fun _ _ e => by cases e) hk e
    · obtain ⟨D, h2, _⟩ := hb.map.map
      obtain ⟨es, clock, hh, _⟩ := h2
      exact hr.ne hh (fun _ _ e => by cases e) hk e
    · omega
  have HNE := Lib.hid hne
  have b2 : Below w.heap.size w ((w.alloc (.map #[] 0)).alloc (.cells #[.pointer (some ⟨bb, 0, none⟩), .int .i64 c, .map (some w.heap.size)] 107)) := ((Below.refl w.heap.size w).alloc (Nat.le_refl _) _).alloc (by simp) _
  have S0 := Lib.hid (step_new h c)
  have R0 := Lib.hid (hr.below b2)
  have B0 := Lib.hid (Kg.of_below b2 : Kg w0.heap.size (Uh bb M w.heap.size) Tb w _)
  have L0 := Lib.hid (show Lem c B B [] from ⟨g, Ext.refl B, fun p hp => (by cases hp), fun _ p hp => (by cases hp)⟩)
  have HL := Lib.hid hl
  have two := g.two
  have hF : ∀ p, wholeG c l B [] 0 = p → wholeF B l c = (p.1, if p.2 = 0 then [] else [p.2]) := fun p hp => by unfold wholeF; rw [hp]
  have HF := Lib.hid hF
  have HG := Lib.hid g
  clear hr hl hb h hne b2 hF
  have hmm := @run_makeMap Tryz.prog
  go_enter Tryz.func39, Tryz.ntmps39
  go_wp2
  go_loopw [8, 17] (fun lf i wr => ∃ (k : Nat) (C : Bk) (D : Mm) (left : Nat), lf = .int .i64 (left : Nat) ∧ i = .int .i64 k ∧ k ≤ l.length ∧ StAt w0 bb M (w.heap.size + 1) w.heap.size c C D wr ∧ Lem c B C D ∧ (D.map Prod.fst).Nodup ∧ left < C.parts.length ∧ wholeG c (l.drop k) C D left = wholeG c l B [] 0 ∧ RowI wr (.slice ao l.length cap) l ∧ Kg w0.heap.size (Uh bb M w.heap.size) Tb w wr) (fun _ i _ => l.length - (intOf i).toNat)
  case atStart => exact ⟨0, B, [], 0, rfl, rfl, Nat.zero_le _, S0.out, L0.out, List.nodup_nil, by omega, rfl, R0.out, B0.out⟩
  case round =>
    clear hmm
    obtain ⟨k, C, D, left, rfl, rfl, hk, hS, hLe, hnd, hleft, hw, hrow, hbel⟩ := hrel
    have HS := Lib.hid hS
    have HB := Lib.hid hbel
    have HR := Lib.hid hrow
    have hsz := hbel.size
    by_cases hlt : k < l.length
    · obtain ⟨ga, rfl, c1⟩ := HR.out.cellI hlt
      have n1 : (k : Int) < l.length := by omega
      have hxl := HL.out (l.getD k 0) (by simp [List.getD, hlt])
      rw [wholeG_cons c hlt] at hw
      have HW := Lib.hid hw
      generalize l.getD k 0 = x at *
      have p := lw_out HG.out (x + 1) C D x hLe (by omega) hxl
      have kp := lw_keys HG.out (x + 1) C D x hLe hnd (by omega) hxl
      have m := altF_out p.mem.good (x := left) (Nat.lt_of_lt_of_le hleft p.ext.le) p.lt
      have C1 := Lib.hid (left_any HG.out (x + 1) C D x wr hS hLe hnd (by omega) hxl)
      have C2 := Lib.hid (fun X (hX : BookAt w0 bb M (lw c (x + 1) C D x).1 X) => alt_any hX p.mem.good (x := left) (y := (lw c (x + 1) C D x).2.2) (Nat.lt_of_lt_of_le hleft p.ext.le) p.lt)
      have HN := Lib.hid (p.mem.next m.good m.ext)
      have HK := Lib.hid kp.nodup
      have HM := Lib.hid m.lt
      unfold LeftAt at C1
      unfold OpAt at C2
      generalize lw c (x + 1) C D x = P at *
      generalize altF P.1 left P.2.2 = Q at *
      clear p kp m hS hLe hnd hleft hw hrow hbel hxl
      go_wp2_with (first
        | (go_at_call 60; (with_reducible refine C1.out.mono ?_); rintro e w1 ⟨rfl, h1, k1⟩; go_must (have H1 := Lib.hid h1; have K1 := Lib.hid (HB.out.trans (k1.kh HS.out.book hws)); have R1 := Lib.hid (HR.out.kg (k1.kh HS.out.book hws) (by unfold Tb; decide) HNE.out); clear h1 k1))
        | (go_at_call 59; (with_reducible refine (C2.out _ H1.out.book).mono ?_); rintro e w2 ⟨rfl, h2, k2⟩; go_must (have H2 := Lib.hid (H1.out.kb h2 k2); have K2 := Lib.hid (K1.out.trans ((Fm.of_fz (Md := w.heap.size) k2).kh H1.out.book hws)); have R2 := Lib.hid (R1.out.kg ((Fm.of_fz (Md := w.heap.size) k2).kh H1.out.book hws) (by unfold Tb; decide) HNE.out); clear h2 k2))
        | fail)
      go_roundw
      case rel => exact ⟨k + 1, Q.1, P.2.1, Q.2, rfl, by go_num, by omega, H2.out, HN.out, HK.out, HM.out, HW.out, R2.out, K2.out⟩
      case measure => simp [intOf]; omega
    · obtain rfl : k = l.length := by omega
      rw [List.drop_length] at hw
      have hf := HF.out (C, left) hw.symm
      have KK := Lib.hid (HB.out.mono (V := Ub bb M) (S := Tw) (fun k hk hU => hU.elim id (fun e => by omega)) (fun _ h => .inl h))
      dsimp only at hf
      clear hw HF hLe hnd hleft hrow hbel hS
      by_cases h0 : left = 0
      · subst h0
        rw [if_pos rfl] at hf
        have HFF := Lib.hid hf
        clear hf
        go_wp2
        go_ret
        rw [HFF.out]
        exact ⟨_, rfl, .inl ⟨rfl, rfl⟩, HS.out.book, KK.out⟩
      · rw [if_neg h0] at hf
        have HFF := Lib.hid hf
        have f0 := nz h0
        have BW := Lib.hid (fun o => (Below.refl wr.heap.size wr).alloc (Nat.le_refl _) o)
        clear h0 hf
        go_wp2
        go_ret
        rw [HFF.out]
        refine ⟨_, rfl, .inr ⟨wr.heap.size, 1, _, rfl, (by unfold maxLen; simp), World.alloc_heap_new wr _, ?_⟩, ?_, KK.out.trans (Kg.of_below (BW.out _))⟩
        · simp [castL]
        · exact (HS.out.next (BW.out _)).book
end
end Go.Proofs.YtbkafoaoddajoaaGreatDoor.Dv

namespace Go.Proofs.YtbkafoaoddajoaaGreatDoor.Ut
open Go

theorem nth_lt (l : List UInt8) (i : Nat) : (l.getD i 0).toNat < 256 := UInt8.toNat_lt _
/-- the byte at a place, as a number -/
def nth (l : List UInt8) (i : Nat) : Int := ((l.getD i 0).toNat : Int)
theorem nth_range (l : List UInt8) (i : Nat) : 0 ≤ nth l i ∧ nth l i < 256 := by
  have := nth_lt l i
  unfold nth; omega
/-- the library's decoding of the beginning -/
def dN (l : List UInt8) : Nat × Nat := Lib.decodeN l.length (l.getD 0 0).toNat (l.getD 1 0).toNat (l.getD 2 0).toNat (l.getD 3 0).toNat

def scalar (c : Int) : Bool := decide ((0 ≤ c ∧ c < 55296) ∨ (57343 < c ∧ c ≤ 1114111))
theorem scalar_iff (c : Int) : scalar c = true ↔ (0 ≤ c ∧ c < 55296) ∨ (57343 < c ∧ c ≤ 1114111) := by simp [scalar]
theorem scalar_not (c : Int) : scalar c = false ↔ ¬ ((0 ≤ c ∧ c < 55296) ∨ (57343 < c ∧ c ≤ 1114111)) := by
  rw [← scalar_iff]; simp
def putL (c : Int) : List UInt8 := if scalar c then Lib.encodeRune c else []

def getL (l : List UInt8) : Int × Nat :=
  if l = [] then (-1, 0) else if (dN l).1 = 65533 ∧ (dN l).2 = 1 then (-1, 1) else (((dN l).1 : Int), (dN l).2)

def ints (l : List UInt8) : List Int := l.map fun b => (b.toNat : Int)
theorem ints_inj : ∀ {l m : List UInt8}, ints l = ints m → l = m
  | [], [], _ => rfl
  | [], _ :: _, h => by simp [ints] at h
  | _ :: _, [], h => by simp [ints] at h
  | a :: l, b :: m, h => by
    simp only [ints, List.map_cons, List.cons.injEq] at h
    have e : a = b := UInt8.toNat_inj.1 (by omega)
    rw [e, ints_inj (l := l) (m := m) h.2]
theorem ints_encode (c : Int) : ints (Lib.encodeRune c) = Lib.encodeRuneZ c := by
  simp only [ints, Lib.encodeRune, List.map_map]
  conv => rhs; rw [← List.map_id (Lib.encodeRuneZ c)]
  apply List.map_congr_left
  intro x hx
  obtain ⟨h0, h1⟩ := Lib.encodeRuneZ_byte c x hx
  simp [Function.comp]
  omega

theorem take1 (l : List UInt8) (h : 1 ≤ l.length) : ints (l.take 1) = [nth l 0] := by
  match l, h with
  | a :: l, _ => simp [ints, nth]
theorem take2 (l : List UInt8) (h : 2 ≤ l.length) : ints (l.take 2) = [nth l 0, nth l 1] := by
  match l, h with
  | a :: b :: l, _ => simp [ints, nth]
theorem take3 (l : List UInt8) (h : 3 ≤ l.length) : ints (l.take 3) = [nth l 0, nth l 1, nth l 2] := by
  match l, h with
  | a :: b :: c :: l, _ => simp [ints, nth]
theorem take4 (l : List UInt8) (h : 4 ≤ l.length) : ints (l.take 4) = [nth l 0, nth l 1, nth l 2, nth l 3] := by
  match l, h with
  | a :: b :: c :: d :: l, _ => simp [ints, nth]

/-- the four ways that a code point's bytes stand at the beginning -/
def Begins (l : List UInt8) (c : Int) (k : Nat) : Prop :=
  (k = 1 ∧ 1 ≤ l.length ∧ 0 ≤ c ∧ c ≤ 127 ∧ nth l 0 = c) ∨
  (k = 2 ∧ 2 ≤ l.length ∧ 128 ≤ c ∧ c ≤ 2047 ∧ nth l 0 = 192 + c / 64 ∧ nth l 1 = 128 + c % 64) ∨
  (k = 3 ∧ 3 ≤ l.length ∧ ((2048 ≤ c ∧ c < 55296) ∨ (57343 < c ∧ c ≤ 65535)) ∧ nth l 0 = 224 + c / 4096 ∧ nth l 1 = 128 + c / 64 % 64 ∧ nth l 2 = 128 + c % 64) ∨
  (k = 4 ∧ 4 ≤ l.length ∧ 65536 ≤ c ∧ c ≤ 1114111 ∧ nth l 0 = 240 + c / 262144 ∧ nth l 1 = 128 + c / 4096 % 64 ∧ nth l 2 = 128 + c / 64 % 64 ∧ nth l 3 = 128 + c % 64)
theorem Begins.one {l : List UInt8} {c : Int} (h : 1 ≤ l.length) (h0 : 0 ≤ c) (h1 : c ≤ 127) (e0 : nth l 0 = c) : Begins l c 1 := .inl ⟨rfl, h, h0, h1, e0⟩
theorem Begins.two {l : List UInt8} {c : Int} (h : 2 ≤ l.length) (h0 : 128 ≤ c) (h1 : c ≤ 2047) (e0 : nth l 0 = 192 + c / 64) (e1 : nth l 1 = 128 + c % 64) : Begins l c 2 := .inr (.inl ⟨rfl, h, h0, h1, e0, e1⟩)
theorem Begins.three {l : List UInt8} {c : Int} (h : 3 ≤ l.length) (h0 : (2048 ≤ c ∧ c < 55296) ∨ (57343 < c ∧ c ≤ 65535)) (e0 : nth l 0 = 224 + c / 4096) (e1 : nth l 1 = 128 + c / 64 % 64) (e2 : nth l 2 = 128 + c % 64) : Begins l c 3 := .inr (.inr (.inl ⟨rfl, h, h0, e0, e1, e2⟩))
theorem Begins.four {l : List UInt8} {c : Int} (h : 4 ≤ l.length) (h0 : 65536 ≤ c) (h1 : c ≤ 1114111) (e0 : nth l 0 = 240 + c / 262144) (e1 : nth l 1 = 128 + c / 4096 % 64) (e2 : nth l 2 = 128 + c / 64 % 64) (e3 : nth l 3 = 128 + c % 64) : Begins l c 4 := .inr (.inr (.inr ⟨rfl, h, h0, h1, e0, e1, e2, e3⟩))

theorem Begins.scalar {l : List UInt8} {c : Int} {k : Nat} (h : Begins l c k) : scalar c = true := by
  rw [scalar_iff]; rcases h with ⟨rfl, h, h0, h1, e0⟩ | ⟨rfl, h, h0, h1, e0, e1⟩ | ⟨rfl, h, h0, e0, e1, e2⟩ | ⟨rfl, h, h0, h1, e0, e1, e2, e3⟩ <;> omega
theorem Begins.len {l : List UInt8} {c : Int} {k : Nat} (h : Begins l c k) : 1 ≤ k ∧ k ≤ 4 ∧ k ≤ l.length := by
  rcases h with ⟨rfl, h, h0, h1, e0⟩ | ⟨rfl, h, h0, h1, e0, e1⟩ | ⟨rfl, h, h0, e0, e1, e2⟩ | ⟨rfl, h, h0, h1, e0, e1, e2, e3⟩ <;> omega
theorem Begins.encode {l : List UInt8} {c : Int} {k : Nat} (h : Begins l c k) : Lib.encodeRune c = l.take k := by
  apply ints_inj
  rw [ints_encode]
  rcases h with ⟨rfl, h, h0, h1, e0⟩ | ⟨rfl, h, h0, h1, e0, e1⟩ | ⟨rfl, h, h0, e0, e1, e2⟩ | ⟨rfl, h, h0, h1, e0, e1, e2, e3⟩
  · rw [take1 l h, Lib.encodeRuneZ_one h0 h1, e0]
  · rw [take2 l h, Lib.encodeRuneZ_two h0 h1, e0, e1]
  · rw [take3 l h, Lib.encodeRuneZ_three h0, e0, e1, e2]
  · rw [take4 l h, Lib.encodeRuneZ_four h0 h1, e0, e1, e2, e3]

theorem Begins.of {l : List UInt8} {c : Int} {k : Nat} (hs : Ut.scalar c = true) (hk : k ≤ l.length) (he : Lib.encodeRune c = l.take k) : Begins l c k := by
  rw [scalar_iff] at hs
  have hi := congrArg ints he
  rw [ints_encode] at hi
  have hn : k = (Lib.encodeRuneZ c).length := by
    have := congrArg List.length hi
    simp only [ints, List.length_map, List.length_take] at this
    omega
  by_cases a : c ≤ 127
  · rw [Lib.encodeRuneZ_one (by omega) a] at hi hn
    simp only [List.length_cons, List.length_nil] at hn
    subst hn
    rw [take1 l (by omega)] at hi
    simp only [List.cons.injEq, and_true] at hi
    exact Begins.one (by omega) (by omega) a hi.symm
  · by_cases b : c ≤ 2047
    · rw [Lib.encodeRuneZ_two (by omega) b] at hi hn
      simp only [List.length_cons, List.length_nil] at hn
      subst hn
      rw [take2 l (by omega)] at hi
      simp only [List.cons.injEq, and_true] at hi
      exact Begins.two (by omega) (by omega) b hi.1.symm hi.2.symm
    · by_cases d : c ≤ 65535
      · rw [Lib.encodeRuneZ_three (by omega)] at hi hn
        simp only [List.length_cons, List.length_nil] at hn
        subst hn
        rw [take3 l (by omega)] at hi
        simp only [List.cons.injEq, and_true] at hi
        exact Begins.three (by omega) (by omega) hi.1.symm hi.2.1.symm hi.2.2.symm
      · rw [Lib.encodeRuneZ_four (by omega) (by omega)] at hi hn
        simp only [List.length_cons, List.length_nil] at hn
        subst hn
        rw [take4 l (by omega)] at hi
        simp only [List.cons.injEq, and_true] at hi
        exact Begins.four (by omega) (by omega) (by omega) hi.1.symm hi.2.1.symm hi.2.2.1.symm hi.2.2.2.symm

set_option maxRecDepth 100000 in
set_option maxHeartbeats 4000000 in
theorem dN_of {l : List UInt8} {c : Int} {k : Nat} (h : Begins l c k) : dN l = (c.toNat, k) := by
  unfold dN
  rcases h with ⟨rfl, h, h0, h1, e0⟩ | ⟨rfl, h, h0, h1, e0, e1⟩ | ⟨rfl, h, h0, e0, e1, e2⟩ | ⟨rfl, h, h0, h1, e0, e1, e2, e3⟩
  ·
    unfold nth at *
    generalize (l.getD 0 0).toNat = b0 at *
    unfold Lib.decodeN
    rw [if_pos (by omega)]
    apply Prod.ext <;> simp only <;> omega
  ·
    unfold nth at *
    generalize (l.getD 0 0).toNat = b0 at *
    generalize (l.getD 1 0).toNat = b1 at *
    unfold Lib.decodeN
    rw [if_neg (by omega), if_pos (by omega), if_pos (by omega)]
    apply Prod.ext <;> simp only <;> omega
  ·
    unfold nth at *
    generalize (l.getD 0 0).toNat = b0 at *
    generalize (l.getD 1 0).toNat = b1 at *
    generalize (l.getD 2 0).toNat = b2 at *
    unfold Lib.decodeN
    rw [if_neg (by omega), if_neg (by omega), if_pos (by omega), if_pos (by omega)]
    apply Prod.ext <;> simp only <;> omega
  ·
    unfold nth at *
    generalize (l.getD 0 0).toNat = b0 at *
    generalize (l.getD 1 0).toNat = b1 at *
    generalize (l.getD 2 0).toNat = b2 at *
    generalize (l.getD 3 0).toNat = b3 at *
    unfold Lib.decodeN
    rw [if_neg (by omega), if_neg (by omega), if_neg (by omega), if_pos (by omega), if_pos (by omega)]
    apply Prod.ext <;> simp only <;> omega

set_option maxRecDepth 100000 in
set_option maxHeartbeats 4000000 in
theorem dN_back {l : List UInt8} (hl : l ≠ []) : dN l = (65533, 1) ∨ Begins l (dN l).1 (dN l).2 := by
  have hlen : 1 ≤ l.length := by cases l <;> simp_all
  have q0 := nth_lt l 0; have q1 := nth_lt l 1; have q2 := nth_lt l 2; have q3 := nth_lt l 3
  have key : ∀ b0 b1 b2 b3 : Nat, b0 < 256 → b1 < 256 → b2 < 256 → b3 < 256 → nth l 0 = b0 → nth l 1 = b1 → nth l 2 = b2 → nth l 3 = b3 →
      Lib.decodeN l.length b0 b1 b2 b3 = (65533, 1) ∨ Begins l (Lib.decodeN l.length b0 b1 b2 b3).1 (Lib.decodeN l.length b0 b1 b2 b3).2 := by
    intro b0 b1 b2 b3 p0 p1 p2 p3 e0 e1 e2 e3
    unfold Lib.decodeN
    repeat' split
    all_goals first
      | exact .inl rfl
      | (right; exact Begins.one (by omega) (by dsimp only; omega) (by dsimp only; omega) (by dsimp only; omega))
      | (right; exact Begins.two (by omega) (by dsimp only; omega) (by dsimp only; omega) (by dsimp only; omega) (by dsimp only; omega))
      | (right; exact Begins.three (by omega) (by dsimp only; omega) (by dsimp only; omega) (by dsimp only; omega) (by dsimp only; omega))
      | (right; exact Begins.four (by omega) (by dsimp only; omega) (by dsimp only; omega) (by dsimp only; omega) (by dsimp only; omega) (by dsimp only; omega) (by dsimp only; omega))
  exact key _ _ _ _ q0 q1 q2 q3 rfl rfl rfl rfl

theorem getL_of {l : List UInt8} {c : Int} {k : Nat} (h : Begins l c k) : getL l = (c, k) := by
  have hk := h.len
  have hs := h.scalar
  rw [scalar_iff] at hs
  have hd := dN_of h
  have hne : l ≠ [] := by intro e; subst e; simp at hk; omega
  unfold getL
  rw [if_neg hne, hd]
  rw [if_neg]
  · apply Prod.ext <;> simp only
    omega
  · rintro ⟨a, b⟩
    simp only at a b
    rcases h with ⟨_, h, h0, h1, e0⟩ | ⟨_, h, h0, h1, e0, e1⟩ | ⟨_, h, h0, e0, e1, e2⟩ | ⟨_, h, h0, h1, e0, e1, e2, e3⟩ <;> omega
theorem getL_cases {l : List UInt8} (hl : l ≠ []) : getL l = (-1, 1) ∨ Begins l (getL l).1 (getL l).2 := by
  rcases dN_back hl with h | h
  · left; unfold getL; rw [if_neg hl, if_pos (by rw [h]; exact ⟨rfl, rfl⟩)]
  · right; rw [getL_of h]; exact h
theorem getL_nil : getL [] = (-1, 0) := rfl
theorem getL_width {l : List UInt8} (hl : l ≠ []) : 1 ≤ (getL l).2 ∧ (getL l).2 ≤ l.length ∧ (getL l).2 ≤ 4 := by
  have hlen : 1 ≤ l.length := by cases l <;> simp_all
  rcases getL_cases hl with h | h
  · rw [h]; simp only; omega
  · have := h.len; omega
theorem getL_range (l : List UInt8) : (getL l).1 = -1 ∨ (0 ≤ (getL l).1 ∧ (getL l).1 ≤ 1114111) := by
  by_cases hl : l = []
  · subst hl; left; rfl
  · rcases getL_cases hl with h | h
    · left; rw [h]
    · right; have := h.scalar; rw [scalar_iff] at this; omega

/-- what follows doesn't matter -/
theorem begins_put {c : Int} (more : List UInt8) (hs : scalar c = true) : Begins (Lib.encodeRune c ++ more) c (Lib.encodeRune c).length :=
  Begins.of hs (by simp) (by simp)

/-! ### the document's way to find it -/
def lead (n : Nat) : Int := if n = 2 then 192 else if n = 3 then 224 else if n = 4 then 240 else 0
def guessR (l : List UInt8) : Nat → Nat → Int → Int
  | 0, _, c => c
  | f + 1, i, c => guessR l f (i + 1) (64 * c + nth l i - 128)
def guessL (l : List UInt8) (n : Nat) : Int := guessR l (n - 1) 1 (nth l 0 - lead n)
theorem guess1 (l : List UInt8) : guessL l 1 = nth l 0 := by simp [guessL, guessR, lead]
theorem guess2 (l : List UInt8) : guessL l 2 = 64 * (nth l 0 - 192) + nth l 1 - 128 := by simp [guessL, guessR, lead]
theorem guess3 (l : List UInt8) : guessL l 3 = 64 * (64 * (nth l 0 - 224) + nth l 1 - 128) + nth l 2 - 128 := by simp [guessL, guessR, lead]
theorem guess4 (l : List UInt8) : guessL l 4 = 64 * (64 * (64 * (nth l 0 - 240) + nth l 1 - 128) + nth l 2 - 128) + nth l 3 - 128 := by simp [guessL, guessR, lead]
theorem guess_of {l : List UInt8} {c : Int} {k : Nat} (h : Begins l c k) : guessL l k = c := by
  rcases h with ⟨rfl, h, h0, h1, e0⟩ | ⟨rfl, h, h0, h1, e0, e1⟩ | ⟨rfl, h, h0, e0, e1, e2⟩ | ⟨rfl, h, h0, h1, e0, e1, e2, e3⟩
  · rw [guess1, e0]
  · rw [guess2, e0, e1]; omega
  · rw [guess3, e0, e1, e2]; omega
  · rw [guess4, e0, e1, e2, e3]; omega
theorem guess_range (l : List UInt8) (n : Nat) (h : 1 ≤ n) (h4 : n ≤ 4) : -200000000 ≤ guessL l n ∧ guessL l n ≤ 200000000 := by
  have q0 := nth_range l 0; have q1 := nth_range l 1; have q2 := nth_range l 2; have q3 := nth_range l 3
  have : n = 1 ∨ n = 2 ∨ n = 3 ∨ n = 4 := by omega
  rcases this with rfl | rfl | rfl | rfl
  · rw [guess1]; omega
  · rw [guess2]; omega
  · rw [guess3]; omega
  · rw [guess4]; omega

theorem getL_hit {l : List UInt8} {n : Nat} (hn : n ≤ l.length) (hs : scalar (guessL l n) = true) (he : putL (guessL l n) = l.take n) : getL l = (guessL l n, n) := by
  unfold putL at he
  rw [if_pos hs] at he
  exact getL_of (Begins.of hs hn he)
/-- no number of bytes is right -/
def misses (l : List UInt8) (k : Nat) : Prop := ∀ n, 1 ≤ n → n < k → n ≤ l.length → ¬ (scalar (guessL l n) = true ∧ putL (guessL l n) = l.take n)
theorem misses_one (l : List UInt8) : misses l 1 := fun n h0 h1 => by omega
theorem misses_step {l : List UInt8} {k : Nat} (h : misses l k) (hk : ¬ (scalar (guessL l k) = true ∧ putL (guessL l k) = l.take k)) : misses l (k + 1) := by
  intro n h0 h1 h2
  by_cases e : n = k
  · subst e; exact hk
  · exact h n h0 (by omega) h2
theorem getL_miss {l : List UInt8} {k : Nat} (hl : l ≠ []) (h : misses l k) (hk : 4 < k ∨ l.length < k) : getL l = (-1, 1) := by
  rcases getL_cases hl with h0 | h0
  · exact h0
  · exfalso
    have hk2 := h0.len
    refine h (getL l).2 hk2.1 (by omega) hk2.2.2 ?_
    rw [guess_of h0]
    refine ⟨h0.scalar, ?_⟩
    unfold putL
    rw [if_pos h0.scalar]
    exact h0.encode

/-! ### all code points of a text -/
def allF : Nat → List UInt8 → List Int
  | 0, _ => []
  | f + 1, l => if l = [] then [] else (getL l).1 :: allF f (l.drop (getL l).2)
def allL (l : List UInt8) : List Int := allF l.length l
theorem allF_nil : ∀ f, allF f [] = []
  | 0 => rfl
  | _ + 1 => rfl
theorem allF_more : ∀ (f g : Nat) (l : List UInt8), l.length ≤ f → l.length ≤ g → allF f l = allF g l
  | f, g, [], _, _ => by rw [allF_nil, allF_nil]
  | 0, _, _ :: _, h, _ => by simp at h
  | _, 0, _ :: _, _, h => by simp at h
  | f + 1, g + 1, a :: l, h, h2 => by
    have hw := getL_width (l := a :: l) (by simp)
    have e : ¬ (a :: l) = [] := by simp
    simp only [List.length_cons] at h h2 hw
    have := allF_more f g ((a :: l).drop (getL (a :: l)).2) (by simp only [List.length_drop, List.length_cons]; omega) (by simp only [List.length_drop, List.length_cons]; omega)
    rw [allF, allF, if_neg e, if_neg e, this]
theorem allL_nil : allL [] = [] := rfl
theorem allL_cons {l : List UInt8} (h : l ≠ []) : allL l = (getL l).1 :: allL (l.drop (getL l).2) := by
  have hw := getL_width h
  obtain ⟨f, hf⟩ : ∃ f, l.length = f + 1 := ⟨l.length - 1, by omega⟩
  have := allF_more f (l.drop (getL l).2).length (l.drop (getL l).2) (by simp only [List.length_drop]; omega) (Nat.le_refl _)
  unfold allL
  rw [← this, hf, allF, if_neg h]
theorem allL_length : ∀ (n : Nat) (l : List UInt8), l.length ≤ n → (allL l).length ≤ l.length
  | 0, l, h => by
    have : l = [] := List.eq_nil_of_length_eq_zero (by omega)
    subst this; simp [allL_nil]
  | n + 1, l, h => by
    by_cases e : l = []
    · subst e; simp [allL_nil]
    · have hw := getL_width e
      rw [allL_cons e]
      have := allL_length n (l.drop (getL l).2) (by simp only [List.length_drop]; omega)
      simp only [List.length_drop, List.length_cons] at this ⊢
      omega
theorem allL_le (l : List UInt8) : (allL l).length ≤ l.length := allL_length l.length l (Nat.le_refl _)
def validL (l : List UInt8) : Bool := (allL l).all fun c => decide (0 ≤ c)
def joinL (xs : List Int) : List UInt8 := xs.flatMap putL
theorem joinL_snoc (xs : List Int) (c : Int) : joinL (xs ++ [c]) = joinL xs ++ putL c := by simp [joinL]
theorem joinL_cons (xs : List Int) (c : Int) : joinL (c :: xs) = putL c ++ joinL xs := by simp [joinL]

theorem join_all : ∀ (n : Nat) (l : List UInt8), l.length ≤ n → validL l = true → joinL (allL l) = l
  | 0, l, h, _ => by
    have : l = [] := List.eq_nil_of_length_eq_zero (by omega)
    subst this; simp [allL_nil, joinL]
  | n + 1, l, h, hv => by
    by_cases e : l = []
    · subst e; simp [allL_nil, joinL]
    · have hw := getL_width e
      unfold validL at hv
      rw [allL_cons e] at hv ⊢
      simp only [List.all_cons, Bool.and_eq_true, decide_eq_true_eq] at hv
      rw [joinL_cons, join_all n (l.drop (getL l).2) (by simp only [List.length_drop]; omega) hv.2]
      rcases getL_cases e with h0 | h0
      · rw [h0] at hv; simp at hv
      · rw [putL, if_pos h0.scalar, h0.encode, List.take_append_drop]
theorem put_ne {c : Int} (h : scalar c = true) : putL c ≠ [] := by
  rw [putL, if_pos h]
  intro e
  have := (Lib.runeCells_le c).1
  rw [Lib.runeCells_length, e] at this
  simp at this
theorem getL_put {c : Int} (more : List UInt8) (h : scalar c = true) : getL (putL c ++ more) = (c, (putL c).length) := by
  rw [putL, if_pos h]
  exact getL_of (begins_put more h)
theorem valid_join : ∀ (xs : List Int), validL (joinL xs) = true
  | [] => by simp [joinL, validL, allL_nil]
  | c :: xs => by
    rw [joinL_cons]
    cases h : scalar c with
    | false => rw [putL, h]; exact valid_join xs
    | true =>
      have hne : putL c ++ joinL xs ≠ [] := by
        intro e; exact put_ne h (List.append_eq_nil_iff.1 e).1
      have hv := valid_join xs
      unfold validL at hv ⊢
      rw [allL_cons hne, getL_put _ h]
      simp only [List.all_cons, List.drop_left, Bool.and_eq_true, decide_eq_true_eq]
      rw [scalar_iff] at h
      exact ⟨by omega, hv⟩
theorem put_len (c : Int) : (putL c).length ≤ 4 := by
  unfold putL
  split
  · rw [← Lib.runeCells_length]; exact (Lib.runeCells_le c).2
  · simp
theorem join_len : ∀ (xs : List Int), (joinL xs).length ≤ 4 * xs.length
  | [] => by simp [joinL]
  | c :: xs => by
    rw [joinL_cons]
    have := put_len c; have := join_len xs
    simp only [List.length_append, List.length_cons]; omega
theorem put_bad {c : Int} (h : scalar c = false) : putL c = [] := by simp [putL, h]
theorem put_good {c : Int} (h : scalar c = true) : putL c = Lib.encodeRune c := by simp [putL, h]

end Go.Proofs.YtbkafoaoddajoaaGreatDoor.Ut

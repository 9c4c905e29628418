/- The document's Same. -/
import Derived.Test.YtdgpanofehfjdaaArBox
import Derived.Deep.RegionHeld3
namespace Go.Proofs.Ytdgpanofehfjdaa.Ar
open Go Go.RowKit Go.Shelf
open Go.Proofs.Ytdgpanofehfjdaa.Rg (R RngsAt RowsAt nthL add_zero own_next rsame_any)

theorem ret_bool {a b : Bool} (h : a = b) : Ending.returned (.bool a) = .returned (.bool b) := by rw [h]
theorem sameT_no {p q : Tr} {x y : Nat} (h : ¬ ((nd p.ns x).op = (nd q.ns y).op ∧ (nd p.ns x).lo = (nd q.ns y).lo ∧ (nd p.ns x).hi = (nd q.ns y).hi)) : sameT p q x y = false := by rw [sameT, if_neg h]
theorem sameT_set {p q : Tr} {x y : Nat} (h : (nd p.ns x).op = (nd q.ns y).op ∧ (nd p.ns x).lo = (nd q.ns y).lo ∧ (nd p.ns x).hi = (nd q.ns y).hi) (h2 : (nd p.ns x).op = 2) : sameT p q x y = decide (nthL p.sets (nd p.ns x).set.toNat = nthL q.sets (nd q.ns y).set.toNat) := by rw [sameT, if_pos h, if_pos h2]; rfl
theorem sameT_two {p q : Tr} {x y : Nat} (h : (nd p.ns x).op = (nd q.ns y).op ∧ (nd p.ns x).lo = (nd q.ns y).lo ∧ (nd p.ns x).hi = (nd q.ns y).hi) (h2 : (nd p.ns x).op = 3 ∨ (nd p.ns x).op = 4) (ha : (nd p.ns x).a.toNat < x) (hb : (nd p.ns x).b.toNat < x) :
    sameT p q x y = (sameT p q (nd p.ns x).a.toNat (nd q.ns y).a.toNat && sameT p q (nd p.ns x).b.toNat (nd q.ns y).b.toNat) := by rw [sameT, if_pos h, if_neg (by omega), if_pos h2, if_pos ⟨ha, hb⟩]
theorem sameT_one {p q : Tr} {x y : Nat} (h : (nd p.ns x).op = (nd q.ns y).op ∧ (nd p.ns x).lo = (nd q.ns y).lo ∧ (nd p.ns x).hi = (nd q.ns y).hi) (h2 : (nd p.ns x).op = 5) (ha : (nd p.ns x).a.toNat < x) :
    sameT p q x y = sameT p q (nd p.ns x).a.toNat (nd q.ns y).a.toNat := by rw [sameT, if_pos h, if_neg (by omega), if_neg (by omega), if_pos h2, if_pos ha]
theorem sameT_none {p q : Tr} {x y : Nat} (h : (nd p.ns x).op = (nd q.ns y).op ∧ (nd p.ns x).lo = (nd q.ns y).lo ∧ (nd p.ns x).hi = (nd q.ns y).hi) (h1 : (nd p.ns x).op = 1) :
    sameT p q x y = true := by rw [sameT, if_pos h, if_neg (by omega), if_neg (by omega), if_neg (by omega)]

theorem cell4_2 (w : World) (a b d : Obj) (cs : Array Value) (t : TypeId) (j : Nat) : ((((w.alloc a).alloc b).alloc (.cells cs t)).alloc d).cell? ⟨w.heap.size + 1 + 1, j, none⟩ = cs[j]? := by
  rw [World.cell?_alloc_lt _ _ _ (by simp)]
  exact World.cell?_alloc_at _ _ _ _ (by simp)
theorem cell4_3 (w : World) (a b d : Obj) (cs : Array Value) (t : TypeId) (j : Nat) : ((((w.alloc a).alloc b).alloc d).alloc (.cells cs t)).cell? ⟨w.heap.size + 1 + 1 + 1, j, none⟩ = cs[j]? := World.cell?_alloc_at _ _ _ _ (by simp)
theorem cell4_1 (w : World) (a c d : Obj) (cs : Array Value) (t : TypeId) (j : Nat) : ((((w.alloc a).alloc (.cells cs t)).alloc c).alloc d).cell? ⟨w.heap.size + 1, j, none⟩ = cs[j]? := by
  rw [World.cell?_alloc_lt _ _ _ (by first | (simp; done) | (simp; omega)), World.cell?_alloc_lt _ _ _ (by first | (simp; done) | (simp; omega))]
  exact World.cell?_alloc_at _ _ _ _ (by simp)
theorem cell4_0 (w : World) (b c d : Obj) (cs : Array Value) (t : TypeId) (j : Nat) : ((((w.alloc (.cells cs t)).alloc b).alloc c).alloc d).cell? ⟨w.heap.size, j, none⟩ = cs[j]? := by
  rw [World.cell?_alloc_lt _ _ _ (by simp; omega), World.cell?_alloc_lt _ _ _ (by simp; omega), World.cell?_alloc_lt _ _ _ (by simp)]
  exact World.cell?_alloc_at _ _ _ _ (by simp)
theorem below4 (w : World) (a b c d : Obj) : Below w.heap.size w ((((w.alloc a).alloc b).alloc c).alloc d) := ((((Below.refl w.heap.size w).alloc (Nat.le_refl _) a).alloc (by simp) b).alloc (by simp; omega) c).alloc (by simp; omega) d

set_option maxRecDepth 100000 in
set_option maxHeartbeats 8000000 in
theorem rsameT_any (p q : Tr) (hp : Ok p) (hq : Ok q) : ∀ (x y : Nat), x < p.ns.length → y < q.ns.length → ∀ (v u : Value) (w : World), TreeAt w v p → TreeAt w u q →
    Calls Try.prog 13 #[v, .int .i64 x, u, .int .i64 y] w fun e w' => e = .returned (.bool (sameT p q x y)) ∧ Below w.heap.size w w' := by
  intro x
  induction x using Nat.strongRecOn with
  | ind x ih =>
    intro y hx hy v u w hv hu
    have HV := Lib.hid hv
    have HU := Lib.hid hu
    have IH := Lib.hid ih
    obtain ⟨ao, cap, so, scap, rfl, hm, hm2, hn, hs⟩ := hv.shape
    obtain ⟨g, rfl, hN⟩ := hn x hx
    obtain ⟨bo, bcap, to, tcap, rfl, km, km2, kn, ks⟩ := hu.shape
    obtain ⟨k, rfl, kN⟩ := kn y hy
    obtain ⟨c0, c1, c2, c3, c4, c5⟩ := hN
    obtain ⟨d0, d1, d2, d3, d4, d5⟩ := kN
    have hlt := cell_lt c0
    have klt := cell_lt d0
    have hlt1 : (g.add (x * 6)).block < w.heap.size + 1 := by omega
    have klt1 : (k.add (y * 6)).block < w.heap.size + 1 := by omega
    have klt2 : (k.add (y * 6)).block < w.heap.size + 1 + 1 := by omega
    have hw := nodeB_ways (hp.node x hx)
    have kw := nodeB_ways (hq.node y hy)
    have e0 := Lib.hid (sameT_no (p := p) (q := q) (x := x) (y := y))
    have e1 := Lib.hid (sameT_set (p := p) (q := q) (x := x) (y := y))
    have e2 := Lib.hid (sameT_two (p := p) (q := q) (x := x) (y := y))
    have e3 := Lib.hid (sameT_one (p := p) (q := q) (x := x) (y := y))
    have e4 := Lib.hid (sameT_none (p := p) (q := q) (x := x) (y := y))
    have HS := Lib.hid hs
    have KS := Lib.hid ks
    clear hn hv kn hu ih hp hq hs ks
    generalize nd p.ns x = n at *
    generalize nd q.ns y = m at *
    obtain ⟨r, hr⟩ : ∃ r, sameT p q x y = r := ⟨_, rfl⟩
    rw [hr] at e0 e1 e2 e3 e4 ⊢
    have HR := Lib.hid hr
    clear hr
    by_cases hop : n.op = m.op ∧ n.lo = m.lo ∧ n.hi = m.hi
    · rcases hw with ⟨a1, a2⟩ | ⟨a1, a2⟩ | ⟨a1, a2⟩ | ⟨a1, a2⟩
      · have E := Lib.hid (e4.out hop a1)
        obtain ⟨o1, o2, o3⟩ := hop
        rw [← o1] at d0
        rw [← o2] at d3
        rw [← o3] at d4
        have z2 : (n.op == 2) = false := by simp; omega
        have z3 : (n.op == 3) = false := by simp; omega
        have z4 : (n.op == 4) = false := by simp; omega
        have z5 : (n.op == 5) = false := by simp; omega
        clear a1 a2 kw o1 o2 o3 e0 e1 e2 e3 e4
        go_enter Try.func13, Try.ntmps13
        go_wp2
        go_ret
        exact ⟨ret_bool E.out.symm, below4 _ _ _ _ _⟩
      · have kx : 0 ≤ m.set ∧ m.set < q.sets.length := by omega
        obtain ⟨s1, hs1⟩ := Int.eq_ofNat_of_zero_le a2.2.2.2.2.1
        obtain ⟨s2, hs2⟩ := Int.eq_ofNat_of_zero_le kx.1
        have E := e1.out hop a1
        rw [hs1, hs2] at E
        simp only [Int.toNat_natCast] at E
        obtain ⟨gs, xs, rfl, x1, x2⟩ := HS.out s1 (by omega)
        obtain ⟨ks, ys, rfl, y1, y2⟩ := KS.out s2 (by omega)
        have hl1 : s1 < p.sets.length := by omega
        have hl2 : s2 < q.sets.length := by omega
        have E1 := Lib.hid E
        have xl := cell_lt x1
        have yl := cell_lt y1
        have XS := Lib.hid (fun W (h : Below w.heap.size w W) => And.intro (cell_next x1 h) (cell_next y1 h))
        have CS := Lib.hid (fun W (h : Below w.heap.size w W) => rsame_any (nthL p.sets s1) (nthL q.sets s2) xs ys W (x2.next h) (y2.next h))
        obtain ⟨o1, o2, o3⟩ := hop
        rw [← o1] at d0
        rw [← o2] at d3
        rw [← o3] at d4
        rw [hs1] at c5
        rw [hs2] at d5
        have z2 : (n.op == 2) = true := by simpa using a1
        clear a1 a2 kx kw o1 o2 o3 e0 e1 e2 e3 e4 E hs1 hs2 x2 y2 IH
        generalize decide (nthL p.sets s1 = nthL q.sets s2) = D at *
        go_enter Try.func13, Try.ntmps13
        go_wp2
        have r0 := below4 w (.cells #[.slice (some g) p.ns.length cap, .slice (some gs) p.sets.length scap, .int .i64 p.root] 25) (.cells #[.slice (some k) q.ns.length bcap, .slice (some ks) q.sets.length tcap, .int .i64 q.root] 25) (.cells #[.int .i64 n.op, .int .i64 n.a, .int .i64 n.b, .int .i64 n.lo, .int .i64 n.hi, .int .i64 s1] 41) (.cells #[.int .i64 n.op, .int .i64 m.a, .int .i64 m.b, .int .i64 n.lo, .int .i64 n.hi, .int .i64 s2] 41)
        have r1 := XS.out _ r0
        have f1 : ((((w.alloc (.cells #[.slice (some g) p.ns.length cap, .slice (some gs) p.sets.length scap, .int .i64 p.root] 25)).alloc (.cells #[.slice (some k) q.ns.length bcap, .slice (some ks) q.sets.length tcap, .int .i64 q.root] 25)).alloc (.cells #[.int .i64 n.op, .int .i64 n.a, .int .i64 n.b, .int .i64 n.lo, .int .i64 n.hi, .int .i64 s1] 41)).alloc (.cells #[.int .i64 n.op, .int .i64 m.a, .int .i64 m.b, .int .i64 n.lo, .int .i64 n.hi, .int .i64 s2] 41)).cell? ⟨w.heap.size, 1, none⟩ = some (.slice (some gs) p.sets.length scap) := cell4_0 _ _ _ _ _ _ 1
        have f2 : ((((w.alloc (.cells #[.slice (some g) p.ns.length cap, .slice (some gs) p.sets.length scap, .int .i64 p.root] 25)).alloc (.cells #[.slice (some k) q.ns.length bcap, .slice (some ks) q.sets.length tcap, .int .i64 q.root] 25)).alloc (.cells #[.int .i64 n.op, .int .i64 n.a, .int .i64 n.b, .int .i64 n.lo, .int .i64 n.hi, .int .i64 s1] 41)).alloc (.cells #[.int .i64 n.op, .int .i64 m.a, .int .i64 m.b, .int .i64 n.lo, .int .i64 n.hi, .int .i64 s2] 41)).cell? ⟨w.heap.size + 1, 1, none⟩ = some (.slice (some ks) q.sets.length tcap) := cell4_1 _ _ _ _ _ _ 1
        have f3 : ((((w.alloc (.cells #[.slice (some g) p.ns.length cap, .slice (some gs) p.sets.length scap, .int .i64 p.root] 25)).alloc (.cells #[.slice (some k) q.ns.length bcap, .slice (some ks) q.sets.length tcap, .int .i64 q.root] 25)).alloc (.cells #[.int .i64 n.op, .int .i64 n.a, .int .i64 n.b, .int .i64 n.lo, .int .i64 n.hi, .int .i64 s1] 41)).alloc (.cells #[.int .i64 n.op, .int .i64 m.a, .int .i64 m.b, .int .i64 n.lo, .int .i64 n.hi, .int .i64 s2] 41)).cell? ⟨w.heap.size + 1 + 1, 5, none⟩ = some (.int .i64 (s1 : Int)) := cell4_2 _ _ _ _ _ _ 5
        have f4 : ((((w.alloc (.cells #[.slice (some g) p.ns.length cap, .slice (some gs) p.sets.length scap, .int .i64 p.root] 25)).alloc (.cells #[.slice (some k) q.ns.length bcap, .slice (some ks) q.sets.length tcap, .int .i64 q.root] 25)).alloc (.cells #[.int .i64 n.op, .int .i64 n.a, .int .i64 n.b, .int .i64 n.lo, .int .i64 n.hi, .int .i64 s1] 41)).alloc (.cells #[.int .i64 n.op, .int .i64 m.a, .int .i64 m.b, .int .i64 n.lo, .int .i64 n.hi, .int .i64 s2] 41)).cell? ⟨w.heap.size + 1 + 1 + 1, 5, none⟩ = some (.int .i64 (s2 : Int)) := cell4_3 _ _ _ _ _ _ 5
        generalize ((((w.alloc (.cells #[.slice (some g) p.ns.length cap, .slice (some gs) p.sets.length scap, .int .i64 p.root] 25)).alloc (.cells #[.slice (some k) q.ns.length bcap, .slice (some ks) q.sets.length tcap, .int .i64 q.root] 25)).alloc (.cells #[.int .i64 n.op, .int .i64 n.a, .int .i64 n.b, .int .i64 n.lo, .int .i64 n.hi, .int .i64 s1] 41)).alloc (.cells #[.int .i64 n.op, .int .i64 m.a, .int .i64 m.b, .int .i64 n.lo, .int .i64 n.hi, .int .i64 s2] 41)) = W at *
        obtain ⟨f5, f6⟩ := r1
        replace f1 : W.drew.cell? _ = _ := f1
        replace f2 : W.drew.cell? _ = _ := f2
        replace f3 : W.drew.cell? _ = _ := f3
        replace f4 : W.drew.cell? _ = _ := f4
        replace f5 : W.drew.cell? _ = _ := f5
        replace f6 : W.drew.cell? _ = _ := f6
        replace r0 := r0.drew
        go_region_held3 (fun W => W.cell? ⟨w.heap.size, 1, none⟩ = some (.slice (some gs) p.sets.length scap) ∧ W.cell? ⟨w.heap.size + 1, 1, none⟩ = some (.slice (some ks) q.sets.length tcap) ∧ W.cell? ⟨w.heap.size + 1 + 1, 5, none⟩ = some (.int .i64 (s1 : Int)) ∧ W.cell? ⟨w.heap.size + 1 + 1 + 1, 5, none⟩ = some (.int .i64 (s2 : Int)) ∧ W.cell? (gs.add s1) = some xs ∧ W.cell? (ks.add s2) = some ys ∧ Below w.heap.size w W) (first | exact ⟨by assumption, by assumption, by assumption, by assumption, by assumption, by assumption, by assumption⟩ | go_keep)
          (first
            | (go_at_call 27; ((with_reducible refine (CS.out _ (by assumption)).mono ?_); rintro e w1 ⟨rfl, hb1⟩); go_must (have p1 := cell_next (a := ⟨w.heap.size, 1, none⟩) (v := .slice (some gs) p.sets.length scap) (by assumption) hb1; have p2 := cell_next (a := ⟨w.heap.size + 1, 1, none⟩) (v := .slice (some ks) q.sets.length tcap) (by assumption) hb1; have p3 := cell_next (a := ⟨w.heap.size + 1 + 1, 5, none⟩) (v := .int .i64 (s1 : Int)) (by assumption) hb1; have p4 := cell_next (a := ⟨w.heap.size + 1 + 1 + 1, 5, none⟩) (v := .int .i64 (s2 : Int)) (by assumption) hb1; have p5 := cell_next (a := gs.add s1) (v := xs) (by assumption) hb1; have p6 := cell_next (a := ks.add s2) (v := ys) (by assumption) hb1; have B6 := Below.trans (show Below w.heap.size w _ by assumption) (hb1.mono (Below.size (show Below w.heap.size w _ by assumption)))))
            | fail)
        all_goals (
          go_wp2
          go_ret
          exact ⟨ret_bool E1.out.symm, by assumption⟩)
      · have kx : 0 ≤ m.a ∧ m.a < y ∧ 0 ≤ m.b ∧ m.b < y := by omega
        obtain ⟨ha0, ha1, hb0, hb1, _⟩ := a2
        obtain ⟨ka0, ka1, kb0, kb1⟩ := kx
        obtain ⟨a, ha⟩ := Int.eq_ofNat_of_zero_le ha0
        obtain ⟨b, hb⟩ := Int.eq_ofNat_of_zero_le hb0
        obtain ⟨a', ka⟩ := Int.eq_ofNat_of_zero_le ka0
        obtain ⟨b', kb⟩ := Int.eq_ofNat_of_zero_le kb0
        have E := e2.out hop a1 (by omega) (by omega)
        rw [ha, hb, ka, kb] at E
        simp only [Int.toNat_natCast] at E
        have E1 := Lib.hid E
        rw [ha] at c1
        rw [hb] at c2
        rw [ka] at d1
        rw [kb] at d2
        have ca := Lib.hid (fun v u W (h : TreeAt W v p) (h' : TreeAt W u q) => IH.out a (by omega) a' (by omega) (by omega) v u W h h')
        have cb := Lib.hid (fun v u W (h : TreeAt W v p) (h' : TreeAt W u q) => IH.out b (by omega) b' (by omega) (by omega) v u W h h')
        have zz : (n.op == 2) = false ∧ ((n.op == 3) = true ∨ ((n.op == 3) = false ∧ (n.op == 4) = true)) := by
          rcases a1 with h | h
          · exact ⟨by simp; omega, .inl (by simpa using h)⟩
          · exact ⟨by simp; omega, .inr ⟨by simp; omega, by simpa using h⟩⟩
        obtain ⟨z2, hop2⟩ := zz
        obtain ⟨o1, o2, o3⟩ := hop
        rw [← o1] at d0
        rw [← o2] at d3
        rw [← o3] at d4
        clear a1 kw o1 o2 o3 e0 e1 e2 e3 e4 E IH ha0 ha1 hb0 hb1 ka0 ka1 kb0 kb1
        generalize sameT p q a a' = ra at *
        generalize sameT p q b b' = rb at *
        rcases hop2 with z3 | ⟨z3, z4⟩
        all_goals (
          cases ra
          all_goals (
            go_enter Try.func13, Try.ntmps13
            go_wp2_with (first
              | (go_at_call 13; ((with_reducible refine (ca.out _ _ _ (HV.out.next (below4 _ _ _ _ _)) (HU.out.next (below4 _ _ _ _ _))).mono ?_); rintro e w1 ⟨rfl, hb1⟩); go_must (have q0 := cell_next (a := ⟨w.heap.size, 0, none⟩) (v := .slice (some g) p.ns.length cap) (by first | (simp; done) | go_keep) hb1; have q1 := cell_next (a := ⟨w.heap.size, 1, none⟩) (v := .slice so p.sets.length scap) (by first | (simp; done) | go_keep) hb1; have q2 := cell_next (a := ⟨w.heap.size, 2, none⟩) (v := .int .i64 p.root) (by first | (simp; done) | go_keep) hb1; have q3 := cell_next (a := ⟨w.heap.size + 1, 0, none⟩) (v := .slice (some k) q.ns.length bcap) (by first | (simp; done) | go_keep) hb1; have q4 := cell_next (a := ⟨w.heap.size + 1, 1, none⟩) (v := .slice to q.sets.length tcap) (by first | (simp; done) | go_keep) hb1; have q5 := cell_next (a := ⟨w.heap.size + 1, 2, none⟩) (v := .int .i64 q.root) (by first | (simp; done) | go_keep) hb1; have q6 := cell_next (a := ⟨w.heap.size + 1 + 1, 2, none⟩) (v := .int .i64 (b : Int)) (by exact cell4_2 _ _ _ _ _ _ 2) hb1; have q7 := cell_next (a := ⟨w.heap.size + 1 + 1 + 1, 2, none⟩) (v := .int .i64 (b' : Int)) (by exact cell4_3 _ _ _ _ _ _ 2) hb1; have H1 := Lib.hid ((below4 w _ _ _ _).trans (hb1.mono (below4 w _ _ _ _).size)); clear hb1))
              | (go_at_call 13; ((with_reducible refine (cb.out _ _ _ (HV.out.next H1.out) (HU.out.next H1.out)).mono ?_); rintro e w2 ⟨rfl, hb2⟩); go_must (have H2 := Lib.hid (H1.out.trans (hb2.mono H1.out.size)); clear hb2))
              | fail)
            all_goals (
              go_ret
              first
                | exact ⟨ret_bool E1.out.symm, H2.out⟩
                | exact ⟨ret_bool E1.out.symm, H1.out⟩)))
      · have kx : 0 ≤ m.a ∧ m.a < y := by omega
        obtain ⟨ha0, ha1, _⟩ := a2
        obtain ⟨ka0, ka1⟩ := kx
        obtain ⟨a, ha⟩ := Int.eq_ofNat_of_zero_le ha0
        obtain ⟨a', ka⟩ := Int.eq_ofNat_of_zero_le ka0
        have E := e3.out hop a1 (by omega)
        rw [ha, ka] at E
        simp only [Int.toNat_natCast] at E
        have E1 := Lib.hid E
        rw [ha] at c1
        rw [ka] at d1
        have ca := Lib.hid (fun v u W (h : TreeAt W v p) (h' : TreeAt W u q) => IH.out a (by omega) a' (by omega) (by omega) v u W h h')
        have z2 : (n.op == 2) = false := by simp; omega
        have z3 : (n.op == 3) = false := by simp; omega
        have z4 : (n.op == 4) = false := by simp; omega
        have z5 : (n.op == 5) = true := by simpa using a1
        obtain ⟨o1, o2, o3⟩ := hop
        rw [← o1] at d0
        rw [← o2] at d3
        rw [← o3] at d4
        clear a1 kw o1 o2 o3 e0 e1 e2 e3 e4 E IH ha0 ha1 ka0 ka1
        generalize sameT p q a a' = ra at *
        go_enter Try.func13, Try.ntmps13
        go_wp2_with (first
          | (go_at_call 13; ((with_reducible refine (ca.out _ _ _ (HV.out.next (below4 _ _ _ _ _)) (HU.out.next (below4 _ _ _ _ _))).mono ?_); rintro e w1 ⟨rfl, hb1⟩); go_must (have H1 := Lib.hid ((below4 w _ _ _ _).trans (hb1.mono (below4 w _ _ _ _).size)); clear hb1))
          | fail)
        go_ret
        exact ⟨ret_bool E1.out.symm, H1.out⟩
    · have E := Lib.hid (e0.out hop)
      clear hw kw e0 e1 e2 e3 e4 IH
      have hh : (n.op == m.op) = false ∨ ((n.op == m.op) = true ∧ (n.lo == m.lo) = false) ∨ ((n.op == m.op) = true ∧ (n.lo == m.lo) = true ∧ (n.hi == m.hi) = false) := by
        by_cases h1 : n.op = m.op
        · by_cases h2 : n.lo = m.lo
          · exact .inr (.inr ⟨by simpa using h1, by simpa using h2, by simp; exact fun h3 => hop ⟨h1, h2, h3⟩⟩)
          · exact .inr (.inl ⟨by simpa using h1, by simpa using h2⟩)
        · exact .inl (by simpa using h1)
      clear hop
      rcases hh with h1 | ⟨h1, h2⟩ | ⟨h1, h2, h3⟩
      all_goals (
        go_enter Try.func13, Try.ntmps13
        go_wp2
        all_goals (
          go_ret
          exact ⟨ret_bool E.out.symm, below4 _ _ _ _ _⟩))

end Go.Proofs.Ytdgpanofehfjdaa.Ar

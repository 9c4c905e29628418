/- Two trees one behind the other, and one or the other, in plain words. The law DerivParts where nothing is asked. Slices of sets: the values that they hold, and append of one. Two trees laid one behind the other, in memory. The law DerivParts where both trees are asked of. DerivParts, whatever is handed in. -/
import Derived.Test.YtbkafoaoddajoaaGreatDoorPk16
import Derived.Test.YtbkafoaoddajoaaGreatDoorPk18
import Derived.Test.YtbkafoaoddajoaaGreatDoorPk03
import Derived.Laws.AppendOwnNone
import Derived.OwnWalk
import Derived.Test.YtbkafoaoddajoaaGreatDoorPk05
import Derived.Deep.DeepCutAuto

namespace Go.Proofs.YtbkafoaoddajoaaGreatDoor.Dv
open Go.Proofs.YtbkafoaoddajoaaGreatDoor.Ar (Nd nd nd_eq nd_left nodeB nodeB_mono nodeB_ways timesB Tr Ok graft graft_ok graft_node moveN getD_right ok_check checkE)
open Go.Proofs.YtbkafoaoddajoaaGreatDoor.Rg (R hasB inB)

theorem graft_left {t u : Tr} (ht : Ok t) : ∀ i, i < t.ns.length → den (graft t.ns t.sets u).ns (graft t.ns t.sets u).sets i = den t.ns t.sets i :=
  den_more ht.node (fun i hi => by unfold graft; exact nd_left hi) (fun k hk => by unfold graft; exact pre_getD (List.prefix_append _ _) hk)
theorem graft_right {t u : Tr} (ht : Ok t) (hu : Ok u) : ∀ i, i < u.ns.length → den (graft t.ns t.sets u).ns (graft t.ns t.sets u).sets (t.ns.length + i) = den u.ns u.sets i := by
  have hg := graft_ok (ns := t.ns) (S := t.sets) hu ht.sets ht.node
  intro i
  induction i using Nat.strongRecOn with
  | ind i ih =>
    intro hi
    have hl : t.ns.length + i < (graft t.ns t.sets u).ns.length := by simp [graft]; omega
    rw [den_eq (hg.node _ hl), den_eq (hu.node i hi), graft_node hi]
    have hn := hu.node i hi
    unfold denN
    rcases nodeB_ways hn with ⟨h1, h2⟩ | ⟨h1, h2⟩ | ⟨h1 | h1, h2⟩ | ⟨h1, h2⟩
    · have e : moveN t.ns.length t.sets.length (nd u.ns i) = nd u.ns i := by unfold moveN; rw [if_neg (by omega), if_neg (by omega), if_neg (by omega)]
      rw [e, if_pos h1, if_pos h1]
    · have e : moveN t.ns.length t.sets.length (nd u.ns i) = { nd u.ns i with set := t.sets.length + (nd u.ns i).set } := by unfold moveN; rw [if_pos h1]
      rw [e]
      dsimp only
      rw [if_neg (by omega), if_pos h1, if_neg (by omega), if_pos h1, show ((t.sets.length : Int) + (nd u.ns i).set).toNat = t.sets.length + (nd u.ns i).set.toNat by omega]
      unfold graft
      dsimp only
      rw [getD_right]
    · have e : moveN t.ns.length t.sets.length (nd u.ns i) = { nd u.ns i with a := t.ns.length + (nd u.ns i).a, b := t.ns.length + (nd u.ns i).b } := by unfold moveN; rw [if_neg (by omega), if_pos (by omega)]
      rw [e]
      dsimp only
      rw [if_neg (by omega), if_neg (by omega), if_pos h1, if_neg (by omega), if_neg (by omega), if_pos h1, show ((t.ns.length : Int) + (nd u.ns i).a).toNat = t.ns.length + (nd u.ns i).a.toNat by omega, show ((t.ns.length : Int) + (nd u.ns i).b).toNat = t.ns.length + (nd u.ns i).b.toNat by omega,
        ih _ (by omega) (by omega), ih _ (by omega) (by omega)]
    · have e : moveN t.ns.length t.sets.length (nd u.ns i) = { nd u.ns i with a := t.ns.length + (nd u.ns i).a, b := t.ns.length + (nd u.ns i).b } := by unfold moveN; rw [if_neg (by omega), if_pos (by omega)]
      rw [e]
      dsimp only
      rw [if_neg (by omega), if_neg (by omega), if_neg (by omega), if_pos h1, if_neg (by omega), if_neg (by omega), if_neg (by omega), if_pos h1, show ((t.ns.length : Int) + (nd u.ns i).a).toNat = t.ns.length + (nd u.ns i).a.toNat by omega, show ((t.ns.length : Int) + (nd u.ns i).b).toNat = t.ns.length + (nd u.ns i).b.toNat by omega,
        ih _ (by omega) (by omega), ih _ (by omega) (by omega)]
    · have e : moveN t.ns.length t.sets.length (nd u.ns i) = { nd u.ns i with a := t.ns.length + (nd u.ns i).a } := by unfold moveN; rw [if_neg (by omega), if_neg (by omega), if_pos h1]
      rw [e]
      dsimp only
      rw [if_neg (by omega), if_neg (by omega), if_neg (by omega), if_neg (by omega), if_pos h1, if_neg (by omega), if_neg (by omega), if_neg (by omega), if_neg (by omega), if_pos h1, show ((t.ns.length : Int) + (nd u.ns i).a).toNat = t.ns.length + (nd u.ns i).a.toNat by omega,
        ih _ (by omega) (by omega)]

/-- both trees and a node upon them -/
def joinT (t u : Tr) (op : Int) : Tr := ⟨(graft t.ns t.sets u).ns ++ [⟨op, t.root, t.ns.length + u.root, 0, 0, 0⟩], t.sets ++ u.sets, (graft t.ns t.sets u).ns.length⟩
theorem join_len (t u : Tr) (op : Int) : (joinT t u op).ns.length = t.ns.length + u.ns.length + 1 := by simp [joinT, graft]; omega
theorem join_last (t u : Tr) (op : Int) : nd (joinT t u op).ns (graft t.ns t.sets u).ns.length = ⟨op, t.root, t.ns.length + u.root, 0, 0, 0⟩ := by
  unfold joinT
  exact nd_snoc
theorem join_node {t u : Tr} {op : Int} (ht : Ok t) (hu : Ok u) (hop : op = 3 ∨ op = 4) : nodeB ⟨op, t.root, t.ns.length + u.root, 0, 0, 0⟩ ((graft t.ns t.sets u).ns.length : Nat) ((t.sets ++ u.sets).length : Nat) = true := by
  have := ht.root0; have := ht.root1; have := hu.root0; have := hu.root1
  have hl : (graft t.ns t.sets u).ns.length = t.ns.length + u.ns.length := by simp [graft]
  rw [hl]
  unfold nodeB
  rcases hop with rfl | rfl <;> (simp; omega)
theorem join_ok {t u : Tr} {op : Int} (ht : Ok t) (hu : Ok u) (hop : op = 3 ∨ op = 4) : Ok (joinT t u op) where
  root0 := by simp [joinT]
  root1 := by simp [joinT]; omega
  sets := fun s hs => by
    have : s ∈ t.sets ++ u.sets := hs
    rcases List.mem_append.1 this with h | h
    · exact ht.sets s h
    · exact hu.sets s h
  node := fun i hi => by
    have hg := graft_ok (ns := t.ns) (S := t.sets) hu ht.sets ht.node
    rcases Nat.lt_or_ge i (graft t.ns t.sets u).ns.length with h | h
    · rw [show nd (joinT t u op).ns i = nd (graft t.ns t.sets u).ns i by unfold joinT; exact nd_left h]
      exact hg.node i h
    · have hl : (joinT t u op).ns.length = (graft t.ns t.sets u).ns.length + 1 := by simp [joinT]
      obtain rfl : i = (graft t.ns t.sets u).ns.length := by omega
      rw [join_last]
      exact join_node ht hu hop
theorem join_check {t u : Tr} {op : Int} (ht : Ok t) (hu : Ok u) (hop : op = 3 ∨ op = 4) (h1 : t.ns.length + u.ns.length + 1 ≤ 4096) (h2 : t.sets.length + u.sets.length ≤ 4096) : checkE (joinT t u op) = 0 :=
  ok_check (join_ok ht hu hop) (by rw [join_len]; exact h1) (by simp [joinT]; exact h2)
theorem join_den {t u : Tr} {op : Int} (ht : Ok t) (hu : Ok u) (hop : op = 3 ∨ op = 4) : den (joinT t u op).ns (joinT t u op).sets (joinT t u op).root.toNat = if op = 3 then seq (den t.ns t.sets t.root.toNat) (den u.ns u.sets u.root.toNat) else alt (den t.ns t.sets t.root.toNat) (den u.ns u.sets u.root.toNat) := by
  have r0 := ht.root0; have r1 := ht.root1; have s0 := hu.root0; have s1 := hu.root1
  have hg := graft_ok (ns := t.ns) (S := t.sets) hu ht.sets ht.node
  have hj := join_ok ht hu hop
  have e : (joinT t u op).root.toNat = (graft t.ns t.sets u).ns.length := by simp [joinT]
  have hl : (graft t.ns t.sets u).ns.length = t.ns.length + u.ns.length := by simp [graft]
  rw [e, den_eq (hj.node _ (by rw [join_len]; omega)), join_last]
  have hd : ∀ i, i < (graft t.ns t.sets u).ns.length → den (joinT t u op).ns (joinT t u op).sets i = den (graft t.ns t.sets u).ns (graft t.ns t.sets u).sets i := fun i hi =>
    den_more hg.node (fun i hi => by unfold joinT; exact nd_left hi) (fun k hk => rfl) i hi
  unfold denN
  dsimp only
  rw [hd t.root.toNat (by omega), show ((t.ns.length : Int) + u.root).toNat = t.ns.length + u.root.toNat by omega, hd (t.ns.length + u.root.toNat) (by omega), graft_left ht _ (by omega), graft_right ht hu _ (by omega)]
  rcases hop with rfl | rfl
  · simp
  · simp
/-- is there a place to part at, ahead of place k -/
def wantTo (f g : Mx) (n k : Nat) : Prop := ∃ q, q < k ∧ f 0 q = true ∧ g q n = true
open Classical in
noncomputable def wantB (f g : Mx) (n k : Nat) : Bool := decide (wantTo f g n k)
theorem want_iff {f g : Mx} {n k : Nat} : wantB f g n k = true ↔ wantTo f g n k := by simp [wantB]
theorem want_start (f g : Mx) (n : Nat) : wantB f g n 0 = false := by
  rw [← Bool.not_eq_true, want_iff]
  rintro ⟨q, h, _⟩
  omega
theorem want_step (f g : Mx) (n k : Nat) : wantB f g n (k + 1) = (wantB f g n k || (f 0 k && g k n)) := by
  rw [Bool.eq_iff_iff, Bool.or_eq_true, Bool.and_eq_true, want_iff, want_iff]
  constructor
  · rintro ⟨q, h1, h2, h3⟩
    rcases Nat.lt_or_ge q k with h | h
    · exact .inl ⟨q, h, h2, h3⟩
    · obtain rfl : q = k := by omega
      exact .inr ⟨h2, h3⟩
  · rintro (⟨q, h1, h2, h3⟩ | ⟨h2, h3⟩)
    · exact ⟨q, by omega, h2, h3⟩
    · exact ⟨k, by omega, h2, h3⟩
theorem want_end {A B : L} {l : List Int} : wantB (mat A l) (mat B l) l.length (l.length + 1) = true ↔ seq A B l := by
  rw [want_iff]
  have h := mat_seq (A := A) (B := B) (l := l) 0 l.length (by omega) (by omega)
  rw [Bool.eq_iff_iff, mul_iff, mat_iff, sub_all] at h
  constructor
  · rintro ⟨q, h1, h2, h3⟩
    exact (h.1 ⟨q, by omega, by omega, by omega, h2, h3⟩).2
  · intro hs
    obtain ⟨q, a, b, c, d, e⟩ := h.2 ⟨by omega, hs⟩
    exact ⟨q, by omega, d, e⟩
theorem alt_end {A B : L} {l : List Int} : (mat A l 0 l.length || mat B l 0 l.length) = true ↔ alt A B l := by
  rw [Bool.or_eq_true, mat_iff, mat_iff, sub_all]
  exact ⟨fun h => h.elim (fun h => .inl h.2) (fun h => .inr h.2), fun h => h.elim (fun h => .inl ⟨Nat.zero_le _, h⟩) (fun h => .inr ⟨Nat.zero_le _, h⟩)⟩
end Go.Proofs.YtbkafoaoddajoaaGreatDoor.Dv

namespace Go.Proofs.YtbkafoaoddajoaaGreatDoor.Dv
open Go Go.RowKit Go.Shelf Go.Maps
open Go.Proofs.YtbkafoaoddajoaaGreatDoor.Ar (Nd nd nodeB Tr Ok TreeAt TBox Near checkE check_ok rcheck_any)
open Go.Proofs.YtbkafoaoddajoaaGreatDoor.Rg (R RngsAt RowsAt nthL add_zero own_next)
open Go.Proofs.YtbkafoaoddajoaaGreatDoor.Ut (Tabs tabs_next)

/-- the world of a call of DerivParts: its two trees' boxes -/
def parW (w : World) (v0 v1 : Value) (r : Int) (u0 u1 : Value) (q : Int) : World := (w.alloc (.cells #[v0, v1, .int .i64 r] 25)).alloc (.cells #[u0, u1, .int .i64 q] 25)
theorem par_below (w : World) (v0 v1 : Value) (r : Int) (u0 u1 : Value) (q : Int) : Below w.heap.size w (parW w v0 v1 r u0 u1 q) := ((Below.refl w.heap.size w).alloc (Nat.le_refl _) _).alloc (by simp) _
theorem par_boxes (w : World) (v0 v1 : Value) (r : Int) (u0 u1 : Value) (q : Int) : TBox (parW w v0 v1 r u0 u1 q) w.heap.size v0 v1 r ∧ TBox (parW w v0 v1 r u0 u1 q) (w.heap.size + 1) u0 u1 q := by
  refine ⟨(TBox.new w v0 v1 r).next ((Below.refl _ _).alloc (Nat.le_refl _) _), ?_⟩
  have h := TBox.new (w.alloc (.cells #[v0, v1, .int .i64 r] 25)) u0 u1 q
  have e : (w.alloc (.cells #[v0, v1, .int .i64 r] 25)).heap.size = w.heap.size + 1 := by simp
  rw [e] at h
  exact h
set_option maxRecDepth 100000 in
set_option maxHeartbeats 8000000 in
theorem parts_dark (t u : Tr) (s : ByteArray) (v x : Value) (w : World) (hv : TreeAt w v t) (hx : TreeAt w x u) (hU : Tabs w) (hd : ¬ (lightB t s.size = true ∧ lightB u s.size = true ∧ checkE t = 0 ∧ checkE u = 0)) :
    Calls Tryz.prog 4 #[v, x, .string s] w fun e w' => e = .returned (.bool true) ∧ Below w.heap.size w w' := by
  have HV := Lib.hid hv
  have HX := Lib.hid hx
  obtain ⟨ao, cap, so, scap, rfl, _, _, _, _⟩ := hv.shape
  obtain ⟨bo, bcap, to', tcap, rfl, _, _, _, _⟩ := hx.shape
  have BP := Lib.hid (par_below w (.slice ao t.ns.length cap) (.slice so t.sets.length scap) t.root (.slice bo u.ns.length bcap) (.slice to' u.sets.length tcap) u.root)
  have TP := Lib.hid (par_boxes w (.slice ao t.ns.length cap) (.slice so t.sets.length scap) t.root (.slice bo u.ns.length bcap) (.slice to' u.sets.length tcap) u.root)
  have CA := Lib.hid (fun W (hb : Below w.heap.size w W) => alive_any W (tabs_next hU hb))
  have CT := Lib.hid (fun W (hb : Below w.heap.size w W) => light_any t s _ W (HV.out.next hb))
  have CU := Lib.hid (fun W (hb : Below w.heap.size w W) => light_any u s _ W (HX.out.next hb))
  have CC := Lib.hid (fun W (hb : Below w.heap.size w W) (hl : lightB t s.size = true) => rcheck_any t _ W (HV.out.next hb) (fun k hk => by have := (light_yes hl).1.each k hk; omega))
  have CD := Lib.hid (fun W (hb : Below w.heap.size w W) (hl : lightB u s.size = true) => rcheck_any u _ W (HX.out.next hb) (fun k hk => by have := (light_yes hl).1.each k hk; omega))
  have HE : parW w (.slice ao t.ns.length cap) (.slice so t.sets.length scap) t.root (.slice bo u.ns.length bcap) (.slice to' u.sets.length tcap) u.root = (w.alloc (.cells #[.slice ao t.ns.length cap, .slice so t.sets.length scap, .int .i64 t.root] 25)).alloc (.cells #[.slice bo u.ns.length bcap, .slice to' u.sets.length tcap, .int .i64 u.root] 25) := rfl
  generalize hlt : lightB t s.size = bt at *
  generalize hlu : lightB u s.size = bu at *
  generalize hct : checkE t = et at *
  generalize hcu : checkE u = eu at *
  generalize parW w (.slice ao t.ns.length cap) (.slice so t.sets.length scap) t.root (.slice bo u.ns.length bcap) (.slice to' u.sets.length tcap) u.root = W0 at *
  clear hv hx hU HV HX hlt hlu hct hcu
  rcases (show bt = false ∨ (bt = true ∧ bu = false) ∨ (bt = true ∧ bu = true ∧ et ≠ 0) ∨ (bt = true ∧ bu = true ∧ et = 0 ∧ eu ≠ 0) from by
    cases bt
    · exact .inl rfl
    · cases bu
      · exact .inr (.inl ⟨rfl, rfl⟩)
      · by_cases h1 : et = 0
        · refine .inr (.inr (.inr ⟨rfl, rfl, h1, fun h2 => hd ⟨rfl, rfl, h1, h2⟩⟩))
        · exact .inr (.inr (.inl ⟨rfl, rfl, h1⟩))) with rfl | ⟨rfl, rfl⟩ | ⟨rfl, rfl, h⟩ | ⟨rfl, rfl, rfl, h⟩
  all_goals clear hd
  · go_enter Tryz.func4, Tryz.ntmps4
    go_upto_region 1 with fail
    rw [← HE]
    clear HE
    obtain ⟨⟨t0, t1, t2⟩, ⟨u0, u1, u2⟩⟩ := TP.out
    go_wp2_with (first
      | (go_at_call 5; (with_reducible refine (CT.out _ BP.out).mono ?_); rintro e w1 ⟨rfl, hb⟩; go_must (have B1 := Lib.hid (BP.out.trans (hb.mono BP.out.size)); clear hb))
      | (go_at_call 6; (with_reducible refine (CA.out _ B1.out).mono ?_); rintro e w9 ⟨rfl, hb⟩; go_must (have B9 := Lib.hid (B1.out.trans (hb.mono B1.out.size)); clear hb))
      | fail)
    go_ret
    exact ⟨rfl, B9.out⟩
  · go_enter Tryz.func4, Tryz.ntmps4
    go_upto_region 1 with fail
    rw [← HE]
    clear HE
    obtain ⟨⟨t0, t1, t2⟩, ⟨u0, u1, u2⟩⟩ := TP.out
    go_wp2_with (first
      | (go_at_call 5; (with_reducible refine (CT.out _ BP.out).mono ?_); rintro e w1 ⟨rfl, hb⟩; go_must (obtain ⟨⟨t0, t1, t2⟩, ⟨u0, u1, u2⟩⟩ := (show TBox w1 _ _ _ _ ∧ TBox w1 _ _ _ _ from ⟨TP.out.1.next hb, TP.out.2.next hb⟩); have T1 := Lib.hid (show TBox w1 _ _ _ _ ∧ TBox w1 _ _ _ _ from ⟨TP.out.1.next hb, TP.out.2.next hb⟩); have B1 := Lib.hid (BP.out.trans (hb.mono BP.out.size)); clear hb))
      | (go_at_call 5; (with_reducible refine (CU.out _ B1.out).mono ?_); rintro e w2 ⟨rfl, hb⟩; go_must (obtain ⟨⟨a0, a1, a2⟩, ⟨c0, c1, c2⟩⟩ := (show TBox w2 _ _ _ _ ∧ TBox w2 _ _ _ _ from ⟨T1.out.1.next hb, T1.out.2.next hb⟩); have T2 := Lib.hid (show TBox w2 _ _ _ _ ∧ TBox w2 _ _ _ _ from ⟨T1.out.1.next hb, T1.out.2.next hb⟩); have B2 := Lib.hid (B1.out.trans (hb.mono B1.out.size)); clear hb))
      | (go_at_call 6; (with_reducible refine (CA.out _ B2.out).mono ?_); rintro e w9 ⟨rfl, hb⟩; go_must (have B9 := Lib.hid (B2.out.trans (hb.mono B2.out.size)); clear hb))
      | fail)
    go_ret
    exact ⟨rfl, B9.out⟩
  · have hne : (et == 0) = false := by simpa using h
    go_enter Tryz.func4, Tryz.ntmps4
    go_upto_region 1 with fail
    rw [← HE]
    clear HE
    obtain ⟨⟨t0, t1, t2⟩, ⟨u0, u1, u2⟩⟩ := TP.out
    go_wp2_with (first
      | (go_at_call 5; (with_reducible refine (CT.out _ BP.out).mono ?_); rintro e w1 ⟨rfl, hb⟩; go_must (obtain ⟨⟨t0, t1, t2⟩, ⟨u0, u1, u2⟩⟩ := (show TBox w1 _ _ _ _ ∧ TBox w1 _ _ _ _ from ⟨TP.out.1.next hb, TP.out.2.next hb⟩); have T1 := Lib.hid (show TBox w1 _ _ _ _ ∧ TBox w1 _ _ _ _ from ⟨TP.out.1.next hb, TP.out.2.next hb⟩); have B1 := Lib.hid (BP.out.trans (hb.mono BP.out.size)); clear hb))
      | (go_at_call 5; (with_reducible refine (CU.out _ B1.out).mono ?_); rintro e w2 ⟨rfl, hb⟩; go_must (obtain ⟨⟨a0, a1, a2⟩, ⟨c0, c1, c2⟩⟩ := (show TBox w2 _ _ _ _ ∧ TBox w2 _ _ _ _ from ⟨T1.out.1.next hb, T1.out.2.next hb⟩); have T2 := Lib.hid (show TBox w2 _ _ _ _ ∧ TBox w2 _ _ _ _ from ⟨T1.out.1.next hb, T1.out.2.next hb⟩); have B2 := Lib.hid (B1.out.trans (hb.mono B1.out.size)); clear hb))
      | (go_at_call 8; (with_reducible refine (CC.out _ B2.out (by trivial)).mono ?_); rintro e w3 ⟨rfl, hb⟩; go_must (obtain ⟨⟨d0, d1, d2⟩, ⟨f0, f1, f2⟩⟩ := (show TBox w3 _ _ _ _ ∧ TBox w3 _ _ _ _ from ⟨T2.out.1.next hb, T2.out.2.next hb⟩); have T3 := Lib.hid (show TBox w3 _ _ _ _ ∧ TBox w3 _ _ _ _ from ⟨T2.out.1.next hb, T2.out.2.next hb⟩); have B3 := Lib.hid (B2.out.trans (hb.mono B2.out.size)); clear hb))
      | (go_at_call 6; (with_reducible refine (CA.out _ B3.out).mono ?_); rintro e w9 ⟨rfl, hb⟩; go_must (have B9 := Lib.hid (B3.out.trans (hb.mono B3.out.size)); clear hb))
      | fail)
    go_ret
    exact ⟨rfl, B9.out⟩
  · have hne : (eu == 0) = false := by simpa using h
    go_enter Tryz.func4, Tryz.ntmps4
    go_upto_region 1 with fail
    rw [← HE]
    clear HE
    obtain ⟨⟨t0, t1, t2⟩, ⟨u0, u1, u2⟩⟩ := TP.out
    go_wp2_with (first
      | (go_at_call 5; (with_reducible refine (CT.out _ BP.out).mono ?_); rintro e w1 ⟨rfl, hb⟩; go_must (obtain ⟨⟨t0, t1, t2⟩, ⟨u0, u1, u2⟩⟩ := (show TBox w1 _ _ _ _ ∧ TBox w1 _ _ _ _ from ⟨TP.out.1.next hb, TP.out.2.next hb⟩); have T1 := Lib.hid (show TBox w1 _ _ _ _ ∧ TBox w1 _ _ _ _ from ⟨TP.out.1.next hb, TP.out.2.next hb⟩); have B1 := Lib.hid (BP.out.trans (hb.mono BP.out.size)); clear hb))
      | (go_at_call 5; (with_reducible refine (CU.out _ B1.out).mono ?_); rintro e w2 ⟨rfl, hb⟩; go_must (obtain ⟨⟨a0, a1, a2⟩, ⟨c0, c1, c2⟩⟩ := (show TBox w2 _ _ _ _ ∧ TBox w2 _ _ _ _ from ⟨T1.out.1.next hb, T1.out.2.next hb⟩); have T2 := Lib.hid (show TBox w2 _ _ _ _ ∧ TBox w2 _ _ _ _ from ⟨T1.out.1.next hb, T1.out.2.next hb⟩); have B2 := Lib.hid (B1.out.trans (hb.mono B1.out.size)); clear hb))
      | (go_at_call 8; (with_reducible refine (CC.out _ B2.out (by trivial)).mono ?_); rintro e w3 ⟨rfl, hb⟩; go_must (obtain ⟨⟨d0, d1, d2⟩, ⟨f0, f1, f2⟩⟩ := (show TBox w3 _ _ _ _ ∧ TBox w3 _ _ _ _ from ⟨T2.out.1.next hb, T2.out.2.next hb⟩); have T3 := Lib.hid (show TBox w3 _ _ _ _ ∧ TBox w3 _ _ _ _ from ⟨T2.out.1.next hb, T2.out.2.next hb⟩); have B3 := Lib.hid (B2.out.trans (hb.mono B2.out.size)); clear hb))
      | (go_at_call 8; (with_reducible refine (CD.out _ B3.out (by trivial)).mono ?_); rintro e w4 ⟨rfl, hb⟩; go_must (have B4 := Lib.hid (B3.out.trans (hb.mono B3.out.size)); clear hb))
      | (go_at_call 6; (with_reducible refine (CA.out _ B4.out).mono ?_); rintro e w9 ⟨rfl, hb⟩; go_must (have B9 := Lib.hid (B4.out.trans (hb.mono B4.out.size)); clear hb))
      | fail)
    go_ret
    exact ⟨rfl, B9.out⟩
end Go.Proofs.YtbkafoaoddajoaaGreatDoor.Dv

namespace Go.Proofs.YtbkafoaoddajoaaGreatDoor.Ar
open Go Go.RowKit Go.Shelf
open Go.Proofs.YtbkafoaoddajoaaGreatDoor.Rg (R RngsAt RowsAt nthL add_zero own_next infoS)

theorem add_next (a : Addr) (m o : Nat) : a.add (m + (o + 1)) = ⟨(a.add m).block, (a.add m).off + (o + 1), none⟩ := by
  unfold Addr.add
  by_cases h : m = 0
  · simp [h]
  · simp [h]; omega
/-- the cells of nodes that are read somewhere -/
theorem nodes_cells {w : World} {a : Addr} {l : List Nd} (h : ∀ i, i < l.length → NodeAt w (a.add (i * 6)) (nd l i)) : ∀ j u, (flatN l)[j]? = some u → w.cell? (a.add j) = some u := by
  intro j u hu
  have hj : j < (flatN l).length := by
    rcases Nat.lt_or_ge j (flatN l).length with h' | h'
    · exact h'
    · rw [List.getElem?_eq_none h'] at hu; cases hu
  rw [flatN_len] at hj
  have hi : j / 6 < l.length := by omega
  obtain ⟨i, hi'⟩ : ∃ i, i = j / 6 := ⟨_, rfl⟩
  obtain ⟨o, ho'⟩ : ∃ o, o = j % 6 := ⟨_, rfl⟩
  have ho : o < 6 := by omega
  have e : j = i * 6 + o := by omega
  rw [← hi'] at hi
  clear hi' ho'
  subst e
  obtain ⟨h0, h1, h2, h3, h4, h5⟩ := flatN_at l i hi
  have hn := h i hi
  have hc : o = 0 ∨ o = 1 ∨ o = 2 ∨ o = 3 ∨ o = 4 ∨ o = 5 := by omega
  rcases hc with rfl | rfl | rfl | rfl | rfl | rfl
  · rw [Nat.add_zero] at hu ⊢; rw [h0] at hu; cases hu; exact hn.c0
  · rw [h1] at hu; cases hu; rw [add_next]; exact hn.c1
  · rw [h2] at hu; cases hu; rw [add_next]; exact hn.c2
  · rw [h3] at hu; cases hu; rw [add_next]; exact hn.c3
  · rw [h4] at hu; cases hu; rw [add_next]; exact hn.c4
  · rw [h5] at hu; cases hu; rw [add_next]; exact hn.c5
/-- values that read as these sets -/
structure Vals (w : World) (L : List (List R)) (xs : List Value) : Prop where
  len : xs.length = L.length
  each : ∀ i, i < L.length → ∃ x, xs[i]? = some x ∧ RngsAt w x (nthL L i)
theorem Vals.next {w w' : World} {L : List (List R)} {xs : List Value} (h : Vals w L xs) (hb : Below w.heap.size w w') : Vals w' L xs :=
  ⟨h.len, fun i hi => by obtain ⟨x, h1, h2⟩ := h.each i hi; exact ⟨x, h1, h2.next hb⟩⟩
theorem Vals.app {w : World} {L K : List (List R)} {xs ys : List Value} (h : Vals w L xs) (k : Vals w K ys) : Vals w (L ++ K) (xs ++ ys) := by
  refine ⟨by rw [List.length_append, List.length_append, h.len, k.len], fun i hi => ?_⟩
  rw [List.length_append] at hi
  rcases Nat.lt_or_ge i L.length with hl | hl
  · obtain ⟨x, h1, h2⟩ := h.each i hl
    exact ⟨x, by rw [List.getElem?_append_left (by rw [h.len]; exact hl)]; exact h1, by rw [show nthL (L ++ K) i = nthL L i by simp [nthL, List.getElem?_append_left hl]]; exact h2⟩
  · obtain ⟨x, h1, h2⟩ := k.each (i - L.length) (by omega)
    exact ⟨x, by rw [List.getElem?_append_right (by rw [h.len]; exact hl), h.len]; exact h1, by rw [show nthL (L ++ K) i = nthL K (i - L.length) by simp [nthL, List.getElem?_append_right hl]]; exact h2⟩
theorem Vals.one {w : World} {L : List (List R)} {xs : List Value} (h : Vals w L xs) : ∀ u ∈ xs, u.oneCell' = true := by
  intro u hu
  obtain ⟨i, hi, rfl⟩ := List.mem_iff_getElem.1 hu
  obtain ⟨x, h1, h2⟩ := h.each i (by rw [← h.len]; exact hi)
  rw [List.getElem?_eq_getElem hi] at h1
  simp only [Option.some.injEq] at h1
  obtain ⟨xo, xcap, e, _, _⟩ := h2.shape
  rw [h1, e]; rfl
/-- a slice's values -/
theorem vals_of {w : World} {v : Value} {L : List (List R)} (h : RowsAt w v L) : ∃ xs, Vals w L xs ∧ ((v = .slice none 0 0 ∧ L = [] ∧ xs = []) ∨ ∃ (a : Addr) (cap : Nat), v = .slice (some a) L.length cap ∧ ∀ j u, xs[j]? = some u → w.cell? (a.add j) = some u) := by
  rcases h with ⟨rfl, rfl⟩ | ⟨a, cap, rfl, hm, hc⟩
  · exact ⟨[], ⟨rfl, fun i hi => by simp at hi⟩, .inl ⟨rfl, rfl, rfl⟩⟩
  · have hex : ∀ i, ∃ x, i < L.length → w.cell? (a.add i) = some x ∧ RngsAt w x (nthL L i) := fun i => by
      by_cases hi : i < L.length
      · obtain ⟨x, h1⟩ := hc i hi; exact ⟨x, fun _ => h1⟩
      · exact ⟨.int .i64 0, fun h => absurd h hi⟩
    obtain ⟨f, hf⟩ := Classical.skolem.1 hex
    refine ⟨(List.range L.length).map f, ⟨by simp, fun i hi => ⟨f i, by simp [hi], (hf i hi).2⟩⟩, .inr ⟨a, cap, rfl, fun j u hj => ?_⟩⟩
    have hjl : j < L.length := by
      rcases Nat.lt_or_ge j L.length with h' | h'
      · exact h'
      · rw [List.getElem?_eq_none (by simp; exact h')] at hj; cases hj
    have e : f j = u := by simpa [hjl] using hj
    rw [← e]; exact (hf j hjl).1
/-- a row of the call's own reads as its values -/
theorem rows_of_vals {w : World} {B : Nat} {v : Value} {L : List (List R)} {xs : List Value} (h : w.ownsRow B 51 1 v L.length xs) (k : Vals w L xs) : RowsAt w v L := by
  rcases h.2 with ⟨rfl, h0⟩ | ⟨g, cap, cur, rfl, _, hg, hn, hm, _, ht⟩
  · exact .inl ⟨rfl, List.eq_nil_of_length_eq_zero h0⟩
  · refine .inr ⟨⟨g, 0, none⟩, cap, rfl, by omega, fun i hi => ?_⟩
    obtain ⟨x, h1, h2⟩ := k.each i hi
    refine ⟨x, ?_, h2⟩
    rw [add_zero]
    rw [← ht, List.getElem?_take] at h1
    split at h1
    · simp [World.cell?, hg]; simpa using h1
    · cases h1
/-- append of a slice of sets that may be none -/
theorem wpList_apps {W0 W : World} (hW : Below W0.heap.size W0 W) {ops : Array Oper} {rest : List Oper} {o : Oper} {a : Act} {Q : Exit → Act → World → Prop} (hgd : o.guard = none) (s x : Operand)
    (ho : o.op = .call { callee := .builtin .append, args := #[s, x], argTypes := #[23, 23] }) (B : Nat) (v : Value) (L : List (List R)) (xs : List Value) (hs : a.eval s = v) (hown : W.ownsRow B 51 1 v L.length xs) (hvs : Vals W0 L xs)
    (src : Value) (K : List (List R)) (hx : a.eval x = src) (hsrc : RowsAt W0 src K) (hM : L.length + K.length ≤ 1000000) (hB : B ≤ W.heap.size)
    (h : ∀ v' w' ys, w'.ownsRow B 51 1 v' (L ++ K).length ys → Vals W0 (L ++ K) ys → W.grownBy w' v.ownBlock → wpList Tryz.prog ops Q rest (a.put o.dst v') w') : wpList Tryz.prog ops Q (o :: rest) a W := by
  obtain ⟨i0, hi, hz0, hz1, hz2⟩ := info_parts infoS
  obtain ⟨ys, hys, hk⟩ := vals_of hsrc
  rcases hk with ⟨rfl, rfl, rfl⟩ | ⟨ad, cap, rfl, hc⟩
  · exact wpList_append_own_none hgd s x 23 ho B 51 i0 1 Tryz.underlying23 hi v L.length xs hs hown hx (h v W xs (by simpa using hown) (by simpa using hvs) ⟨rfl, rfl, rfl, Nat.le_refl _, fun _ _ _ => rfl⟩)
  · refine wpList_append_own _ hgd s x 23 ho B 51 i0 (.slice none 0 0) 1 24 Tryz.underlying23 hi hz0 hz1 hz2 rfl (by decide) v L.length xs hs hown ad K.length cap ys hx (by rw [hys.len]; omega) (fun j u hj => cell_next (hc j u hj) hW) hys.one (by unfold maxLen; omega) (by omega) hB fun v' w' h1 h2 _ => h v' w' (xs ++ ys) (by rw [List.length_append]; exact h1) (hvs.app hys) h2

end Go.Proofs.YtbkafoaoddajoaaGreatDoor.Ar

namespace Go.Proofs.YtbkafoaoddajoaaGreatDoor.Dv
open Go Go.RowKit Go.Shelf Go.Maps
open Go.Proofs.YtbkafoaoddajoaaGreatDoor.Ar (Nd nd nodeB NRow cellsN aggN flatN Tr Ok TreeAt TBox Near NodeAt checkE check_ok rcheck_any Vals vals_of rows_of_vals nodes_of_row moveN graft)
open Go.Proofs.YtbkafoaoddajoaaGreatDoor.Rg (R RngsAt RowsAt nthL add_zero own_next infoS)
open Go.Proofs.YtbkafoaoddajoaaGreatDoor.Ut (Tabs tabs_next)

theorem own_slice {w : World} {N : Nat} {e : TypeId} {s n : Nat} {v : Value} {xs : List Value} (h : w.ownsRow N e s v n xs) : ∃ ao c, v = .slice ao n c := by
  rcases h.2 with ⟨rfl, rfl⟩ | ⟨g, cap, cur, rfl, _⟩
  · exact ⟨_, _, rfl⟩
  · exact ⟨_, _, rfl⟩
/-- append of a slice of sets that may be none, at a step of a region that draws -/
theorem step_apps {W0 W : World} (hW : Below W0.heap.size W0 W) {ops : Array Oper} {o : Oper} {a : Act} {K' : Act → World → Prop} {Q : Exit → Act → World → Prop} {E : Prop} (hgd : o.guard = none) (s x : Operand)
    (ho : o.op = .call { callee := .builtin .append, args := #[s, x], argTypes := #[23, 23] }) (B : Nat) (v : Value) (L : List (List R)) (xs : List Value) (hs : a.eval s = v) (hown : W.ownsRow B 51 1 v L.length xs) (hvs : Vals W0 L xs)
    (src : Value) (K : List (List R)) (hx : a.eval x = src) (hsrc : RowsAt W0 src K) (hM : L.length + K.length ≤ 1000000) (hB : B ≤ W.heap.size)
    (h : ∀ ao c w' ys, w'.ownsRow B 51 1 (.slice ao (L ++ K).length c) (L ++ K).length ys → Vals W0 (L ++ K) ys → W.grownBy w' v.ownBlock → K' (a.put o.dst (.slice ao (L ++ K).length c)) w') :
    if Region.wanted o (yielded ops a.tmps) = true then Oper.wp Tryz.prog o a W K' Q else E := by
  rw [if_pos (by simp [Region.wanted, hgd])]
  obtain ⟨i0, hi, hz0, hz1, hz2⟩ := info_parts infoS
  obtain ⟨ys, hys, hk⟩ := vals_of hsrc
  rcases hk with ⟨rfl, rfl, rfl⟩ | ⟨ad, cap, rfl, hc⟩
  · have hrun := run_append_owned_none (P := Tryz.prog) (w := W) B 23 o.type 51 i0 1 Tryz.underlying23 hi v L.length xs hown
    unfold Oper.wp
    simp [execOp, ho, resolve, invoke, builtin, hs, hx, hrun, Result.andThen]
    obtain ⟨ao, c, rfl⟩ := own_slice hown
    have := h ao c W xs (by simpa using hown) (by simpa using hvs) ⟨rfl, rfl, rfl, Nat.le_refl _, fun _ _ _ => rfl⟩
    have h2 : K' (a.put o.dst (.slice ao L.length c)) W := by simpa using this
    exact h2
  · refine wp_append_own W s x 23 ho B 51 i0 (.slice none 0 0) 1 24 Tryz.underlying23 hi hz0 hz1 hz2 rfl (by decide) v L.length xs hs hown ad K.length cap ys hx (by rw [hys.len]; omega) (fun j u hj => cell_next (hc j u hj) hW) hys.one (by unfold maxLen; omega) (by omega) hB fun v' w' h1 h2 _ => ?_
    obtain ⟨ao, c, rfl⟩ := own_slice h1
    have h3 := h ao c w' (xs ++ ys) (by rw [List.length_append]; exact h1) (hvs.app hys) h2
    rw [List.length_append] at h3
    exact h3

def Sb (g7 b0 b1 : Nat) (o : Nat) (sb vt vu : Value) : World → Prop := fun X => X.cell? ⟨g7, o, none⟩ = some sb ∧ X.cell? ⟨b0, o, none⟩ = some vt ∧ X.cell? ⟨b1, o, none⟩ = some vu
def Sb3 (g7 : Nat) (nb sb : Value) : World → Prop := fun X => X.cell? ⟨g7, 0, none⟩ = some nb ∧ X.cell? ⟨g7, 1, none⟩ = some sb ∧ X.cell? ⟨g7, 2, none⟩ = some (.int .i64 0)
def Sn2 (b9 b0 : Nat) (b : Int) (vt : Value) : World → Prop := fun X => X.cell? ⟨b9, 2, none⟩ = some (.int .i64 b) ∧ X.cell? ⟨b0, 0, none⟩ = some vt
/-- a tree that is being made: its box, its rows -/
structure BB (w4 : World) (g : Nat) (nb sb : Value) (r : Int) (ns : List Nd) (S : List (List R)) (xs : List Value) (w : World) : Prop where
  below : Below w4.heap.size w4 w
  base : w4.heap.size ≤ g
  box : w.heap[g]? = some (.cells #[nb, sb, .int .i64 r] 25 (0, 0))
  nodes : w.ownsRow w4.heap.size 35 6 nb ns.length (flatN ns)
  sets : w.ownsRow w4.heap.size 51 1 sb S.length xs
  vals : Vals w4 S xs
section
variable {w4 w w' : World} {g : Nat} {nb sb : Value} {r : Int} {ns : List Nd} {S : List (List R)} {xs : List Value}
theorem BB.next (h : BB w4 g nb sb r ns S xs w) (hb : Below w.heap.size w w') : BB w4 g nb sb r ns S xs w' :=
  ⟨h.below.trans (hb.mono h.below.size), h.base, (hb.block _ (Array.getElem?_eq_some_iff.1 h.box).1).trans h.box, own_next h.nodes hb, own_next h.sets hb, h.vals⟩
theorem BB.cells (h : BB w4 g nb sb r ns S xs w) : w.cell? ⟨g, 0, none⟩ = some nb ∧ w.cell? ⟨g, 1, none⟩ = some sb ∧ w.cell? ⟨g, 2, none⟩ = some (.int .i64 r) := by
  simp [World.cell?, h.box]
theorem BB.frozen (h : BB w4 g nb sb r ns S xs w) (o : Nat) : w.frozen? ⟨g, o, none⟩ = false := frozen_of_row w g o _ _ h.box
theorem BB.kg {N0 : Nat} {U : Nat → Prop} {T : TypeId → Prop} (h : BB w4 g nb sb r ns S xs w) (k : Kg N0 U T w w') (hN : N0 = w4.heap.size) (hU : ¬ U g) (hT : ¬ T 25 ∧ ¬ T 35 ∧ ¬ T 51) (hr : ∀ q, nb.ownBlock = some q ∨ sb.ownBlock = some q → ¬ U q) : BB w4 g nb sb r ns S xs w' :=
  ⟨k.since h.below hN, h.base, k.heap h.box hU (fun _ _ _ e => by cases e; exact hT.1), k.own h.nodes hT.2.1 (fun q hq => hr q (.inl hq)), k.own h.sets hT.2.2 (fun q hq => hr q (.inr hq)), h.vals⟩
theorem BB.cellk {N0 : Nat} {U : Nat → Prop} {T : TypeId → Prop} (h : BB w4 g nb sb r ns S xs w) (k : Kg N0 U T w w') (hU : ¬ U g) (hT : ¬ T 25) : w'.cell? ⟨g, 0, none⟩ = some nb ∧ w'.cell? ⟨g, 1, none⟩ = some sb ∧ w'.cell? ⟨g, 2, none⟩ = some (.int .i64 r) := by
  have := k.heap h.box hU (fun _ _ _ e => by cases e; exact hT)
  simp [World.cell?, this]
/-- the tree as it reads -/
theorem BB.tree (h : BB w4 g nb sb r ns S xs w) : TreeAt w (.agg #[nb, sb, .int .i64 r]) ⟨ns, S, r⟩ :=
  ⟨_, _, rfl, nodes_of_row h.nodes, rows_of_vals h.sets (h.vals.next h.below)⟩
/-- a box's cell turned to another row of nodes -/
theorem BB.nodes' {nb' : Value} {ns' : List Nd} {Z : World} (h : BB w4 g nb sb r ns S xs w) (hown : Z.ownsRow w4.heap.size 35 6 nb' ns'.length (flatN ns')) (hg : w.grownBy Z nb.ownBlock) :
    Z.cell? ⟨g, 0, none⟩ = some nb ∧ Z.frozen? ⟨g, 0, none⟩ = false ∧ BB w4 g nb' sb r ns' S xs (Z.setCell ⟨g, 0, none⟩ nb') ∧ Below w4.heap.size w4 Z := by
  have kZ : Kg w4.heap.size (fun _ => False) (fun t => t = 35) w Z := Kg.of_grown hg fun q hv => by
    obtain ⟨h1, cs, hh⟩ := row_block h.nodes hv
    exact ⟨h1, .inr ⟨cs, _, _, hh, rfl⟩⟩
  have boxZ := kZ.heap h.box id (fun _ _ _ e => by cases e; decide)
  have setsZ := kZ.own h.sets (by decide) (fun _ _ => id)
  have kS : Kg w4.heap.size (fun k => k = g) (fun _ => False) Z (Z.setCell ⟨g, 0, none⟩ nb') := Kg.of_set h.base rfl
  have hz : ∀ {e : TypeId} {s m : Nat} {v : Value} {ys : List Value}, Z.ownsRow w4.heap.size e s v m ys → e ≠ 25 → ∀ q, v.ownBlock = some q → ¬ q = g := fun hr he q hv e => by
    obtain ⟨_, cs, hh⟩ := row_block hr hv
    rw [e, boxZ] at hh
    simp only [Option.some.injEq, Obj.cells.injEq] at hh
    exact he hh.2.1.symm
  have hb := kZ.since h.below rfl
  refine ⟨by simp [World.cell?, boxZ], frozen_of_row Z g 0 _ _ boxZ, ⟨kS.since hb rfl, h.base, ?_, kS.own hown id (hz hown (by decide)), kS.own setsZ id (hz setsZ (by decide)), h.vals⟩, hb⟩
  have := heap_setCell_same Z g 0 _ 25 nb' boxZ
  simpa using this
/-- a box's cell turned to another row of sets -/
theorem BB.sets' {sb' : Value} {S' : List (List R)} {ys : List Value} {Z : World} (h : BB w4 g nb sb r ns S xs w) (hown : Z.ownsRow w4.heap.size 51 1 sb' S'.length ys) (hv : Vals w4 S' ys) (kZ : Kg w4.heap.size (fun _ => False) (fun t => t = 51) w Z) :
    Z.cell? ⟨g, 1, none⟩ = some sb ∧ Z.frozen? ⟨g, 1, none⟩ = false ∧ BB w4 g nb sb' r ns S' ys (Z.setCell ⟨g, 1, none⟩ sb') := by
  have boxZ := kZ.heap h.box id (fun _ _ _ e => by cases e; decide)
  have nodesZ := kZ.own h.nodes (by decide) (fun _ _ => id)
  have kS : Kg w4.heap.size (fun k => k = g) (fun _ => False) Z (Z.setCell ⟨g, 1, none⟩ sb') := Kg.of_set h.base rfl
  have hz : ∀ {e : TypeId} {s m : Nat} {v : Value} {ys : List Value}, Z.ownsRow w4.heap.size e s v m ys → e ≠ 25 → ∀ q, v.ownBlock = some q → ¬ q = g := fun hr he q hv e => by
    obtain ⟨_, cs, hh⟩ := row_block hr hv
    rw [e, boxZ] at hh
    simp only [Option.some.injEq, Obj.cells.injEq] at hh
    exact he hh.2.1.symm
  refine ⟨by simp [World.cell?, boxZ], frozen_of_row Z g 1 _ _ boxZ, ⟨kS.since (kZ.since h.below rfl) rfl, h.base, ?_, kS.own nodesZ id (hz nodesZ (by decide)), kS.own hown id (hz hown (by decide)), hv⟩⟩
  have := heap_setCell_same Z g 1 _ 25 sb' boxZ
  simpa using this
/-- a node's box, one of its cells turned -/
theorem nbox_a {X : World} {N : Nat} {n : Nd} (h : NBox X N n) (a : Int) : X.frozen? ⟨N, 1, none⟩ = false ∧ NBox (X.setCell ⟨N, 1, none⟩ (.int .i64 a)) N { n with a := a } := by
  refine ⟨frozen_of_row X N 1 _ _ h, ?_⟩
  have := heap_setCell_same X N 1 _ 35 (.int .i64 a) h
  simpa [NBox] using this
theorem nbox_b {X : World} {N : Nat} {n : Nd} (h : NBox X N n) (b : Int) : X.frozen? ⟨N, 2, none⟩ = false ∧ NBox (X.setCell ⟨N, 2, none⟩ (.int .i64 b)) N { n with b := b } := by
  refine ⟨frozen_of_row X N 2 _ _ h, ?_⟩
  have := heap_setCell_same X N 2 _ 35 (.int .i64 b) h
  simpa [NBox] using this
theorem nbox_set {X : World} {N : Nat} {n : Nd} (h : NBox X N n) (c : Int) : X.frozen? ⟨N, 5, none⟩ = false ∧ NBox (X.setCell ⟨N, 5, none⟩ (.int .i64 c)) N { n with set := c } := by
  refine ⟨frozen_of_row X N 5 _ _ h, ?_⟩
  have := heap_setCell_same X N 5 _ 35 (.int .i64 c) h
  simpa [NBox] using this
theorem below_set {X Y : World} {N o : Nat} {u : Value} (h : Below X.heap.size X Y) (hN : X.heap.size ≤ N) : Below X.heap.size X (Y.setCell ⟨N, o, none⟩ u) :=
  ⟨h.os, h.tape, h.output, by simpa [World.setCell] using h.size, fun k hk => (Below.heap_setCell _ _ _ _ (show k ≠ N by omega)).trans (h.block k hk)⟩
/-- a node more -/
theorem BB.app {W Z : World} {n : Nd} {nb' : Value} {o : Obj} (h : BB w4 g nb sb r ns S xs w) (hW : Below w.heap.size w W) (hown : Z.ownsRow w4.heap.size 35 6 nb' (ns.length + 1) (flatN ns ++ cellsN n)) (hg : (W.alloc o).grownBy Z nb.ownBlock) :
    Z.cell? ⟨g, 0, none⟩ = some nb ∧ Z.frozen? ⟨g, 0, none⟩ = false ∧ BB w4 g nb' sb r (ns ++ [n]) S xs (Z.setCell ⟨g, 0, none⟩ nb') := by
  have h1 := (h.next hW).next ((Below.refl W.heap.size W).alloc (Nat.le_refl _) o)
  have h2 := h1.nodes' (nb' := nb') (ns' := ns ++ [n]) (by rw [List.length_append, Ar.flatN_snoc]; exact hown) hg
  exact ⟨h2.1, h2.2.1, h2.2.2.1⟩
theorem take_more {l : List Nd} {f : Nd → Nd} {k : Nat} (hk : k < l.length) (a : List Nd) : a ++ (l.map f).take (k + 1) = (a ++ (l.map f).take k) ++ [f (nd l k)] := by
  rw [List.append_assoc, List.take_succ_eq_append_getElem (by simpa using hk)]
  congr 2
  simp [nd, List.getD, hk]
theorem cell_heap {X Y : World} {k o : Nat} (h : X.heap[k]? = Y.heap[k]?) : X.cell? ⟨k, o, none⟩ = Y.cell? ⟨k, o, none⟩ := by simp only [World.cell?, h]
/-- a whole tree stored into a new box -/
def storeT (X : World) (p : Nat) (nb sb : Value) : World := ((X.setCell ⟨p, 0, none⟩ nb).setCell ⟨p, 1, none⟩ sb).setCell ⟨p, 2, none⟩ (.int .i64 0)
theorem store_into {wr X : World} {p : Nat} {a b : Value} (hb : Below wr.heap.size wr X) (hp : wr.heap.size ≤ p) (h : X.heap[p]? = some (.cells #[a, b, .int .i64 0] 25 (0, 0))) (nb sb : Value) :
    X.cell? ⟨p, 0, none⟩ = some a ∧ X.frozen? ⟨p, 0, none⟩ = false ∧ (X.setCell ⟨p, 0, none⟩ nb).cell? ⟨p, 1, none⟩ = some b ∧ (X.setCell ⟨p, 0, none⟩ nb).frozen? ⟨p, 1, none⟩ = false ∧ ((X.setCell ⟨p, 0, none⟩ nb).setCell ⟨p, 1, none⟩ sb).cell? ⟨p, 2, none⟩ = some (.int .i64 0) ∧ ((X.setCell ⟨p, 0, none⟩ nb).setCell ⟨p, 1, none⟩ sb).frozen? ⟨p, 2, none⟩ = false ∧
    (storeT X p nb sb).heap[p]? = some (.cells #[nb, sb, .int .i64 0] 25 (0, 0)) ∧ (∀ k, k ≠ p → (storeT X p nb sb).heap[k]? = X.heap[k]?) ∧ Below wr.heap.size wr (storeT X p nb sb) := by
  have h1 := heap_setCell_same X p 0 _ 25 nb h
  have h1' : (X.setCell ⟨p, 0, none⟩ nb).heap[p]? = some (.cells #[nb, b, .int .i64 0] 25 (0, 0)) := by simpa using h1
  have h2 := heap_setCell_same _ p 1 _ 25 sb h1'
  have h2' : ((X.setCell ⟨p, 0, none⟩ nb).setCell ⟨p, 1, none⟩ sb).heap[p]? = some (.cells #[nb, sb, .int .i64 0] 25 (0, 0)) := by simpa using h2
  have h3 := heap_setCell_same _ p 2 _ 25 (.int .i64 0) h2'
  refine ⟨by simp [World.cell?, h], frozen_of_row _ p 0 _ _ h, by simp [World.cell?, h1'], frozen_of_row _ p 1 _ _ h1', by simp [World.cell?, h2'], frozen_of_row _ p 2 _ _ h2', by simpa [storeT] using h3, fun k hk => ?_, below_set (below_set (below_set hb hp) hp) hp⟩
  exact ((Below.heap_setCell _ _ _ _ hk).trans (Below.heap_setCell _ _ _ _ hk)).trans (Below.heap_setCell _ _ _ _ hk)
theorem own_some {w : World} {N : Nat} {e : TypeId} {s n : Nat} {v : Value} {xs : List Value} (h : w.ownsRow N e s v n xs) (hn : n ≠ 0) : ∃ g c, v = .slice (some ⟨g, 0, none⟩) n c := by
  rcases h.2 with ⟨rfl, h0⟩ | ⟨g, cap, cur, rfl, _⟩
  · exact absurd h0 hn
  · exact ⟨_, _, rfl⟩
theorem own_cells {w : World} {N : Nat} {e : TypeId} {s n g c : Nat} {xs : List Value} (h : w.ownsRow N e s (.slice (some ⟨g, 0, none⟩) n c) n xs) : ∀ j u, xs[j]? = some u → w.cell? (Addr.add ⟨g, 0, none⟩ j) = some u := by
  intro j u hj
  rcases h.2 with ⟨e, _⟩ | ⟨g', cap, cur, e, _, hg, _, _, _, ht⟩
  · cases e
  · cases e
    rw [← ht, List.getElem?_take] at hj
    split at hj
    · rw [add_zero]; simp [World.cell?, hg]; simpa using hj
    · cases hj
/-- a joined tree's box and its row of nodes -/
structure JB (B p : Nat) (v sb : Value) (r : Int) (n : Nat) (xs : List Value) (X : World) : Prop where
  base : B ≤ p
  box : X.heap[p]? = some (.cells #[v, sb, .int .i64 r] 25 (0, 0))
  row : X.ownsRow B 35 6 v n xs
theorem JB.cells {B p : Nat} {v sb : Value} {r : Int} {n : Nat} {xs : List Value} {X : World} (h : JB B p v sb r n xs X) : X.cell? ⟨p, 0, none⟩ = some v ∧ X.cell? ⟨p, 1, none⟩ = some sb ∧ X.cell? ⟨p, 2, none⟩ = some (.int .i64 r) := by
  simp [World.cell?, h.box]
theorem row_not {B p n s : Nat} {v : Value} {xs : List Value} {X : World} {cs : Array Value} (h : X.ownsRow B 35 s v n xs) (hx : X.heap[p]? = some (.cells cs 25 (0, 0))) : v.ownBlock ≠ some p := fun e => by
  obtain ⟨_, cs, hh⟩ := row_block h e
  rw [hx] at hh
  simp only [Option.some.injEq, Obj.cells.injEq] at hh
  exact absurd hh.2.1.symm (by decide)
theorem JB.set {B p : Nat} {v sb : Value} {r : Int} {n : Nat} {xs : List Value} {X : World} (h : JB B p v sb r n xs X) (c : Int) : X.cell? ⟨p, 2, none⟩ = some (.int .i64 r) ∧ X.frozen? ⟨p, 2, none⟩ = false ∧ JB B p v sb c n xs (X.setCell ⟨p, 2, none⟩ (.int .i64 c)) := by
  refine ⟨h.cells.2.2, frozen_of_row _ p 2 _ _ h.box, h.base, ?_, ownsRow_setCell_other h.row (row_not h.row h.box) _⟩
  have := heap_setCell_same X p 2 _ 25 (.int .i64 c) h.box
  simpa using this
theorem JB.other {B p q : Nat} {v sb : Value} {r : Int} {n : Nat} {xs : List Value} {X : World} {cs : Array Value} (h : JB B q v sb r n xs X) (hx : X.heap[p]? = some (.cells cs 25 (0, 0))) (hpq : q ≠ p) (o : Nat) (u : Value) : JB B q v sb r n xs (X.setCell ⟨p, o, none⟩ u) :=
  ⟨h.base, (Below.heap_setCell _ _ _ _ hpq).trans h.box, ownsRow_setCell_other h.row (row_not h.row hx) u⟩
theorem JB.next {B p : Nat} {v sb : Value} {r : Int} {n : Nat} {xs : List Value} {X Y : World} (h : JB B p v sb r n xs X) (hb : Below X.heap.size X Y) : JB B p v sb r n xs Y :=
  ⟨h.base, (hb.block p (Array.getElem?_eq_some_iff.1 h.box).1).trans h.box, own_next h.row hb⟩
/-- a box, into which a row of nodes is put that has been made in two steps -/
theorem jb_make {w0 W Z1 Z2 : World} {p : Nat} {a sb v1 v2 : Value} {r : Int} {n1 n2 : Nat} {xs1 xs2 : List Value} {o : Obj} (hb : Below w0.heap.size w0 W) (hp : w0.heap.size ≤ p) (hx : W.heap[p]? = some (.cells #[a, sb, .int .i64 r] 25 (0, 0)))
    (h1 : (W.alloc (.cells #[] 35)).grownBy Z1 (some W.heap.size)) (o1 : Z1.ownsRow W.heap.size 35 6 v1 n1 xs1) (h2 : (Z1.alloc o).grownBy Z2 v1.ownBlock) (o2 : Z2.ownsRow W.heap.size 35 6 v2 n2 xs2) :
    Z2.cell? ⟨p, 0, none⟩ = some a ∧ Z2.frozen? ⟨p, 0, none⟩ = false ∧ JB w0.heap.size p v2 sb r n2 xs2 (Z2.setCell ⟨p, 0, none⟩ v2) ∧ (∀ k, k < W.heap.size → k ≠ p → (Z2.setCell ⟨p, 0, none⟩ v2).heap[k]? = W.heap[k]?) ∧ (∀ q v sb r n xs, q ≠ p → JB w0.heap.size q v sb r n xs W → JB w0.heap.size q v sb r n xs (Z2.setCell ⟨p, 0, none⟩ v2)) ∧ Below w0.heap.size w0 (Z2.setCell ⟨p, 0, none⟩ v2) := by
  have hlt := (Array.getElem?_eq_some_iff.1 hx).1
  have b1 : Below W.heap.size W Z1 := ((Below.refl W.heap.size W).alloc (Nat.le_refl _) _).grown h1 (by simp) (fun k e => by cases e; exact Nat.le_refl _)
  have b2 : Below W.heap.size W (Z1.alloc o) := b1.alloc b1.size o
  have b3 : Below W.heap.size W Z2 := b2.grown h2 b2.size (fun k e => (o1.lt k e).1)
  have hz := (b3.block p hlt).trans hx
  have hne : v2.ownBlock ≠ some p := fun e => by have := (o2.lt p e).1; omega
  refine ⟨by simp [World.cell?, hz], frozen_of_row _ p 0 _ _ hz, ⟨hp, ?_, own_base (ownsRow_setCell_other o2 hne v2) hb.size⟩, fun k hk hkp => (Below.heap_setCell _ _ _ _ hkp).trans (b3.block k hk), fun q v sb r n xs hq h => (h.next b3).other hz hq 0 v2, below_set (hb.trans (b3.mono hb.size)) hp⟩
  have := heap_setCell_same Z2 p 0 _ 25 v2 hz
  simpa using this
theorem join_tree {t u : Tr} {op : Int} {B B' p x y : Nat} {v sb : Value} {G : List Nd} {m : Nat} {ys : List Value} {w4 X : World} (hG : (graft t.ns t.sets u).ns = G) (hx : t.root = x) (hy : u.root = y) (h : JB B p v sb G.length (G.length + 1) (flatN G ++ cellsN ⟨op, x, t.ns.length + y, 0, 0, 0⟩) X)
    (hs : X.ownsRow B' 51 1 sb m ys) (hm : ((([] ++ t.sets) ++ u.sets : List (List R))).length = m) (hv : Vals w4 (t.sets ++ u.sets) ys) (hb : Below w4.heap.size w4 X) : TreeAt X (.agg #[v, sb, .int .i64 G.length]) (joinT t u op) := by
  refine ⟨v, sb, by simp [joinT, hG], nodes_of_row (B := B) ?_, rows_of_vals (B := B') (xs := ys) ?_ (hv.next hb)⟩
  · have := h.row
    rw [← Ar.flatN_snoc] at this
    simp only [joinT, hG, hx, hy]
    unfold NRow
    rw [List.length_append, List.length_singleton]
    exact this
  · have : (joinT t u op).sets.length = m := by rw [← hm]; simp [joinT]
    rw [this]
    exact hs
theorem row_seq {t u : Tr} {l : List Int} (ht : Ok t) (hu : Ok u) : rowB (joinT t u 3) l = wantB (mat (den t.ns t.sets t.root.toNat) l) (mat (den u.ns u.sets u.root.toNat) l) l.length (l.length + 1) := by
  rw [Bool.eq_iff_iff, rowB_iff, join_den ht hu (.inl rfl), if_pos rfl, want_end]
theorem row_alt {t u : Tr} {l : List Int} (ht : Ok t) (hu : Ok u) : rowB (joinT t u 4) l = (mat (den t.ns t.sets t.root.toNat) l 0 l.length || mat (den u.ns u.sets u.root.toNat) l 0 l.length) := by
  rw [Bool.eq_iff_iff, rowB_iff, join_den ht hu (.inr rfl), if_neg (by decide), alt_end]
theorem tab_cell {X : World} {g n c : Nat} {f : Mx} (h : TabAt X 0 (.slice (some ⟨g, 0, none⟩) n c) n f) {i m : Nat} (hi : i < n) (hm : m < n) : ∃ r c', X.cell? ⟨g, i, none⟩ = some (.slice (some ⟨r, 0, none⟩) n c') ∧ X.cell? ⟨r, m, none⟩ = some (.bool (f i m)) := by
  obtain ⟨g', cap, e, _, _, _, _, hc⟩ := h.at' (by omega)
  cases e
  obtain ⟨r, c', ds, h1, _, _, _, h2⟩ := hc i hi
  exact ⟨r, c', h1, h2 m hm⟩
end
end Go.Proofs.YtbkafoaoddajoaaGreatDoor.Dv

namespace Go.Proofs.YtbkafoaoddajoaaGreatDoor.Dv
open Go Go.RowKit Go.Shelf Go.Maps
open Go.Proofs.YtbkafoaoddajoaaGreatDoor.Ar (Nd nd nodeB nodeB_ways NRow cellsN aggN flatN flatN_len flatN_one nodes_cells infoN Tr Ok TreeAt TBox Near NodeAt checkE check_ok rcheck_any Vals vals_of rows_of_vals nodes_of_row moveN graft)
open Go.Proofs.YtbkafoaoddajoaaGreatDoor.Rg (R RngsAt RowsAt nthL add_zero own_next infoS)
open Go.Proofs.YtbkafoaoddajoaaGreatDoor.Ut (Tabs tabs_next allL validL rall_any rvalid_any)

set_option maxRecDepth 100000 in
set_option maxHeartbeats 16000000 in
theorem parts_good (t u : Tr) (s : ByteArray) (v x : Value) (w : World) (hv : TreeAt w v t) (hx : TreeAt w x u) (hU : Tabs w) (hlt : lightB t s.size = true) (hlu : lightB u s.size = true) (hct : checkE t = 0) (hcu : checkE u = 0) :
    Calls Tryz.prog 4 #[v, x, .string s] w fun e w' => e = .returned (.bool true) ∧ Below w.heap.size w w' := by
  obtain ⟨i0, hi, hz0, hz1, hz2⟩ := info_parts infoN
  have HV := Lib.hid hv
  have HX := Lib.hid hx
  obtain ⟨nt, lt1, lt2⟩ := light_yes hlt
  obtain ⟨nu, lu1, _⟩ := light_yes hlu
  obtain ⟨okt, _, _⟩ := check_ok hct
  obtain ⟨oku, _, _⟩ := check_ok hcu
  have NT := Lib.hid nt
  have NU := Lib.hid nu
  have OT := Lib.hid okt
  have OU := Lib.hid oku
  have rt0 := okt.root0
  have rt1 := okt.root1
  have ru0 := oku.root0
  have ru1 := oku.root1
  have st := nt.sets
  have su := nu.sets
  obtain ⟨ao, cap, so, scap, rfl, _, _, hnt, _⟩ := hv.shape
  obtain ⟨bo, bcap, to', tcap, rfl, _, _, hnu, _⟩ := hx.shape
  obtain ⟨ga, rfl, _⟩ := hnt 0 (by omega)
  obtain ⟨gu, rfl, _⟩ := hnu 0 (by omega)
  have hct' : ∀ i, i < t.ns.length → NodeAt w (ga.add (i * 6)) (nd t.ns i) := fun i hi => by
    obtain ⟨g, e, h⟩ := hnt i hi
    cases e; exact h
  have hcu' : ∀ i, i < u.ns.length → NodeAt w (gu.add (i * 6)) (nd u.ns i) := fun i hi => by
    obtain ⟨g, e, h⟩ := hnu i hi
    cases e; exact h
  have CTN := Lib.hid (nodes_cells hct')
  have CUN := Lib.hid hcu'
  have RST := Lib.hid (show RowsAt w (.slice so t.sets.length scap) t.sets from by
    obtain ⟨vn, vs, e, _, h⟩ := hv
    simp only [Value.agg.injEq, Array.mk.injEq, List.cons.injEq, and_true] at e
    rw [e.2]; exact h)
  have RSU := Lib.hid (show RowsAt w (.slice to' u.sets.length tcap) u.sets from by
    obtain ⟨vn, vs, e, _, h⟩ := hx
    simp only [Value.agg.injEq, Array.mk.injEq, List.cons.injEq, and_true] at e
    rw [e.2]; exact h)
  have BP := Lib.hid (par_below w (.slice (some ga) t.ns.length cap) (.slice so t.sets.length scap) t.root (.slice (some gu) u.ns.length bcap) (.slice to' u.sets.length tcap) u.root)
  have TP := Lib.hid (par_boxes w (.slice (some ga) t.ns.length cap) (.slice so t.sets.length scap) t.root (.slice (some gu) u.ns.length bcap) (.slice to' u.sets.length tcap) u.root)
  have CA := Lib.hid (fun W (hb : Below w.heap.size w W) => alive_any W (tabs_next hU hb))
  have HU := Lib.hid hU
  have CT := Lib.hid (fun W (hb : Below w.heap.size w W) => hlt ▸ light_any t s _ W (HV.out.next hb))
  have CU := Lib.hid (fun W (hb : Below w.heap.size w W) => hlu ▸ light_any u s _ W (HX.out.next hb))
  have CC := Lib.hid (fun W (hb : Below w.heap.size w W) => hct ▸ rcheck_any t _ W (HV.out.next hb) (fun k hk => by have := NT.out.each k hk; omega))
  have CD := Lib.hid (fun W (hb : Below w.heap.size w W) => hcu ▸ rcheck_any u _ W (HX.out.next hb) (fun k hk => by have := NU.out.each k hk; omega))
  have HE : parW w (.slice (some ga) t.ns.length cap) (.slice so t.sets.length scap) t.root (.slice (some gu) u.ns.length bcap) (.slice to' u.sets.length tcap) u.root = (w.alloc (.cells #[.slice (some ga) t.ns.length cap, .slice so t.sets.length scap, .int .i64 t.root] 25)).alloc (.cells #[.slice (some gu) u.ns.length bcap, .slice to' u.sets.length tcap, .int .i64 u.root] 25) := rfl
  generalize parW w (.slice (some ga) t.ns.length cap) (.slice so t.sets.length scap) t.root (.slice (some gu) u.ns.length bcap) (.slice to' u.sets.length tcap) u.root = W0 at *
  clear hv hx hU hnt hnu hct' hcu' nt nu okt oku hlt hlu hct hcu
  go_enter Tryz.func4, Tryz.ntmps4
  go_upto_region 1 with fail
  rw [← HE]
  clear HE
  obtain ⟨⟨t0, t1, t2⟩, ⟨u0, u1, u2⟩⟩ := TP.out
  go_upto_region 3 with (first
    | (go_at_call 5; (with_reducible refine (CT.out _ BP.out).mono ?_); rintro e w1 ⟨rfl, hb⟩; go_must (obtain ⟨⟨t0, t1, t2⟩, ⟨u0, u1, u2⟩⟩ := (show TBox w1 _ _ _ _ ∧ TBox w1 _ _ _ _ from ⟨TP.out.1.next hb, TP.out.2.next hb⟩); have T1 := Lib.hid (show TBox w1 _ _ _ _ ∧ TBox w1 _ _ _ _ from ⟨TP.out.1.next hb, TP.out.2.next hb⟩); have B1 := Lib.hid (BP.out.trans (hb.mono BP.out.size)); clear hb))
    | (go_at_call 5; (with_reducible refine (CU.out _ B1.out).mono ?_); rintro e w2 ⟨rfl, hb⟩; go_must (obtain ⟨⟨a0, a1, a2⟩, ⟨c0, c1, c2⟩⟩ := (show TBox w2 _ _ _ _ ∧ TBox w2 _ _ _ _ from ⟨T1.out.1.next hb, T1.out.2.next hb⟩); have T2 := Lib.hid (show TBox w2 _ _ _ _ ∧ TBox w2 _ _ _ _ from ⟨T1.out.1.next hb, T1.out.2.next hb⟩); have B2 := Lib.hid (B1.out.trans (hb.mono B1.out.size)); clear hb))
    | (go_at_call 8; (with_reducible refine (CC.out _ B2.out).mono ?_); rintro e w3 ⟨rfl, hb⟩; go_must (obtain ⟨⟨d0, d1, d2⟩, ⟨f0, f1, f2⟩⟩ := (show TBox w3 _ _ _ _ ∧ TBox w3 _ _ _ _ from ⟨T2.out.1.next hb, T2.out.2.next hb⟩); have T3 := Lib.hid (show TBox w3 _ _ _ _ ∧ TBox w3 _ _ _ _ from ⟨T2.out.1.next hb, T2.out.2.next hb⟩); have B3 := Lib.hid (B2.out.trans (hb.mono B2.out.size)); clear hb))
    | (go_at_call 8; (with_reducible refine (CD.out _ B3.out).mono ?_); rintro e w4 ⟨rfl, hb⟩; go_must (have T4 := Lib.hid (show TBox w4 _ _ _ _ ∧ TBox w4 _ _ _ _ from ⟨T3.out.1.next hb, T3.out.2.next hb⟩); have B4 := Lib.hid (B3.out.trans (hb.mono B3.out.size)); clear hb))
    | fail)
  clear CT CU CC CD BP TP T1 T2 T3 B1 B2 B3 t0 t1 t2 u0 u1 u2 a0 a1 a2 c0 c1 c2 d0 d1 d2 f0 f1 f2
  have hww := B4.out.size
  have TB := Lib.hid (fun (X : World) (hX : Below w4.heap.size w4 X) => (show TBox X w.heap.size _ _ _ ∧ TBox X (w.heap.size + 1) _ _ _ from ⟨T4.out.1.next hX, T4.out.2.next hX⟩))
  go_upto_region 4 with fail
  have hb5 : Below w4.heap.size w4 (w4.alloc (.cells #[.slice none 0 0, .slice none 0 0, .int .i64 0] 25)) := (Below.refl _ _).alloc (Nat.le_refl _) _
  have BB5 := Lib.hid (show BB w4 w4.heap.size (.slice none 0 0) (.slice none 0 0) 0 [] [] [] (w4.alloc (.cells #[.slice none 0 0, .slice none 0 0, .int .i64 0] 25)) from ⟨hb5, Nat.le_refl _, World.alloc_heap_new w4 _, World.ownsRow_nil _ _ _ _, World.ownsRow_nil _ _ _ _, ⟨rfl, fun i hi => by simp at hi⟩⟩)
  generalize w4.alloc (.cells #[.slice none 0 0, .slice none 0 0, .int .i64 0] 25) = w5 at *
  obtain ⟨x0, x1, x2⟩ := BB5.out.cells
  obtain ⟨⟨t0, t1, t2⟩, ⟨u0, u1, u2⟩⟩ := TB.out w5 hb5
  have hg7 := cell_lt x0
  have hg3 := cell_lt t0
  have hg4 := cell_lt u0
  have C5 := Lib.hid (fun j uu (hj : (flatN t.ns)[j]? = some uu) => cell_next (CTN.out j uu hj) (B4.out.trans (hb5.mono B4.out.size)))
  have hbs5 := hb5.size
  clear hb5
  go_upto_region 5 with (first
    | (at_builtin; refine wpList_append_own _ rfl _ _ 22 rfl w4.heap.size 35 i0 (.agg #[.int .i64 0, .int .i64 0, .int .i64 0, .int .i64 0, .int .i64 0, .int .i64 0]) 6 48 Tryz.underlying22 hi hz0 hz1 hz2 rfl (by decide) (.slice none 0 0) 0 [] rfl (World.ownsRow_nil _ _ _ _) ga t.ns.length cap (flatN t.ns) rfl (flatN_len t.ns) C5.out flatN_one (by unfold maxLen; omega) (by omega) (by omega) ?_; intro v' w6 hown' hgrow _; obtain ⟨ao6, c6, rfl⟩ := own_slice hown'; go_must (rw [Nat.zero_add, List.nil_append] at hown'; have ND := Lib.hid (BB5.out.nodes' (nb' := .slice ao6 t.ns.length c6) (ns' := t.ns) hown' hgrow); obtain ⟨y0, y1, _, _⟩ := ND.out; clear hown' hgrow))
    | fail)
  obtain ⟨_, _, bb6, hb6⟩ := ND.out
  have BB7 := Lib.hid (bb6.next (drewB _))
  have TB7 := Lib.hid (TB.out _ BB7.out.below)
  have S5 : Sb w4.heap.size w.heap.size (w.heap.size + 1) 1 (.slice none 0 0) (.slice so t.sets.length scap) (.slice to' u.sets.length tcap) (w6.setCell ⟨w4.heap.size, 0, none⟩ (.slice ao6 t.ns.length c6)).drew := ⟨BB7.out.cells.2.1, TB7.out.1.c1, TB7.out.2.c1⟩
  have TF := Lib.hid (fun (X : World) (hX : Below w4.heap.size w4 X) => (show X.cell? ⟨w.heap.size, 1, none⟩ = some (.slice so t.sets.length scap) ∧ X.cell? ⟨w.heap.size + 1, 1, none⟩ = some (.slice to' u.sets.length tcap) from ⟨(TB.out X hX).1.c1, (TB.out X hX).2.c1⟩))
  have R1 := Lib.hid (RST.out.next B4.out)
  have R2 := Lib.hid (RSU.out.next B4.out)
  have hb7 := BB7.out.below.size
  clear ND bb6 hb6 x0 x1 x2 t0 t1 t2 u0 u1 u2 hg7 hg3 hg4 C5 BB5 y0 y1
  refine wp_region_noPanic ?_
  refine begin_anyT (S := Sb w4.heap.size w.heap.size (w.heap.size + 1) 1 (.slice none 0 0) (.slice so t.sets.length scap) (.slice to' u.sets.length tcap)) 9 (by as_aux_lemma => kernel_rfl) ?_
  generalize (w6.setCell ⟨w4.heap.size, 0, none⟩ (.slice ao6 t.ns.length c6)).drew = w7 at *
  have hS := S5
  clear S5
  refine anyT_free (i := 0) (v := ?_) rfl (by as_aux_lemma => kernel_rfl) (by as_aux_lemma => kernel_rfl) (by as_aux_lemma => kernel_rfl) (by as_aux_lemma => kernel_rfl) (fun _ _ _ h => h) (Or.inl ⟨by rfl, ?_⟩) (fun _ => hS) ?_
  rotate_left
  · (intro W _; go_simp <;> with_reducible rfl)
  simp only [Act.put, List.getElem_toArray, List.getElem_cons_zero, List.setIfInBounds_toArray, List.set_cons_zero, List.set_cons_succ]
  refine anyT_take (i := 1) (v := ?_) rfl (by as_aux_lemma => kernel_rfl) (by as_aux_lemma => kernel_rfl) (by as_aux_lemma => kernel_rfl) (by as_aux_lemma => kernel_rfl) (fun _ _ _ h => h) (Or.inl ⟨by rfl, ?_⟩) hS ?_
  rotate_left
  · (intro W hSw; obtain ⟨q1, q2, q3⟩ := hSw; go_simp <;> with_reducible rfl)
  simp only [Act.put, List.getElem_toArray, List.getElem_cons_succ, List.getElem_cons_zero, List.setIfInBounds_toArray, List.set_cons_zero, List.set_cons_succ]
  refine anyT_free (i := 2) (v := ?_) rfl (by as_aux_lemma => kernel_rfl) (by as_aux_lemma => kernel_rfl) (by as_aux_lemma => kernel_rfl) (by as_aux_lemma => kernel_rfl) (fun _ _ _ h => h) (Or.inl ⟨by rfl, ?_⟩) (fun _ => hS) ?_
  rotate_left
  · (intro W _; go_simp <;> with_reducible rfl)
  simp only [Act.put, List.getElem_toArray, List.getElem_cons_succ, List.getElem_cons_zero, List.setIfInBounds_toArray, List.set_cons_zero, List.set_cons_succ]
  refine anyT_take (i := 3) (v := ?_) rfl (by as_aux_lemma => kernel_rfl) (by as_aux_lemma => kernel_rfl) (by as_aux_lemma => kernel_rfl) (by as_aux_lemma => kernel_rfl) (fun _ _ _ h => h) (Or.inl ⟨by rfl, ?_⟩) hS ?_
  rotate_left
  · (intro W hSw; obtain ⟨q1, q2, q3⟩ := hSw; go_simp <;> with_reducible rfl)
  simp only [Act.put, List.getElem_toArray, List.getElem_cons_succ, List.getElem_cons_zero, List.setIfInBounds_toArray, List.set_cons_zero, List.set_cons_succ]
  refine anyT_free (i := 5) (v := ?_) rfl (by as_aux_lemma => kernel_rfl) (by as_aux_lemma => kernel_rfl) (by as_aux_lemma => kernel_rfl) (by as_aux_lemma => kernel_rfl) (fun _ _ _ h => h) (Or.inl ⟨by rfl, ?_⟩) (fun _ => hS) ?_
  rotate_left
  · (intro W _; go_simp <;> with_reducible rfl)
  simp only [Act.put, List.getElem_toArray, List.getElem_cons_succ, List.getElem_cons_zero, List.setIfInBounds_toArray, List.set_cons_zero, List.set_cons_succ]
  refine anyT_take (i := 6) (v := ?_) rfl (by as_aux_lemma => kernel_rfl) (by as_aux_lemma => kernel_rfl) (by as_aux_lemma => kernel_rfl) (by as_aux_lemma => kernel_rfl) (fun _ _ _ h => h) (Or.inl ⟨by rfl, ?_⟩) hS ?_
  rotate_left
  · (intro W hSw; obtain ⟨q1, q2, q3⟩ := hSw; go_simp <;> with_reducible rfl)
  simp only [Act.put, List.getElem_toArray, List.getElem_cons_succ, List.getElem_cons_zero, List.setIfInBounds_toArray, List.set_cons_zero, List.set_cons_succ]
  refine anyT_ready (rs := [4]) (by as_aux_lemma => kernel_rfl) (by simp) ?_
  refine AllT.cons rfl ?_ AllT.nil
  intro K hK
  refine step_apps BB7.out.below (by rfl) (.tmp 52) (.tmp 54) (by rfl) w4.heap.size (.slice none 0 0) [] [] (by rfl) BB7.out.sets BB7.out.vals (.slice so t.sets.length scap) t.sets (by rfl) R1.out (by simp; omega) hb7 ?_
  intro ao8 c8 w8 ys8 hown8 hval8 hg8
  have k8 : Kg w4.heap.size (fun _ => False) (fun t => t = 51) w7 w8 := Kg.of_grown hg8 fun q hv => by cases hv
  have hb8 := k8.since BB7.out.below rfl
  have S8 : Sb w4.heap.size w.heap.size (w.heap.size + 1) 1 (.slice none 0 0) (.slice so t.sets.length scap) (.slice to' u.sets.length tcap) w8 := ⟨(BB7.out.cellk k8 id (by decide)).2.1, (TF.out _ hb8).1, (TF.out _ hb8).2⟩
  refine hK.out _ _ (fun _ => S8) ?_
  clear hK K hS
  try simp only [Act.put, List.getElem_toArray, List.getElem_cons_succ, List.getElem_cons_zero, List.setIfInBounds_toArray, List.set_cons_zero, List.set_cons_succ]
  refine anyT_ready (rs := [7]) (by as_aux_lemma => kernel_rfl) (by simp) ?_
  refine AllT.cons rfl ?_ AllT.nil
  intro K hK
  refine step_apps hb8 (by rfl) (.tmp 55) (.tmp 57) (by rfl) w4.heap.size (.slice ao8 ([] ++ t.sets).length c8) ([] ++ t.sets) ys8 (by rfl) hown8 hval8 (.slice to' u.sets.length tcap) u.sets (by rfl) R2.out (by simp; omega) hb8.size ?_
  intro ao9 c9 w9 ys9 hown9 hval9 hg9
  have k9 : Kg w4.heap.size (fun _ => False) (fun t => t = 51) w7 w9 := k8.trans (Kg.of_grown hg9 fun q hv => by
    obtain ⟨h1, cs, hh⟩ := row_block hown8 hv
    exact ⟨h1, .inr ⟨cs, _, _, hh, rfl⟩⟩)
  have hb9 := k9.since BB7.out.below rfl
  have S9 : Sb w4.heap.size w.heap.size (w.heap.size + 1) 1 (.slice none 0 0) (.slice so t.sets.length scap) (.slice to' u.sets.length tcap) w9 := ⟨(BB7.out.cellk k9 id (by decide)).2.1, (TF.out _ hb9).1, (TF.out _ hb9).2⟩
  obtain ⟨y0, y1, bb10⟩ := BB7.out.sets' hown9 hval9 k9
  clear hown9 hval9 hg9
  generalize hm9 : (([] ++ t.sets) ++ u.sets : List (List R)).length = m9 at *
  have HM9 := Lib.hid hm9
  clear hm9
  refine hK.out _ _ (fun _ => S9) ?_
  clear hK K S8 k8 k9 hown8 hval8 hg8
  try simp only [Act.put, List.getElem_toArray, List.getElem_cons_succ, List.getElem_cons_zero, List.setIfInBounds_toArray, List.set_cons_zero, List.set_cons_succ]
  have hS := S9
  have BB10 := Lib.hid bb10
  clear bb10
  refine anyT_free (i := 8) (v := ?_) rfl (by as_aux_lemma => kernel_rfl) (by as_aux_lemma => kernel_rfl) (by as_aux_lemma => kernel_rfl) (by as_aux_lemma => kernel_rfl) (fun _ _ _ h => h) (Or.inl ⟨by rfl, ?_⟩) (fun _ => hS) ?_
  rotate_left
  · (intro W _; go_simp <;> with_reducible rfl)
  simp only [Act.put, List.getElem_toArray, List.getElem_cons_succ, List.getElem_cons_zero, List.setIfInBounds_toArray, List.set_cons_zero, List.set_cons_succ]
  refine anyT_ready (rs := [9]) (by as_aux_lemma => kernel_rfl) (by simp) ?_
  refine AllT.cons rfl ?_ AllT.nil
  intro K hK
  simp only [List.getElem_toArray, List.getElem_cons_succ, List.getElem_cons_zero]
  go_simp
  refine hK.out _ _ (fun h => by cases h) ?_
  clear hK K
  try simp only [Act.put, List.getElem_toArray, List.getElem_cons_succ, List.getElem_cons_zero, List.setIfInBounds_toArray, List.set_cons_zero, List.set_cons_succ]
  refine anyT_done (by as_aux_lemma => kernel_rfl) ?_ _
  refine NoPanic.normal ?_
  clear hS S9 y0 y1 BB7 TB7
  generalize w9.setCell ⟨w4.heap.size, 1, none⟩ _ = w10 at *
  have BBL := Lib.hid (show BB w4 w4.heap.size (.slice ao6 t.ns.length c6) (.slice ao9 m9 c9) 0 (t.ns ++ (u.ns.map (moveN t.ns.length t.sets.length)).take 0) (t.sets ++ u.sets) ys9 w10 from by rw [List.take_zero, List.append_nil]; exact BB10.out)
  obtain ⟨⟨t0, t1, t2⟩, ⟨u0, u1, u2⟩⟩ := TB.out w10 BBL.out.below
  have hg3 := cell_lt t0
  have hg4 := cell_lt u0
  clear BB10
  go_wp2
  go_loopw [63] (fun i wr => ∃ (k : Nat) (nb : Value), i = .int .i64 k ∧ k ≤ u.ns.length ∧ BB w4 w4.heap.size nb (.slice ao9 m9 c9) 0 (t.ns ++ (u.ns.map (moveN t.ns.length t.sets.length)).take k) (t.sets ++ u.sets) ys9 wr) (fun i _ => u.ns.length - (intOf i).toNat)
  case atStart => exact ⟨0, _, rfl, by omega, BBL.out⟩
  case round =>
    clear BBL t0 t1 t2 u0 u1 u2 hg3 hg4
    obtain ⟨k, nb, rfl, hk, hbb⟩ := hrel
    have HB := Lib.hid hbb
    have hbs := hbb.below
    obtain ⟨⟨t0, t1, t2⟩, ⟨u0, u1, u2⟩⟩ := TB.out wr hbs
    have hg3 := cell_lt t0
    have hg4 := cell_lt u0
    have hbz := hbs.size
    by_cases hlk : k < u.ns.length
    · have n1 : (k : Int) < u.ns.length := by omega
      have hna := CUN.out k hlk
      have hbw := B4.out.trans (hbs.mono B4.out.size)
      obtain ⟨q0, q1, q2, q3, q4, q5⟩ := hna
      replace q0 := cell_next q0 hbw
      replace q1 := cell_next q1 hbw
      replace q2 := cell_next q2 hbw
      replace q3 := cell_next q3 hbw
      replace q4 := cell_next q4 hbw
      replace q5 := cell_next q5 hbw
      have hgu := cell_lt q0
      have hgu1 := cell_lt q1
      have TM := Lib.hid (take_more (f := moveN t.ns.length t.sets.length) hlk t.ns)
      have hlen : (t.ns ++ (u.ns.map (moveN t.ns.length t.sets.length)).take k).length = t.ns.length + k := by simp; omega
      have HLE := Lib.hid hlen
      have hnode := OU.out.node k hlk
      generalize hn : nd u.ns k = n at *
      obtain ⟨op, a, b, lo, hi', set⟩ := n
      dsimp only at q0 q1 q2 q3 q4 q5 hgu hgu1
      have hways := nodeB_ways hnode
      clear hbb hn hnode hlen
      generalize hSL : t.ns ++ (u.ns.map (moveN t.ns.length t.sets.length)).take k = nsk at *
      have BN := Lib.hid (fun o => (Below.refl wr.heap.size wr).alloc (Nat.le_refl _) o)
      have NB := Lib.hid (nbox_new wr ⟨op, a, b, lo, hi', set⟩)
      clear hSL
      rcases hways with ⟨h1, h2⟩ | ⟨h1, h2⟩ | ⟨h1 | h1, h2⟩ | ⟨h1, h2⟩
      · focus
          dsimp only at h1 h2
          obtain ⟨rfl, rfl, rfl, rfl, rfl⟩ := h2
          subst h1
          have hmv : moveN t.ns.length t.sets.length ⟨1, 0, 0, 0, 0, 0⟩ = ⟨1, 0, 0, 0, 0, 0⟩ := rfl
          rw [hmv] at TM
          go_upto_region 9 with fail
          have BNN := Lib.hid (BN.out (.cells #[.int .i64 1, .int .i64 0, .int .i64 0, .int .i64 0, .int .i64 0, .int .i64 0] 35))
          generalize wr.alloc (.cells #[.int .i64 1, .int .i64 0, .int .i64 0, .int .i64 0, .int .i64 0, .int .i64 0] 35) = w11 at *
          have HWB := Lib.hid BNN.out
          have z := NB.out
          have m0 := z.at'.c0
          have m1 := z.at'.c1
          have m2 := z.at'.c2
          have m3 := z.at'.c3
          have m4 := z.at'.c4
          have m5 := z.at'.c5
          clear z
          have hbx := (HB.out.next HWB.out)
          obtain ⟨x0, x1, x2⟩ := hbx.cells
          have OWN := Lib.hid hbx.nodes
          have hWs := hbx.below.size
          have hg7 := cell_lt x0
          have hg9 := cell_lt m0
          clear hbx
          go_wp2_with (first
            | (at_builtin; refine wpList_append_own _ rfl _ _ 22 rfl w4.heap.size 35 i0 (.agg #[.int .i64 0, .int .i64 0, .int .i64 0, .int .i64 0, .int .i64 0, .int .i64 0]) 6 48 Tryz.underlying22 hi hz0 hz1 hz2 rfl (by decide) nb nsk.length (flatN nsk) rfl (own_next OWN.out ((Below.refl _ _).alloc (Nat.le_refl _) _)) ⟨w11.heap.size, 0, none⟩ 1 1 (cellsN ⟨1, 0, 0, 0, 0, 0⟩) rfl rfl (World.news_of_block (World.alloc_heap_new w11 _)) (by simp [cellsN, Value.oneCell']) (by unfold maxLen; have := HLE.out; omega) (by have := HLE.out; omega) (by simp; omega) ?_; intro v' wz hown' hgrow _; obtain ⟨aoz, cz, rfl⟩ := own_slice hown'; go_must (obtain ⟨y0, y1, bbz⟩ := HB.out.app (n := ⟨1, 0, 0, 0, 0, 0⟩) HWB.out hown' hgrow; have BZ := Lib.hid bbz; clear hown' hgrow bbz))
            | fail)
          as_aux_lemma =>
            go_roundw
            case rel => exact ⟨k + 1, _, by go_num, by omega, by rw [TM.out]; exact BZ.out⟩
            case measure => simp [intOf]; omega
      · focus
          dsimp only at h1 h2
          obtain ⟨rfl, rfl, rfl, rfl, h2a, h2b⟩ := h2
          subst h1
          have hmv : moveN t.ns.length t.sets.length ⟨2, 0, 0, 0, 0, set⟩ = ⟨2, 0, 0, 0, 0, set + t.sets.length⟩ := by unfold moveN; rw [if_pos rfl]; simp [Int.add_comm]
          rw [hmv] at TM
          go_upto_region 9 with fail
          have BNN := Lib.hid (BN.out (.cells #[.int .i64 2, .int .i64 0, .int .i64 0, .int .i64 0, .int .i64 0, .int .i64 set] 35))
          generalize wr.alloc (.cells #[.int .i64 2, .int .i64 0, .int .i64 0, .int .i64 0, .int .i64 0, .int .i64 set] 35) = w11 at *
          have z := NB.out.at'
          have e0 := z.c0
          have e5 := z.c5
          have he0 := cell_lt e0
          obtain ⟨p0, p1, p2⟩ := (TB.out w11 (hbs.trans (BNN.out.mono hbz))).1
          have hp0 := cell_lt p0
          obtain ⟨f1, NB2⟩ := nbox_set NB.out (set + t.sets.length)
          have NB2' := Lib.hid NB2
          have BN2 := Lib.hid (below_set BNN.out (Nat.le_refl _) (o := 5) (u := .int .i64 (set + t.sets.length)))
          clear z NB2
          go_upto_region 17 with fail
          generalize w11.setCell ⟨wr.heap.size, 5, none⟩ _ = w12 at *
          have HWB := Lib.hid BN2.out
          have z := NB2'.out
          have m0 := z.at'.c0
          have m1 := z.at'.c1
          have m2 := z.at'.c2
          have m3 := z.at'.c3
          have m4 := z.at'.c4
          have m5 := z.at'.c5
          clear z
          have hbx := (HB.out.next HWB.out)
          obtain ⟨x0, x1, x2⟩ := hbx.cells
          have OWN := Lib.hid hbx.nodes
          have hWs := hbx.below.size
          have hg7 := cell_lt x0
          have hg9 := cell_lt m0
          clear hbx
          go_wp2_with (first
            | (at_builtin; refine wpList_append_own _ rfl _ _ 22 rfl w4.heap.size 35 i0 (.agg #[.int .i64 0, .int .i64 0, .int .i64 0, .int .i64 0, .int .i64 0, .int .i64 0]) 6 48 Tryz.underlying22 hi hz0 hz1 hz2 rfl (by decide) nb nsk.length (flatN nsk) rfl (own_next OWN.out ((Below.refl _ _).alloc (Nat.le_refl _) _)) ⟨w12.heap.size, 0, none⟩ 1 1 (cellsN ⟨2, 0, 0, 0, 0, set + t.sets.length⟩) rfl rfl (World.news_of_block (World.alloc_heap_new w12 _)) (by simp [cellsN, Value.oneCell']) (by unfold maxLen; have := HLE.out; omega) (by have := HLE.out; omega) (by simp; omega) ?_; intro v' wz hown' hgrow _; obtain ⟨aoz, cz, rfl⟩ := own_slice hown'; go_must (obtain ⟨y0, y1, bbz⟩ := HB.out.app (n := ⟨2, 0, 0, 0, 0, set + t.sets.length⟩) HWB.out hown' hgrow; have BZ := Lib.hid bbz; clear hown' hgrow bbz))
            | fail)
          as_aux_lemma =>
            go_roundw
            case rel => exact ⟨k + 1, _, by go_num, by omega, by rw [TM.out]; exact BZ.out⟩
            case measure => simp [intOf]; omega
      · focus
          dsimp only at h1 h2
          obtain ⟨h2a, h2b, h2c, h2d, rfl, rfl, rfl⟩ := h2
          subst h1
          have hmv : moveN t.ns.length t.sets.length ⟨3, a, b, 0, 0, 0⟩ = ⟨3, a + t.ns.length, b + t.ns.length, 0, 0, 0⟩ := by unfold moveN; rw [if_neg (by simp), if_pos (by simp)]; simp [Int.add_comm]
          rw [hmv] at TM
          go_upto_region 9 with fail
          have BNN := Lib.hid (BN.out (.cells #[.int .i64 3, .int .i64 a, .int .i64 b, .int .i64 0, .int .i64 0, .int .i64 0] 35))
          generalize wr.alloc (.cells #[.int .i64 3, .int .i64 a, .int .i64 b, .int .i64 0, .int .i64 0, .int .i64 0] 35) = w11 at *
          have z := NB.out.at'
          have e0 := z.c0
          have he0 := cell_lt e0
          go_upto_region 14 with fail
          have BD := Lib.hid (BNN.out.trans ((drewB w11).mono BNN.out.size))
          have ND := Lib.hid (NB.out.below (drewB w11))
          obtain ⟨p0, p1, p2⟩ := (TB.out w11.drew (hbs.trans (BD.out.mono hbz))).1
          have hS : Sn2 wr.heap.size w.heap.size b (.slice (some ga) t.ns.length cap) w11.drew := ⟨ND.out.at'.c2, p0⟩
          obtain ⟨f1, NB2⟩ := nbox_a ND.out (a + t.ns.length)
          obtain ⟨f2, NB3⟩ := nbox_b NB2 (b + t.ns.length)
          have d1 : w11.drew.cell? ⟨wr.heap.size, 1, none⟩ = some (.int .i64 a) := ND.out.at'.c1
          have d2 : (w11.drew.setCell ⟨wr.heap.size, 1, none⟩ (.int .i64 (a + t.ns.length))).cell? ⟨wr.heap.size, 2, none⟩ = some (.int .i64 b) := NB2.at'.c2
          have hS3 : Sn2 wr.heap.size w.heap.size b (.slice (some ga) t.ns.length cap) (w11.drew.setCell ⟨wr.heap.size, 1, none⟩ (.int .i64 (a + t.ns.length))) := ⟨d2, set_cell p0 (Nat.ne_of_lt hg3)⟩
          have NB3' := Lib.hid NB3
          have BN3 := Lib.hid (below_set (below_set BD.out (Nat.le_refl _) (o := 1) (u := .int .i64 (a + t.ns.length))) (Nat.le_refl _) (o := 2) (u := .int .i64 (b + t.ns.length)))
          have hwa : IntKind.i64.wrap (a + (t.ns.length : Int)) = a + t.ns.length := wrap_in (by omega)
          have hwb : IntKind.i64.wrap (b + (t.ns.length : Int)) = b + t.ns.length := wrap_in (by omega)
          clear z e0 he0 p0 p1 p2 NB2 NB3
          refine wp_region_noPanic ?_
          refine begin_anyT (S := Sn2 wr.heap.size w.heap.size b (.slice (some ga) t.ns.length cap)) 15 (by as_aux_lemma => kernel_rfl) ?_
          generalize w11.drew = w12 at *
          refine anyT_free (i := 0) (v := ?_) rfl (by as_aux_lemma => kernel_rfl) (by as_aux_lemma => kernel_rfl) (by as_aux_lemma => kernel_rfl) (by as_aux_lemma => kernel_rfl) (fun _ _ _ h => h) (Or.inl ⟨by rfl, ?_⟩) (fun _ => hS) ?_
          rotate_left
          · (intro W _; go_simp <;> with_reducible rfl)
          simp only [Act.put, List.getElem_toArray, List.getElem_cons_zero, List.setIfInBounds_toArray, List.set_cons_zero, List.set_cons_succ]
          refine anyT_free (i := 2) (v := ?_) rfl (by as_aux_lemma => kernel_rfl) (by as_aux_lemma => kernel_rfl) (by as_aux_lemma => kernel_rfl) (by as_aux_lemma => kernel_rfl) (fun _ _ _ h => h) (Or.inl ⟨by rfl, ?_⟩) (fun _ => hS) ?_
          rotate_left
          · (intro W _; go_simp <;> with_reducible rfl)
          simp only [Act.put, List.getElem_toArray, List.getElem_cons_succ, List.getElem_cons_zero, List.setIfInBounds_toArray, List.set_cons_zero, List.set_cons_succ]
          refine anyT_take (i := 3) (v := ?_) rfl (by as_aux_lemma => kernel_rfl) (by as_aux_lemma => kernel_rfl) (by as_aux_lemma => kernel_rfl) (by as_aux_lemma => kernel_rfl) (fun _ _ _ h => h) (Or.inl ⟨by rfl, ?_⟩) hS ?_
          rotate_left
          · (intro W hSw; obtain ⟨q1, q2⟩ := hSw; go_simp <;> with_reducible rfl)
          simp only [Act.put, List.getElem_toArray, List.getElem_cons_succ, List.getElem_cons_zero, List.setIfInBounds_toArray, List.set_cons_zero, List.set_cons_succ]
          refine anyT_free (i := 4) (v := ?_) rfl (by as_aux_lemma => kernel_rfl) (by as_aux_lemma => kernel_rfl) (by as_aux_lemma => kernel_rfl) (by as_aux_lemma => kernel_rfl) (fun _ _ _ h => h) (Or.inl ⟨by rfl, ?_⟩) (fun _ => hS) ?_
          rotate_left
          · (intro W _; go_simp <;> with_reducible rfl)
          simp only [Act.put, List.getElem_toArray, List.getElem_cons_succ, List.getElem_cons_zero, List.setIfInBounds_toArray, List.set_cons_zero, List.set_cons_succ]
          refine anyT_free (i := 6) (v := ?_) rfl (by as_aux_lemma => kernel_rfl) (by as_aux_lemma => kernel_rfl) (by as_aux_lemma => kernel_rfl) (by as_aux_lemma => kernel_rfl) (fun _ _ _ h => h) (Or.inl ⟨by rfl, ?_⟩) (fun _ => hS) ?_
          rotate_left
          · (intro W _; go_simp <;> with_reducible rfl)
          simp only [Act.put, List.getElem_toArray, List.getElem_cons_succ, List.getElem_cons_zero, List.setIfInBounds_toArray, List.set_cons_zero, List.set_cons_succ]
          refine anyT_take (i := 7) (v := ?_) rfl (by as_aux_lemma => kernel_rfl) (by as_aux_lemma => kernel_rfl) (by as_aux_lemma => kernel_rfl) (by as_aux_lemma => kernel_rfl) (fun _ _ _ h => h) (Or.inl ⟨by rfl, ?_⟩) hS ?_
          rotate_left
          · (intro W hSw; obtain ⟨q1, q2⟩ := hSw; go_simp <;> with_reducible rfl)
          simp only [Act.put, List.getElem_toArray, List.getElem_cons_succ, List.getElem_cons_zero, List.setIfInBounds_toArray, List.set_cons_zero, List.set_cons_succ]
          refine anyT_free (i := 8) (v := ?_) rfl (by as_aux_lemma => kernel_rfl) (by as_aux_lemma => kernel_rfl) (by as_aux_lemma => kernel_rfl) (by as_aux_lemma => kernel_rfl) (fun _ _ _ h => h) (Or.inl ⟨by rfl, ?_⟩) (fun _ => hS) ?_
          rotate_left
          · (intro W _; go_simp <;> with_reducible rfl)
          simp only [Act.put, List.getElem_toArray, List.getElem_cons_succ, List.getElem_cons_zero, List.setIfInBounds_toArray, List.set_cons_zero, List.set_cons_succ]
          refine anyT_take (i := 9) (v := ?_) rfl (by as_aux_lemma => kernel_rfl) (by as_aux_lemma => kernel_rfl) (by as_aux_lemma => kernel_rfl) (by as_aux_lemma => kernel_rfl) (fun _ _ _ h => h) (Or.inl ⟨by rfl, ?_⟩) hS ?_
          rotate_left
          · (intro W hSw; obtain ⟨q1, q2⟩ := hSw; go_simp <;> with_reducible rfl)
          simp only [Act.put, List.getElem_toArray, List.getElem_cons_succ, List.getElem_cons_zero, List.setIfInBounds_toArray, List.set_cons_zero, List.set_cons_succ]
          refine anyT_free (i := 10) (v := ?_) rfl (by as_aux_lemma => kernel_rfl) (by as_aux_lemma => kernel_rfl) (by as_aux_lemma => kernel_rfl) (by as_aux_lemma => kernel_rfl) (fun _ _ _ h => h) (Or.inl ⟨by rfl, ?_⟩) (fun _ => hS) ?_
          rotate_left
          · (intro W _; go_simp <;> with_reducible rfl)
          simp only [Act.put, List.getElem_toArray, List.getElem_cons_succ, List.getElem_cons_zero, List.setIfInBounds_toArray, List.set_cons_zero, List.set_cons_succ]
          refine anyT_free (i := 11) (v := ?_) rfl (by as_aux_lemma => kernel_rfl) (by as_aux_lemma => kernel_rfl) (by as_aux_lemma => kernel_rfl) (by as_aux_lemma => kernel_rfl) (fun _ _ _ h => h) (Or.inl ⟨by rfl, ?_⟩) (fun _ => hS) ?_
          rotate_left
          · (intro W _; go_simp <;> with_reducible rfl)
          simp only [Act.put, List.getElem_toArray, List.getElem_cons_succ, List.getElem_cons_zero, List.setIfInBounds_toArray, List.set_cons_zero, List.set_cons_succ]
          refine anyT_ready (rs := [1]) (by as_aux_lemma => kernel_rfl) (by simp) ?_
          refine AllT.cons rfl ?_ AllT.nil
          intro K hK
          simp only [List.getElem_toArray, List.getElem_cons_succ, List.getElem_cons_zero]
          go_simp
          refine hK.out _ _ (fun _ => hS) ?_
          clear hK K
          try simp only [Act.put, List.getElem_toArray, List.getElem_cons_succ, List.getElem_cons_zero, List.setIfInBounds_toArray, List.set_cons_zero, List.set_cons_succ]
          refine anyT_free (i := 5) (v := ?_) rfl (by as_aux_lemma => kernel_rfl) (by as_aux_lemma => kernel_rfl) (by as_aux_lemma => kernel_rfl) (by as_aux_lemma => kernel_rfl) (fun _ _ _ h => h) (Or.inl ⟨by rfl, ?_⟩) (fun _ => hS) ?_
          rotate_left
          · (intro W _; go_simp <;> with_reducible rfl)
          simp only [Act.put, List.getElem_toArray, List.getElem_cons_succ, List.getElem_cons_zero, List.setIfInBounds_toArray, List.set_cons_zero, List.set_cons_succ]
          refine anyT_free (i := 12) (v := ?_) rfl (by as_aux_lemma => kernel_rfl) (by as_aux_lemma => kernel_rfl) (by as_aux_lemma => kernel_rfl) (by as_aux_lemma => kernel_rfl) (fun _ _ _ h => h) (Or.inl ⟨by rfl, ?_⟩) (fun _ => hS) ?_
          rotate_left
          · (intro W _; go_simp <;> with_reducible rfl)
          simp only [Act.put, List.getElem_toArray, List.getElem_cons_succ, List.getElem_cons_zero, List.setIfInBounds_toArray, List.set_cons_zero, List.set_cons_succ]
          refine anyT_ready (rs := [13]) (by as_aux_lemma => kernel_rfl) (by simp) ?_
          refine AllT.cons rfl ?_ AllT.nil
          intro K hK
          simp only [List.getElem_toArray, List.getElem_cons_succ, List.getElem_cons_zero]
          go_simp
          refine hK.out _ _ (fun _ => hS3) ?_
          clear hK K
          try simp only [Act.put, List.getElem_toArray, List.getElem_cons_succ, List.getElem_cons_zero, List.setIfInBounds_toArray, List.set_cons_zero, List.set_cons_succ]
          refine anyT_free (i := 14) (v := ?_) rfl (by as_aux_lemma => kernel_rfl) (by as_aux_lemma => kernel_rfl) (by as_aux_lemma => kernel_rfl) (by as_aux_lemma => kernel_rfl) (fun _ _ _ h => h) (Or.inl ⟨by rfl, ?_⟩) (fun _ => hS3) ?_
          rotate_left
          · (intro W _; go_simp <;> with_reducible rfl)
          simp only [Act.put, List.getElem_toArray, List.getElem_cons_succ, List.getElem_cons_zero, List.setIfInBounds_toArray, List.set_cons_zero, List.set_cons_succ]
          refine anyT_ready (rs := [15]) (by as_aux_lemma => kernel_rfl) (by simp) ?_
          refine AllT.cons rfl ?_ AllT.nil
          intro K hK
          simp only [List.getElem_toArray, List.getElem_cons_succ, List.getElem_cons_zero]
          go_simp
          refine hK.out _ _ (fun h => by cases h) ?_
          clear hK K
          try simp only [Act.put, List.getElem_toArray, List.getElem_cons_succ, List.getElem_cons_zero, List.setIfInBounds_toArray, List.set_cons_zero, List.set_cons_succ]
          refine anyT_done (by as_aux_lemma => kernel_rfl) ?_ _
          refine NoPanic.normal ?_
          generalize (w12.setCell ⟨wr.heap.size, 1, none⟩ (.int .i64 (a + t.ns.length))).setCell ⟨wr.heap.size, 2, none⟩ (.int .i64 (b + t.ns.length)) = w13 at *
          clear hS hS3 d1 d2 f1 f2
          have HWB := Lib.hid BN3.out
          have z := NB3'.out
          have m0 := z.at'.c0
          have m1 := z.at'.c1
          have m2 := z.at'.c2
          have m3 := z.at'.c3
          have m4 := z.at'.c4
          have m5 := z.at'.c5
          clear z
          have hbx := (HB.out.next HWB.out)
          obtain ⟨x0, x1, x2⟩ := hbx.cells
          have OWN := Lib.hid hbx.nodes
          have hWs := hbx.below.size
          have hg7 := cell_lt x0
          have hg9 := cell_lt m0
          clear hbx
          go_wp2_with (first
            | (at_builtin; refine wpList_append_own _ rfl _ _ 22 rfl w4.heap.size 35 i0 (.agg #[.int .i64 0, .int .i64 0, .int .i64 0, .int .i64 0, .int .i64 0, .int .i64 0]) 6 48 Tryz.underlying22 hi hz0 hz1 hz2 rfl (by decide) nb nsk.length (flatN nsk) rfl (own_next OWN.out ((Below.refl _ _).alloc (Nat.le_refl _) _)) ⟨w13.heap.size, 0, none⟩ 1 1 (cellsN ⟨3, a + t.ns.length, b + t.ns.length, 0, 0, 0⟩) rfl rfl (World.news_of_block (World.alloc_heap_new w13 _)) (by simp [cellsN, Value.oneCell']) (by unfold maxLen; have := HLE.out; omega) (by have := HLE.out; omega) (by simp; omega) ?_; intro v' wz hown' hgrow _; obtain ⟨aoz, cz, rfl⟩ := own_slice hown'; go_must (obtain ⟨y0, y1, bbz⟩ := HB.out.app (n := ⟨3, a + t.ns.length, b + t.ns.length, 0, 0, 0⟩) HWB.out hown' hgrow; have BZ := Lib.hid bbz; clear hown' hgrow bbz))
            | fail)
          as_aux_lemma =>
            go_roundw
            case rel => exact ⟨k + 1, _, by go_num, by omega, by rw [TM.out]; exact BZ.out⟩
            case measure => simp [intOf]; omega
      · focus
          dsimp only at h1 h2
          obtain ⟨h2a, h2b, h2c, h2d, rfl, rfl, rfl⟩ := h2
          subst h1
          have hmv : moveN t.ns.length t.sets.length ⟨4, a, b, 0, 0, 0⟩ = ⟨4, a + t.ns.length, b + t.ns.length, 0, 0, 0⟩ := by unfold moveN; rw [if_neg (by simp), if_pos (by simp)]; simp [Int.add_comm]
          rw [hmv] at TM
          go_upto_region 9 with fail
          have BNN := Lib.hid (BN.out (.cells #[.int .i64 4, .int .i64 a, .int .i64 b, .int .i64 0, .int .i64 0, .int .i64 0] 35))
          generalize wr.alloc (.cells #[.int .i64 4, .int .i64 a, .int .i64 b, .int .i64 0, .int .i64 0, .int .i64 0] 35) = w11 at *
          have z := NB.out.at'
          have e0 := z.c0
          have he0 := cell_lt e0
          go_upto_region 14 with fail
          have BD := Lib.hid (BNN.out.trans ((drewB w11).mono BNN.out.size))
          have ND := Lib.hid (NB.out.below (drewB w11))
          obtain ⟨p0, p1, p2⟩ := (TB.out w11.drew (hbs.trans (BD.out.mono hbz))).1
          have hS : Sn2 wr.heap.size w.heap.size b (.slice (some ga) t.ns.length cap) w11.drew := ⟨ND.out.at'.c2, p0⟩
          obtain ⟨f1, NB2⟩ := nbox_a ND.out (a + t.ns.length)
          obtain ⟨f2, NB3⟩ := nbox_b NB2 (b + t.ns.length)
          have d1 : w11.drew.cell? ⟨wr.heap.size, 1, none⟩ = some (.int .i64 a) := ND.out.at'.c1
          have d2 : (w11.drew.setCell ⟨wr.heap.size, 1, none⟩ (.int .i64 (a + t.ns.length))).cell? ⟨wr.heap.size, 2, none⟩ = some (.int .i64 b) := NB2.at'.c2
          have hS3 : Sn2 wr.heap.size w.heap.size b (.slice (some ga) t.ns.length cap) (w11.drew.setCell ⟨wr.heap.size, 1, none⟩ (.int .i64 (a + t.ns.length))) := ⟨d2, set_cell p0 (Nat.ne_of_lt hg3)⟩
          have NB3' := Lib.hid NB3
          have BN3 := Lib.hid (below_set (below_set BD.out (Nat.le_refl _) (o := 1) (u := .int .i64 (a + t.ns.length))) (Nat.le_refl _) (o := 2) (u := .int .i64 (b + t.ns.length)))
          have hwa : IntKind.i64.wrap (a + (t.ns.length : Int)) = a + t.ns.length := wrap_in (by omega)
          have hwb : IntKind.i64.wrap (b + (t.ns.length : Int)) = b + t.ns.length := wrap_in (by omega)
          clear z e0 he0 p0 p1 p2 NB2 NB3
          refine wp_region_noPanic ?_
          refine begin_anyT (S := Sn2 wr.heap.size w.heap.size b (.slice (some ga) t.ns.length cap)) 15 (by as_aux_lemma => kernel_rfl) ?_
          generalize w11.drew = w12 at *
          refine anyT_free (i := 0) (v := ?_) rfl (by as_aux_lemma => kernel_rfl) (by as_aux_lemma => kernel_rfl) (by as_aux_lemma => kernel_rfl) (by as_aux_lemma => kernel_rfl) (fun _ _ _ h => h) (Or.inl ⟨by rfl, ?_⟩) (fun _ => hS) ?_
          rotate_left
          · (intro W _; go_simp <;> with_reducible rfl)
          simp only [Act.put, List.getElem_toArray, List.getElem_cons_zero, List.setIfInBounds_toArray, List.set_cons_zero, List.set_cons_succ]
          refine anyT_free (i := 2) (v := ?_) rfl (by as_aux_lemma => kernel_rfl) (by as_aux_lemma => kernel_rfl) (by as_aux_lemma => kernel_rfl) (by as_aux_lemma => kernel_rfl) (fun _ _ _ h => h) (Or.inl ⟨by rfl, ?_⟩) (fun _ => hS) ?_
          rotate_left
          · (intro W _; go_simp <;> with_reducible rfl)
          simp only [Act.put, List.getElem_toArray, List.getElem_cons_succ, List.getElem_cons_zero, List.setIfInBounds_toArray, List.set_cons_zero, List.set_cons_succ]
          refine anyT_take (i := 3) (v := ?_) rfl (by as_aux_lemma => kernel_rfl) (by as_aux_lemma => kernel_rfl) (by as_aux_lemma => kernel_rfl) (by as_aux_lemma => kernel_rfl) (fun _ _ _ h => h) (Or.inl ⟨by rfl, ?_⟩) hS ?_
          rotate_left
          · (intro W hSw; obtain ⟨q1, q2⟩ := hSw; go_simp <;> with_reducible rfl)
          simp only [Act.put, List.getElem_toArray, List.getElem_cons_succ, List.getElem_cons_zero, List.setIfInBounds_toArray, List.set_cons_zero, List.set_cons_succ]
          refine anyT_free (i := 4) (v := ?_) rfl (by as_aux_lemma => kernel_rfl) (by as_aux_lemma => kernel_rfl) (by as_aux_lemma => kernel_rfl) (by as_aux_lemma => kernel_rfl) (fun _ _ _ h => h) (Or.inl ⟨by rfl, ?_⟩) (fun _ => hS) ?_
          rotate_left
          · (intro W _; go_simp <;> with_reducible rfl)
          simp only [Act.put, List.getElem_toArray, List.getElem_cons_succ, List.getElem_cons_zero, List.setIfInBounds_toArray, List.set_cons_zero, List.set_cons_succ]
          refine anyT_free (i := 6) (v := ?_) rfl (by as_aux_lemma => kernel_rfl) (by as_aux_lemma => kernel_rfl) (by as_aux_lemma => kernel_rfl) (by as_aux_lemma => kernel_rfl) (fun _ _ _ h => h) (Or.inl ⟨by rfl, ?_⟩) (fun _ => hS) ?_
          rotate_left
          · (intro W _; go_simp <;> with_reducible rfl)
          simp only [Act.put, List.getElem_toArray, List.getElem_cons_succ, List.getElem_cons_zero, List.setIfInBounds_toArray, List.set_cons_zero, List.set_cons_succ]
          refine anyT_take (i := 7) (v := ?_) rfl (by as_aux_lemma => kernel_rfl) (by as_aux_lemma => kernel_rfl) (by as_aux_lemma => kernel_rfl) (by as_aux_lemma => kernel_rfl) (fun _ _ _ h => h) (Or.inl ⟨by rfl, ?_⟩) hS ?_
          rotate_left
          · (intro W hSw; obtain ⟨q1, q2⟩ := hSw; go_simp <;> with_reducible rfl)
          simp only [Act.put, List.getElem_toArray, List.getElem_cons_succ, List.getElem_cons_zero, List.setIfInBounds_toArray, List.set_cons_zero, List.set_cons_succ]
          refine anyT_free (i := 8) (v := ?_) rfl (by as_aux_lemma => kernel_rfl) (by as_aux_lemma => kernel_rfl) (by as_aux_lemma => kernel_rfl) (by as_aux_lemma => kernel_rfl) (fun _ _ _ h => h) (Or.inl ⟨by rfl, ?_⟩) (fun _ => hS) ?_
          rotate_left
          · (intro W _; go_simp <;> with_reducible rfl)
          simp only [Act.put, List.getElem_toArray, List.getElem_cons_succ, List.getElem_cons_zero, List.setIfInBounds_toArray, List.set_cons_zero, List.set_cons_succ]
          refine anyT_take (i := 9) (v := ?_) rfl (by as_aux_lemma => kernel_rfl) (by as_aux_lemma => kernel_rfl) (by as_aux_lemma => kernel_rfl) (by as_aux_lemma => kernel_rfl) (fun _ _ _ h => h) (Or.inl ⟨by rfl, ?_⟩) hS ?_
          rotate_left
          · (intro W hSw; obtain ⟨q1, q2⟩ := hSw; go_simp <;> with_reducible rfl)
          simp only [Act.put, List.getElem_toArray, List.getElem_cons_succ, List.getElem_cons_zero, List.setIfInBounds_toArray, List.set_cons_zero, List.set_cons_succ]
          refine anyT_free (i := 10) (v := ?_) rfl (by as_aux_lemma => kernel_rfl) (by as_aux_lemma => kernel_rfl) (by as_aux_lemma => kernel_rfl) (by as_aux_lemma => kernel_rfl) (fun _ _ _ h => h) (Or.inl ⟨by rfl, ?_⟩) (fun _ => hS) ?_
          rotate_left
          · (intro W _; go_simp <;> with_reducible rfl)
          simp only [Act.put, List.getElem_toArray, List.getElem_cons_succ, List.getElem_cons_zero, List.setIfInBounds_toArray, List.set_cons_zero, List.set_cons_succ]
          refine anyT_free (i := 11) (v := ?_) rfl (by as_aux_lemma => kernel_rfl) (by as_aux_lemma => kernel_rfl) (by as_aux_lemma => kernel_rfl) (by as_aux_lemma => kernel_rfl) (fun _ _ _ h => h) (Or.inl ⟨by rfl, ?_⟩) (fun _ => hS) ?_
          rotate_left
          · (intro W _; go_simp <;> with_reducible rfl)
          simp only [Act.put, List.getElem_toArray, List.getElem_cons_succ, List.getElem_cons_zero, List.setIfInBounds_toArray, List.set_cons_zero, List.set_cons_succ]
          refine anyT_ready (rs := [1]) (by as_aux_lemma => kernel_rfl) (by simp) ?_
          refine AllT.cons rfl ?_ AllT.nil
          intro K hK
          simp only [List.getElem_toArray, List.getElem_cons_succ, List.getElem_cons_zero]
          go_simp
          refine hK.out _ _ (fun _ => hS) ?_
          clear hK K
          try simp only [Act.put, List.getElem_toArray, List.getElem_cons_succ, List.getElem_cons_zero, List.setIfInBounds_toArray, List.set_cons_zero, List.set_cons_succ]
          refine anyT_free (i := 5) (v := ?_) rfl (by as_aux_lemma => kernel_rfl) (by as_aux_lemma => kernel_rfl) (by as_aux_lemma => kernel_rfl) (by as_aux_lemma => kernel_rfl) (fun _ _ _ h => h) (Or.inl ⟨by rfl, ?_⟩) (fun _ => hS) ?_
          rotate_left
          · (intro W _; go_simp <;> with_reducible rfl)
          simp only [Act.put, List.getElem_toArray, List.getElem_cons_succ, List.getElem_cons_zero, List.setIfInBounds_toArray, List.set_cons_zero, List.set_cons_succ]
          refine anyT_free (i := 12) (v := ?_) rfl (by as_aux_lemma => kernel_rfl) (by as_aux_lemma => kernel_rfl) (by as_aux_lemma => kernel_rfl) (by as_aux_lemma => kernel_rfl) (fun _ _ _ h => h) (Or.inl ⟨by rfl, ?_⟩) (fun _ => hS) ?_
          rotate_left
          · (intro W _; go_simp <;> with_reducible rfl)
          simp only [Act.put, List.getElem_toArray, List.getElem_cons_succ, List.getElem_cons_zero, List.setIfInBounds_toArray, List.set_cons_zero, List.set_cons_succ]
          refine anyT_ready (rs := [13]) (by as_aux_lemma => kernel_rfl) (by simp) ?_
          refine AllT.cons rfl ?_ AllT.nil
          intro K hK
          simp only [List.getElem_toArray, List.getElem_cons_succ, List.getElem_cons_zero]
          go_simp
          refine hK.out _ _ (fun _ => hS3) ?_
          clear hK K
          try simp only [Act.put, List.getElem_toArray, List.getElem_cons_succ, List.getElem_cons_zero, List.setIfInBounds_toArray, List.set_cons_zero, List.set_cons_succ]
          refine anyT_free (i := 14) (v := ?_) rfl (by as_aux_lemma => kernel_rfl) (by as_aux_lemma => kernel_rfl) (by as_aux_lemma => kernel_rfl) (by as_aux_lemma => kernel_rfl) (fun _ _ _ h => h) (Or.inl ⟨by rfl, ?_⟩) (fun _ => hS3) ?_
          rotate_left
          · (intro W _; go_simp <;> with_reducible rfl)
          simp only [Act.put, List.getElem_toArray, List.getElem_cons_succ, List.getElem_cons_zero, List.setIfInBounds_toArray, List.set_cons_zero, List.set_cons_succ]
          refine anyT_ready (rs := [15]) (by as_aux_lemma => kernel_rfl) (by simp) ?_
          refine AllT.cons rfl ?_ AllT.nil
          intro K hK
          simp only [List.getElem_toArray, List.getElem_cons_succ, List.getElem_cons_zero]
          go_simp
          refine hK.out _ _ (fun h => by cases h) ?_
          clear hK K
          try simp only [Act.put, List.getElem_toArray, List.getElem_cons_succ, List.getElem_cons_zero, List.setIfInBounds_toArray, List.set_cons_zero, List.set_cons_succ]
          refine anyT_done (by as_aux_lemma => kernel_rfl) ?_ _
          refine NoPanic.normal ?_
          generalize (w12.setCell ⟨wr.heap.size, 1, none⟩ (.int .i64 (a + t.ns.length))).setCell ⟨wr.heap.size, 2, none⟩ (.int .i64 (b + t.ns.length)) = w13 at *
          clear hS hS3 d1 d2 f1 f2
          have HWB := Lib.hid BN3.out
          have z := NB3'.out
          have m0 := z.at'.c0
          have m1 := z.at'.c1
          have m2 := z.at'.c2
          have m3 := z.at'.c3
          have m4 := z.at'.c4
          have m5 := z.at'.c5
          clear z
          have hbx := (HB.out.next HWB.out)
          obtain ⟨x0, x1, x2⟩ := hbx.cells
          have OWN := Lib.hid hbx.nodes
          have hWs := hbx.below.size
          have hg7 := cell_lt x0
          have hg9 := cell_lt m0
          clear hbx
          go_wp2_with (first
            | (at_builtin; refine wpList_append_own _ rfl _ _ 22 rfl w4.heap.size 35 i0 (.agg #[.int .i64 0, .int .i64 0, .int .i64 0, .int .i64 0, .int .i64 0, .int .i64 0]) 6 48 Tryz.underlying22 hi hz0 hz1 hz2 rfl (by decide) nb nsk.length (flatN nsk) rfl (own_next OWN.out ((Below.refl _ _).alloc (Nat.le_refl _) _)) ⟨w13.heap.size, 0, none⟩ 1 1 (cellsN ⟨4, a + t.ns.length, b + t.ns.length, 0, 0, 0⟩) rfl rfl (World.news_of_block (World.alloc_heap_new w13 _)) (by simp [cellsN, Value.oneCell']) (by unfold maxLen; have := HLE.out; omega) (by have := HLE.out; omega) (by simp; omega) ?_; intro v' wz hown' hgrow _; obtain ⟨aoz, cz, rfl⟩ := own_slice hown'; go_must (obtain ⟨y0, y1, bbz⟩ := HB.out.app (n := ⟨4, a + t.ns.length, b + t.ns.length, 0, 0, 0⟩) HWB.out hown' hgrow; have BZ := Lib.hid bbz; clear hown' hgrow bbz))
            | fail)
          as_aux_lemma =>
            go_roundw
            case rel => exact ⟨k + 1, _, by go_num, by omega, by rw [TM.out]; exact BZ.out⟩
            case measure => simp [intOf]; omega
      · focus
          dsimp only at h1 h2
          obtain ⟨h2a, h2b, rfl, rfl⟩ := h2
          subst h1
          have hmv : moveN t.ns.length t.sets.length ⟨5, a, 0, lo, hi', 0⟩ = ⟨5, a + t.ns.length, 0, lo, hi', 0⟩ := by unfold moveN; rw [if_neg (by simp), if_neg (by simp), if_pos rfl]; simp [Int.add_comm]
          rw [hmv] at TM
          go_upto_region 9 with fail
          have BNN := Lib.hid (BN.out (.cells #[.int .i64 5, .int .i64 a, .int .i64 0, .int .i64 lo, .int .i64 hi', .int .i64 0] 35))
          generalize wr.alloc (.cells #[.int .i64 5, .int .i64 a, .int .i64 0, .int .i64 lo, .int .i64 hi', .int .i64 0] 35) = w11 at *
          have z := NB.out.at'
          have e0 := z.c0
          have e1 := z.c1
          have he0 := cell_lt e0
          obtain ⟨p0, p1, p2⟩ := (TB.out w11 (hbs.trans (BNN.out.mono hbz))).1
          have hp0 := cell_lt p0
          obtain ⟨f1, NB2⟩ := nbox_a NB.out (a + t.ns.length)
          have NB2' := Lib.hid NB2
          have BN2 := Lib.hid (below_set BNN.out (Nat.le_refl _) (o := 1) (u := .int .i64 (a + t.ns.length)))
          clear z NB2
          go_upto_region 17 with fail
          generalize w11.setCell ⟨wr.heap.size, 1, none⟩ _ = w12 at *
          have HWB := Lib.hid BN2.out
          have z := NB2'.out
          have m0 := z.at'.c0
          have m1 := z.at'.c1
          have m2 := z.at'.c2
          have m3 := z.at'.c3
          have m4 := z.at'.c4
          have m5 := z.at'.c5
          clear z
          have hbx := (HB.out.next HWB.out)
          obtain ⟨x0, x1, x2⟩ := hbx.cells
          have OWN := Lib.hid hbx.nodes
          have hWs := hbx.below.size
          have hg7 := cell_lt x0
          have hg9 := cell_lt m0
          clear hbx
          go_wp2_with (first
            | (at_builtin; refine wpList_append_own _ rfl _ _ 22 rfl w4.heap.size 35 i0 (.agg #[.int .i64 0, .int .i64 0, .int .i64 0, .int .i64 0, .int .i64 0, .int .i64 0]) 6 48 Tryz.underlying22 hi hz0 hz1 hz2 rfl (by decide) nb nsk.length (flatN nsk) rfl (own_next OWN.out ((Below.refl _ _).alloc (Nat.le_refl _) _)) ⟨w12.heap.size, 0, none⟩ 1 1 (cellsN ⟨5, a + t.ns.length, 0, lo, hi', 0⟩) rfl rfl (World.news_of_block (World.alloc_heap_new w12 _)) (by simp [cellsN, Value.oneCell']) (by unfold maxLen; have := HLE.out; omega) (by have := HLE.out; omega) (by simp; omega) ?_; intro v' wz hown' hgrow _; obtain ⟨aoz, cz, rfl⟩ := own_slice hown'; go_must (obtain ⟨y0, y1, bbz⟩ := HB.out.app (n := ⟨5, a + t.ns.length, 0, lo, hi', 0⟩) HWB.out hown' hgrow; have BZ := Lib.hid bbz; clear hown' hgrow bbz))
            | fail)
          as_aux_lemma =>
            go_roundw
            case rel => exact ⟨k + 1, _, by go_num, by omega, by rw [TM.out]; exact BZ.out⟩
            case measure => simp [intOf]; omega
    · obtain rfl : k = u.ns.length := by omega
      have hG : t.ns ++ (u.ns.map (moveN t.ns.length t.sets.length)).take u.ns.length = (graft t.ns t.sets u).ns := by unfold graft; rw [List.take_of_length_le (by simp)]
      have hGl : (graft t.ns t.sets u).ns.length = t.ns.length + u.ns.length := by simp [graft]
      rw [hG] at HB
      have HGL := Lib.hid hGl
      obtain ⟨gG, cG, rfl⟩ := own_some HB.out.nodes (by omega)
      obtain ⟨x, hx⟩ := Int.eq_ofNat_of_zero_le rt0
      obtain ⟨y, hy⟩ := Int.eq_ofNat_of_zero_le ru0
      rw [hx] at t2
      rw [hy] at u2
      have HX0 := Lib.hid hx
      have HY0 := Lib.hid hy
      have hx1 : x < t.ns.length := by omega
      have hy1 : y < u.ns.length := by omega
      have HBN := Lib.hid hbs
      clear hbb hG hGl
      generalize hgr : (graft t.ns t.sets u).ns = G at *
      have HGR := Lib.hid hgr
      clear hgr
      go_wp2
      go_quiet (fail)
      go_upto_region 20 with fail
      have BBQ := Lib.hid (HB.out.next (Rg.below_drewN wr nq))
      have HBQ := Lib.hid (Rg.below_drewN wr nq)
      generalize wr.drewN nq = wq at *
      have hbqz := HBQ.out.size
      go_cut [12, 13] (fun s12 s13 wx => ∃ p q, s12 = .pointer (some ⟨p, 0, none⟩) ∧ s13 = .pointer (some ⟨q, 0, none⟩) ∧ p ≠ q ∧ wr.heap.size ≤ p ∧ wr.heap.size ≤ q ∧ wx.heap[p]? = some (.cells #[.slice (some ⟨gG, 0, none⟩) G.length cG, .slice ao9 m9 c9, .int .i64 0] 25 (0, 0)) ∧ wx.heap[q]? = some (.cells #[.slice (some ⟨gG, 0, none⟩) G.length cG, .slice ao9 m9 c9, .int .i64 0] 25 (0, 0)) ∧ Below wr.heap.size wr wx)
      case first =>
        as_aux_lemma =>
          have BD := Lib.hid (BBQ.out.next (drewB wq))
          obtain ⟨x0, x1, x2⟩ := BD.out.cells
          have hS : Sb3 w4.heap.size (.slice (some ⟨gG, 0, none⟩) G.length cG) (.slice ao9 m9 c9) wq.drew := ⟨x0, x1, x2⟩
          have HBD := Lib.hid (HBQ.out.trans ((drewB wq).mono HBQ.out.size))
          have hg7 : w4.heap.size < wq.drew.heap.size := cell_lt x0
          refine wp_region_noPanic ?_
          refine begin_anyT (S := Sb3 w4.heap.size (.slice (some ⟨gG, 0, none⟩) G.length cG) (.slice ao9 m9 c9)) 5 (by as_aux_lemma => kernel_rfl) ?_
          generalize wq.drew = w20 at *
          refine anyT_take (i := 0) (v := ?_) rfl (by as_aux_lemma => kernel_rfl) (by as_aux_lemma => kernel_rfl) (by as_aux_lemma => kernel_rfl) (by as_aux_lemma => kernel_rfl) (fun _ _ _ h => h) (Or.inl ⟨by rfl, ?_⟩) hS ?_
          rotate_left
          · (intro W hSw; obtain ⟨q1, q2, q3⟩ := hSw; go_simp <;> with_reducible rfl)
          simp only [Act.put, List.getElem_toArray, List.getElem_cons_zero, List.setIfInBounds_toArray, List.set_cons_zero, List.set_cons_succ]
          refine anyT_take (i := 1) (v := ?_) rfl (by as_aux_lemma => kernel_rfl) (by as_aux_lemma => kernel_rfl) (by as_aux_lemma => kernel_rfl) (by as_aux_lemma => kernel_rfl) (fun _ _ _ h => h) (Or.inl ⟨by rfl, ?_⟩) hS ?_
          rotate_left
          · (intro W hSw; obtain ⟨q1, q2, q3⟩ := hSw; go_simp <;> with_reducible rfl)
          simp only [Act.put, List.getElem_toArray, List.getElem_cons_succ, List.getElem_cons_zero, List.setIfInBounds_toArray, List.set_cons_zero, List.set_cons_succ]
          refine anyT_ready (rs := [2, 3]) (by as_aux_lemma => kernel_rfl) (by simp) ?_
          refine AllT.cons rfl ?_ (AllT.cons rfl ?_ AllT.nil)
          · intro K hK
            simp only [List.getElem_toArray, List.getElem_cons_succ, List.getElem_cons_zero]
            go_simp
            have ba := (Below.refl w20.heap.size w20).alloc (Nat.le_refl _) (.cells #[.slice none 0 0, .slice none 0 0, .int .i64 0] 25)
            have za : (w20.alloc (.cells #[.slice none 0 0, .slice none 0 0, .int .i64 0] 25)).heap[w20.heap.size]? = some (.cells #[.slice none 0 0, .slice none 0 0, .int .i64 0] 25 (0, 0)) := World.alloc_heap_new w20 _
            have hSa : Sb3 w4.heap.size (.slice (some ⟨gG, 0, none⟩) G.length cG) (.slice ao9 m9 c9) (w20.alloc (.cells #[.slice none 0 0, .slice none 0 0, .int .i64 0] 25)) := ⟨cell_next hS.1 ba, cell_next hS.2.1 ba, cell_next hS.2.2 ba⟩
            have BA := Lib.hid (HBD.out.trans (ba.mono HBD.out.size))
            refine hK.out _ _ (fun _ => hSa) ?_
            clear hK K
            try simp only [Act.put, List.getElem_toArray, List.getElem_cons_succ, List.getElem_cons_zero, List.setIfInBounds_toArray, List.set_cons_zero, List.set_cons_succ]
            generalize hwa : w20.alloc (.cells #[.slice none 0 0, .slice none 0 0, .int .i64 0] 25) = wa at *
            have hlt := (Array.getElem?_eq_some_iff.1 za).1
            have HW := Lib.hid (show wr.heap.size ≤ w20.heap.size from HBD.out.size)
            clear hwa ba hS
            generalize w20.heap.size = N at *
            refine anyT_ready (rs := [3]) (by as_aux_lemma => kernel_rfl) (by simp) ?_
            refine AllT.cons rfl ?_ AllT.nil
            intro K hK
            simp only [List.getElem_toArray, List.getElem_cons_succ, List.getElem_cons_zero]
            go_simp
            have bb := (Below.refl wa.heap.size wa).alloc (Nat.le_refl _) (.cells #[.slice none 0 0, .slice none 0 0, .int .i64 0] 25)
            have zb : (wa.alloc (.cells #[.slice none 0 0, .slice none 0 0, .int .i64 0] 25)).heap[wa.heap.size]? = some (.cells #[.slice none 0 0, .slice none 0 0, .int .i64 0] 25 (0, 0)) := World.alloc_heap_new wa _
            have zc := (bb.block N hlt).trans za
            have hSb : Sb3 w4.heap.size (.slice (some ⟨gG, 0, none⟩) G.length cG) (.slice ao9 m9 c9) (wa.alloc (.cells #[.slice none 0 0, .slice none 0 0, .int .i64 0] 25)) := ⟨cell_next hSa.1 bb, cell_next hSa.2.1 bb, cell_next hSa.2.2 bb⟩
            have BB' := Lib.hid (BA.out.trans (bb.mono BA.out.size))
            refine hK.out _ _ (fun _ => hSb) ?_
            clear hK K
            try simp only [Act.put, List.getElem_toArray, List.getElem_cons_succ, List.getElem_cons_zero, List.setIfInBounds_toArray, List.set_cons_zero, List.set_cons_succ]
            generalize wa.alloc (.cells #[.slice none 0 0, .slice none 0 0, .int .i64 0] 25) = wb at *
            have HM' := Lib.hid (show wr.heap.size ≤ wa.heap.size from BA.out.size)
            generalize wa.heap.size = N' at *
            clear bb za hSa
            have hNN : N ≠ N' := by omega
            obtain ⟨f1, f2, f3, f4, f5, f6, hc1, hc2, hc3⟩ := store_into BB'.out HW.out zc (.slice (some ⟨gG, 0, none⟩) G.length cG) (.slice ao9 m9 c9)
            have hc4 := (hc2 N' (Ne.symm hNN)).trans zb
            have HC5 := Lib.hid (show Sb3 w4.heap.size (.slice (some ⟨gG, 0, none⟩) G.length cG) (.slice ao9 m9 c9) (storeT wb N (.slice (some ⟨gG, 0, none⟩) G.length cG) (.slice ao9 m9 c9)) from ⟨(cell_heap (hc2 w4.heap.size (by omega))).trans hSb.1, (cell_heap (hc2 w4.heap.size (by omega))).trans hSb.2.1, (cell_heap (hc2 w4.heap.size (by omega))).trans hSb.2.2⟩)
            clear hc2
            refine anyT_ready (rs := [4]) (by as_aux_lemma => kernel_rfl) (by simp) ?_
            refine AllT.cons rfl ?_ AllT.nil
            intro K hK
            simp only [List.getElem_toArray, List.getElem_cons_succ, List.getElem_cons_zero]
            go_simp
            refine hK.out _ _ (fun _ => HC5.out) ?_
            clear hK K
            try simp only [Act.put, List.getElem_toArray, List.getElem_cons_succ, List.getElem_cons_zero, List.setIfInBounds_toArray, List.set_cons_zero, List.set_cons_succ]
            clear f1 f2 f3 f4 f5 f6 HC5
            unfold storeT at hc1 hc3 hc4
            generalize ((wb.setCell ⟨N, 0, none⟩ _).setCell ⟨N, 1, none⟩ _).setCell ⟨N, 2, none⟩ _ = wc at *
            obtain ⟨f1, f2, f3, f4, f5, f6, hd1, hd2, hd3⟩ := store_into hc3 HM'.out hc4 (.slice (some ⟨gG, 0, none⟩) G.length cG) (.slice ao9 m9 c9)
            have hd4 := (hd2 N hNN).trans hc1
            clear hd2 hc1 hc3 hc4
            refine anyT_ready (rs := [5]) (by as_aux_lemma => kernel_rfl) (by simp) ?_
            refine AllT.cons rfl ?_ AllT.nil
            intro K hK
            simp only [List.getElem_toArray, List.getElem_cons_succ, List.getElem_cons_zero]
            go_simp
            refine hK.out _ _ (fun h => by cases h) ?_
            clear hK K
            try simp only [Act.put, List.getElem_toArray, List.getElem_cons_succ, List.getElem_cons_zero, List.setIfInBounds_toArray, List.set_cons_zero, List.set_cons_succ]
            refine anyT_done (by as_aux_lemma => kernel_rfl) ?_ _
            refine NoPanic.normal ?_
            clear f1 f2 f3 f4 f5 f6
            unfold storeT at hd1 hd3 hd4
            generalize ((wc.setCell ⟨N', 0, none⟩ _).setCell ⟨N', 1, none⟩ _).setCell ⟨N', 2, none⟩ _ = wd at *
            go_wp2_with fail
            go_meet
            case rel => exact ⟨N, N', rfl, rfl, hNN, HW.out, HM'.out, hd4, hd1, hd3⟩
          · intro K hK
            simp only [List.getElem_toArray, List.getElem_cons_succ, List.getElem_cons_zero]
            go_simp
            have ba := (Below.refl w20.heap.size w20).alloc (Nat.le_refl _) (.cells #[.slice none 0 0, .slice none 0 0, .int .i64 0] 25)
            have za : (w20.alloc (.cells #[.slice none 0 0, .slice none 0 0, .int .i64 0] 25)).heap[w20.heap.size]? = some (.cells #[.slice none 0 0, .slice none 0 0, .int .i64 0] 25 (0, 0)) := World.alloc_heap_new w20 _
            have hSa : Sb3 w4.heap.size (.slice (some ⟨gG, 0, none⟩) G.length cG) (.slice ao9 m9 c9) (w20.alloc (.cells #[.slice none 0 0, .slice none 0 0, .int .i64 0] 25)) := ⟨cell_next hS.1 ba, cell_next hS.2.1 ba, cell_next hS.2.2 ba⟩
            have BA := Lib.hid (HBD.out.trans (ba.mono HBD.out.size))
            refine hK.out _ _ (fun _ => hSa) ?_
            clear hK K
            try simp only [Act.put, List.getElem_toArray, List.getElem_cons_succ, List.getElem_cons_zero, List.setIfInBounds_toArray, List.set_cons_zero, List.set_cons_succ]
            generalize hwa : w20.alloc (.cells #[.slice none 0 0, .slice none 0 0, .int .i64 0] 25) = wa at *
            have hlt := (Array.getElem?_eq_some_iff.1 za).1
            have HW := Lib.hid (show wr.heap.size ≤ w20.heap.size from HBD.out.size)
            clear hwa ba hS
            generalize w20.heap.size = N at *
            refine anyT_ready (rs := [2]) (by as_aux_lemma => kernel_rfl) (by simp) ?_
            refine AllT.cons rfl ?_ AllT.nil
            intro K hK
            simp only [List.getElem_toArray, List.getElem_cons_succ, List.getElem_cons_zero]
            go_simp
            have bb := (Below.refl wa.heap.size wa).alloc (Nat.le_refl _) (.cells #[.slice none 0 0, .slice none 0 0, .int .i64 0] 25)
            have zb : (wa.alloc (.cells #[.slice none 0 0, .slice none 0 0, .int .i64 0] 25)).heap[wa.heap.size]? = some (.cells #[.slice none 0 0, .slice none 0 0, .int .i64 0] 25 (0, 0)) := World.alloc_heap_new wa _
            have zc := (bb.block N hlt).trans za
            have hSb : Sb3 w4.heap.size (.slice (some ⟨gG, 0, none⟩) G.length cG) (.slice ao9 m9 c9) (wa.alloc (.cells #[.slice none 0 0, .slice none 0 0, .int .i64 0] 25)) := ⟨cell_next hSa.1 bb, cell_next hSa.2.1 bb, cell_next hSa.2.2 bb⟩
            have BB' := Lib.hid (BA.out.trans (bb.mono BA.out.size))
            refine hK.out _ _ (fun _ => hSb) ?_
            clear hK K
            try simp only [Act.put, List.getElem_toArray, List.getElem_cons_succ, List.getElem_cons_zero, List.setIfInBounds_toArray, List.set_cons_zero, List.set_cons_succ]
            generalize wa.alloc (.cells #[.slice none 0 0, .slice none 0 0, .int .i64 0] 25) = wb at *
            have HM' := Lib.hid (show wr.heap.size ≤ wa.heap.size from BA.out.size)
            generalize wa.heap.size = N' at *
            clear bb za hSa
            have hNN : N' ≠ N := by omega
            obtain ⟨f1, f2, f3, f4, f5, f6, hc1, hc2, hc3⟩ := store_into BB'.out HM'.out zb (.slice (some ⟨gG, 0, none⟩) G.length cG) (.slice ao9 m9 c9)
            have hc4 := (hc2 N (Ne.symm hNN)).trans zc
            have HC5 := Lib.hid (show Sb3 w4.heap.size (.slice (some ⟨gG, 0, none⟩) G.length cG) (.slice ao9 m9 c9) (storeT wb N' (.slice (some ⟨gG, 0, none⟩) G.length cG) (.slice ao9 m9 c9)) from ⟨(cell_heap (hc2 w4.heap.size (by omega))).trans hSb.1, (cell_heap (hc2 w4.heap.size (by omega))).trans hSb.2.1, (cell_heap (hc2 w4.heap.size (by omega))).trans hSb.2.2⟩)
            clear hc2
            refine anyT_ready (rs := [4]) (by as_aux_lemma => kernel_rfl) (by simp) ?_
            refine AllT.cons rfl ?_ AllT.nil
            intro K hK
            simp only [List.getElem_toArray, List.getElem_cons_succ, List.getElem_cons_zero]
            go_simp
            refine hK.out _ _ (fun _ => HC5.out) ?_
            clear hK K
            try simp only [Act.put, List.getElem_toArray, List.getElem_cons_succ, List.getElem_cons_zero, List.setIfInBounds_toArray, List.set_cons_zero, List.set_cons_succ]
            clear f1 f2 f3 f4 f5 f6 HC5
            unfold storeT at hc1 hc3 hc4
            generalize ((wb.setCell ⟨N', 0, none⟩ _).setCell ⟨N', 1, none⟩ _).setCell ⟨N', 2, none⟩ _ = wc at *
            obtain ⟨f1, f2, f3, f4, f5, f6, hd1, hd2, hd3⟩ := store_into hc3 HW.out hc4 (.slice (some ⟨gG, 0, none⟩) G.length cG) (.slice ao9 m9 c9)
            have hd4 := (hd2 N' hNN).trans hc1
            clear hd2 hc1 hc3 hc4
            refine anyT_ready (rs := [5]) (by as_aux_lemma => kernel_rfl) (by simp) ?_
            refine AllT.cons rfl ?_ AllT.nil
            intro K hK
            simp only [List.getElem_toArray, List.getElem_cons_succ, List.getElem_cons_zero]
            go_simp
            refine hK.out _ _ (fun h => by cases h) ?_
            clear hK K
            try simp only [Act.put, List.getElem_toArray, List.getElem_cons_succ, List.getElem_cons_zero, List.setIfInBounds_toArray, List.set_cons_zero, List.set_cons_succ]
            refine anyT_done (by as_aux_lemma => kernel_rfl) ?_ _
            refine NoPanic.normal ?_
            clear f1 f2 f3 f4 f5 f6
            unfold storeT at hd1 hd3 hd4
            generalize ((wc.setCell ⟨N, 0, none⟩ _).setCell ⟨N, 1, none⟩ _).setCell ⟨N, 2, none⟩ _ = wd at *
            go_wp2_with fail
            go_meet
            case rel => exact ⟨N', N, rfl, rfl, hNN, HM'.out, HW.out, hd4, hd1, hd3⟩
      case rest =>
        focus
          obtain ⟨p, q, rfl, rfl, hpq, hp, hq, xp, xq, hbc⟩ := hcut
          have SRC := Lib.hid (fun (X : World) (hX : Below wr.heap.size wr X) => own_cells (HB.out.next hX).nodes)
          have ALL := Lib.hid (fun (X : World) (hX : Below wr.heap.size wr X) => (HB.out.next hX).cells)
          have HP := Lib.hid hp
          have HQ := Lib.hid hq
          have HPQ := Lib.hid hpq
          obtain ⟨x0, x1, x2⟩ := ALL.out wc hbc
          have BW0 := Lib.hid hbc
          have XP := Lib.hid xp
          have XQ := Lib.hid xq
          have hg7 := cell_lt x0
          clear BBQ HBQ hbc xp xq hbqz t0 t1 t2 u0 u1 u2 hg3 hg4
          have hlp := (Array.getElem?_eq_some_iff.1 XP.out).1
          go_upto_region 22 with (first
            | (at_builtin; refine wpList_append_own _ rfl _ _ 22 rfl wc.heap.size 35 i0 (.agg #[.int .i64 0, .int .i64 0, .int .i64 0, .int .i64 0, .int .i64 0, .int .i64 0]) 6 48 Tryz.underlying22 hi hz0 hz1 hz2 rfl (by decide) (.slice (some ⟨wc.heap.size, 0, none⟩) 0 0) 0 [] rfl (World.ownsRow_made wc #[] 0 (Nat.le_refl _) (by decide) rfl) ⟨gG, 0, none⟩ G.length cG (flatN G) rfl (flatN_len G) (SRC.out _ (BW0.out.trans (((Below.refl wc.heap.size wc).alloc (Nat.le_refl _) _).mono BW0.out.size))) flatN_one (by unfold maxLen; have := HGL.out; omega) (by have := HGL.out; omega) (by simp) ?_; intro v' wz hown' hgrow _; obtain ⟨aoz, cz, rfl⟩ := own_slice hown'; go_must (rw [Nat.zero_add, List.nil_append] at hown'; have H1 := Lib.hid (And.intro hown' hgrow); clear hown' hgrow))
            | (at_builtin; refine wpList_append_own _ rfl _ _ 22 rfl wc.heap.size 35 i0 (.agg #[.int .i64 0, .int .i64 0, .int .i64 0, .int .i64 0, .int .i64 0, .int .i64 0]) 6 48 Tryz.underlying22 hi hz0 hz1 hz2 rfl (by decide) (.slice aoz G.length cz) G.length (flatN G) rfl (own_next H1.out.1 ((Below.refl _ _).alloc (Nat.le_refl _) _)) ⟨wz.heap.size, 0, none⟩ 1 1 (cellsN ⟨3, x, t.ns.length + y, 0, 0, 0⟩) rfl rfl (World.news_of_block (World.alloc_heap_new wz _)) (by simp [cellsN, Value.oneCell']) (by unfold maxLen; have := HGL.out; omega) (by have := HGL.out; omega) (by have := H1.out.2.size; simp at this ⊢; omega) ?_; intro v' wy hown' hgrow _; obtain ⟨aoy3, cy3, rfl⟩ := own_slice hown'; go_must (have H2 := Lib.hid (jb_make BW0.out HP.out XP.out H1.out.2 H1.out.1 hgrow hown'); obtain ⟨z0, z1, _, _, _, _⟩ := H2.out; clear hown' hgrow))
            | fail)
          obtain ⟨_, _, j3, k3, _, b3⟩ := H2.out
          have J3 := Lib.hid j3
          have BW1 := Lib.hid b3
          have XQ3 := Lib.hid ((k3 q (Array.getElem?_eq_some_iff.1 XQ.out).1 (Ne.symm HPQ.out)).trans XQ.out)
          clear H1 H2 z0 z1 j3 k3 b3 hlp x0 x1 x2 hg7
          generalize wy.setCell ⟨p, 0, none⟩ _ = wA at *
          obtain ⟨x0, x1, x2⟩ := ALL.out wA BW1.out
          have hg7 := cell_lt x0
          have hlp := (Array.getElem?_eq_some_iff.1 XQ3.out).1
          go_upto_region 23 with (first
            | (at_builtin; refine wpList_append_own _ rfl _ _ 22 rfl wA.heap.size 35 i0 (.agg #[.int .i64 0, .int .i64 0, .int .i64 0, .int .i64 0, .int .i64 0, .int .i64 0]) 6 48 Tryz.underlying22 hi hz0 hz1 hz2 rfl (by decide) (.slice (some ⟨wA.heap.size, 0, none⟩) 0 0) 0 [] rfl (World.ownsRow_made wA #[] 0 (Nat.le_refl _) (by decide) rfl) ⟨gG, 0, none⟩ G.length cG (flatN G) rfl (flatN_len G) (SRC.out _ (BW1.out.trans (((Below.refl wA.heap.size wA).alloc (Nat.le_refl _) _).mono BW1.out.size))) flatN_one (by unfold maxLen; have := HGL.out; omega) (by have := HGL.out; omega) (by simp) ?_; intro v' wz hown' hgrow _; obtain ⟨aoz, cz, rfl⟩ := own_slice hown'; go_must (rw [Nat.zero_add, List.nil_append] at hown'; have H1 := Lib.hid (And.intro hown' hgrow); clear hown' hgrow))
            | (at_builtin; refine wpList_append_own _ rfl _ _ 22 rfl wA.heap.size 35 i0 (.agg #[.int .i64 0, .int .i64 0, .int .i64 0, .int .i64 0, .int .i64 0, .int .i64 0]) 6 48 Tryz.underlying22 hi hz0 hz1 hz2 rfl (by decide) (.slice aoz G.length cz) G.length (flatN G) rfl (own_next H1.out.1 ((Below.refl _ _).alloc (Nat.le_refl _) _)) ⟨wz.heap.size, 0, none⟩ 1 1 (cellsN ⟨4, x, t.ns.length + y, 0, 0, 0⟩) rfl rfl (World.news_of_block (World.alloc_heap_new wz _)) (by simp [cellsN, Value.oneCell']) (by unfold maxLen; have := HGL.out; omega) (by have := HGL.out; omega) (by have := H1.out.2.size; simp at this ⊢; omega) ?_; intro v' wy hown' hgrow _; obtain ⟨aoy4, cy4, rfl⟩ := own_slice hown'; go_must (have H2 := Lib.hid (jb_make BW1.out HQ.out XQ3.out H1.out.2 H1.out.1 hgrow hown'); obtain ⟨z0, z1, _, _, _, _⟩ := H2.out; clear hown' hgrow))
            | fail)
          obtain ⟨_, _, j4, _, k4, b4⟩ := H2.out
          have J4 := Lib.hid j4
          have BW2 := Lib.hid b4
          have J3' := Lib.hid (k4 _ _ _ _ _ _ HPQ.out J3.out)
          clear H1 H2 z0 z1 j4 k4 b4 hlp x0 x1 x2 hg7 J3
          generalize wy.setCell ⟨q, 0, none⟩ _ = wB at *
          as_aux_lemma =>
            have BD := Lib.hid (BW2.out.trans ((drewB wB).mono BW2.out.size))
            have jp := J3'.out.next (drewB wB)
            have jq := J4.out.next (drewB wB)
            have hgw : w4.heap.size < wr.heap.size := cell_lt HB.out.cells.1
            have hp := HP.out
            have hq := HQ.out
            obtain ⟨x0, x1, x2⟩ := ALL.out wB.drew BD.out
            have hS : (Sb3 w4.heap.size (.slice (some ⟨gG, 0, none⟩) G.length cG) (.slice ao9 m9 c9)) wB.drew := ⟨x0, x1, x2⟩
            obtain ⟨e1, e2, jp1⟩ := jp.set G.length
            have jq1 := jq.other jp.box (Ne.symm HPQ.out) 2 (.int .i64 G.length)
            obtain ⟨e3, e4, jq2⟩ := jq1.set G.length
            have jp2 := jp1.other jq1.box HPQ.out 2 (.int .i64 G.length)
            have hS1 : (Sb3 w4.heap.size (.slice (some ⟨gG, 0, none⟩) G.length cG) (.slice ao9 m9 c9)) (wB.drew.setCell ⟨p, 2, none⟩ (.int .i64 G.length)) := ⟨set_cell x0 (show w4.heap.size ≠ p by omega), set_cell x1 (show w4.heap.size ≠ p by omega), set_cell x2 (show w4.heap.size ≠ p by omega)⟩
            have JP := Lib.hid jp2
            have JQ := Lib.hid jq2
            have BE := Lib.hid (below_set (below_set BD.out HP.out (o := 2) (u := .int .i64 G.length)) HQ.out (o := 2) (u := .int .i64 G.length))
            clear jp jq jp1 jq1 jp2 jq2 hp hq J3' J4 BD x0 x1 x2
            refine wp_region_noPanic ?_
            refine begin_anyT (S := (Sb3 w4.heap.size (.slice (some ⟨gG, 0, none⟩) G.length cG) (.slice ao9 m9 c9))) 9 (by as_aux_lemma => kernel_rfl) ?_
            generalize wB.drew = wD at *
            refine anyT_free (i := 0) (v := ?_) rfl (by as_aux_lemma => kernel_rfl) (by as_aux_lemma => kernel_rfl) (by as_aux_lemma => kernel_rfl) (by as_aux_lemma => kernel_rfl) (fun _ _ _ h => h) (Or.inl ⟨by rfl, ?_⟩) (fun _ => hS) ?_
            rotate_left
            · (intro W _; go_simp <;> with_reducible rfl)
            simp only [Act.put, List.getElem_toArray, List.getElem_cons_zero, List.setIfInBounds_toArray, List.set_cons_zero, List.set_cons_succ]
            refine anyT_take (i := 1) (v := ?_) rfl (by as_aux_lemma => kernel_rfl) (by as_aux_lemma => kernel_rfl) (by as_aux_lemma => kernel_rfl) (by as_aux_lemma => kernel_rfl) (fun _ _ _ h => h) (Or.inl ⟨by rfl, ?_⟩) hS ?_
            rotate_left
            · (intro W hSw; obtain ⟨q1, q2, q3⟩ := hSw; go_simp <;> with_reducible rfl)
            simp only [Act.put, List.getElem_toArray, List.getElem_cons_succ, List.getElem_cons_zero, List.setIfInBounds_toArray, List.set_cons_zero, List.set_cons_succ]
            refine anyT_free (i := 2) (v := ?_) rfl (by as_aux_lemma => kernel_rfl) (by as_aux_lemma => kernel_rfl) (by as_aux_lemma => kernel_rfl) (by as_aux_lemma => kernel_rfl) (fun _ _ _ h => h) (Or.inl ⟨by rfl, ?_⟩) (fun _ => hS) ?_
            rotate_left
            · (intro W _; go_simp <;> with_reducible rfl)
            simp only [Act.put, List.getElem_toArray, List.getElem_cons_succ, List.getElem_cons_zero, List.setIfInBounds_toArray, List.set_cons_zero, List.set_cons_succ]
            refine anyT_free (i := 3) (v := ?_) rfl (by as_aux_lemma => kernel_rfl) (by as_aux_lemma => kernel_rfl) (by as_aux_lemma => kernel_rfl) (by as_aux_lemma => kernel_rfl) (fun _ _ _ h => h) (Or.inl ⟨by rfl, ?_⟩) (fun _ => hS) ?_
            rotate_left
            · (intro W _; go_simp <;> with_reducible rfl)
            simp only [Act.put, List.getElem_toArray, List.getElem_cons_succ, List.getElem_cons_zero, List.setIfInBounds_toArray, List.set_cons_zero, List.set_cons_succ]
            refine anyT_take (i := 4) (v := ?_) rfl (by as_aux_lemma => kernel_rfl) (by as_aux_lemma => kernel_rfl) (by as_aux_lemma => kernel_rfl) (by as_aux_lemma => kernel_rfl) (fun _ _ _ h => h) (Or.inl ⟨by rfl, ?_⟩) hS ?_
            rotate_left
            · (intro W hSw; obtain ⟨q1, q2, q3⟩ := hSw; go_simp <;> with_reducible rfl)
            simp only [Act.put, List.getElem_toArray, List.getElem_cons_succ, List.getElem_cons_zero, List.setIfInBounds_toArray, List.set_cons_zero, List.set_cons_succ]
            refine anyT_free (i := 5) (v := ?_) rfl (by as_aux_lemma => kernel_rfl) (by as_aux_lemma => kernel_rfl) (by as_aux_lemma => kernel_rfl) (by as_aux_lemma => kernel_rfl) (fun _ _ _ h => h) (Or.inl ⟨by rfl, ?_⟩) (fun _ => hS) ?_
            rotate_left
            · (intro W _; go_simp <;> with_reducible rfl)
            simp only [Act.put, List.getElem_toArray, List.getElem_cons_succ, List.getElem_cons_zero, List.setIfInBounds_toArray, List.set_cons_zero, List.set_cons_succ]
            refine anyT_free (i := 6) (v := ?_) rfl (by as_aux_lemma => kernel_rfl) (by as_aux_lemma => kernel_rfl) (by as_aux_lemma => kernel_rfl) (by as_aux_lemma => kernel_rfl) (fun _ _ _ h => h) (Or.inl ⟨by rfl, ?_⟩) (fun _ => hS) ?_
            rotate_left
            · (intro W _; go_simp <;> with_reducible rfl)
            simp only [Act.put, List.getElem_toArray, List.getElem_cons_succ, List.getElem_cons_zero, List.setIfInBounds_toArray, List.set_cons_zero, List.set_cons_succ]
            refine anyT_ready (rs := [7]) (by as_aux_lemma => kernel_rfl) (by simp) ?_
            refine AllT.cons rfl ?_ AllT.nil
            intro K hK
            simp only [List.getElem_toArray, List.getElem_cons_succ, List.getElem_cons_zero]
            go_simp
            refine hK.out _ _ (fun _ => hS1) ?_
            clear hK K
            try simp only [Act.put, List.getElem_toArray, List.getElem_cons_succ, List.getElem_cons_zero, List.setIfInBounds_toArray, List.set_cons_zero, List.set_cons_succ]
            refine anyT_free (i := 8) (v := ?_) rfl (by as_aux_lemma => kernel_rfl) (by as_aux_lemma => kernel_rfl) (by as_aux_lemma => kernel_rfl) (by as_aux_lemma => kernel_rfl) (fun _ _ _ h => h) (Or.inl ⟨by rfl, ?_⟩) (fun _ => hS1) ?_
            rotate_left
            · (intro W _; go_simp <;> with_reducible rfl)
            simp only [Act.put, List.getElem_toArray, List.getElem_cons_succ, List.getElem_cons_zero, List.setIfInBounds_toArray, List.set_cons_zero, List.set_cons_succ]
            refine anyT_ready (rs := [9]) (by as_aux_lemma => kernel_rfl) (by simp) ?_
            refine AllT.cons rfl ?_ AllT.nil
            intro K hK
            simp only [List.getElem_toArray, List.getElem_cons_succ, List.getElem_cons_zero]
            go_simp
            refine hK.out _ _ (fun h => by cases h) ?_
            clear hK K
            try simp only [Act.put, List.getElem_toArray, List.getElem_cons_succ, List.getElem_cons_zero, List.setIfInBounds_toArray, List.set_cons_zero, List.set_cons_succ]
            refine anyT_done (by as_aux_lemma => kernel_rfl) ?_ _
            refine NoPanic.normal ?_
            generalize (wD.setCell ⟨p, 2, none⟩ _).setCell ⟨q, 2, none⟩ _ = wE at *
            clear hS hS1 e1 e2 e3 e4
            have hmf : ∀ op : Int, op = 3 ∨ op = 4 → checkE (joinT t u op) = 0 := fun op ho => join_check OT.out OU.out ho (by omega) (by omega)
            have HMF := Lib.hid hmf
            have bE := HBN.out.trans (BE.out.mono HBN.out.size)
            have bbE := HB.out.next BE.out
            have T3 := Lib.hid (join_tree HGR.out HX0.out HY0.out JP.out bbE.sets (by simp) bbE.vals bE)
            have T4 := Lib.hid (join_tree HGR.out HX0.out HY0.out JQ.out bbE.sets (by simp) bbE.vals bE)
            have BWE := Lib.hid (B4.out.trans (bE.mono B4.out.size))
            have TE := Lib.hid (tabs_next HU.out BWE.out)
            have cm3 := fun W (hb : Below wE.heap.size wE W) => matches_any (s := s) (T3.out.next hb) (tabs_next TE.out hb) (by unfold maxLen; omega)
            have cm4 := fun W (hb : Below wE.heap.size wE W) => matches_any (s := s) (T4.out.next hb) (tabs_next TE.out hb) (by unfold maxLen; omega)
            have hm3 := match_has (HMF.out 3 (.inl rfl)) s.data.toList
            have hm4 := match_has (HMF.out 4 (.inr rfl)) s.data.toList
            generalize matchesF (joinT t u 3) s.data.toList = m3 at cm3 hm3
            generalize matchesF (joinT t u 4) s.data.toList = m4 at cm4 hm4
            obtain ⟨b3, e3⟩ := m3
            obtain ⟨b4, e4⟩ := m4
            dsimp only at cm3 cm4 hm3 hm4
            have CM3 := Lib.hid cm3
            have CM4 := Lib.hid cm4
            clear hmf bE bbE cm3 cm4
            obtain ⟨x0, x1, x2⟩ := JP.out.cells
            obtain ⟨y0, y1, y2⟩ := JQ.out.cells
            rcases hm3 with ⟨rfl, h3⟩ | ⟨rfl, rfl, _⟩
            · rcases hm4 with ⟨rfl, h4⟩ | ⟨rfl, rfl, _⟩
              · have H3 := Lib.hid h3
                have H4 := Lib.hid h4
                clear h3 h4
                go_upto_region 29 with (first
                  | (go_at_call 7; ((with_reducible refine (CM3.out _ (Below.refl _ _)).mono ?_); rintro e wF ⟨rfl, hb⟩); go_must (obtain ⟨y0, y1, y2⟩ := (JQ.out.next hb).cells; have BF := Lib.hid hb; clear hb))
                  | (go_at_call 7; ((with_reducible refine (CM4.out _ BF.out).mono ?_); rintro e wG ⟨rfl, hb⟩); go_must (have BG := Lib.hid (BWE.out.trans ((BF.out.trans (hb.mono BF.out.size)).mono BWE.out.size)); have BEG := Lib.hid (BF.out.trans (hb.mono BF.out.size)); clear hb))
                  | (go_at_call 12; ((with_reducible refine (rall_any s _ (by omega)).mono ?_); rintro e wH ⟨vl, rfl, hI, hb⟩; obtain ⟨lo', lcap, rfl, hlm, _⟩ := hI.shape); go_must (have BH := Lib.hid (BG.out.trans (hb.mono BG.out.size)); have BEH := Lib.hid (BEG.out.trans (hb.mono BEG.out.size)); have HI := Lib.hid hI; clear hb hI))
                  | fail)
                have hl16 : (allL s.data.toList).length ≤ 16 := by
                  have := Ut.allL_le s.data.toList
                  rw [← Lib.size_eq] at this
                  omega
                clear x0 x1 x2 y0 y1 y2
                generalize hl : allL s.data.toList = l at *
                have HLQ := Lib.hid hl
                clear hl
                have th1 : TreeAt wH (.agg #[.slice (some ga) t.ns.length cap, .slice so t.sets.length scap, .int .i64 x]) t := by have h := HV.out.next BH.out; rw [HX0.out] at h; exact h
                have th2 : TreeAt wH (.agg #[.slice (some gu) u.ns.length bcap, .slice to' u.sets.length tcap, .int .i64 y]) u := by have h := HX.out.next BH.out; rw [HY0.out] at h; exact h
                have SP1 := Lib.hid (fun W (hb : Below wH.heap.size wH W) => spans_any OT.out (th1.next hb) (by omega) (HI.out.next hb) (by omega))
                have SP2 := Lib.hid (fun W (hb : Below wH.heap.size wH W) => spans_any OU.out (th2.next hb) (by omega) (HI.out.next hb) (by omega))
                have TBH := Lib.hid (show ∀ X, Below wH.heap.size wH X → X.cell? ⟨w.heap.size, 0, none⟩ = some (.slice (some ga) t.ns.length cap) ∧ X.cell? ⟨w.heap.size, 1, none⟩ = some (.slice so t.sets.length scap) ∧ X.cell? ⟨w.heap.size, 2, none⟩ = some (.int .i64 x) ∧ X.cell? ⟨w.heap.size + 1, 0, none⟩ = some (.slice (some gu) u.ns.length bcap) ∧ X.cell? ⟨w.heap.size + 1, 1, none⟩ = some (.slice to' u.sets.length tcap) ∧ X.cell? ⟨w.heap.size + 1, 2, none⟩ = some (.int .i64 y) from fun X hX => by
                  have h := TB.out wE (HBN.out.trans (BE.out.mono HBN.out.size))
                  have h1 := h.1.next (BEH.out.trans (hX.mono BEH.out.size))
                  have h2 := h.2.next (BEH.out.trans (hX.mono BEH.out.size))
                  exact ⟨h1.c0, h1.c1, by rw [← HX0.out]; exact h1.c2, h2.c0, h2.c1, by rw [← HY0.out]; exact h2.c2⟩)
                clear th1 th2
                go_cut [19, 20] (fun s19 s20 wx => ∃ g1 c1 g2 c2, s19 = .slice (some ⟨g1, 0, none⟩) (l.length + 1) c1 ∧ s20 = .slice (some ⟨g2, 0, none⟩) (l.length + 1) c2 ∧ TabAt wx 0 (.slice (some ⟨g1, 0, none⟩) (l.length + 1) c1) (l.length + 1) (mat (den t.ns t.sets t.root.toNat) l) ∧ TabAt wx 0 (.slice (some ⟨g2, 0, none⟩) (l.length + 1) c2) (l.length + 1) (mat (den u.ns u.sets u.root.toNat) l) ∧ Below wH.heap.size wH wx)
                case first =>
                  as_aux_lemma =>
                    obtain ⟨s0, s1, s2, s3, s4, s5⟩ := TBH.out wH (Below.refl _ _)
                    obtain ⟨p0, p1, p2, p3, p4, p5⟩ := TBH.out wH.drew (drewB wH)
                    go_region_held3 (fun W => W.cell? ⟨w.heap.size, 0, none⟩ = some (.slice (some ga) t.ns.length cap) ∧ W.cell? ⟨w.heap.size, 1, none⟩ = some (.slice so t.sets.length scap) ∧ W.cell? ⟨w.heap.size, 2, none⟩ = some (.int .i64 x) ∧ W.cell? ⟨w.heap.size + 1, 0, none⟩ = some (.slice (some gu) u.ns.length bcap) ∧ W.cell? ⟨w.heap.size + 1, 1, none⟩ = some (.slice to' u.sets.length tcap) ∧ W.cell? ⟨w.heap.size + 1, 2, none⟩ = some (.int .i64 y)) (first | go_keep | exact ⟨by assumption, by assumption, by assumption, by assumption, by assumption, by assumption⟩)
                      (first
                        | (go_at_call 13; ((with_reducible refine (SP1.out _ (drewB wH)).mono ?_); rintro e wI ⟨xa, rfl, hta, hb⟩; obtain ⟨g1, c1, rfl⟩ := hta.sl (Nat.succ_pos _)); go_must (have BI := Lib.hid ((drewB wH).trans (hb.mono (drewB wH).size)); obtain ⟨r0, r1, r2, r3, r4, r5⟩ := TBH.out wI BI.out; have TA := Lib.hid hta; clear hta hb))
                        | (go_at_call 13; ((with_reducible refine (SP2.out _ BI.out).mono ?_); rintro e wJ ⟨xb, rfl, htb, hb⟩; obtain ⟨g2, c2, rfl⟩ := htb.sl (Nat.succ_pos _)); go_must (have BJ := Lib.hid (BI.out.trans (hb.mono BI.out.size)); obtain ⟨k0, k1, k2, k3, k4, k5⟩ := TBH.out wJ BJ.out; have TA2 := Lib.hid (TA.out.next hb); have TBB := Lib.hid htb; clear htb hb))
                        | fail)
                    all_goals (
                      go_wp2_with fail
                      go_meet
                      case rel => exact ⟨g1, c1, g2, c2, rfl, rfl, TA2.out, TBB.out, BJ.out⟩)
                case rest =>
                  as_aux_lemma =>
                    obtain ⟨g1, c1, g2, c2, rfl, rfl, hta, htb, hbc⟩ := hcut
                    have h3 : b3 = (validL s.data.toList && wantB (mat (den t.ns t.sets t.root.toNat) l) (mat (den u.ns u.sets u.root.toNat) l) l.length (l.length + 1)) := by rw [H3.out]; unfold hasB'; rw [HLQ.out, row_seq OT.out OU.out]
                    have h4 : b4 = (validL s.data.toList && (mat (den t.ns t.sets t.root.toNat) l 0 l.length || mat (den u.ns u.sets u.root.toNat) l 0 l.length)) := by rw [H4.out]; unfold hasB'; rw [HLQ.out, row_alt OT.out OU.out]
                    have CV := Lib.hid (fun X => rvalid_any s X (by omega))
                    have BWC := Lib.hid (BH.out.trans (hbc.mono BH.out.size))
                    generalize validL s.data.toList = vb at *
                    generalize mat (den t.ns t.sets t.root.toNat) l = MA at *
                    generalize mat (den u.ns u.sets u.root.toNat) l = MB at *
                    generalize l.length = n at *
                    have HTA := Lib.hid hta
                    have HTB := Lib.hid htb
                    have G3 := Lib.hid h3
                    have G4 := Lib.hid h4
                    clear h3 h4 hta htb hbc H3 H4 SP1 SP2 TBH TB HI
                    go_wp2
                    go_loopw [21, 22] (fun a i wr => ∃ k : Nat, i = .int .i64 k ∧ a = .bool (wantB MA MB n k) ∧ k ≤ n + 1 ∧ Below wc.heap.size wc wr) (fun a i _ => n + 1 - (intOf i).toNat)
                    case atStart => exact ⟨0, rfl, by rw [want_start], by omega, Below.refl _ _⟩
                    case round =>
                      obtain ⟨k, rfl, rfl, hk, hbr⟩ := hrel
                      by_cases hlk : k ≤ n
                      · have n1 : (k : Int) ≤ n := by omega
                        obtain ⟨r1, d1, a1, a2⟩ := tab_cell (HTA.out.next hbr) (i := 0) (m := k) (by omega) (by omega)
                        obtain ⟨r2, d2, a3, a4⟩ := tab_cell (HTB.out.next hbr) (i := k) (m := n) (by omega) (by omega)
                        have HST := Lib.hid (want_step MA MB n k)
                        have HBR := Lib.hid hbr
                        clear hbr
                        generalize wantB MA MB n k = b0 at *
                        generalize MA 0 k = ba at *
                        generalize MB k n = bb at *
                        cases b0 <;> cases ba <;> cases bb
                        all_goals (
                          as_aux_lemma =>
                            go_wp2_with fail
                            go_roundw
                            case rel => exact ⟨k + 1, by go_num, by rw [HST.out]; rfl, by omega, HBR.out⟩
                            case measure => simp [intOf]; omega)
                      · obtain rfl : k = n + 1 := by omega
                        have n1 : ¬ (((n + 1 : Nat) : Int) ≤ n) := by omega
                        obtain ⟨r1, d1, a1, a2⟩ := tab_cell (HTA.out.next hbr) (i := 0) (m := n) (by omega) (by omega)
                        obtain ⟨r2, d2, a3, a4⟩ := tab_cell (HTB.out.next hbr) (i := 0) (m := n) (by omega) (by omega)
                        have BR := Lib.hid (BWC.out.trans (hbr.mono BWC.out.size))
                        clear hbr
                        generalize wantB MA MB n (n + 1) = bw at *
                        generalize MA 0 n = ba at *
                        generalize MB 0 n = bb at *
                        cases vb <;> cases bw <;> cases ba <;> cases bb
                        all_goals (
                          as_aux_lemma =>
                            have h3 := G3.out
                            have h4 := G4.out
                            simp at h3 h4
                            subst h3 h4
                            clear G3 G4
                            go_wp2_with (first
                              | (go_at_call 14; ((with_reducible refine (CV.out _).mono ?_); rintro e wV ⟨rfl, hb⟩); go_must (have BV := Lib.hid (BR.out.trans (hb.mono BR.out.size)); replace a1 := cell_next a1 hb; replace a2 := cell_next a2 hb; replace a3 := cell_next a3 hb; replace a4 := cell_next a4 hb; clear hb))
                              | (go_at_call 6; ((with_reducible refine (CA.out _ BV.out).mono ?_); rintro e wW ⟨rfl, hb⟩); go_must (have BW := Lib.hid (BV.out.trans (hb.mono BV.out.size)); clear hb))
                              | fail)
                            go_ret
                            exact ⟨rfl, BW.out⟩)
              · as_aux_lemma =>
                  go_wp2_with (first
                    | (go_at_call 7; ((with_reducible refine (CM3.out _ (Below.refl _ _)).mono ?_); rintro e wF ⟨rfl, hb⟩); go_must (obtain ⟨y0, y1, y2⟩ := (JQ.out.next hb).cells; have BF := Lib.hid hb; clear hb))
                    | (go_at_call 7; ((with_reducible refine (CM4.out _ BF.out).mono ?_); rintro e wG ⟨rfl, hb⟩); go_must (have BG := Lib.hid (BWE.out.trans ((BF.out.trans (hb.mono BF.out.size)).mono BWE.out.size)); have BEG := Lib.hid (BF.out.trans (hb.mono BF.out.size)); clear hb))
                    | (go_at_call 6; ((with_reducible refine (CA.out _ BG.out).mono ?_); rintro e wH ⟨rfl, hb⟩); go_must (have BH := Lib.hid (BG.out.trans (hb.mono BG.out.size)); clear hb))
                    | fail)
                  go_ret
                  exact ⟨rfl, BH.out⟩
            · rcases hm4 with ⟨rfl, h4⟩ | ⟨rfl, rfl, _⟩
              · clear h4
                as_aux_lemma =>
                  go_wp2_with (first
                    | (go_at_call 7; ((with_reducible refine (CM3.out _ (Below.refl _ _)).mono ?_); rintro e wF ⟨rfl, hb⟩); go_must (obtain ⟨y0, y1, y2⟩ := (JQ.out.next hb).cells; have BF := Lib.hid hb; clear hb))
                    | (go_at_call 7; ((with_reducible refine (CM4.out _ BF.out).mono ?_); rintro e wG ⟨rfl, hb⟩); go_must (have BG := Lib.hid (BWE.out.trans ((BF.out.trans (hb.mono BF.out.size)).mono BWE.out.size)); have BEG := Lib.hid (BF.out.trans (hb.mono BF.out.size)); clear hb))
                    | (go_at_call 6; ((with_reducible refine (CA.out _ BG.out).mono ?_); rintro e wH ⟨rfl, hb⟩); go_must (have BH := Lib.hid (BG.out.trans (hb.mono BG.out.size)); clear hb))
                    | fail)
                  go_ret
                  exact ⟨rfl, BH.out⟩
              · as_aux_lemma =>
                  go_wp2_with (first
                    | (go_at_call 7; ((with_reducible refine (CM3.out _ (Below.refl _ _)).mono ?_); rintro e wF ⟨rfl, hb⟩); go_must (obtain ⟨y0, y1, y2⟩ := (JQ.out.next hb).cells; have BF := Lib.hid hb; clear hb))
                    | (go_at_call 7; ((with_reducible refine (CM4.out _ BF.out).mono ?_); rintro e wG ⟨rfl, hb⟩); go_must (have BG := Lib.hid (BWE.out.trans ((BF.out.trans (hb.mono BF.out.size)).mono BWE.out.size)); have BEG := Lib.hid (BF.out.trans (hb.mono BF.out.size)); clear hb))
                    | (go_at_call 6; ((with_reducible refine (CA.out _ BG.out).mono ?_); rintro e wH ⟨rfl, hb⟩); go_must (have BH := Lib.hid (BG.out.trans (hb.mono BG.out.size)); clear hb))
                    | fail)
                  go_ret
                  exact ⟨rfl, BH.out⟩

end Go.Proofs.YtbkafoaoddajoaaGreatDoor.Dv

namespace Go.Proofs.YtbkafoaoddajoaaGreatDoor.Dv
open Go Go.RowKit Go.Shelf
open Go.Proofs.YtbkafoaoddajoaaGreatDoor.Ar (Tr TreeAt checkE)
open Go.Proofs.YtbkafoaoddajoaaGreatDoor.Ut (Tabs)

theorem walkPartsC (t : Tr) (v : Value) (u : Tr) (x : Value) (s : ByteArray) (w : World) (hv : TreeAt w v t) (hx : TreeAt w x u) (_hs : s.size ≤ maxLen) (hst : Tabs w) :
    Calls Tryz.prog 4 #[v, x, .string s] w fun e w' => e = .returned (.bool true) ∧ Below w.heap.size w w' := by
  by_cases hd : lightB t s.size = true ∧ lightB u s.size = true ∧ checkE t = 0 ∧ checkE u = 0
  · exact parts_good t u s v x w hv hx hst hd.1 hd.2.1 hd.2.2.1 hd.2.2.2
  · exact parts_dark t u s v x w hv hx hst hd
end Go.Proofs.YtbkafoaoddajoaaGreatDoor.Dv

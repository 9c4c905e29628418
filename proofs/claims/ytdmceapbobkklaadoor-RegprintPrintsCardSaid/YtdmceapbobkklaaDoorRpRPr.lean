/- The document's text of a tree. -/
import Derived.Test.YtdmceapbobkklaaDoorRpSetR
import Derived.Test.YtdmceapbobkklaaDoorRpPlain
import Derived.Test.YtdmceapbobkklaaDoorArNear
namespace Go.Proofs.YtdmceapbobkklaaDoor.Rp
open Go Go.RowKit Go.Shelf
open Go.Proofs.YtdmceapbobkklaaDoor.Ar (Nd nd Tr Ok TreeAt NodeAt nodeB_ways nodeB reck gZ Near gZ_far TBox)
open Go.Proofs.YtdmceapbobkklaaDoor.Rg (R RngsAt nth nthL rightB)

/-- no text of a tree that is near is too long -/
theorem near_len {t : Tr} (ht : Ok t) (hn : Near t) {i : Nat} (hi : i < t.ns.length) : (textL t.sets t.ns i).length ≤ 4000000 := by
  have h1 := text_len ht hn.each i hi
  have h2 := gZ_far ht i hi
  have h3 := hn.size i hi
  omega
/-- what a call tells: a text; nothing that stood has changed -/
def Tells (s : Tx) (w : World) (e : Ending) (w' : World) : Prop := e = .returned (.string ⟨s.toArray⟩) ∧ Below w.heap.size w w'

set_option maxRecDepth 100000 in
set_option maxHeartbeats 1600000 in
theorem rpart_any (t : Tr) (j : Nat) (s : Tx) (hs : s.length ≤ 4000000) (C : ∀ (v : Value) (w : World), TreeAt w v t → Calls Tryd.prog 9 #[v, .int .i64 j] w (Tells s w)) (q : Bool) (v : Value) (w : World) (hv : TreeAt w v t) :
    Calls Tryd.prog 25 #[v, .int .i64 j, .bool q] w (Tells (wrapL q s) w) := by
  unfold Tells at *
  have HV := Lib.hid hv
  have HC := Lib.hid C
  obtain ⟨ao, cap, so, scap, rfl, _, _, _, _⟩ := hv.shape
  have B1 := Lib.hid ((Below.refl w.heap.size w).alloc (Nat.le_refl _) (.cells #[.slice ao t.ns.length cap, .slice so t.sets.length scap, .int .i64 t.root] 25))
  clear hv C
  cases q
  all_goals (
    go_enter Tryd.func25, Tryd.ntmps25
    go_wp2_with (go_at_call 9; (with_reducible refine (HC.out _ _ (HV.out.next B1.out)).mono ?_); rintro e w1 ⟨rfl, hb1⟩)
    go_ret
    exact ⟨ret_t (by simp [wrapL, ByteArray.ext_iff]), B1.out.trans (hb1.mono (by simp))⟩)

theorem opB_one (l : List Nd) (x : Int) (k : Int) : opB l x [k] = ((nd l x.toNat).op == k) := by simp [opB]; rfl
theorem opB_two (l : List Nd) (x : Int) : opB l x [3, 4] = ((nd l x.toNat).op == 3 || (nd l x.toNat).op == 4) := by simp [opB]; rfl
theorem opB_three (l : List Nd) (x : Int) : opB l x [3, 4, 5] = ((nd l x.toNat).op == 3 || ((nd l x.toNat).op == 4 || (nd l x.toNat).op == 5)) := by simp [opB]; rfl

/-- two boxes: a tree's, and a node's behind it -/
structure TN (w : World) (vn vs : Value) (r : Int) (n : Nd) (W : World) : Prop where
  t0 : W.cell? ⟨w.heap.size, 0, none⟩ = some vn
  t1 : W.cell? ⟨w.heap.size, 1, none⟩ = some vs
  t2 : W.cell? ⟨w.heap.size, 2, none⟩ = some (.int .i64 r)
  n1 : W.cell? ⟨w.heap.size + 1, 1, none⟩ = some (.int .i64 n.a)
  n2 : W.cell? ⟨w.heap.size + 1, 2, none⟩ = some (.int .i64 n.b)
  n3 : W.cell? ⟨w.heap.size + 1, 3, none⟩ = some (.int .i64 n.lo)
  n4 : W.cell? ⟨w.heap.size + 1, 4, none⟩ = some (.int .i64 n.hi)
  below : Below w.heap.size w W
theorem TN.next {w W W' : World} {vn vs : Value} {r : Int} {n : Nd} (h : TN w vn vs r n W) (hb : Below W.heap.size W W') : TN w vn vs r n W' :=
  ⟨cell_next h.t0 hb, cell_next h.t1 hb, cell_next h.t2 hb, cell_next h.n1 hb, cell_next h.n2 hb, cell_next h.n3 hb, cell_next h.n4 hb, h.below.trans (hb.mono h.below.size)⟩
theorem TN.new (w : World) (vn vs : Value) (r : Int) (n : Nd) : TN w vn vs r n (((w.alloc (.cells #[vn, vs, .int .i64 r] 25)).alloc (.cells #[.int .i64 n.op, .int .i64 n.a, .int .i64 n.b, .int .i64 n.lo, .int .i64 n.hi, .int .i64 n.set] 56)).drew) := by
  refine ⟨?_, ?_, ?_, ?_, ?_, ?_, ?_, (((Below.refl w.heap.size w).alloc (Nat.le_refl _) _).alloc (by simp) _).drew⟩
  all_goals (show World.cell? (World.alloc _ _) _ = _; simp)

set_option maxRecDepth 100000 in
set_option maxHeartbeats 8000000 in
theorem rprint_any (t : Tr) (ht : Ok t) (hnr : Near t) : ∀ (i : Nat), i < t.ns.length → ∀ (v : Value) (w : World), TreeAt w v t →
    Calls Tryd.prog 9 #[v, .int .i64 i] w (Tells (textL t.sets t.ns i) w) := by
  intro i
  induction i using Nat.strongRecOn with
  | ind i ih =>
    intro hi v w hv
    have HV := Lib.hid hv
    obtain ⟨ao, cap, so, scap, rfl, hm, hm2, hn, hss⟩ := hv.shape
    obtain ⟨g, rfl, hN⟩ := hn i hi
    obtain ⟨c0, c1, c2, c3, c4, c5⟩ := hN
    have hlt := cell_lt c0
    have CP := Lib.hid (fun (j : Nat) (hj : j < i) => rpart_any t j _ (near_len ht hnr (i := j) (by omega)) (ih j hj (by omega)))
    have hop : ∀ j : Nat, j < t.ns.length → w.cell? (g.add (j * 6)) = some (.int .i64 (nd t.ns j).op) := fun j hj => by
      obtain ⟨g', e, h⟩ := hn j hj
      have e' : g = g' := Option.some.inj e
      rw [e']; exact h.c0
    have HT1 := Lib.hid (fun h => text_one (S := t.sets) (l := t.ns) (i := i) h)
    have HT2 := Lib.hid (fun h => text_set (S := t.sets) (l := t.ns) (i := i) h)
    have HT3 := Lib.hid (fun h ha hb => text_cat (S := t.sets) (l := t.ns) (i := i) h ha hb)
    have HT4 := Lib.hid (fun h ha hb => text_alt (S := t.sets) (l := t.ns) (i := i) h ha hb)
    have HT5 := Lib.hid (fun h ha => text_rep (S := t.sets) (l := t.ns) (i := i) h ha)
    have HTM := Lib.hid (fun h => times_le (rep_times (ht.node i hi) h))
    have HNW := Lib.hid (TN.new w (.slice (some g) t.ns.length cap) (.slice so t.sets.length scap) t.root (nd t.ns i))
    have HOP := Lib.hid hop
    have HLN := Lib.hid (fun j (hj : j < t.ns.length) => near_len ht hnr (i := j) hj)
    have b2 := Lib.hid (((Below.refl w.heap.size w).alloc (Nat.le_refl _) (.cells #[.slice (some g) t.ns.length cap, .slice so t.sets.length scap, .int .i64 t.root] 25)).alloc (by simp) (.cells #[.int .i64 (nd t.ns i).op, .int .i64 (nd t.ns i).a, .int .i64 (nd t.ns i).b, .int .i64 (nd t.ns i).lo, .int .i64 (nd t.ns i).hi, .int .i64 (nd t.ns i).set] 56))
    clear hop hn ih
    rcases nodeB_ways (ht.node i hi) with ⟨h1, _⟩ | ⟨h1, h2⟩ | ⟨h1 | h1, h2⟩ | ⟨h1, h2⟩
    · have HE := Lib.hid (HT1.out h1)
      clear HT1 HT2 HT3 HT4 HT5 HTM CP HOP HLN hss ht hnr
      generalize textL t.sets t.ns i = E at *
      generalize nd t.ns i = n at *
      obtain ⟨op, na, nb, lo, hi', st⟩ := n
      dsimp only at *
      subst h1
      go_enter Tryd.func9, Tryd.ntmps9
      go_wp2
      go_ret
      exact ⟨ret_t (by rw [HE.out]), ((Below.refl w.heap.size w).alloc (Nat.le_refl _) _).alloc (by simp) _⟩
    · have HE := Lib.hid (HT2.out h1)
      have hs0 : 0 ≤ (nd t.ns i).set ∧ (nd t.ns i).set < t.sets.length := ⟨h2.2.2.2.2.1, h2.2.2.2.2.2⟩
      obtain ⟨k, hk⟩ := Int.eq_ofNat_of_zero_le hs0.1
      have hks : k < t.sets.length := by omega
      obtain ⟨gs, x, rfl, x1, x2⟩ := hss k hks
      have CS := Lib.hid (fun W (hb : Below w.heap.size w W) => setr_any (nthL t.sets k) x W (x2.next hb) (ht.sets _ (by rw [Rg.nthL_eq hks]; exact List.getElem_mem hks)) (hnr.each k hks))
      have y1 := cell_next x1 b2.out
      rw [hk, Int.toNat_natCast] at HE
      clear HT1 HT2 HT3 HT4 HT5 HTM CP HOP HLN hss ht hnr hs0 x1 x2 h2
      generalize textL t.sets t.ns i = E at *
      generalize nd t.ns i = n at *
      obtain ⟨op, na, nb, lo, hi', st⟩ := n
      dsimp only at *
      subst h1 hk
      go_enter Tryd.func9, Tryd.ntmps9
      go_wp2_with (go_at_call 24; (with_reducible refine (CS.out _ b2.out).mono ?_); rintro e w1 ⟨rfl, hb1⟩)
      go_ret
      exact ⟨ret_t (by rw [HE.out]), b2.out.trans (hb1.mono (by simp; omega))⟩
    · have hab : 0 ≤ (nd t.ns i).a ∧ (nd t.ns i).a < i ∧ 0 ≤ (nd t.ns i).b ∧ (nd t.ns i).b < i := ⟨h2.1, h2.2.1, h2.2.2.1, h2.2.2.2.1⟩
      obtain ⟨ha0, ha1, hb0, hb1⟩ := hab
      have HE := Lib.hid (HT3.out h1 (by omega) (by omega))
      obtain ⟨a, ha⟩ := Int.eq_ofNat_of_zero_le ha0
      obtain ⟨b, hb⟩ := Int.eq_ofNat_of_zero_le hb0
      have hai : a < i := by omega
      have hbi : b < i := by omega
      have ca := Lib.hid (CP.out a hai)
      have cb := Lib.hid (CP.out b hbi)
      have la := HLN.out a (by omega)
      have lb := HLN.out b (by omega)
      have pa := cell_next (HOP.out a (by omega)) b2.out
      have pb := cell_next (HOP.out b (by omega)) b2.out
      simp only [opB_one, opB_two] at HE
      rw [ha, hb, Int.toNat_natCast, Int.toNat_natCast] at HE
      clear HT1 HT2 HT3 HT4 HT5 HTM CP HOP HLN hss ht hnr h2 ha0 ha1 hb0 hb1
      unfold Tells at ca cb ⊢
      generalize textL t.sets t.ns i = E at *
      generalize textL t.sets t.ns a = TA at *
      generalize textL t.sets t.ns b = TB at *
      generalize (nd t.ns a).op = oa at *
      generalize (nd t.ns b).op = ob at *
      generalize nd t.ns i = n at *
      obtain ⟨op, na, nb, lo, hi', st⟩ := n
      dsimp only at *
      subst h1 ha hb
      have w1 := wrap_len (oa == 4) TA
      obtain ⟨q, hq, hqb⟩ : ∃ q : Bool, q = (ob == 3 || ob == 4) ∧ (((ob == 3) = true ∧ q = true) ∨ ((ob == 3) = false ∧ q = (ob == 4))) := ⟨_, rfl, by cases (ob == 3) <;> simp⟩
      have w2 := wrap_len q TB
      obtain ⟨x1, q1, z1, j1⟩ := run_join ⟨(wrapL (oa == 4) TA).toArray⟩ ⟨(wrapL q TB).toArray⟩ (by rw [size_mk, size_mk]; omega)
      have HX := Lib.hid (show x1 = ⟨E.toArray⟩ by rw [q1, HE.out, ← hq]; simp [ByteArray.ext_iff])
      clear q1 z1 HE hq w1 w2
      have ca := Lib.hid (fun v W (h : TreeAt W v t) => ca.out (oa == 4) v W h)
      have cb := Lib.hid (fun v W (h : TreeAt W v t) => cb.out q v W h)
      generalize wrapL (oa == 4) TA = PA at *
      generalize wrapL q TB = PB at *
      rcases hqb with ⟨hq1, rfl⟩ | ⟨hq1, rfl⟩
      · go_enter Tryd.func9, Tryd.ntmps9
        go_wp2
        obtain ⟨f0, f1, f2, f3, f4, f5, f6, f7⟩ := HNW.out
        dsimp only at f3 f4 f5 f6
        generalize ((w.alloc (.cells #[.slice (some g) t.ns.length cap, .slice so t.sets.length scap, .int .i64 t.root] 25)).alloc (.cells #[.int .i64 3, .int .i64 (a : Int), .int .i64 (b : Int), .int .i64 lo, .int .i64 hi', .int .i64 st] 56)) = W at *
        refine wp_region_noPanic ?_
        refine wp_region_held_drew (S := (fun W => W.cell? ⟨w.heap.size, 0, none⟩ = some (.slice (some g) t.ns.length cap) ∧ W.cell? ⟨w.heap.size, 1, none⟩ = some (.slice so t.sets.length scap) ∧ W.cell? ⟨w.heap.size, 2, none⟩ = some (.int .i64 t.root) ∧ W.cell? ⟨w.heap.size + 1, 1, none⟩ = some (.int .i64 (a : Int)) ∧ W.cell? ⟨w.heap.size + 1, 2, none⟩ = some (.int .i64 (b : Int)) ∧ W.cell? ⟨w.heap.size + 1, 3, none⟩ = some (.int .i64 lo) ∧ W.cell? ⟨w.heap.size + 1, 4, none⟩ = some (.int .i64 hi') ∧ Below w.heap.size w W)) (by kernel_rfl) ⟨f0, f1, f2, f3, f4, f5, f6, f7⟩ (fun hS => ?_)
        refine wpAnyH_take (i := 0) (v := ?_) rfl (by kernel_rfl) (by kernel_rfl) (by kernel_rfl) (fun _ _ _ h => h) (Or.inl ⟨by rfl, ?_⟩) hS ?_
        rotate_left
        · (intro W hSw; (try dsimp only at hSw); go_simp <;> with_reducible rfl)
        simp only [Act.put, List.getElem_toArray, List.getElem_cons_zero, List.setIfInBounds_toArray, List.set_cons_zero, List.set_cons_succ]
        refine wpAnyH_take (i := 1) (v := ?_) rfl (by kernel_rfl) (by kernel_rfl) (by kernel_rfl) (fun _ _ _ h => h) (Or.inl ⟨by rfl, ?_⟩) hS ?_
        rotate_left
        · (intro W hSw; (try dsimp only at hSw); go_simp <;> with_reducible rfl)
        simp only [Act.put, List.getElem_toArray, List.getElem_cons_succ, List.getElem_cons_zero, List.setIfInBounds_toArray, List.set_cons_zero, List.set_cons_succ]
        refine wpAnyH_take (i := 2) (v := ?_) rfl (by kernel_rfl) (by kernel_rfl) (by kernel_rfl) (fun _ _ _ h => h) (Or.inl ⟨by rfl, ?_⟩) hS ?_
        rotate_left
        · (intro W hSw; (try dsimp only at hSw); go_simp <;> with_reducible rfl)
        simp only [Act.put, List.getElem_toArray, List.getElem_cons_succ, List.getElem_cons_zero, List.setIfInBounds_toArray, List.set_cons_zero, List.set_cons_succ]
        refine wpAnyH_take (i := 3) (v := ?_) rfl (by kernel_rfl) (by kernel_rfl) (by kernel_rfl) (fun _ _ _ h => h) (Or.inl ⟨by rfl, ?_⟩) hS ?_
        rotate_left
        · (intro W hSw; (try dsimp only at hSw); go_simp <;> with_reducible rfl)
        simp only [Act.put, List.getElem_toArray, List.getElem_cons_succ, List.getElem_cons_zero, List.setIfInBounds_toArray, List.set_cons_zero, List.set_cons_succ]
        refine wpAnyH_take (i := 4) (v := ?_) rfl (by kernel_rfl) (by kernel_rfl) (by kernel_rfl) (fun _ _ _ h => h) (Or.inl ⟨by rfl, ?_⟩) hS ?_
        rotate_left
        · (intro W hSw; (try dsimp only at hSw); go_simp <;> with_reducible rfl)
        simp only [Act.put, List.getElem_toArray, List.getElem_cons_succ, List.getElem_cons_zero, List.setIfInBounds_toArray, List.set_cons_zero, List.set_cons_succ]
        refine wpAnyH_take (i := 6) (v := ?_) rfl (by kernel_rfl) (by kernel_rfl) (by kernel_rfl) (fun _ _ _ h => h) (Or.inl ⟨by rfl, ?_⟩) hS ?_
        rotate_left
        · (intro W hSw; (try dsimp only at hSw); go_simp <;> with_reducible rfl)
        simp only [Act.put, List.getElem_toArray, List.getElem_cons_succ, List.getElem_cons_zero, List.setIfInBounds_toArray, List.set_cons_zero, List.set_cons_succ]
        refine wpAnyH_take (i := 7) (v := ?_) rfl (by kernel_rfl) (by kernel_rfl) (by kernel_rfl) (fun _ _ _ h => h) (Or.inl ⟨by rfl, ?_⟩) hS ?_
        rotate_left
        · (intro W hSw; (try dsimp only at hSw); go_simp <;> with_reducible rfl)
        simp only [Act.put, List.getElem_toArray, List.getElem_cons_succ, List.getElem_cons_zero, List.setIfInBounds_toArray, List.set_cons_zero, List.set_cons_succ]
        refine wpAnyH_take (i := 8) (v := ?_) rfl (by kernel_rfl) (by kernel_rfl) (by kernel_rfl) (fun _ _ _ h => h) (Or.inl ⟨by rfl, ?_⟩) hS ?_
        rotate_left
        · (intro W hSw; (try dsimp only at hSw); go_simp <;> with_reducible rfl)
        simp only [Act.put, List.getElem_toArray, List.getElem_cons_succ, List.getElem_cons_zero, List.setIfInBounds_toArray, List.set_cons_zero, List.set_cons_succ]
        refine wpAnyH_take (i := 9) (v := ?_) rfl (by kernel_rfl) (by kernel_rfl) (by kernel_rfl) (fun _ _ _ h => h) (Or.inl ⟨by rfl, ?_⟩) hS ?_
        rotate_left
        · (intro W hSw; (try dsimp only at hSw); go_simp <;> with_reducible rfl)
        simp only [Act.put, List.getElem_toArray, List.getElem_cons_succ, List.getElem_cons_zero, List.setIfInBounds_toArray, List.set_cons_zero, List.set_cons_succ]
        refine wpAnyH_take (i := 10) (v := ?_) rfl (by kernel_rfl) (by kernel_rfl) (by kernel_rfl) (fun _ _ _ h => h) (Or.inl ⟨by rfl, ?_⟩) hS ?_
        rotate_left
        · (intro W hSw; (try dsimp only at hSw); go_simp <;> with_reducible rfl)
        simp only [Act.put, List.getElem_toArray, List.getElem_cons_succ, List.getElem_cons_zero, List.setIfInBounds_toArray, List.set_cons_zero, List.set_cons_succ]
        refine wpAnyH_ready (rs := [5]) (by kernel_rfl) (by simp) ?_
        refine AllReadyH.cons rfl (fun K hK => ?_) AllReadyH.nil
        simp only [List.getElem_toArray, List.getElem_cons_succ, List.getElem_cons_zero]
        go_simp
        go_wp2_with (go_at_call 25; (with_reducible refine (ca.out _ _ (HV.out.next (by assumption))).mono ?_); rintro e w1 ⟨rfl, hb1⟩; go_must (obtain ⟨q0, q1, q2, q3, q4, q5, q6, q7⟩ := TN.next (w := w) (n := ⟨3, a, b, lo, hi', st⟩) ⟨by assumption, by assumption, by assumption, by assumption, by assumption, by assumption, by assumption, by assumption⟩ hb1))
        refine hK.out _ _ ⟨q0, q1, q2, q3, q4, q5, q6, q7⟩ (fun hS => ?_)
        clear hK K
        try simp only [Act.put, List.getElem_toArray, List.getElem_cons_succ, List.getElem_cons_zero, List.setIfInBounds_toArray, List.set_cons_zero, List.set_cons_succ]
        refine wpAnyH_take (i := 11) (v := ?_) rfl (by kernel_rfl) (by kernel_rfl) (by kernel_rfl) (fun _ _ _ h => h) (Or.inl ⟨by rfl, ?_⟩) hS ?_
        rotate_left
        · (intro W hSw; (try dsimp only at hSw); go_simp <;> with_reducible rfl)
        simp only [Act.put, List.getElem_toArray, List.getElem_cons_succ, List.getElem_cons_zero, List.setIfInBounds_toArray, List.set_cons_zero, List.set_cons_succ]
        refine wpAnyH_take (i := 12) (v := undef) rfl (by kernel_rfl) (by kernel_rfl) (by kernel_rfl) (fun _ _ _ h => h) (Or.inr ⟨by rfl, rfl⟩) hS ?_
        simp only [Act.put, List.getElem_toArray, List.getElem_cons_succ, List.getElem_cons_zero, List.setIfInBounds_toArray, List.set_cons_zero, List.set_cons_succ]
        refine wpAnyH_take (i := 13) (v := undef) rfl (by kernel_rfl) (by kernel_rfl) (by kernel_rfl) (fun _ _ _ h => h) (Or.inr ⟨by rfl, rfl⟩) hS ?_
        simp only [Act.put, List.getElem_toArray, List.getElem_cons_succ, List.getElem_cons_zero, List.setIfInBounds_toArray, List.set_cons_zero, List.set_cons_succ]
        refine wpAnyH_take (i := 14) (v := ?_) rfl (by kernel_rfl) (by kernel_rfl) (by kernel_rfl) (fun _ _ _ h => h) (Or.inl ⟨by rfl, ?_⟩) hS ?_
        rotate_left
        · (intro W hSw; (try dsimp only at hSw); go_simp <;> with_reducible rfl)
        simp only [Act.put, List.getElem_toArray, List.getElem_cons_succ, List.getElem_cons_zero, List.setIfInBounds_toArray, List.set_cons_zero, List.set_cons_succ]
        refine wpAnyH_ready (rs := [15]) (by kernel_rfl) (by simp) ?_
        refine AllReadyH.cons rfl (fun K hK => ?_) AllReadyH.nil
        simp only [List.getElem_toArray, List.getElem_cons_succ, List.getElem_cons_zero]
        go_simp
        go_wp2_with (go_at_call 25; (with_reducible refine (cb.out _ _ (HV.out.next (by assumption))).mono ?_); rintro e w1 ⟨rfl, hb1⟩; go_must (obtain ⟨q0, q1, q2, q3, q4, q5, q6, q7⟩ := TN.next (w := w) (n := ⟨3, a, b, lo, hi', st⟩) ⟨by assumption, by assumption, by assumption, by assumption, by assumption, by assumption, by assumption, by assumption⟩ hb1))
        refine hK.out _ _ ⟨q0, q1, q2, q3, q4, q5, q6, q7⟩ (fun hS => ?_)
        clear hK K
        try simp only [Act.put, List.getElem_toArray, List.getElem_cons_succ, List.getElem_cons_zero, List.setIfInBounds_toArray, List.set_cons_zero, List.set_cons_succ]
        refine wpAnyH_take (i := 16) (v := ?_) rfl (by kernel_rfl) (by kernel_rfl) (by kernel_rfl) (fun _ _ _ h => h) (Or.inl ⟨by rfl, ?_⟩) hS ?_
        rotate_left
        · (intro W hSw; (try dsimp only at hSw); go_simp <;> with_reducible rfl)
        simp only [Act.put, List.getElem_toArray, List.getElem_cons_succ, List.getElem_cons_zero, List.setIfInBounds_toArray, List.set_cons_zero, List.set_cons_succ]
        refine wpAnyH_take (i := 17) (v := ?_) rfl (by kernel_rfl) (by kernel_rfl) (by kernel_rfl) (fun _ _ _ h => h) (Or.inl ⟨by rfl, ?_⟩) hS ?_
        rotate_left
        · (intro W hSw; (try dsimp only at hSw); go_simp <;> with_reducible rfl)
        simp only [Act.put, List.getElem_toArray, List.getElem_cons_succ, List.getElem_cons_zero, List.setIfInBounds_toArray, List.set_cons_zero, List.set_cons_succ]
        refine wpAnyH_done (by kernel_rfl) ?_ _
        refine NoPanic.normal ?_
        go_wp2
        go_ret
        exact ⟨ret_t HX.out, by assumption⟩
      · go_enter Tryd.func9, Tryd.ntmps9
        go_wp2
        obtain ⟨f0, f1, f2, f3, f4, f5, f6, f7⟩ := HNW.out
        dsimp only at f3 f4 f5 f6
        generalize ((w.alloc (.cells #[.slice (some g) t.ns.length cap, .slice so t.sets.length scap, .int .i64 t.root] 25)).alloc (.cells #[.int .i64 3, .int .i64 (a : Int), .int .i64 (b : Int), .int .i64 lo, .int .i64 hi', .int .i64 st] 56)) = W at *
        go_region_held3 (fun W => W.cell? ⟨w.heap.size, 0, none⟩ = some (.slice (some g) t.ns.length cap) ∧ W.cell? ⟨w.heap.size, 1, none⟩ = some (.slice so t.sets.length scap) ∧ W.cell? ⟨w.heap.size, 2, none⟩ = some (.int .i64 t.root) ∧ W.cell? ⟨w.heap.size + 1, 1, none⟩ = some (.int .i64 (a : Int)) ∧ W.cell? ⟨w.heap.size + 1, 2, none⟩ = some (.int .i64 (b : Int)) ∧ W.cell? ⟨w.heap.size + 1, 3, none⟩ = some (.int .i64 lo) ∧ W.cell? ⟨w.heap.size + 1, 4, none⟩ = some (.int .i64 hi') ∧ Below w.heap.size w W) (first | exact ⟨by assumption, by assumption, by assumption, by assumption, by assumption, by assumption, by assumption, by assumption⟩ | go_keep)
          (first
            | (go_at_call 25; (first | (with_reducible refine (ca.out _ _ (HV.out.next (by assumption))).mono ?_) | (with_reducible refine (cb.out _ _ (HV.out.next (by assumption))).mono ?_)); rintro e w1 ⟨rfl, hb1⟩; go_must (obtain ⟨q0, q1, q2, q3, q4, q5, q6, q7⟩ := TN.next (w := w) (n := ⟨3, a, b, lo, hi', st⟩) ⟨by assumption, by assumption, by assumption, by assumption, by assumption, by assumption, by assumption, by assumption⟩ hb1))
            | fail)
        all_goals (
          go_wp2
          go_ret
          exact ⟨ret_t HX.out, by assumption⟩)
    · have hab : 0 ≤ (nd t.ns i).a ∧ (nd t.ns i).a < i ∧ 0 ≤ (nd t.ns i).b ∧ (nd t.ns i).b < i := ⟨h2.1, h2.2.1, h2.2.2.1, h2.2.2.2.1⟩
      obtain ⟨ha0, ha1, hb0, hb1⟩ := hab
      have HE := Lib.hid (HT4.out h1 (by omega) (by omega))
      obtain ⟨a, ha⟩ := Int.eq_ofNat_of_zero_le ha0
      obtain ⟨b, hb⟩ := Int.eq_ofNat_of_zero_le hb0
      have hai : a < i := by omega
      have hbi : b < i := by omega
      have ca := Lib.hid (CP.out a hai)
      have cb := Lib.hid (CP.out b hbi)
      have la := HLN.out a (by omega)
      have lb := HLN.out b (by omega)
      have pa := cell_next (HOP.out a (by omega)) b2.out
      have pb := cell_next (HOP.out b (by omega)) b2.out
      simp only [opB_one] at HE
      rw [ha, hb, Int.toNat_natCast, Int.toNat_natCast] at HE
      clear HT1 HT2 HT3 HT4 HT5 HTM CP HOP HLN hss ht hnr h2 ha0 ha1 hb0 hb1
      unfold Tells at ca cb ⊢
      generalize textL t.sets t.ns i = E at *
      generalize textL t.sets t.ns a = TA at *
      generalize textL t.sets t.ns b = TB at *
      generalize (nd t.ns a).op = oa at *
      generalize (nd t.ns b).op = ob at *
      generalize nd t.ns i = n at *
      obtain ⟨op, na, nb, lo, hi', st⟩ := n
      dsimp only at *
      subst h1 ha hb
      have w2 := wrap_len (ob == 4) TB
      obtain ⟨x1, q1, z1, j1⟩ := run_join ⟨TA.toArray⟩ ⟨#[124]⟩ (by rw [size_mk]; show _ + 1 ≤ _; omega)
      have y1 : x1.size = TA.length + 1 := z1
      obtain ⟨x2, q2, z2, j2⟩ := run_join x1 ⟨(wrapL (ob == 4) TB).toArray⟩ (by show x1.size + (wrapL (ob == 4) TB).length ≤ _; omega)
      have HX := Lib.hid (show x2 = ⟨E.toArray⟩ by rw [q2, q1, HE.out]; simp [ByteArray.ext_iff])
      clear q1 z1 q2 z2 y1 HE w2
      have ca := Lib.hid (fun v W (h : TreeAt W v t) => ca.out false v W h)
      have cb := Lib.hid (fun v W (h : TreeAt W v t) => cb.out (ob == 4) v W h)
      rw [show wrapL false TA = TA from rfl] at ca
      generalize wrapL (ob == 4) TB = PB at *
      go_enter Tryd.func9, Tryd.ntmps9
      go_wp2
      obtain ⟨f0, f1, f2, f3, f4, f5, f6, f7⟩ := HNW.out
      dsimp only at f3 f4 f5 f6
      generalize ((w.alloc (.cells #[.slice (some g) t.ns.length cap, .slice so t.sets.length scap, .int .i64 t.root] 25)).alloc (.cells #[.int .i64 4, .int .i64 (a : Int), .int .i64 (b : Int), .int .i64 lo, .int .i64 hi', .int .i64 st] 56)) = W at *
      go_region_held3 (fun W => W.cell? ⟨w.heap.size, 0, none⟩ = some (.slice (some g) t.ns.length cap) ∧ W.cell? ⟨w.heap.size, 1, none⟩ = some (.slice so t.sets.length scap) ∧ W.cell? ⟨w.heap.size, 2, none⟩ = some (.int .i64 t.root) ∧ W.cell? ⟨w.heap.size + 1, 1, none⟩ = some (.int .i64 (a : Int)) ∧ W.cell? ⟨w.heap.size + 1, 2, none⟩ = some (.int .i64 (b : Int)) ∧ W.cell? ⟨w.heap.size + 1, 3, none⟩ = some (.int .i64 lo) ∧ W.cell? ⟨w.heap.size + 1, 4, none⟩ = some (.int .i64 hi') ∧ Below w.heap.size w W) (first | exact ⟨by assumption, by assumption, by assumption, by assumption, by assumption, by assumption, by assumption, by assumption⟩ | go_keep)
        (first
          | (go_at_call 25; (first | (with_reducible refine (ca.out _ _ (HV.out.next (by assumption))).mono ?_) | (with_reducible refine (cb.out _ _ (HV.out.next (by assumption))).mono ?_)); rintro e w1 ⟨rfl, hb1⟩; go_must (obtain ⟨q0, q1, q2, q3, q4, q5, q6, q7⟩ := TN.next (w := w) (n := ⟨4, a, b, lo, hi', st⟩) ⟨by assumption, by assumption, by assumption, by assumption, by assumption, by assumption, by assumption, by assumption⟩ hb1))
          | fail)
      all_goals (
        go_wp2
        go_ret
        exact ⟨ret_t HX.out, by assumption⟩)
    · have ha0 := h2.1
      have ha1 := h2.2.1
      have HE := Lib.hid (HT5.out h1 (by omega))
      obtain ⟨a, ha⟩ := Int.eq_ofNat_of_zero_le ha0
      have hai : a < i := by omega
      have ca := Lib.hid (CP.out a hai)
      have la := HLN.out a (by omega)
      have pa := cell_next (HOP.out a (by omega)) b2.out
      have pb := cell_next (HOP.out 0 (by omega)) b2.out
      rw [show g.add (0 * 6) = g by simp [Addr.add]] at pb
      have htm := HTM.out h1
      have CO := Lib.hid (fun W => roften_any (nd t.ns i).lo (nd t.ns i).hi W (by omega) (by omega) (by omega) (by omega) (by omega))
      have lo' := often_len (lo := (nd t.ns i).lo) (hi := (nd t.ns i).hi) (by omega) (by omega)
      have hkd : (opB t.ns (nd t.ns i).a [3, 4, 5]) = decide (2 < (nd t.ns a).op) := by
        have h3 := ht.node a (by omega)
        rw [ha, opB_three, Int.toNat_natCast]
        rcases nodeB_ways h3 with ⟨e, _⟩ | ⟨e, _⟩ | ⟨e | e, _⟩ | ⟨e, _⟩ <;> rw [e] <;> decide
      rw [hkd] at HE
      rw [ha, Int.toNat_natCast] at HE
      have hnb : (nd t.ns i).b = 0 := h2.2.2.1
      clear HT1 HT2 HT3 HT4 HT5 HTM CP HOP HLN hss ht hnr h2 ha0 ha1 hkd htm
      unfold Tells at ca ⊢
      generalize textL t.sets t.ns i = E at *
      generalize textL t.sets t.ns a = TA at *
      generalize (nd t.ns a).op = oa at *
      generalize (nd t.ns 0).op = ob at *
      generalize nd t.ns i = n at *
      obtain ⟨op, na, nb, lo, hi', st⟩ := n
      dsimp only at *
      subst h1 ha hnb
      generalize oftenL lo hi' = OF at *
      have w2 := wrap_len (decide (2 < oa)) TA
      obtain ⟨x1, q1, z1, j1⟩ := run_join ⟨(wrapL (decide (2 < oa)) TA).toArray⟩ ⟨OF.toArray⟩ (by rw [size_mk, size_mk]; omega)
      have HX := Lib.hid (show x1 = ⟨E.toArray⟩ by rw [q1, HE.out]; simp [ByteArray.ext_iff])
      clear q1 z1 HE w2
      have ca := Lib.hid (fun v W (h : TreeAt W v t) => ca.out (decide (2 < oa)) v W h)
      generalize wrapL (decide (2 < oa)) TA = PA at *
      go_enter Tryd.func9, Tryd.ntmps9
      go_wp2
      obtain ⟨f0, f1, f2, f3, f4, f5, f6, f7⟩ := HNW.out
      dsimp only at f3 f4 f5 f6
      generalize ((w.alloc (.cells #[.slice (some g) t.ns.length cap, .slice so t.sets.length scap, .int .i64 t.root] 25)).alloc (.cells #[.int .i64 5, .int .i64 (a : Int), .int .i64 0, .int .i64 lo, .int .i64 hi', .int .i64 st] 56)) = W at *
      go_region_held3 (fun W => W.cell? ⟨w.heap.size, 0, none⟩ = some (.slice (some g) t.ns.length cap) ∧ W.cell? ⟨w.heap.size, 1, none⟩ = some (.slice so t.sets.length scap) ∧ W.cell? ⟨w.heap.size, 2, none⟩ = some (.int .i64 t.root) ∧ W.cell? ⟨w.heap.size + 1, 1, none⟩ = some (.int .i64 (a : Int)) ∧ W.cell? ⟨w.heap.size + 1, 2, none⟩ = some (.int .i64 0) ∧ W.cell? ⟨w.heap.size + 1, 3, none⟩ = some (.int .i64 lo) ∧ W.cell? ⟨w.heap.size + 1, 4, none⟩ = some (.int .i64 hi') ∧ Below w.heap.size w W) (first | exact ⟨by assumption, by assumption, by assumption, by assumption, by assumption, by assumption, by assumption, by assumption⟩ | go_keep)
        (first
          | (go_at_call 25; (first | (with_reducible refine (ca.out _ _ (HV.out.next (by assumption))).mono ?_)); rintro e w1 ⟨rfl, hb1⟩; go_must (obtain ⟨q0, q1, q2, q3, q4, q5, q6, q7⟩ := TN.next (w := w) (n := ⟨5, a, 0, lo, hi', st⟩) ⟨by assumption, by assumption, by assumption, by assumption, by assumption, by assumption, by assumption, by assumption⟩ hb1))
          | (go_at_call 26; (with_reducible refine (CO.out _).mono ?_); rintro e w1 ⟨rfl, hw⟩; subst hw)
          | fail)
      all_goals (
        go_wp2
        go_ret
        exact ⟨ret_t HX.out, by assumption⟩)

end Go.Proofs.YtdmceapbobkklaaDoor.Rp

/- step. -/
import Derived.Test.YtfbphiamelongaaDoorClProg
namespace Go.Proofs.YtfbphiamelongaaDoor.Cl
open Go Go.RowKit Go.Shelf
open Go.Proofs.YtfbphiamelongaaDoor.Bt (SetAt setV memL hasI iV own_slice grown_trans grown_cell grown_row two_stores Tab nums mem_nums nums_rise nums_nat)

/-- where some states lead by a byte -/
def toL (l : List St) (c : Int) (pre : List Int) : List Int := pre.flatMap fun x => toF c (st l x.toNat)
theorem toL_snoc (l : List St) (c : Int) (pre : List Int) (i : Nat) : toL l c (pre ++ [(i : Int)]) = toL l c pre ++ toF c (st l i) := by simp [toL]
theorem mem_own {n : Nat} {L : List Nat} {i : Nat} : (i : Int) ∈ ownL n (nums L) ↔ i < n ∧ memL L i = true := by
  unfold ownL
  simp only [List.mem_filter, decide_eq_true_eq, nums_nat]
  constructor
  · rintro ⟨h1, h2⟩; exact ⟨by omega, h1⟩
  · rintro ⟨h1, h2⟩; exact ⟨h2, by omega⟩
theorem own_pos {n : Nat} {L : List Nat} {x : Int} (h : x ∈ ownL n (nums L)) : ∃ i : Nat, x = i := by
  unfold ownL at h
  have := (mem_nums L x).1 (List.mem_filter.1 h).1
  simp only [hasI, Bool.and_eq_true, decide_eq_true_eq] at this
  exact ⟨x.toNat, by omega⟩
theorem mem_toL {l : List St} {L : List Nat} {c : Int} (j : Nat) : (j : Int) ∈ toL l c (ownL l.length (nums L)) ↔ byP l (fun i => memL L i = true) c j := by
  unfold toL byP
  rw [List.mem_flatMap]
  constructor
  · rintro ⟨x, hx, hj⟩
    obtain ⟨i, rfl⟩ := own_pos hx
    obtain ⟨h1, h2⟩ := mem_own.1 hx
    rw [Int.toNat_natCast] at hj
    unfold toF at hj
    split at hj
    · rename_i hc
      exact ⟨i, h1, h2, hc.1, hc.2, (List.mem_singleton.1 hj).symm⟩
    · simp at hj
  · rintro ⟨i, h1, h2, h3, h4, h5⟩
    refine ⟨(i : Int), mem_own.2 ⟨h1, h2⟩, ?_⟩
    rw [Int.toNat_natCast]
    unfold toF
    rw [if_pos ⟨h3, h4⟩, h5]
    exact List.mem_singleton.2 rfl

/-- blocks that were made since are left alone -/
theorem WqAt.guard {W W' : World} {B b : Nat} {a : Int} {sv : Value} {n : Nat} {v : Value} {Q r : List Int} (h : WqAt W B (fun _ => False) b a sv n v Q r) (hb : Below W.heap.size W W') : WqAt W' B (fun k => W.heap.size ≤ k ∧ k < W'.heap.size) b a sv n v Q r := by
  have h' := h.next hb
  obtain ⟨rv, h1, h2, _⟩ := h.box
  obtain ⟨rv', h1', h2', _⟩ := h'.box
  obtain ⟨L, h3, _⟩ := h.set
  have e : rv' = rv := by
    rw [at_next h1 hb] at h1'
    simp only [Option.some.injEq, Obj.cells.injEq] at h1'
    simpa using h1'.1.symm
  subst e
  refine ⟨⟨rv', h1', h2', fun k hk hx => ?_⟩, h'.set, h'.le, h'.ok, fun k hk => hk.2, fun hx => ?_, fun k hk hx => ?_⟩
  · have := (h2.lt k hk).2; omega
  · have := h.lt; omega
  · have := (h3.row.lt k hk).2; omega

/-- the states from which the byte leads on are met one by one -/
theorem each_step (a : Int) (l : List St) (sv : Value) (hn : l.length ≤ 4096) (B B0 room : Nat) (v0 : Value) (L0 : List Nat) (c : Int) (hc0 : 0 ≤ c) (hc1 : c ≤ 255) (b pc pw : Nat) (v : Value) (w W : World) (hT : Tab W) (h : StsAt w sv l) (hset : SetAt W B0 room v0 L0)
    (hwB : w.heap.size ≤ B) (hB : B ≤ W.heap.size) (hW : Below w.heap.size w W) (hq : WqAt W B (fun _ => False) b a sv l.length v [] [])
    (xc : W.heap[pc]? = some (.cells #[.int .u8 c] 5 (0, 0))) (xw : W.heap[pw]? = some (.cells #[.pointer (some ⟨b, 0, none⟩)] 62 (0, 0))) :
    Calls Tryd.prog 50 #[nfaV a sv, setV room v0, .func (.func 51) #[] #[.pointer (some ⟨pc, 0, none⟩), .pointer (some ⟨pw, 0, none⟩)]] W fun e W' => e = .returned (.tuple #[]) ∧ ∃ D, W.heap.size ≤ D ∧
      WqAt W' B (fun k => W.heap.size ≤ k ∧ k < D) b a sv l.length v (meets l.length (toL l c (ownL l.length (nums L0))) ([], [])).1 (meets l.length (toL l c (ownL l.length (nums L0))) ([], [])).2 ∧ Kw B (fun k => W.heap.size ≤ k ∧ k < D) W W' :=
  each_any 51 enters_step1 _ l a sv B B0 room v0 L0 W hT hset w h hwB hB hW
    (fun D pre W' => WqAt W' B (fun k => W.heap.size ≤ k ∧ k < D) b a sv l.length v (meets l.length (toL l c pre) ([], [])).1 (meets l.length (toL l c pre) ([], [])).2 ∧ Kw B (fun k => W.heap.size ≤ k ∧ k < D) W W')
    (fun W' hb => ⟨hq.guard hb, Kw.of_below hb⟩)
    (fun D pre i eo ec W' _ hj _ => by
      refine (step1_any B _ b a sv l.length v _ _ (st l i) eo ec c hc0 hc1 pc pw hn W' hj.1 (hj.2.at_ xc nwtU) (hj.2.at_ xw nwtP)).mono ?_
      rintro e W2 ⟨rfl, h1, h2⟩
      refine ⟨rfl, ⟨?_, hj.2.trans h2⟩, (Fr.of_kw h2).mono (fun k hk => hk)⟩
      rw [toL_snoc, meets_app]
      exact h1)

set_option maxRecDepth 100000 in
set_option maxHeartbeats 4000000 in
theorem step_any (a : Int) (l : List St) (sv : Value) (hn : l.length ≤ 4096) (B0 room : Nat) (v0 : Value) (L0 : List Nat) (c : Int) (hc0 : 0 ≤ c) (hc1 : c ≤ 255) (w : World) (hT : Tab w) (h : StsAt w sv l) (hset : SetAt w B0 room v0 L0) :
    Calls Tryd.prog 35 #[nfaV a sv, setV room v0, .int .u8 c] w fun e w' => ∃ v, e = .returned (setV l.length v) ∧ SetOut w l.length (stepP l (fun i => memL L0 i = true) c) v w' := by
  have H0 := Lib.hid h
  obtain ⟨ao, cap, rfl, _, _⟩ := h.shape
  have HS := Lib.hid (And.intro hT hset)
  obtain ⟨so, sn, sc, rfl⟩ := hset.val
  have b1 := (Below.refl w.heap.size w).alloc (Nat.le_refl _) (.cells #[.int .i64 a, .slice ao l.length cap] 24)
  have b2 := b1.alloc b1.size (.cells #[.int .i64 (room : Nat), .slice so sn sc] 30)
  have b3 := b2.alloc b2.size (.cells #[.int .u8 c] 5)
  have b4 := b3.alloc b3.size (.cells #[.int .i64 0, .slice none 0 0] 30)
  have x1 := at_new w (.cells #[.int .i64 a, .slice ao l.length cap] 24)
  generalize hA1 : w.alloc (.cells #[.int .i64 a, .slice ao l.length cap] 24) = A1 at *
  have s1 : A1.heap.size = w.heap.size + 1 := by rw [← hA1]; exact World.size_alloc _ _
  have x2 := at_new A1 (.cells #[.int .i64 (room : Nat), .slice so sn sc] 30)
  rw [s1] at x2
  replace x1 := at_next x1 ((Below.refl _ _).alloc (Nat.le_refl _) (.cells #[.int .i64 (room : Nat), .slice so sn sc] 30))
  generalize hA2 : A1.alloc (.cells #[.int .i64 (room : Nat), .slice so sn sc] 30) = A2 at *
  have s2 : A2.heap.size = w.heap.size + 2 := by rw [← hA2, World.size_alloc, s1]
  have x3 := at_new A2 (.cells #[.int .u8 c] 5)
  rw [s2] at x3
  replace x1 := at_next x1 ((Below.refl _ _).alloc (Nat.le_refl _) (.cells #[.int .u8 c] 5))
  replace x2 := at_next x2 ((Below.refl _ _).alloc (Nat.le_refl _) (.cells #[.int .u8 c] 5))
  generalize hA3 : A2.alloc (.cells #[.int .u8 c] 5) = A3 at *
  have s3 : A3.heap.size = w.heap.size + 3 := by rw [← hA3, World.size_alloc, s2]
  have x4 := at_new A3 (.cells #[.int .i64 0, .slice none 0 0] 30)
  rw [s3] at x4
  replace x1 := at_next x1 ((Below.refl _ _).alloc (Nat.le_refl _) (.cells #[.int .i64 0, .slice none 0 0] 30))
  replace x2 := at_next x2 ((Below.refl _ _).alloc (Nat.le_refl _) (.cells #[.int .i64 0, .slice none 0 0] 30))
  replace x3 := at_next x3 ((Below.refl _ _).alloc (Nat.le_refl _) (.cells #[.int .i64 0, .slice none 0 0] 30))
  generalize hA4 : A3.alloc (.cells #[.int .i64 0, .slice none 0 0] 30) = A4 at *
  have s4 : A4.heap.size = w.heap.size + 4 := by rw [← hA4, World.size_alloc, s3]
  have R0 := Lib.hid (And.intro b4 (And.intro x1 (And.intro x2 (And.intro x3 x4))))
  have WO := Lib.hid (fun W => walkOf_any a ao l.length cap hn (.slice none 0 0) [] W (.inl ⟨rfl, rfl⟩))
  have P0 : Hid (∀ m, stepP l (fun i => memL L0 i = true) c m ↔ Re nilF l (fun i => (i : Int) ∈ toL l c (ownL l.length (nums L0))) m) := Lib.hid (fun m => Re.congr (fun j _ => (mem_toL j).symm))
  clear h hT hset b1 b2 b3 b4 x1 x2 x3 x4
  unfold nfaV setV
  generalize stepP l (fun i => memL L0 i = true) c = P at *
  go_enter Tryd.func35, Tryd.ntmps35
  go_upto_region 1 with fail
  clear hA1 hA2 hA3 hA4 s1 s2 s3
  have c0 := at_cell R0.out.2.1 0
  have c1 := at_cell R0.out.2.1 1
  have hl := cell_lt c0
  have ES := Lib.hid (fun b v w2 (hB : Below A4.heap.size A4 w2) (hs : A4.heap.size ≤ w2.heap.size) (hq : WqAt w2 A4.heap.size (fun _ => False) b a (.slice ao l.length cap) l.length v (meets l.length [] ([], [])).1 (meets l.length [] ([], [])).2) =>
    each_step a l (.slice ao l.length cap) hn A4.heap.size B0 room _ L0 c hc0 hc1 b (w.heap.size + 2) w2.heap.size v w (w2.alloc (.cells #[.pointer (some ⟨b, 0, none⟩)] 62)) (HS.out.1.next (R0.out.1.trans ((hB.alloc hs _).mono (by omega)))) H0.out (HS.out.2.next (R0.out.1.trans ((hB.alloc hs _).mono (by omega)))) (by omega) (by rw [World.size_alloc]; omega) (R0.out.1.trans ((hB.alloc hs _).mono (by omega)))
      (hq.next ((Below.refl _ w2).alloc (Nat.le_refl _) _)) (at_next R0.out.2.2.2.1 (hB.alloc hs _)) (at_new w2 _))
  have FO := Lib.hid (fun B X b v W2 xs hB1 hB2 hW2 hq => fol_nil l xs B X b a (.slice ao l.length cap) v hn w W2 H0.out hB1 hB2 hW2 hq)
  unfold nfaV setV at ES
  have d0 := at_cell R0.out.2.2.1 0
  have d1 := at_cell R0.out.2.2.1 1
  go_wp2_with (first
    | (go_at_call 31; (with_reducible refine (WO.out _).mono ?_); rintro e w2 ⟨b, v, rfl, h1, h2⟩; go_must (have hsz2 := h2.size; have B2 := Lib.hid h2; have H1 := Lib.hid h1; have e0 := cell_next c0 h2; have e1 := cell_next c1 h2; have e2 := cell_next d0 h2; have e3 := cell_next d1 h2; have hl2 := cell_lt e0; have hl3 := cell_lt e2; clear h1 h2 c0 c1 d0 d1 hl))
    | (go_at_call 50; (with_reducible refine (ES.out b v w2 B2.out hsz2 H1.out).mono ?_); rintro e w3 ⟨rfl, D, hD, hq, hk⟩; go_must (have y5 := hk.at_ (at_new w2 _) nwtP; have y4 := hk.at_ (at_next R0.out.2.2.2.2 (B2.out.alloc hsz2 (.cells #[.pointer (some ⟨b, 0, none⟩)] 62))) nwtB; have z0 := at_cell y5 0; have hl4 := cell_lt z0; have hs3 := hk.size; have B3 := Lib.hid ((B2.out.alloc hsz2 (.cells #[.pointer (some ⟨b, 0, none⟩)] 62)).trans (hk.below (by rw [World.size_alloc]; omega))); have Q3 := Lib.hid (And.intro hq y4); clear y4 y5 hq hk e0 e1 e2 e3 hl2 hl3))
    | (go_at_call 33; (with_reducible refine (FO.out A4.heap.size _ b v w3 _ (by omega) B3.out.size (R0.out.1.trans (B3.out.mono (by omega))) Q3.out.1).mono ?_); rintro e w4 ⟨rfl, ⟨L, hs, hL⟩, hk⟩; obtain ⟨vo, vn, vc, rfl⟩ := hs.val; unfold setV; go_must (have x2 := hk.at_ Q3.out.2 nwtB; have d0 := at_cell x2 0; have d1 := at_cell x2 1; have f0 := at_froz x2 0; have f1 := at_froz x2 1; have hl5 := cell_lt d0; have Z := Lib.hid (And.intro hs (And.intro hL (And.intro hk (And.intro x2 (two_stores (x := .int .i64 (l.length : Nat)) (y := .slice vo vn vc) x2))))); clear hs hL hk x2))
    | fail)
  obtain ⟨hs, hL, hk, x2, m1, m2⟩ := Z.out
  refine bodyPost_ret (results_cell_row rfl _ _ (w.heap.size + 3) 30 #[.int .i64 (l.length : Nat), .slice vo vn vc] (0, 0) _ rfl m1 Tryd.underlying30 rfl (by kernel_rfl)) rfl ?_
  have hb4 : Below w.heap.size w w4 := R0.out.1.trans ((B3.out.trans (hk.below B3.out.size)).mono (by omega))
  exact ⟨_, rfl, L, (hs.kept m2 (ne_row hs.row x2 (by decide))).base (by omega), fun m => by rw [hL, P0.out], hb4.grown m2 hb4.size (fun j e => by cases e; omega)⟩

end Go.Proofs.YtfbphiamelongaaDoor.Cl

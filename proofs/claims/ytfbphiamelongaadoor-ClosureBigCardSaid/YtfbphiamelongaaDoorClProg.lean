/- start, step, best. -/
import Derived.Test.YtfbphiamelongaaDoorClOne
import Derived.Laws.EntriesVeiled
namespace Go.Proofs.YtfbphiamelongaaDoor.Cl
open Go Go.RowKit Go.Shelf
open Go.Proofs.YtfbphiamelongaaDoor.Bt (SetAt setV memL hasI iV own_slice grown_trans grown_cell grown_row two_stores Tab nums mem_nums nums_rise nums_nat)

theorem meets_two (n : Nat) (xs : List Int) : (meets n xs ([], [])).2 = (meets n xs ([], [])).1 := by
  obtain ⟨new, h1, _⟩ := meets_spec n xs [] []
  rw [h1]
theorem meets_mem (n : Nat) (xs : List Int) (x : Int) : x ∈ (meets n xs ([], [])).1 ↔ x ∈ xs ∧ 0 ≤ x ∧ x < n := by
  obtain ⟨new, h1, _, h3, h4⟩ := meets_spec n xs [] []
  rw [h1]
  constructor
  · intro h; exact (h3 x (by simpa using h)).2
  · rintro ⟨h, h5, h6⟩; exact h4 x h h5 h6
theorem meets_inv (f : St → List Int) (l : List St) (xs : List Int) : Inv f l (fun i => (i : Int) ∈ xs) (meets l.length xs ([], [])).1 (meets l.length xs ([], [])).2 := by
  have hq := (QOk.nil l.length).meets xs
  rw [meets_two] at hq ⊢
  have h := Inv.start (f := f) (l := l) hq
  refine ⟨h.ok, fun i hi hs => (meets_mem l.length xs i).2 ⟨hs, by omega, by omega⟩, fun i hi => ?_, h.done⟩
  have := (meets_mem l.length xs i).1 hi
  exact Re.base this.1 (by omega)

theorem one_ints (W : World) (a : Int) : IntsAt (W.alloc (.cells #[.int .i64 a] 3)) (.slice (some ⟨W.heap.size, 0, none⟩) 1 1) [a] := by
  refine .inr ⟨_, 1, rfl, by unfold maxLen; simp, fun i hi => ?_⟩
  obtain rfl : i = 0 := by simpa using hi
  rw [show (⟨W.heap.size, 0, none⟩ : Addr).add 0 = ⟨W.heap.size, 0, none⟩ from rfl, World.cell?_alloc_new]; rfl
theorem enters_nothing : Enters Tryd.prog 34 := enters_of Tryd.func34 (by kernel_rfl) rfl
theorem enters_all : Enters Tryd.prog 41 := enters_of Tryd.func41 (by kernel_rfl) rfl
theorem enters_step1 : Enters Tryd.prog 51 := enters_of Tryd.func51 (by kernel_rfl) rfl
theorem enters_best1 : Enters Tryd.prog 52 := enters_of Tryd.func52 (by kernel_rfl) rfl
theorem fol_nil (l : List St) (xs : List Int) (B : Nat) (X : Nat → Prop) (b : Nat) (a : Int) (sv v : Value) (hn : l.length ≤ 4096) (w0 W : World) (h0 : StsAt w0 sv l) (hw0 : w0.heap.size ≤ B) (hB : B ≤ W.heap.size) (hW0 : Below w0.heap.size w0 W) (h : WqAt W B X b a sv l.length v (meets l.length xs ([], [])).1 (meets l.length xs ([], [])).2) :
    Calls Tryd.prog 33 #[.pointer (some ⟨b, 0, none⟩), .func (.func 34) #[.pointer (some ⟨b, 0, none⟩)] #[]] W fun e W' => FolOut W B X l.length v (Re nilF l (fun i => (i : Int) ∈ xs)) e W' :=
  follow_any _ enters_nothing nilF l _ B X b a sv v _ _ hn (do_nothing B X b a sv l.length v hn) W hB w0 h0 hw0 hW0 h (meets_inv nilF l xs)
theorem fol_all (l : List St) (xs : List Int) (B : Nat) (X : Nat → Prop) (b : Nat) (a : Int) (sv v : Value) (hn : l.length ≤ 4096) (w0 W : World) (h0 : StsAt w0 sv l) (hw0 : w0.heap.size ≤ B) (hB : B ≤ W.heap.size) (hW0 : Below w0.heap.size w0 W) (h : WqAt W B X b a sv l.length v (meets l.length xs ([], [])).1 (meets l.length xs ([], [])).2) :
    Calls Tryd.prog 33 #[.pointer (some ⟨b, 0, none⟩), .func (.func 41) #[.pointer (some ⟨b, 0, none⟩)] #[]] W fun e W' => FolOut W B X l.length v (Re allF l (fun i => (i : Int) ∈ xs)) e W' :=
  follow_any _ enters_all allF l _ B X b a sv v _ _ hn (do_all B X b a sv l.length v hn) W hB w0 h0 hw0 hW0 h (meets_inv allF l xs)

/-- a set of states, made anew -/
def SetOut (w : World) (n : Nat) (P : Nat → Prop) (v : Value) (w' : World) : Prop := ∃ L, SetAt w' w.heap.size n v L ∧ (∀ m, memL L m = true ↔ P m) ∧ Below w.heap.size w w'

set_option maxRecDepth 100000 in
set_option maxHeartbeats 2000000 in
theorem start_any (a : Int) (l : List St) (sv : Value) (hn : l.length ≤ 4096) (w : World) (h : StsAt w sv l) :
    Calls Tryd.prog 36 #[nfaV a sv] w fun e w' => ∃ v, e = .returned (setV l.length v) ∧ SetOut w l.length (startP a l) v w' := by
  have H0 := Lib.hid h
  obtain ⟨ao, cap, rfl, _, _⟩ := h.shape
  have b1 := (Below.refl w.heap.size w).alloc (Nat.le_refl _) (.cells #[.int .i64 a, .slice ao l.length cap] 24)
  have b2 := b1.alloc b1.size (.cells #[.int .i64 0, .slice none 0 0] 30)
  have x1 := at_next (at_new w (.cells #[.int .i64 a, .slice ao l.length cap] 24)) ((Below.refl _ _).alloc (Nat.le_refl _) (.cells #[.int .i64 0, .slice none 0 0] 30))
  have x2 := at_new (w.alloc (.cells #[.int .i64 a, .slice ao l.length cap] 24)) (.cells #[.int .i64 0, .slice none 0 0] 30)
  rw [World.size_alloc] at x2
  have R0 := Lib.hid (And.intro b2 (And.intro x1 x2))
  have WO := Lib.hid (fun W lv l' (hl : IntsAt W lv l') => walkOf_any a ao l.length cap hn lv l' W hl)
  have P0 : Hid (∀ m, startP a l m ↔ Re nilF l (fun i => (i : Int) ∈ [a]) m) := Lib.hid (fun m => Re.congr (fun j _ => by simp))
  clear h b1 b2 x1 x2
  unfold nfaV
  generalize startP a l = P at *
  go_enter Tryd.func36, Tryd.ntmps36
  go_upto_region 1 with fail
  generalize (w.alloc (.cells #[.int .i64 a, .slice ao l.length cap] 24)).alloc (.cells #[.int .i64 0, .slice none 0 0] 30) = W1 at *
  have c0 := at_cell R0.out.2.1 0
  have c1 := at_cell R0.out.2.1 1
  have hl := cell_lt c0
  have FO := Lib.hid (fun (b : Nat) v W2 (hB : Below W1.heap.size W1 W2) (hq : WqAt W2 (W1.alloc (.cells #[.int .i64 a] 3)).heap.size (fun _ => False) b a (.slice ao l.length cap) l.length v (meets l.length [a] ([], [])).1 (meets l.length [a] ([], [])).2) (hB1 : (W1.alloc (.cells #[.int .i64 a] 3)).heap.size ≤ W2.heap.size) => fol_nil l [a] _ _ b a _ v hn w W2 H0.out (by have := R0.out.1.size; rw [World.size_alloc]; omega) hB1 (R0.out.1.trans (hB.mono R0.out.1.size)) hq)
  go_wp2_with (first
    | (go_at_call 31; (with_reducible refine (WO.out _ _ [a] (one_ints W1 a)).mono ?_); rintro e w2 ⟨b, v, rfl, h1, h2⟩; go_must (have hsz2 := h2.size; have B2 := Lib.hid (((Below.refl _ W1).alloc (Nat.le_refl _) (.cells #[.int .i64 a] 3)).trans (h2.mono (by rw [World.size_alloc]; omega))); have H1 := Lib.hid h1; clear h1 h2))
    | (go_at_call 33; (with_reducible refine (FO.out b v w2 B2.out H1.out hsz2).mono ?_); rintro e w3 ⟨rfl, ⟨L, hs, hL⟩, hk⟩; obtain ⟨vo, vn, vc, rfl⟩ := hs.val; unfold setV; go_must (have x2 := hk.at_ (at_next R0.out.2.2 B2.out) nwtB; have d0 := at_cell x2 0; have d1 := at_cell x2 1; have f0 := at_froz x2 0; have f1 := at_froz x2 1; have hl3 := cell_lt d0; have Z := Lib.hid (And.intro hs (And.intro hL (And.intro hk (And.intro x2 (two_stores (x := .int .i64 (l.length : Nat)) (y := .slice vo vn vc) x2))))); clear hs hL hk x2))
    | fail)
  obtain ⟨hs, hL, hk, x2, m1, m2⟩ := Z.out
  refine bodyPost_ret (results_cell_row rfl _ _ (w.heap.size + 1) 30 #[.int .i64 (l.length : Nat), .slice vo vn vc] (0, 0) _ rfl m1 Tryd.underlying30 rfl (by kernel_rfl)) rfl ?_
  have hsz1 := R0.out.1.size
  have hb3 : Below w.heap.size w w3 := R0.out.1.trans ((B2.out.trans (hk.below hsz2 |>.mono (by rw [World.size_alloc]; omega))).mono hsz1)
  refine ⟨_, rfl, L, (hs.kept m2 (ne_row hs.row x2 (by decide))).base (by rw [World.size_alloc]; omega), fun m => by rw [hL, P0.out], hb3.grown m2 hb3.size (fun j e => by cases e; omega)⟩

end Go.Proofs.YtfbphiamelongaaDoor.Cl

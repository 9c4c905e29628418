/- The example: what all statements ask at the end. -/
import Derived.Test.YtfbphiamelongaaDoorClTwo
import Derived.Deep.RegionHeld3
namespace Go.Proofs.YtfbphiamelongaaDoor.Cl
open Go Go.RowKit
open Go.Proofs.YtfbphiamelongaaDoor.Bt (SetAt setV memL Tab grown_row grown_trans)

/-- a set of the example in a box -/
structure SB (W : World) (p : Nat) (vo : Option Addr) (vn vc : Nat) (P : Nat → Prop) : Prop where
  box : W.heap[p]? = some (.cells #[.int .i64 3, .slice vo vn vc] 30 (0, 0))
  set : ∃ B L, SetAt W B 3 (.slice vo vn vc) L ∧ ∀ m, memL L m = true ↔ P m
theorem SB.next {W W' : World} {p : Nat} {vo : Option Addr} {vn vc : Nat} {P : Nat → Prop} (h : SB W p vo vn vc P) (hb : Below W.heap.size W W') : SB W' p vo vn vc P := by
  obtain ⟨B, L, h1, h2⟩ := h.set
  exact ⟨at_next h.box hb, B, L, h1.next hb, h2⟩
/-- a set that the example met, as a value -/
def SV (W : World) (vo : Option Addr) (vn vc : Nat) (P : Nat → Prop) : Prop := ∃ B L, SetAt W B 3 (.slice vo vn vc) L ∧ ∀ m, memL L m = true ↔ P m
theorem SV.next {W W' : World} {vo : Option Addr} {vn vc : Nat} {P : Nat → Prop} (h : SV W vo vn vc P) (hb : Below W.heap.size W W') : SV W' vo vn vc P := by
  obtain ⟨B, L, h1, h2⟩ := h
  exact ⟨B, L, h1.next hb, h2⟩

theorem SB.sv {W : World} {p : Nat} {vo : Option Addr} {vn vc : Nat} {P : Nat → Prop} (h : SB W p vo vn vc P) : SV W vo vn vc P := h.set
/-- a set is stored in a box -/
theorem SB.stored {W : World} {p : Nat} {x y : Value} {vo : Option Addr} {vn vc : Nat} {P : Nat → Prop} (h : SV W vo vn vc P) (hb : W.heap[p]? = some (.cells #[x, y] 30 (0, 0))) :
    SB ((W.setCell ⟨p, 0, none⟩ (.int .i64 3)).setCell ⟨p, 1, none⟩ (.slice vo vn vc)) p vo vn vc P ∧ W.grownBy ((W.setCell ⟨p, 0, none⟩ (.int .i64 3)).setCell ⟨p, 1, none⟩ (.slice vo vn vc)) (some p) := by
  obtain ⟨B, L, h1, h2⟩ := h
  obtain ⟨m1, m2⟩ := Bt.two_stores (x := .int .i64 3) (y := .slice vo vn vc) hb
  exact ⟨⟨m1, B, L, h1.kept m2 (ne_row h1.row hb (by decide)), h2⟩, m2⟩
theorem SB.alloc {W : World} {vo : Option Addr} {vn vc : Nat} {P : Nat → Prop} (h : SV W vo vn vc P) : SB (W.alloc (.cells #[.int .i64 3, .slice vo vn vc] 30)) W.heap.size vo vn vc P := by
  obtain ⟨B, L, h1, h2⟩ := h.next ((Below.refl _ W).alloc (Nat.le_refl _) (.cells #[.int .i64 3, .slice vo vn vc] 30))
  exact ⟨at_new W _, B, L, h1, h2⟩

/-- what stands in a statement that makes the automaton and goes on by a byte -/
abbrev NS (W0 : World) (p : Nat) (vo : Option Addr) (vn vc : Nat) (W : World) : Prop := W.cell? ⟨p, 0, none⟩ = some (.int .i64 3) ∧ W.cell? ⟨p, 1, none⟩ = some (.slice vo vn vc) ∧ Below W0.heap.size W0 W
theorem NS.next {W0 W W' : World} {p : Nat} {vo : Option Addr} {vn vc : Nat} (h : NS W0 p vo vn vc W) (hb : Below W.heap.size W W') : NS W0 p vo vn vc W' := ⟨cell_next h.1 hb, cell_next h.2.1 hb, h.2.2.trans (hb.mono h.2.2.size)⟩
theorem NS.stored {W0 W : World} {p b : Nat} {vo : Option Addr} {vn vc : Nat} {x y : Value} (h : NS W0 p vo vn vc W) (hp : p < W0.heap.size) (hb : W0.heap.size ≤ b) : NS W0 p vo vn vc ((W.setCell ⟨b, 0, none⟩ x).setCell ⟨b, 1, none⟩ y) := by
  have hg := grown_trans (Bt.grown_cell W b 0 x) (Bt.grown_cell _ b 1 y)
  have e : ∀ j, ((W.setCell ⟨b, 0, none⟩ x).setCell ⟨b, 1, none⟩ y).cell? ⟨p, j, none⟩ = W.cell? ⟨p, j, none⟩ := fun j => World.cell?_of_block (hg.block p (by have := h.2.2.size; omega) (by simp; omega))
  exact ⟨(e 0).trans h.1, (e 1).trans h.2.1, h.2.2.grown hg h.2.2.size (fun j e => by cases e; exact hb)⟩
theorem two_in {W0 : World} {p : Nat} {vo : Option Addr} {vn vc : Nat} (W : World) (h : NS W0 p vo vn vc W) : Calls Tryd.prog 27 #[] W fun e w' => (∃ v, e = .returned v ∧ NfaAt w' v 2 twoL) ∧ Below W.heap.size W w' ∧ NS W0 p vo vn vc w' := by
  refine (two_any W).mono ?_
  rintro e w' ⟨v, rfl, h1, h2⟩
  exact ⟨⟨v, rfl, h1⟩, h2, h.next h2⟩
theorem step_in {w W0 : World} {p : Nat} {vo : Option Addr} {vn vc : Nat} (hT : Tab w) (hw : Below w.heap.size w W0) {P R : Nat → Prop} (c : Int) (hc : 0 ≤ c ∧ c ≤ 255) (hs : SV W0 vo vn vc P) (hR : ∀ L : List Nat, (∀ m, memL L m = true ↔ P m) → ∀ m, stepP twoL (fun i => memL L i = true) c m ↔ R m) (W : World) (v : Value) (h : NS W0 p vo vn vc W) (hn : NfaAt W v 2 twoL) :
    Calls Tryd.prog 10 #[v, .agg #[.int .i64 3, .slice vo vn vc], .int .u8 c] W fun e W' => (∃ vo vn vc, e = .returned (.tuple #[.agg #[.int .i64 3, .slice vo vn vc], .int .i64 0]) ∧ SV W' vo vn vc R) ∧ Below W.heap.size W W' ∧ NS W0 p vo vn vc W' := by
  obtain ⟨B, L, h1, h2⟩ := hs.next h.2.2
  refine (Step_yes 2 twoL v B 3 (.slice vo vn vc) L c hc.1 hc.2 W hn (hT.next (hw.trans (h.2.2.mono hw.size))) h1 two_fault).mono ?_
  rintro e W' ⟨v, rfl, L', k1, k2, k3⟩
  obtain ⟨wo, wn, wc, rfl⟩ := k1.val
  exact ⟨⟨wo, wn, wc, rfl, _, L', k1, fun m => (k2 m).trans (hR L h2 m)⟩, k3, h.next k3⟩

/-- three sets in boxes -/
abbrev NT (W0 : World) (p2 : Nat) (ao : Option Addr) (an ac : Nat) (p3 : Nat) (bo : Option Addr) (bn bc : Nat) (p4 : Nat) (co : Option Addr) (cn cc : Nat) (W : World) : Prop :=
  W.cell? ⟨p2, 0, none⟩ = some (.int .i64 3) ∧ W.cell? ⟨p2, 1, none⟩ = some (.slice ao an ac) ∧ W.cell? ⟨p3, 0, none⟩ = some (.int .i64 3) ∧ W.cell? ⟨p3, 1, none⟩ = some (.slice bo bn bc) ∧ W.cell? ⟨p4, 0, none⟩ = some (.int .i64 3) ∧ W.cell? ⟨p4, 1, none⟩ = some (.slice co cn cc) ∧ Below W0.heap.size W0 W
theorem NT.next {W0 W W' : World} {p2 : Nat} {ao : Option Addr} {an ac p3 : Nat} {bo : Option Addr} {bn bc p4 : Nat} {co : Option Addr} {cn cc : Nat} (h : NT W0 p2 ao an ac p3 bo bn bc p4 co cn cc W) (hb : Below W.heap.size W W') : NT W0 p2 ao an ac p3 bo bn bc p4 co cn cc W' :=
  ⟨cell_next h.1 hb, cell_next h.2.1 hb, cell_next h.2.2.1 hb, cell_next h.2.2.2.1 hb, cell_next h.2.2.2.2.1 hb, cell_next h.2.2.2.2.2.1 hb, h.2.2.2.2.2.2.trans (hb.mono h.2.2.2.2.2.2.size)⟩
theorem txt_in {w W : World} (hT : Tab w) (hb : Below w.heap.size w W) (v : Value) (hn : NfaAt W v 2 twoL) : Calls Tryd.prog 25 #[v, .string ⟨#[97, 98]⟩] W fun e W' => e = .returned (.tuple #[.int .i64 7, .int .i64 0]) ∧ Below W.heap.size W W' := by
  refine (Run_yes 2 twoL v ⟨#[97, 98]⟩ (by decide) W two_tags hn (hT.next hb) two_fault).mono ?_
  rintro e W' ⟨t, rfl, h1, h2⟩
  obtain rfl := two_run h1
  exact ⟨rfl, h2⟩
theorem alive_in {w W0 : World} (hT : Tab w) (hw : Below w.heap.size w W0) {vo : Option Addr} {vn vc : Nat} {P : Nat → Prop} (q : Bool) (hs : SV W0 vo vn vc P) (hq : ∀ L : List Nat, (∀ m, memL L m = true ↔ P m) → (aliveP twoL (fun i => memL L i = true) ↔ q = true)) (W : World) (v : Value) (hb : Below W0.heap.size W0 W) (hn : NfaAt W v 2 twoL) :
    Calls Tryd.prog 15 #[v, .agg #[.int .i64 3, .slice vo vn vc]] W fun e W' => e = .returned (.bool q) ∧ Below W.heap.size W W' := by
  obtain ⟨B, L, h1, h2⟩ := hs.next hb
  refine (Alive_yes 2 twoL v B 3 (.slice vo vn vc) L W two_tags hn (hT.next (hw.trans (hb.mono hw.size))) h1 two_fault).mono ?_
  rintro e W' ⟨q2, rfl, k1, k2⟩
  have : q2 = q := by rw [Bool.eq_iff_iff]; exact k1.trans (hq L h2)
  rw [this]
  exact ⟨rfl, k2⟩
theorem best_in {w W0 : World} (hT : Tab w) (hw : Below w.heap.size w W0) {vo : Option Addr} {vn vc : Nat} {P : Nat → Prop} (hs : SV W0 vo vn vc P) (hP : ∀ m, P m ↔ m = 0) (W : World) (v : Value) (hb : Below W0.heap.size W0 W) (hn : NfaAt W v 2 twoL) :
    Calls Tryd.prog 14 #[v, .agg #[.int .i64 3, .slice vo vn vc]] W fun e W' => e = .returned (.int .i64 7) ∧ Below W.heap.size W W' := by
  obtain ⟨B, L, h1, h2⟩ := hs.next hb
  refine (Best_yes 2 twoL v B 3 (.slice vo vn vc) L W two_tags hn (hT.next (hw.trans (hb.mono hw.size))) h1 two_fault).mono ?_
  rintro e W' ⟨t, rfl, k1, k2⟩
  obtain rfl := two_best k1 (fun i => (h2 i).trans (hP i))
  exact ⟨rfl, k2⟩

set_option maxRecDepth 100000 in
set_option maxHeartbeats 4000000 in
theorem alive_any (w : World) (hT : Tab w) : Calls Tryd.prog 7 #[] w fun e w' => e = .returned (.bool true) ∧ Below w.heap.size w w' := by
  have HT := Lib.hid (fun W (h : Below w.heap.size w W) => hT.next h)
  have TW := Lib.hid (fun W => two_any W)
  have ST := Lib.hid (fun W v (h : NfaAt W v 2 twoL) => show Calls Tryd.prog 11 #[v] W (fun e W' => (∃ vo vn vc, e = .returned (.tuple #[.agg #[.int .i64 3, .slice vo vn vc], .int .i64 0]) ∧ SV W' vo vn vc (fun m => m = 2)) ∧ Below W.heap.size W W') from (Start_yes 2 twoL v W h two_fault).mono (by
    rintro e W' ⟨v, rfl, L, h1, h2, h3⟩
    obtain ⟨vo, vn, vc, rfl⟩ := h1.val
    exact ⟨⟨vo, vn, vc, rfl, _, L, h1, fun m => (h2 m).trans two_start⟩, h3⟩))
  go_enter Tryd.func7, Tryd.ntmps7
  go_wp2_with (first
    | (go_at_call 27; (with_reducible refine (TW.out _).mono ?_); rintro e w1 ⟨v1, rfl, h1, h2⟩; go_must (have H1 := Lib.hid (And.intro h1 h2); clear h1 h2))
    | (go_at_call 11; (with_reducible refine (ST.out _ _ H1.out.1).mono ?_); rintro e w2 ⟨⟨vo1, vn1, vc1, rfl, h1⟩, h2⟩; go_must (have B2 := Lib.hid (H1.out.2.trans (h2.mono H1.out.2.size)); have S2 := Lib.hid h1; clear h1 h2))
    | fail)
  have B3 := Lib.hid (B2.out.alloc B2.out.size (.cells #[.int .i64 3, .slice vo1 vn1 vc1] 30))
  have S3 := Lib.hid (SB.alloc S2.out)
  generalize w2.heap.size = p1 at *
  generalize w2.alloc (.cells #[.int .i64 3, .slice vo1 vn1 vc1] 30) = W3 at *
  go_cut [3] from 11 (fun s3 wx => ∃ p vo vn vc, s3 = .pointer (some ⟨p, 0, none⟩) ∧ SB wx p vo vn vc (fun m => m = 1) ∧ Below W3.heap.size W3 wx)
  case first =>
    have TW2 := Lib.hid (fun W (h : NS W3 p1 vo1 vn1 vc1 W) => two_in W h)
    have C2 := Lib.hid (fun W v (h : NS W3 p1 vo1 vn1 vc1 W) hn => step_in (R := fun m => m = 1) hT B3.out 97 (by omega) S3.out.sv (fun L hL m => two_step (j := 2) hL (by omega) (by decide) (by decide) (by omega)) W v h hn)
    have c0 := at_cell S3.out.box 0
    have c1 := at_cell S3.out.box 1
    have hlt : p1 < W3.heap.size := cell_lt c0
    go_region_held3 (fun W => W.cell? ⟨p1, 0, none⟩ = some (.int .i64 3) ∧ W.cell? ⟨p1, 1, none⟩ = some (.slice vo1 vn1 vc1) ∧ Below W3.heap.size W3 W) (first | assumption | exact ⟨c0, c1, (Below.refl _ W3).drew⟩ | exact NS.next (by assumption) ((Below.refl _ _).alloc (Nat.le_refl _) _) | exact NS.stored (by assumption) hlt (by first | assumption | exact Nat.le_refl _) | go_keep)
      (first
      | (go_at_call 27; (with_reducible refine (TW2.out _ (by assumption)).mono ?_); rintro e w4 ⟨⟨v4, rfl, h1⟩, h2, hS'⟩; go_must (have H4 := Lib.hid h1; have hz4 := hS'.2.2.size; (try have y4 : w4.heap[W3.heap.size]? = some (.cells #[.int .i64 0, .slice none 0 0] 30 (0, 0)) := at_next (at_new W3.drew _) h2); clear h1 h2))
      | (go_at_call 10; (refine (C2.out _ _ (by assumption) (by first | exact H4.out | exact H4.out.next ((Below.refl _ _).alloc (Nat.le_refl _) _))).mono ?_); rintro e w5 ⟨⟨vo5, vn5, vc5, rfl, h1⟩, h2, hS'⟩; go_must (have H5 := Lib.hid h1; (first | have y5 : w5.heap[w4.heap.size]? = some (.cells #[.int .i64 0, .slice none 0 0] 30 (0, 0)) := at_next (at_new w4 _) h2 | have y5 : w5.heap[W3.heap.size]? = some (.cells #[.int .i64 0, .slice none 0 0] 30 (0, 0)) := at_next y4 h2 | skip); (try have z0 := at_cell y5 0); (try have z1 := at_cell y5 1); (try have z2 := at_froz y5 0); (try have z3 := at_froz y5 1); clear h1 h2))
      | fail)
    all_goals
      try go_wp2_with fail
      go_meet
      case rel =>
        have bw := hS'.2.2
        first
          | exact ⟨_, vo5, vn5, vc5, rfl, SB.alloc H5.out, bw.alloc bw.size _⟩
          | exact ⟨_, vo5, vn5, vc5, rfl, (SB.stored H5.out y5).1, bw.grown (SB.stored H5.out y5).2 bw.size (fun j e => by cases e; first | assumption | exact Nat.le_refl _)⟩
  case rest =>
    obtain ⟨p2, ao, an, ac, rfl, hs, hb⟩ := hcut
    have SA := Lib.hid hs
    have B4 := Lib.hid (B3.out.trans (hb.mono B3.out.size))
    have HBW4 := Lib.hid hb
    obtain ⟨W4, rfl⟩ : ∃ x, x = wc := ⟨_, rfl⟩
    clear hs hb
    go_wp2
    go_cut [5] from 11 (fun s3 wx => ∃ p vo vn vc, s3 = .pointer (some ⟨p, 0, none⟩) ∧ SB wx p vo vn vc (fun m => m = 0) ∧ Below W4.heap.size W4 wx)
    case first =>
      have TW2 := Lib.hid (fun W (h : NS W4 p2 ao an ac W) => two_in W h)
      have C2 := Lib.hid (fun W v (h : NS W4 p2 ao an ac W) hn => step_in (R := fun m => m = 0) hT B4.out 98 (by omega) SA.out.sv (fun L hL m => two_step (j := 1) hL (by omega) (by decide) (by decide) (by omega)) W v h hn)
      have c0 := at_cell SA.out.box 0
      have c1 := at_cell SA.out.box 1
      have hlt : p2 < W4.heap.size := cell_lt c0
      go_region_held3 (fun W => W.cell? ⟨p2, 0, none⟩ = some (.int .i64 3) ∧ W.cell? ⟨p2, 1, none⟩ = some (.slice ao an ac) ∧ Below W4.heap.size W4 W) (first | assumption | exact ⟨c0, c1, (Below.refl _ W4).drew⟩ | exact NS.next (by assumption) ((Below.refl _ _).alloc (Nat.le_refl _) _) | exact NS.stored (by assumption) hlt (by first | assumption | exact Nat.le_refl _) | go_keep)
        (first
        | (go_at_call 27; (with_reducible refine (TW2.out _ (by assumption)).mono ?_); rintro e w4 ⟨⟨v4, rfl, h1⟩, h2, hS'⟩; go_must (have H4 := Lib.hid h1; have hz4 := hS'.2.2.size; (try have y4 : w4.heap[W4.heap.size]? = some (.cells #[.int .i64 0, .slice none 0 0] 30 (0, 0)) := at_next (at_new W4.drew _) h2); clear h1 h2))
        | (go_at_call 10; (refine (C2.out _ _ (by assumption) (by first | exact H4.out | exact H4.out.next ((Below.refl _ _).alloc (Nat.le_refl _) _))).mono ?_); rintro e w5 ⟨⟨vo5, vn5, vc5, rfl, h1⟩, h2, hS'⟩; go_must (have H5 := Lib.hid h1; (first | have y5 : w5.heap[w4.heap.size]? = some (.cells #[.int .i64 0, .slice none 0 0] 30 (0, 0)) := at_next (at_new w4 _) h2 | have y5 : w5.heap[W4.heap.size]? = some (.cells #[.int .i64 0, .slice none 0 0] 30 (0, 0)) := at_next y4 h2 | skip); (try have z0 := at_cell y5 0); (try have z1 := at_cell y5 1); (try have z2 := at_froz y5 0); (try have z3 := at_froz y5 1); clear h1 h2))
        | fail)
      all_goals
        try go_wp2_with fail
        go_meet
        case rel =>
          have bw := hS'.2.2
          first
            | exact ⟨_, vo5, vn5, vc5, rfl, SB.alloc H5.out, bw.alloc bw.size _⟩
            | exact ⟨_, vo5, vn5, vc5, rfl, (SB.stored H5.out y5).1, bw.grown (SB.stored H5.out y5).2 bw.size (fun j e => by cases e; first | assumption | exact Nat.le_refl _)⟩
    case rest =>
      obtain ⟨p3, bo, bn, bc, rfl, hs, hb⟩ := hcut
      have SB2 := Lib.hid hs
      have B5 := Lib.hid (B4.out.trans (hb.mono B4.out.size))
      have HBW5 := Lib.hid hb
      obtain ⟨W5, rfl⟩ : ∃ x, x = wc := ⟨_, rfl⟩
      clear hs hb
      go_wp2
      go_cut [7] from 11 (fun s3 wx => ∃ p vo vn vc, s3 = .pointer (some ⟨p, 0, none⟩) ∧ SB wx p vo vn vc (fun m => False) ∧ Below W5.heap.size W5 wx)
      case first =>
        have TW2 := Lib.hid (fun W (h : NS W5 p3 bo bn bc W) => two_in W h)
        have C2 := Lib.hid (fun W v (h : NS W5 p3 bo bn bc W) hn => step_in (R := fun m => False) hT B5.out 98 (by omega) SB2.out.sv (fun L hL m => ⟨fun h => two_stop (j := 0) hL (by decide) h, fun h => h.elim⟩) W v h hn)
        have c0 := at_cell SB2.out.box 0
        have c1 := at_cell SB2.out.box 1
        have hlt : p3 < W5.heap.size := cell_lt c0
        go_region_held3 (fun W => W.cell? ⟨p3, 0, none⟩ = some (.int .i64 3) ∧ W.cell? ⟨p3, 1, none⟩ = some (.slice bo bn bc) ∧ Below W5.heap.size W5 W) (first | assumption | exact ⟨c0, c1, (Below.refl _ W5).drew⟩ | exact NS.next (by assumption) ((Below.refl _ _).alloc (Nat.le_refl _) _) | exact NS.stored (by assumption) hlt (by first | assumption | exact Nat.le_refl _) | go_keep)
          (first
          | (go_at_call 27; (with_reducible refine (TW2.out _ (by assumption)).mono ?_); rintro e w4 ⟨⟨v4, rfl, h1⟩, h2, hS'⟩; go_must (have H4 := Lib.hid h1; have hz4 := hS'.2.2.size; (try have y4 : w4.heap[W5.heap.size]? = some (.cells #[.int .i64 0, .slice none 0 0] 30 (0, 0)) := at_next (at_new W5.drew _) h2); clear h1 h2))
          | (go_at_call 10; (refine (C2.out _ _ (by assumption) (by first | exact H4.out | exact H4.out.next ((Below.refl _ _).alloc (Nat.le_refl _) _))).mono ?_); rintro e w5 ⟨⟨vo5, vn5, vc5, rfl, h1⟩, h2, hS'⟩; go_must (have H5 := Lib.hid h1; (first | have y5 : w5.heap[w4.heap.size]? = some (.cells #[.int .i64 0, .slice none 0 0] 30 (0, 0)) := at_next (at_new w4 _) h2 | have y5 : w5.heap[W5.heap.size]? = some (.cells #[.int .i64 0, .slice none 0 0] 30 (0, 0)) := at_next y4 h2 | skip); (try have z0 := at_cell y5 0); (try have z1 := at_cell y5 1); (try have z2 := at_froz y5 0); (try have z3 := at_froz y5 1); clear h1 h2))
          | fail)
        all_goals
          try go_wp2_with fail
          go_meet
          case rel =>
            have bw := hS'.2.2
            first
              | exact ⟨_, vo5, vn5, vc5, rfl, SB.alloc H5.out, bw.alloc bw.size _⟩
              | exact ⟨_, vo5, vn5, vc5, rfl, (SB.stored H5.out y5).1, bw.grown (SB.stored H5.out y5).2 bw.size (fun j e => by cases e; first | assumption | exact Nat.le_refl _)⟩
      case rest =>
        obtain ⟨p4, co, cn, cc, rfl, hs, hb⟩ := hcut
        have SC := Lib.hid hs
        have B6 := Lib.hid (B5.out.trans (hb.mono B5.out.size))
        have HBW6 := Lib.hid hb
        obtain ⟨W6, rfl⟩ : ∃ x, x = wc := ⟨_, rfl⟩
        clear hs hb
        have RU := Lib.hid (fun W v hb hn => txt_in (W := W) hT hb v hn)
        go_wp2_with (first
          | (go_at_call 27; (with_reducible refine (TW.out _).mono ?_); rintro e w7 ⟨v7, rfl, h1, h2⟩; go_must (have H7 := Lib.hid (And.intro h1 h2); clear h1 h2))
          | (go_at_call 25; (refine (RU.out w7 v7 (B6.out.trans (H7.out.2.mono B6.out.size)) H7.out.1).mono ?_); rintro e w8 ⟨rfl, h1⟩; go_must (have H8 := Lib.hid (H7.out.2.trans (h1.mono H7.out.2.size)); clear h1))
          | fail)
        have A8 := Lib.hid (((SA.out.next HBW5.out).next HBW6.out).next H8.out)
        have B8 := Lib.hid ((SB2.out.next HBW6.out).next H8.out)
        have C8 := Lib.hid (SC.out.next H8.out)
        have BB := Lib.hid (B6.out.trans (H8.out.mono B6.out.size))
        have TW3 := Lib.hid (fun W (h : NT w8 p2 ao an ac p3 bo bn bc p4 co cn cc W) => show Calls Tryd.prog 27 #[] W (fun e w' => (∃ v, e = .returned v ∧ NfaAt w' v 2 twoL) ∧ NT w8 p2 ao an ac p3 bo bn bc p4 co cn cc w') from (two_any W).mono (by rintro e w' ⟨v, rfl, k1, k2⟩; exact ⟨⟨v, rfl, k1⟩, h.next k2⟩))
        have QA := Lib.hid (fun W v (h : NT w8 p2 ao an ac p3 bo bn bc p4 co cn cc W) hn => show Calls Tryd.prog 15 #[v, .agg #[.int .i64 3, .slice ao an ac]] W (fun e w' => e = .returned (.bool true) ∧ NT w8 p2 ao an ac p3 bo bn bc p4 co cn cc w') from (alive_in hT BB.out true A8.out.sv (fun L hL => ⟨fun _ => rfl, fun _ => two_alive hL⟩) W v h.2.2.2.2.2.2 hn).mono (by rintro e w' ⟨rfl, k2⟩; exact ⟨rfl, h.next k2⟩))
        have QB := Lib.hid (fun W v (h : NT w8 p2 ao an ac p3 bo bn bc p4 co cn cc W) hn => show Calls Tryd.prog 14 #[v, .agg #[.int .i64 3, .slice bo bn bc]] W (fun e w' => e = .returned (.int .i64 7) ∧ NT w8 p2 ao an ac p3 bo bn bc p4 co cn cc w') from (best_in hT BB.out B8.out.sv (fun m => Iff.rfl) W v h.2.2.2.2.2.2 hn).mono (by rintro e w' ⟨rfl, k2⟩; exact ⟨rfl, h.next k2⟩))
        have QC := Lib.hid (fun W v (h : NT w8 p2 ao an ac p3 bo bn bc p4 co cn cc W) hn => show Calls Tryd.prog 15 #[v, .agg #[.int .i64 3, .slice co cn cc]] W (fun e w' => e = .returned (.bool false) ∧ NT w8 p2 ao an ac p3 bo bn bc p4 co cn cc w') from (alive_in hT BB.out false C8.out.sv (fun L hL => ⟨fun h => absurd h (two_dead (fun i hi => (hL i).1 hi)), fun h => by cases h⟩) W v h.2.2.2.2.2.2 hn).mono (by rintro e w' ⟨rfl, k2⟩; exact ⟨rfl, h.next k2⟩))
        have N0 := Lib.hid (show NT w8 p2 ao an ac p3 bo bn bc p4 co cn cc w8 from ⟨at_cell A8.out.box 0, at_cell A8.out.box 1, at_cell B8.out.box 0, at_cell B8.out.box 1, at_cell C8.out.box 0, at_cell C8.out.box 1, Below.refl _ _⟩)
        clear hT HT TW ST RU H1 B2 S2 B3 S3 SA B4 HBW4 SB2 B5 HBW5 SC B6 HBW6 H7 H8 A8 B8 C8
        go_region_held3 (fun W => W.cell? ⟨p2, 0, none⟩ = some (.int .i64 3) ∧ W.cell? ⟨p2, 1, none⟩ = some (.slice ao an ac) ∧ W.cell? ⟨p3, 0, none⟩ = some (.int .i64 3) ∧ W.cell? ⟨p3, 1, none⟩ = some (.slice bo bn bc) ∧ W.cell? ⟨p4, 0, none⟩ = some (.int .i64 3) ∧ W.cell? ⟨p4, 1, none⟩ = some (.slice co cn cc) ∧ Below w8.heap.size w8 W) (first | assumption | exact NT.next N0.out ((Below.refl _ _).drew) | go_keep)
          (first
          | (go_at_call 27; (with_reducible refine (TW3.out _ (by assumption)).mono ?_); rintro e w9 ⟨⟨v9, rfl, h1⟩, hS'⟩; go_must (have H9 := Lib.hid h1; clear h1))
          | (go_at_call 15; (first | (with_reducible refine (QA.out _ _ (by assumption) H9.out).mono ?_) | (with_reducible refine (QC.out _ _ (by assumption) H9.out).mono ?_)); rintro e w10 ⟨rfl, hS'⟩)
          | (go_at_call 14; (with_reducible refine (QB.out _ _ (by assumption) H9.out).mono ?_); rintro e w10 ⟨rfl, hS'⟩)
          | fail)
        go_wp2
        go_ret
        exact ⟨rfl, BB.out.trans (hS'.2.2.2.2.2.2.mono BB.out.size)⟩

end Go.Proofs.YtfbphiamelongaaDoor.Cl

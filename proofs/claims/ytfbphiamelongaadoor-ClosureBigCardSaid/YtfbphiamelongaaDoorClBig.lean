/- The third law. -/
import Derived.Test.YtfbphiamelongaaDoorClLaw1
import Derived.Test.YtfbphiamelongaaDoorClRRun
import Derived.Test.YtfbphiamelongaaDoorClRSet
import Derived.Test.YtfbphiamelongaaDoorClSame
import Derived.Deep.AppendLies
namespace Go.Proofs.YtfbphiamelongaaDoor.Cl
open Go Go.RowKit
open Go.Proofs.YtfbphiamelongaaDoor.Bt (SetAt setV memL Tab grown_row grown_trans grown_cell OfOut of_any roomF ofB nums)

def sN : St := ⟨-1, -1, -1, [], -1⟩
def cellsN : List Value := [.int .i64 (-1), .int .i64 (-1), .int .i64 (-1), .slice none 0 0, .int .i64 (-1)]
def bigV : Nat → List Value
  | 0 => []
  | k + 1 => bigV k ++ cellsN
theorem bigV_len : ∀ k, (bigV k).length = k * 5
  | 0 => rfl
  | k + 1 => by rw [bigV, List.length_append, bigV_len k]; simp [cellsN]; omega
theorem bigV_at : ∀ (k i j : Nat), i < k → j < 5 → (bigV k)[i * 5 + j]? = cellsN[j]?
  | 0, i, j, h, _ => by omega
  | k + 1, i, j, h, hj => by
    rw [bigV]
    rcases Nat.lt_or_ge i k with h1 | h1
    · rw [List.getElem?_append_left (by rw [bigV_len]; omega)]
      exact bigV_at k i j h1 hj
    · obtain rfl : i = k := by omega
      rw [List.getElem?_append_right (by rw [bigV_len]; omega), bigV_len]
      congr 1
      omega
theorem infoN : (Tryd.prog.info? 56).map (fun i => (i.zero, i.size, i.bytes)) = some (some (.agg #[.int .i64 0, .int .i64 0, .int .i64 0, .slice none 0 0, .int .i64 0]), 5, 56) := by kernel_rfl
theorem sts_of_row {w : World} {B k : Nat} {v : Value} (h : w.ownsRow B 56 5 v k (bigV k)) : StsAt w v (List.replicate k sN) := by
  have h2 := h
  rcases h.2 with ⟨rfl, rfl⟩ | ⟨g, cap, cur, rfl, hb, hg, hn, hm, hcs, ht⟩
  · exact .inl ⟨rfl, rfl⟩
  · refine .inr ⟨⟨g, 0, none⟩, cap, by simp, by simp; omega, fun i hi => ⟨none, 0, ?_⟩⟩
    have hi' : i < k := by simpa using hi
    have e : st (List.replicate k sN) i = sN := by simp [st, List.getD, hi']
    have c : ∀ j, j < 5 → w.cell? ⟨g, i * 5 + j, none⟩ = cellsN[j]? := fun j hj => by
      rw [World.ownsRow.cellAt h2 (i * 5 + j) (by omega)]
      exact bigV_at k i j hi' hj
    rw [e, add_zero]
    exact ⟨c 0 (by omega), c 1 (by omega), c 2 (by omega), c 3 (by omega), c 4 (by omega), .inl ⟨rfl, rfl⟩⟩

theorem own_nx {w w' : World} {B : Nat} {e : TypeId} {s n : Nat} {v : Value} {xs : List Value} (h : w.ownsRow B e s v n xs) (hb : Below w.heap.size w w') : w'.ownsRow B e s v n xs := h.kept (grown_row (row := none) hb) (Classical.em _)
/-- what the loop gathers, in its box -/
def NB (w : World) (k : Nat) (W : World) : Prop := ∃ v, W.heap[w.heap.size]? = some (.cells #[.int .i64 0, v] 24 (0, 0)) ∧ W.ownsRow w.heap.size 56 5 v k (bigV k) ∧ Below w.heap.size w W
theorem NB.next {w W W' : World} {k g cap : Nat} {v : Value} (hbx : W.heap[w.heap.size]? = some (.cells #[.int .i64 0, v] 24 (0, 0))) (hr : W.ownsRow w.heap.size 56 5 v k (bigV k)) (hb : Below w.heap.size w W)
    (hg : (W.alloc (.cells #[.int .i64 (-1), .int .i64 (-1), .int .i64 (-1), .slice none 0 0, .int .i64 (-1)] 56)).grownBy W' v.ownBlock) (ho : W'.ownsRow w.heap.size 56 5 (.slice (some ⟨g, 0, none⟩) (k + 1) cap) (k + 1) (bigV k ++ cellsN)) :
    W'.heap[w.heap.size]? = some (.cells #[.int .i64 0, v] 24 (0, 0)) ∧ NB w (k + 1) (W'.setCell ⟨w.heap.size, 1, none⟩ (.slice (some ⟨g, 0, none⟩) (k + 1) cap)) := by
  have bA := (Below.refl W.heap.size W).alloc (Nat.le_refl _) (.cells #[.int .i64 (-1), .int .i64 (-1), .int .i64 (-1), .slice none 0 0, .int .i64 (-1)] 56)
  have hr1 := hr.kept (grown_row (row := none) bA) (Classical.em _)
  have x1 := at_next hbx bA
  have x2 := at_kept x1 hg (ne_row hr1 x1 (by decide))
  have hb1 := hb.alloc hb.size (.cells #[.int .i64 (-1), .int .i64 (-1), .int .i64 (-1), .slice none 0 0, .int .i64 (-1)] 56)
  have hb2 := hb1.grown hg hb1.size (fun j e => (World.ownsRow.lt hr1 j e).1)
  have hs := grown_cell W' w.heap.size 1 (.slice (some ⟨g, 0, none⟩) (k + 1) cap)
  exact ⟨x2, _, heap_setCell_same W' w.heap.size 1 _ _ _ x2, ho.kept hs (ne_row ho x2 (by decide)), hb2.grown hs hb2.size (fun j e => by cases e; exact Nat.le_refl _)⟩

/-- what stands where the automaton is made and goes on by a byte from a set of any room -/
abbrev NR (W0 : World) (p room : Nat) (vo : Option Addr) (vn vc : Nat) (W : World) : Prop := W.cell? ⟨p, 0, none⟩ = some (.int .i64 (room : Nat)) ∧ W.cell? ⟨p, 1, none⟩ = some (.slice vo vn vc) ∧ Below W0.heap.size W0 W
theorem NR.next {W0 W W' : World} {p room : Nat} {vo : Option Addr} {vn vc : Nat} (h : NR W0 p room vo vn vc W) (hb : Below W.heap.size W W') : NR W0 p room vo vn vc W' := ⟨cell_next h.1 hb, cell_next h.2.1 hb, h.2.2.trans (hb.mono h.2.2.size)⟩
theorem NR.stored {W0 W : World} {p room b : Nat} {vo : Option Addr} {vn vc : Nat} {x y : Value} (h : NR W0 p room vo vn vc W) (hp : p < W0.heap.size) (hb : W0.heap.size ≤ b) : NR W0 p room vo vn vc ((W.setCell ⟨b, 0, none⟩ x).setCell ⟨b, 1, none⟩ y) := by
  have hg := grown_trans (Bt.grown_cell W b 0 x) (Bt.grown_cell _ b 1 y)
  have e : ∀ j, ((W.setCell ⟨b, 0, none⟩ x).setCell ⟨b, 1, none⟩ y).cell? ⟨p, j, none⟩ = W.cell? ⟨p, j, none⟩ := fun j => World.cell?_of_block (hg.block p (by have := h.2.2.size; omega) (by simp; omega))
  exact ⟨(e 0).trans h.1, (e 1).trans h.2.1, h.2.2.grown hg h.2.2.size (fun j e => by cases e; exact hb)⟩
theorem two_nr {W0 : World} {p room : Nat} {vo : Option Addr} {vn vc : Nat} (W : World) (h : NR W0 p room vo vn vc W) : Calls Tryd.prog 27 #[] W fun e w' => (∃ v, e = .returned v ∧ NfaAt w' v 2 twoL) ∧ Below W.heap.size W w' ∧ NR W0 p room vo vn vc w' := by
  refine (two_any W).mono ?_
  rintro e w' ⟨v, rfl, h1, h2⟩
  exact ⟨⟨v, rfl, h1⟩, h2, h.next h2⟩
theorem step_nr {w W0 : World} {p room B : Nat} {vo : Option Addr} {vn vc : Nat} {L : List Nat} (hT : Tab w) (hw : Below w.heap.size w W0) (hs : SetAt W0 B room (.slice vo vn vc) L) (W : World) (v : Value) (h : NR W0 p room vo vn vc W) (hn : NfaAt W v 2 twoL) :
    Calls Tryd.prog 10 #[v, .agg #[.int .i64 (room : Nat), .slice vo vn vc], .int .u8 97] W fun e W' => (∃ vo vn vc, e = .returned (.tuple #[.agg #[.int .i64 3, .slice vo vn vc], .int .i64 0]) ∧ SV W' vo vn vc (stepP twoL (fun i => memL L i = true) 97)) ∧ Below W.heap.size W W' ∧ NR W0 p room vo vn vc W' := by
  refine (Step_yes 2 twoL v B room (.slice vo vn vc) L 97 (by omega) (by omega) W hn (hT.next (hw.trans (h.2.2.mono hw.size))) (hs.next h.2.2) two_fault).mono ?_
  rintro e W' ⟨v, rfl, L', k1, k2, k3⟩
  obtain ⟨wo, wn, wc, rfl⟩ := k1.val
  exact ⟨⟨wo, wn, wc, rfl, _, L', k1, k2⟩, k3, h.next k3⟩

theorem big_fault : faultE 0 (List.replicate 4097 sN) = 6 := by
  unfold faultE
  rw [if_pos (by rw [List.length_replicate]; decide)]
/-- of the example and numbers, the marks -/
theorem among_two (W : World) (v : Value) (h : NfaAt W v 2 twoL) (lv : Value) (xs : List Int) (hl : IntsAt W lv xs) : Calls Tryd.prog 17 #[v, lv] W fun e W' => (∃ ao c out, e = .returned (.slice ao 3 c) ∧ BolAt W' W.heap.size (.slice ao 3 c) out ∧ out.length = 3 ∧ ∀ i, mq out i = true ↔ i < 3 ∧ (i : Int) ∈ xs) ∧ Below W.heap.size W W' := by
  obtain ⟨sv, rfl, hs⟩ := h
  obtain ⟨ao, cap, rfl, _, _⟩ := hs.shape
  exact marks_as (among_any 2 ao 3 cap (by omega) lv xs W hl)
theorem big_set {Ls : List Nat} {xs : List Int} {out : List Bool} (h : ∀ m, memL Ls m = ofB 1000 xs m) (ho : ∀ i, mq out i = true ↔ i < 3 ∧ (i : Int) ∈ xs) (j : Nat) (hj : j < 3) : memL Ls j = true ↔ mq out j = true := by
  rw [h, ho]
  unfold ofB
  rw [Bool.and_eq_true, decide_eq_true_eq, List.any_eq_true]
  constructor
  · rintro ⟨_, x, h2, h3⟩
    exact ⟨hj, by rwa [← of_decide_eq_true h3]⟩
  · rintro ⟨_, h2⟩
    exact ⟨by omega, _, h2, by simp⟩
theorem rstep_two (W : World) (v : Value) (h : NfaAt W v 2 twoL) (B : Nat) (u : Value) (out : List Bool) (hu : BolAt W B u out) (ho : out.length = 3) : Calls Tryd.prog 21 #[v, u, .int .u8 97] W fun e W' => (∃ ao c out', e = .returned (.slice ao 3 c) ∧ BolAt W' W.heap.size (.slice ao 3 c) out' ∧ out'.length = 3 ∧ ∀ i, mq out' i = true ↔ stepP twoL (fun i => mq out i = true) 97 i) ∧ Below W.heap.size W W' :=
  marks_as (rstep_any 2 twoL v B u out 97 (by omega) (by omega) W h two_ok (by decide) hu ho)
theorem all_three (B : Nat) (v : Value) (L : List Nat) (w : World) (hT : Tab w) (h : SetAt w B 3 v L) : Calls Tryd.prog 19 #[.agg #[.int .i64 3, v]] w fun e w' => (∃ ao c, e = .returned (.slice ao (nums L).length c) ∧ IntsAt w' (.slice ao (nums L).length c) (nums L)) ∧ Below w.heap.size w w' := all_as B 3 v L w hT h
theorem two_len : twoL.length = 3 := rfl
theorem two_nb (W : World) : Calls Tryd.prog 27 #[] W fun e w' => (∃ v, e = .returned v ∧ NfaAt w' v 2 twoL) ∧ Below W.heap.size W w' := by
  refine (two_any W).mono ?_
  rintro e w' ⟨v, rfl, h1, h2⟩
  exact ⟨⟨v, rfl, h1⟩, h2⟩

/-- two sets in boxes -/
abbrev NG (W0 : World) (p2 : Nat) (ao : Option Addr) (an ac p1 r : Nat) (bo : Option Addr) (bn bc : Nat) (W : World) : Prop :=
  W.cell? ⟨p2, 0, none⟩ = some (.int .i64 3) ∧ W.cell? ⟨p2, 1, none⟩ = some (.slice ao an ac) ∧ W.cell? ⟨p1, 0, none⟩ = some (.int .i64 (r : Nat)) ∧ W.cell? ⟨p1, 1, none⟩ = some (.slice bo bn bc) ∧ Below W0.heap.size W0 W
section
variable {W0 W W' : World} {p2 : Nat} {ao : Option Addr} {an ac p1 r : Nat} {bo : Option Addr} {bn bc : Nat}
theorem NG.next (h : NG W0 p2 ao an ac p1 r bo bn bc W) (hb : Below W.heap.size W W') : NG W0 p2 ao an ac p1 r bo bn bc W' :=
  ⟨cell_next h.1 hb, cell_next h.2.1 hb, cell_next h.2.2.1 hb, cell_next h.2.2.2.1 hb, h.2.2.2.2.trans (hb.mono h.2.2.2.2.size)⟩
theorem NG.below (h : NG W0 p2 ao an ac p1 r bo bn bc W) : Below W0.heap.size W0 W := h.2.2.2.2
end

set_option maxRecDepth 100000 in
set_option maxHeartbeats 4000000 in
theorem big_far (lv : Value) (xs : List Int) (w : World) (hT : Tab w) (hl : IntsAt w lv xs) (hx : 30 < xs.length) :
    Calls Tryd.prog 5 #[lv] w fun e w' => e = .returned (.bool true) ∧ Below w.heap.size w w' := by
  have AL := Lib.hid (fun W (hW : Below w.heap.size w W) => alive_any W (hT.next hW))
  obtain ⟨lo, lc, rfl, _, _⟩ := hl.shape
  have B1 := Lib.hid (Below.refl w.heap.size w)
  have hx2 : (30 : Int) < xs.length := by omega
  clear hl hT hx
  go_enter Tryd.func5, Tryd.ntmps5
  go_wp2_with (first
    | (go_at_call 7; (with_reducible refine (AL.out _ ?_).mono ?_); (first | exact B1.out | exact B1.out.alloc B1.out.size _ | skip); rintro e w2 ⟨rfl, h2⟩; go_must (have B3 := Lib.hid h2; clear h2))
    | fail)
  all_goals (go_ret; exact ⟨rfl, B3.out⟩)

end Go.Proofs.YtfbphiamelongaaDoor.Cl

/- Of. -/
import Derived.Test.YtemmaoapicaloaaDoorBtAdd
namespace Go.Proofs.YtemmaoapicaloaaDoor.Bt
open Go Go.RowKit

/-- is a number among these and is there room for it -/
def ofB (room : Nat) (l : List Int) (m : Nat) : Bool := decide (m < room) && l.any (fun k => decide (k = (m : Int)))
/-- what Of tells -/
def OfOut (w : World) (room : Nat) (l : List Int) (e : Ending) (w' : World) : Prop :=
  ∃ v L, e = .returned (setV room v) ∧ SetAt w' w.heap.size room v L ∧ (∀ m, memL L m = ofB room l m) ∧ Below w.heap.size w w'

theorem ofB_snoc (room : Nat) (l : List Int) (k m : Nat) (hk : k < l.length) : ofB room (l.take (k + 1)) m = (ofB room (l.take k) m || (fitB room (l.getD k 0) && decide ((m : Int) = l.getD k 0))) := by
  have e : l.take (k + 1) = l.take k ++ [l.getD k 0] := by
    rw [List.take_succ_eq_append_getElem hk]; simp [List.getD, hk]
  rw [e]
  generalize l.getD k 0 = c
  unfold ofB fitB
  rw [List.any_append]
  simp only [List.any_cons, List.any_nil, Bool.or_false]
  by_cases hm : (m : Int) = c
  · subst hm
    by_cases hr : m < room
    · have : (m : Int) < room := by omega
      simp [hr, this]
    · have : ¬ (m : Int) < room := by omega
      simp [hr, this]
  · have : ¬ c = (m : Int) := fun e => hm e.symm
    simp [hm, this]

theorem SetAt.val {w : World} {B room : Nat} {v : Value} {L : List Nat} (h : SetAt w B room v L) : ∃ (ao : Option Addr) (n cap : Nat), v = .slice ao n cap := by
  obtain ⟨ao, cap, e, _⟩ := h.shape
  exact ⟨ao, _, cap, e⟩
theorem SetAt.base {w : World} {B B' room : Nat} {v : Value} {L : List Nat} (h : SetAt w B room v L) (hb : B' ≤ B) : SetAt w B' room v L := by
  refine ⟨⟨h.row.1, ?_⟩, h.len, h.lim, h.word, h.inn⟩
  rcases h.row.2 with h | ⟨g, cap, cur, h1, h2, h3⟩
  · exact .inl h
  · exact .inr ⟨g, cap, cur, h1, by omega, h3⟩
set_option maxRecDepth 100000 in
set_option maxHeartbeats 2000000 in
theorem of_any (n : Int) (lv : Value) (l : List Int) (w : World) (hl : IntsAt w lv l) : Calls Tryd.prog 10 #[.int .i64 n, lv] w fun e w' => OfOut w (roomF n) l e w' := by
  obtain ⟨ao, cap, rfl, hm, hc⟩ := hl.shape
  have HC := Lib.hid hc
  have N := Lib.hid (fun w => new_any n w)
  have hrm := room_le n
  generalize roomF n = room at *
  clear hl hc
  go_enter Tryd.func10, Tryd.ntmps10
  go_wp2_with (go_at_call 25; (with_reducible refine (N.out _).mono ?_); rintro e w1 ⟨v, rfl, hs, hb⟩; obtain ⟨vo, vn, vc, rfl⟩ := hs.val; unfold setV)
  have hal := (Below.refl w.heap.size w).alloc (Nat.le_refl _) (.cells #[.int .i64 0, .slice none 0 0] 34)
  have hb1 := hal.trans (hb.mono hal.size)
  have bR : BoxS w1 w.heap.size 0 (.slice none 0 0) := (hb.block w.heap.size (by simp)).trans (World.alloc_heap_new w _)
  have R0 := Lib.hid (show ∃ (k : Nat) (Lc : List Nat), Value.int .i64 0 = .int .i64 k ∧ k ≤ l.length ∧ Below w.heap.size w (w1.alloc (.cells #[.int .i64 (room : Nat), .slice vo vn vc] 34)) ∧ BoxS (w1.alloc (.cells #[.int .i64 (room : Nat), .slice vo vn vc] 34)) w.heap.size 0 (.slice none 0 0) ∧ BoxS (w1.alloc (.cells #[.int .i64 (room : Nat), .slice vo vn vc] 34)) w1.heap.size room (.slice vo vn vc) ∧ SetAt (w1.alloc (.cells #[.int .i64 (room : Nat), .slice vo vn vc] 34)) w.heap.size room (.slice vo vn vc) Lc ∧ ∀ m, memL Lc m = ofB room (l.take k) m from
    ⟨0, _, rfl, by omega, hb1.alloc hb1.size _, bR.next ((Below.refl _ _).alloc (Nat.le_refl _) _), World.alloc_heap_new w1 _, (hs.base (by simp)).next ((Below.refl _ _).alloc (Nat.le_refl _) _), fun m => by rw [zeros_mem]; simp [ofB]⟩)
  clear hb hs hal hb1 bR
  go_loopw [12] (fun i wr => ∃ (k : Nat) (Lc : List Nat), i = .int .i64 k ∧ k ≤ l.length ∧ Below w.heap.size w wr ∧ BoxS wr w.heap.size 0 (.slice none 0 0) ∧ BoxS wr w1.heap.size room (.slice vo vn vc) ∧ SetAt wr w.heap.size room (.slice vo vn vc) Lc ∧ ∀ m, memL Lc m = ofB room (l.take k) m) (fun i _ => l.length - (intOf i).toNat)
  case atStart => exact R0.out
  case round =>
    obtain ⟨k, Lc, rfl, hk, hb, bR, bS, hs, hmem⟩ := hrel
    by_cases hlt : k < l.length
    · obtain ⟨ad, rfl, hcell0⟩ := HC.out k hlt
      have hcell := cell_next hcell0 hb
      clear hcell0
      have A := Lib.hid (fun c => add_any w.heap.size room _ Lc c wr hs)
      have M := Lib.hid (fun m => ofB_snoc room l k m hlt)
      have hcs := bS.cells
      have HM := Lib.hid hmem
      have HS := Lib.hid hs
      clear hmem hs
      generalize l.getD k 0 = c at *
      unfold setV at *
      go_wp2_with (go_at_call 18; (with_reducible refine (A.out _).mono ?_); rintro e w2 ⟨L2, rfl, h1, h2, h3⟩)
      go_roundw
      case rel =>
        have hsz := hb.size
        refine ⟨k + 1, L2, by go_num, by omega, hb.grown h3 hsz (fun j e => (HS.out.row.lt j e).1), bR.kept h3 (bR.not_row HS.out), bS.kept h3 (bS.not_row HS.out), h1, fun m => ?_⟩
        rw [h2, HM.out, M.out]
      case measure => simp [intOf]; omega
    · obtain rfl : k = l.length := by omega
      rw [List.take_length] at hmem
      have hcs := bS.cells
      obtain ⟨c0, c1⟩ := bR.cells
      have f0 : wr.frozen? ⟨w.heap.size, 0, none⟩ = false := by simp [World.frozen?, show wr.heap[w.heap.size]? = _ from bR]
      have f1 : wr.frozen? ⟨w.heap.size, 1, none⟩ = false := by simp [World.frozen?, show wr.heap[w.heap.size]? = _ from bR]
      obtain ⟨m1, m2⟩ := two_stores (x := .int .i64 (room : Nat)) (y := .slice vo vn vc) bR
      have Z := Lib.hid (And.intro (hs.kept m2 (.inr (fun e => bR.not_row hs e.symm))) (And.intro hmem (And.intro (hb.grown m2 hb.size (fun j e => by cases e; exact Nat.le_refl _)) m1)))
      clear hs hmem hb m1 m2
      go_wp2
      refine bodyPost_ret (results_cell_row rfl _ _ w.heap.size 34 #[.int .i64 (room : Nat), .slice vo vn vc] (0, 0) _ rfl Z.out.2.2.2 Tryd.underlying34 rfl (by kernel_rfl)) rfl ?_
      exact ⟨_, Lc, rfl, Z.out.1, Z.out.2.1, Z.out.2.2.1⟩

end Go.Proofs.YtemmaoapicaloaaDoor.Bt

/- Copy. -/
import Derived.Test.YtemmaoapicaloaaDoorBtOf
import Derived.Laws.CopyOwn
namespace Go.Proofs.YtemmaoapicaloaaDoor.Bt
open Go Go.RowKit

theorem roomF_nat {room : Nat} (h : room ≤ 65536) : roomF (room : Int) = room := by
  unfold roomF
  rw [if_neg (by omega), if_neg (by omega), Int.toNat_natCast]

/-- what Copy tells -/
def CopyOut (w : World) (room : Nat) (L : List Nat) (e : Ending) (w' : World) : Prop :=
  ∃ v, e = .returned (setV room v) ∧ SetAt w' w.heap.size room v L ∧ Below w.heap.size w w'

theorem wV_get {L : List Nat} {j : Nat} {u : Value} (h : (wV L)[j]? = some u) : j < L.length ∧ u = .int .u64 (L.getD j 0 : Nat) := by
  have hj : j < L.length := by
    have := (List.getElem?_eq_some_iff.1 h).1
    simpa [wV] using this
  refine ⟨hj, ?_⟩
  simp only [wV, List.getElem?_map, List.getElem?_eq_getElem hj, Option.map_some, Option.some.injEq] at h
  rw [← h]; simp [List.getD, hj]

/-- 'copy' of a set's words over another set's -/
theorem run_copyW {W : World} (ty : TypeId) {B1 B2 room : Nat} {vd vs : Value} {L M : List Nat} (h1 : SetAt W B1 room vd M) (h2 : SetAt W B2 room vs L) :
    ∃ W' x, (Builtin.copy_ #[32, 32] ty #[vd, vs]).run Tryd.prog W = .ok x W' ∧ SetAt W' B1 room vd L ∧ W.grownBy W' vd.ownBlock := by
  obtain ⟨i0, hi, hz0, hz1, hz2⟩ := info_parts infoU
  have hsz : (Tryd.prog.info? 55).map (·.size) = some 1 := by rw [hi]; simp [hz1]
  have hl : M.length = L.length := h1.len.trans h2.len.symm
  by_cases h0 : L.length = 0
  · have e1 : L = [] := List.eq_nil_of_length_eq_zero h0
    have e2 : M = [] := List.eq_nil_of_length_eq_zero (by omega)
    subst e1 e2
    obtain ⟨ao, cap, e, _⟩ := h1.shape
    obtain ⟨bo, cap2, e2, _⟩ := h2.shape
    subst e e2
    exact ⟨W, _, run_copy_none W _ _ ty 55 ao bo 0 cap 0 cap2 Tryd.underlying32 hsz rfl, h1, ⟨rfl, rfl, rfl, Nat.le_refl _, fun _ _ _ => rfl⟩⟩
  · rcases h1.row.2 with ⟨_, hn⟩ | ⟨g, cap, cur, rfl, hb, hg, hn, hm, hcs, ht⟩
    · omega
    obtain ⟨bo, cap2, rfl, _, _, hc⟩ := h2.shape
    obtain ⟨g2, rfl, _⟩ := hc 0 (by omega)
    refine ⟨_, _, run_copy_row (P := Tryd.prog) W _ _ ty 55 g 0 M.length cap ⟨g2, 0, none⟩ L.length cap2 cur 55 (wV L) Tryd.underlying32 hsz hg (by simp [wV, hl]) (fun j u hj => ?_) (by simp [wV]; omega) (fun u hu => ?_), ?_, ⟨rfl, rfl, rfl, by simp, fun k _ hne => setRow_other _ _ _ _ (fun e => hne (by simp [Value.ownBlock, e]))⟩⟩
    · obtain ⟨hjl, rfl⟩ := wV_get hj
      obtain ⟨g3, e, hcell⟩ := hc j hjl
      cases e
      have e2 : (⟨g2, 0, none⟩ : Addr).add j = ⟨g2, j, none⟩ := by
        unfold Addr.add; split
        · rename_i h0; subst h0; rfl
        · simp
      rw [e2]; exact hcell
    · obtain ⟨x, _, rfl⟩ := List.mem_map.1 hu
      rfl
    · refine ⟨?_, h2.len, h2.lim, h2.word, h2.inn⟩
      rw [hl]
      refine ⟨by simp [wV], .inr ⟨g, cap, _, rfl, hb, setRow_heap W g cur _ _ _ hg, by omega, hm, ?_, ?_⟩⟩
      · simp [wV]; omega
      · simp [wV]

set_option maxRecDepth 100000 in
set_option maxHeartbeats 2000000 in
theorem copy_any (B room : Nat) (v : Value) (L : List Nat) (w : World) (h : SetAt w B room v L) : Calls Tryd.prog 27 #[setV room v] w fun e w' => CopyOut w room L e w' := by
  obtain ⟨ao, cap, rfl, hL, hcap, hc⟩ := h.shape
  have N := Lib.hid (fun w => new_any (room : Int) w)
  rw [roomF_nat h.lim] at N
  have HH := Lib.hid h
  clear h hc
  unfold setV at *
  go_enter Tryd.func27, Tryd.ntmps27
  go_wp2_with (first
    | (go_at_call 25; (with_reducible refine (N.out _).mono ?_); rintro e w1 ⟨v2, rfl, hs, hb⟩; obtain ⟨bo, bn, cap2, rfl⟩ := hs.val; unfold setV;
       have hal := (Below.refl w.heap.size w).alloc (Nat.le_refl _) (.cells #[.int .i64 (room : Nat), .slice ao L.length cap] 34);
       have hal2 := hal.alloc hal.size (.cells #[.int .i64 0, .slice none 0 0] 34);
       have hb1 := hal2.trans (hb.mono hal2.size);
       have bS : BoxS w1 w.heap.size room (.slice ao L.length cap) := (hb.block w.heap.size (by simp; omega)).trans ((Below.heap_alloc _ _ _ (by simp)).trans (World.alloc_heap_new w _));
       have bR : BoxS w1 (w.heap.size + 1) 0 (.slice none 0 0) := (hb.block (w.heap.size + 1) (by simp)).trans (by have := World.alloc_heap_new (w.alloc (.cells #[.int .i64 (room : Nat), .slice ao L.length cap] 34)) (.cells #[.int .i64 0, .slice none 0 0] 34); rwa [World.size_alloc] at this);
       obtain ⟨s0, s1⟩ := bS.cells; have sl := bS.lt; have HS := Lib.hid (hs.base (show w.heap.size ≤ _ by simp; omega)); have HB := Lib.hid hb1; have BR := Lib.hid bR; clear hs hb hal hal2 hb1 bS bR))
  obtain ⟨w2, x, hrun, hs2, hg2⟩ := run_copyW 3 (HS.out.next ((Below.refl _ _).alloc (Nat.le_refl _) (.cells #[.int .i64 (room : Nat), .slice bo bn cap2] 34))) (HH.out.next (HB.out.alloc HB.out.size (.cells #[.int .i64 (room : Nat), .slice bo bn cap2] 34)))
  rw [hrun]
  clear hrun
  have bC : BoxS (w1.alloc (.cells #[.int .i64 (room : Nat), .slice bo bn cap2] 34)) w1.heap.size room (.slice bo bn cap2) := World.alloc_heap_new w1 _
  have hSW := HS.out.next ((Below.refl _ _).alloc (Nat.le_refl _) (.cells #[.int .i64 (room : Nat), .slice bo bn cap2] 34))
  have bC2 := bC.kept hg2 (bC.not_row hSW)
  have bR1 := BR.out.next ((Below.refl _ _).alloc (Nat.le_refl _) (.cells #[.int .i64 (room : Nat), .slice bo bn cap2] 34))
  have bR2 := bR1.kept hg2 (bR1.not_row hSW)
  have hbA := HB.out.alloc HB.out.size (.cells #[.int .i64 (room : Nat), .slice bo bn cap2] 34)
  have hb2 := hbA.grown hg2 hbA.size (fun k e => (hSW.row.lt k e).1)
  obtain ⟨x0, x1⟩ := bC2.cells
  obtain ⟨y0, y1⟩ := bR2.cells
  have f0 : w2.frozen? ⟨w.heap.size + 1, 0, none⟩ = false := by simp [World.frozen?, show w2.heap[w.heap.size + 1]? = _ from bR2]
  have f1 : w2.frozen? ⟨w.heap.size + 1, 1, none⟩ = false := by simp [World.frozen?, show w2.heap[w.heap.size + 1]? = _ from bR2]
  obtain ⟨m1, m2⟩ := two_stores (x := .int .i64 (room : Nat)) (y := .slice bo bn cap2) bR2
  have Z := Lib.hid (And.intro (hs2.kept m2 (.inr (fun e => bR2.not_row hs2 e.symm))) (And.intro (hb2.grown m2 hb2.size (fun j e => by cases e; omega)) m1))
  clear hs2 hg2 bC hSW bC2 bR1 bR2 hbA hb2 m1 m2
  go_wp2
  refine bodyPost_ret (results_cell_row rfl _ _ (w.heap.size + 1) 34 #[.int .i64 (room : Nat), .slice bo bn cap2] (0, 0) _ rfl Z.out.2.2 Tryd.underlying34 rfl (by kernel_rfl)) rfl ?_
  exact ⟨_, rfl, Z.out.1, Z.out.2.1⟩

end Go.Proofs.YtemmaoapicaloaaDoor.Bt

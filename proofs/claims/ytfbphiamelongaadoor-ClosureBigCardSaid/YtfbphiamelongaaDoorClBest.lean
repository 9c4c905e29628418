/- best. -/
import Derived.Test.YtfbphiamelongaaDoorClStep
namespace Go.Proofs.YtfbphiamelongaaDoor.Cl
open Go Go.RowKit Go.Shelf
open Go.Proofs.YtfbphiamelongaaDoor.Bt (SetAt setV memL hasI iV own_slice grown_trans grown_cell grown_row two_stores Tab nums mem_nums nums_rise nums_nat)

/-- tags are numbers that a state may have -/
def TagsOk (l : List St) : Prop := ∀ i, i < l.length → -1 ≤ (st l i).tag ∧ (st l i).tag ≤ 9223372036854775807
theorem minT_bound {t x : Int} (h : -1 ≤ t ∧ t ≤ 9223372036854775807) (k : -1 ≤ x ∧ x ≤ 9223372036854775807) : -1 ≤ minT t x ∧ minT t x ≤ 9223372036854775807 := by
  unfold minT; split <;> (try split) <;> (try split) <;> omega

/-- the least tag among the states of a set -/
theorem each_best (a : Int) (l : List St) (sv : Value) (hg : TagsOk l) (B B0 room : Nat) (v0 : Value) (L0 : List Nat) (pt : Nat) (w W : World) (hT : Tab W) (h : StsAt w sv l) (hset : SetAt W B0 room v0 L0)
    (hwB : w.heap.size ≤ B) (hB : B ≤ W.heap.size) (hW : Below w.heap.size w W) (hpt : B ≤ pt ∧ pt < W.heap.size) (xt : W.heap[pt]? = some (.cells #[.int .i64 (-1)] 3 (0, 0))) :
    Calls Tryd.prog 50 #[nfaV a sv, setV room v0, .func (.func 52) #[] #[.pointer (some ⟨pt, 0, none⟩)]] W fun e W' => e = .returned (.tuple #[]) ∧ ∃ t : Int,
      W'.heap[pt]? = some (.cells #[.int .i64 t] 3 (0, 0)) ∧ BestIs l (fun i => memL L0 i = true) t ∧ Fr (fun k => k ≠ pt) W W' := by
  refine (each_any 52 enters_best1 _ l a sv B B0 room v0 L0 W hT hset w h hwB hB hW
    (fun _ pre W' => ∃ t : Int, W'.heap[pt]? = some (.cells #[.int .i64 t] 3 (0, 0)) ∧ BestIs l (fun i => (i : Int) ∈ pre) t ∧ (-1 ≤ t ∧ t ≤ 9223372036854775807) ∧ Fr (fun k => k ≠ pt) W W')
    (fun W' hb => ⟨-1, at_next xt hb, BestIs.none.same (fun i _ => by simp), by omega, Fr.of_below hb⟩)
    (fun D pre i eo ec W' hi hj _ => ?_)).mono ?_
  · obtain ⟨t, h1, h2, h3, h4⟩ := hj
    refine (best1_any (st l i) eo ec pt t h3 (hg i hi) W' h1).mono ?_
    rintro e W2 ⟨rfl, k1, k2⟩
    refine ⟨rfl, ⟨_, k1, h2.add hi (hg i hi).1 (fun j _ => ?_), minT_bound h3 (hg i hi), h4.trans (Fr.of_grown k2 (fun k e hk => by cases e; exact hk rfl))⟩, Fr.of_grown k2 (fun k e hk => by
      cases e
      rcases hk with hk | hk
      · omega
      · omega)⟩
    rw [List.mem_append, List.mem_singleton]
    constructor
    · rintro (h | h)
      · exact .inl h
      · exact .inr (by omega)
    · rintro (h | h)
      · exact .inl h
      · exact .inr (by omega)
  · rintro e W' ⟨rfl, D, hD, t, h1, h2, _, h4⟩
    exact ⟨rfl, t, h1, h2.same (fun i hi => ⟨fun h => mem_own.2 ⟨hi, h⟩, fun h => (mem_own.1 h).2⟩), h4⟩

set_option maxRecDepth 100000 in
set_option maxHeartbeats 4000000 in
theorem best_any (a : Int) (l : List St) (sv : Value) (hg : TagsOk l) (B0 room : Nat) (v0 : Value) (L0 : List Nat) (w : World) (hT : Tab w) (h : StsAt w sv l) (hset : SetAt w B0 room v0 L0) :
    Calls Tryd.prog 40 #[nfaV a sv, setV room v0] w fun e w' => ∃ t : Int, e = .returned (.int .i64 t) ∧ BestIs l (fun i => memL L0 i = true) t ∧ Below w.heap.size w w' := by
  have H0 := Lib.hid h
  obtain ⟨ao, cap, rfl, _, _⟩ := h.shape
  have HS := Lib.hid (And.intro hT hset)
  obtain ⟨so, sn, sc, rfl⟩ := hset.val
  have b1 := (Below.refl w.heap.size w).alloc (Nat.le_refl _) (.cells #[.int .i64 a, .slice ao l.length cap] 24)
  have b2 := b1.alloc b1.size (.cells #[.int .i64 (room : Nat), .slice so sn sc] 30)
  have x1 := at_new w (.cells #[.int .i64 a, .slice ao l.length cap] 24)
  generalize hA1 : w.alloc (.cells #[.int .i64 a, .slice ao l.length cap] 24) = A1 at *
  have s1 : A1.heap.size = w.heap.size + 1 := by rw [← hA1]; exact World.size_alloc _ _
  have x2 := at_new A1 (.cells #[.int .i64 (room : Nat), .slice so sn sc] 30)
  rw [s1] at x2
  replace x1 := at_next x1 ((Below.refl _ _).alloc (Nat.le_refl _) (.cells #[.int .i64 (room : Nat), .slice so sn sc] 30))
  generalize hA2 : A1.alloc (.cells #[.int .i64 (room : Nat), .slice so sn sc] 30) = A2 at *
  have s2 : A2.heap.size = w.heap.size + 2 := by rw [← hA2, World.size_alloc, s1]
  have R0 := Lib.hid (And.intro b2 (And.intro x1 x2))
  have EB := Lib.hid (each_best a l (.slice ao l.length cap) hg w.heap.size B0 room _ L0 A2.heap.size w (A2.alloc (.cells #[.int .i64 (-1)] 3)) (HS.out.1.next (b2.alloc b2.size _)) H0.out (HS.out.2.next (b2.alloc b2.size _)) (Nat.le_refl _) (by rw [World.size_alloc]; omega) (b2.alloc b2.size _) ⟨b2.size, by rw [World.size_alloc]; omega⟩ (at_new A2 _))
  clear h hT hset b1 b2 x1 x2
  unfold nfaV setV at *
  have c0 := at_cell R0.out.2.1 0
  have c1 := at_cell R0.out.2.1 1
  have d0 := at_cell R0.out.2.2 0
  have d1 := at_cell R0.out.2.2 1
  have hl := cell_lt d0
  have hl1 := cell_lt c0
  rw [s2] at EB
  go_enter Tryd.func40, Tryd.ntmps40
  go_wp2_with (go_at_call 50; (with_reducible refine EB.out.mono ?_); rintro e w3 ⟨rfl, t, h1, h2, h3⟩; go_must (have e0 := at_cell h1 0; have hl3 := cell_lt e0; have H3 := Lib.hid (And.intro h2 h3); clear h1 h2 h3))
  go_ret
  exact ⟨t, rfl, H3.out.1, (R0.out.1.alloc R0.out.1.size _).trans (H3.out.2.below (by rw [World.size_alloc]; omega) (fun k hk => by omega))⟩

end Go.Proofs.YtfbphiamelongaaDoor.Cl

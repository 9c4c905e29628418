/- The methods of a row of pairs. -/
import Derived.Test.YtdkiahelnomjpaaDoorFdPlain
import Derived.Deep.RegionHeld3
namespace Go.Proofs.YtdkiahelnomjpaaDoor.Fd
open Go.RowKit Go.Shelf Go.Proofs.YtdkiahelnomjpaaDoor.Rg

/-- a row of the table, as a value -/
def rwV (r : Rw) : Value := .agg #[.int .i64 r.1, .int .i64 r.2.1, .int .i64 r.2.2]
/-- what may be in the table -/
structure RwOk (r : Rw) : Prop where
  lo : 0 ≤ r.1
  le : r.1 ≤ r.2.1
  hi : r.2.1 ≤ 2000
  up : 0 ≤ r.2.2 ∧ r.2.2 ≤ 100
theorem tab_ok : ∀ r ∈ tab, RwOk r := by
  intro r hr
  simp only [tab, List.mem_cons, List.not_mem_nil, or_false] at hr
  rcases hr with rfl | rfl | rfl | rfl | rfl | rfl | rfl <;> exact ⟨by decide, by decide, by decide, by decide, by decide⟩
/-- the world behind a call of small or great -/
def boxed (r : Rw) (w : World) : World := w.alloc (.cells #[.int .i64 r.1, .int .i64 r.2.1, .int .i64 r.2.2] 39)

set_option maxHeartbeats 400000 in
theorem small_m (f l a c : Int) (h0 : -9223372036854775808 ≤ c + a) (h1 : c + a ≤ 9223372036854775807) (w : World) :
    Calls Tryd.prog 26 #[.agg #[.int .i64 f, .int .i64 l, .int .i64 a], .int .i64 c] w fun e w' => e = .returned (.int .i64 (c + a)) ∧ w' = w.alloc (.cells #[.int .i64 f, .int .i64 l, .int .i64 a] 39) := by
  go_enter Tryd.func26, Tryd.ntmps26
  go_wp2
  go_ret
  exact ⟨rfl, rfl⟩
set_option maxHeartbeats 400000 in
theorem great_m (f l a c : Int) (h0 : -9223372036854775808 ≤ c - a) (h1 : c - a ≤ 9223372036854775807) (w : World) :
    Calls Tryd.prog 28 #[.agg #[.int .i64 f, .int .i64 l, .int .i64 a], .int .i64 c] w fun e w' => e = .returned (.int .i64 (c - a)) ∧ w' = w.alloc (.cells #[.int .i64 f, .int .i64 l, .int .i64 a] 39) := by
  go_enter Tryd.func28, Tryd.ntmps28
  go_wp2
  go_ret
  exact ⟨rfl, rfl⟩
set_option maxHeartbeats 400000 in
theorem greats_m (f l a : Int) (w : World) :
    Calls Tryd.prog 25 #[.agg #[.int .i64 f, .int .i64 l, .int .i64 a]] w fun e w' => e = .returned (.agg #[.int .i64 f, .int .i64 l]) ∧ Below w.heap.size w w' := by
  go_enter Tryd.func25, Tryd.ntmps25
  go_wp2
  (try simp only [Exit.inBlock, Exit.then])
  refine bodyPost_ret (results_cell_row rfl _ _ (w.heap.size + 1) 33 #[.int .i64 f, .int .i64 l] (0, 0) _ rfl (heap_alloc2_new _ _ _) Tryd.underlying33 rfl (by kernel_rfl)) rfl ?_
  exact ⟨rfl, ((Below.refl _ _).alloc (Nat.le_refl _) _).alloc (by simp) _⟩

set_option maxHeartbeats 1600000 in
theorem smalls_m (f l a : Int) (h0 : -9223372036854775808 ≤ f + a) (h1 : f + a ≤ 9223372036854775807) (h2 : -9223372036854775808 ≤ l + a) (h3 : l + a ≤ 9223372036854775807) (w : World) :
    Calls Tryd.prog 27 #[.agg #[.int .i64 f, .int .i64 l, .int .i64 a]] w fun e w' => e = .returned (.agg #[.int .i64 (f + a), .int .i64 (l + a)]) ∧ Below w.heap.size w w' := by
  have c1 := Lib.hid (fun W => small_m f l a f h0 h1 W)
  have c2 := Lib.hid (fun W => small_m f l a l h2 h3 W)
  clear h0 h1 h2 h3
  go_enter Tryd.func27, Tryd.ntmps27
  go_wp2
  go_region_held3 (fun W => W.cell? ⟨w.heap.size, 0, none⟩ = some (.int .i64 f) ∧ W.cell? ⟨w.heap.size, 1, none⟩ = some (.int .i64 l) ∧ W.cell? ⟨w.heap.size, 2, none⟩ = some (.int .i64 a)) (go_keep)
    (first
      | (go_at_call 26; (with_reducible refine (c1.out _).mono ?_); rintro e w' ⟨rfl, hw⟩; subst hw)
      | (go_at_call 26; (with_reducible refine (c2.out _).mono ?_); rintro e w' ⟨rfl, hw⟩; subst hw))
  go_wp2
  (try simp only [Exit.inBlock, Exit.then])
  refine bodyPost_ret (results_cell_row rfl _ _ (w.heap.size + 1) 33 #[.int .i64 (f + a), .int .i64 (l + a)] (0, 0) _ rfl ((heap_alloc_old _ _ (by simp)).trans ((heap_alloc_old _ _ (by simp)).trans (heap_alloc2_new _ _ _))) Tryd.underlying33 rfl (by kernel_rfl)) rfl ?_
  have hb := (((((Below.refl w.heap.size w).alloc (Nat.le_refl _) (.cells #[.int .i64 f, .int .i64 l, .int .i64 a] 39)).alloc (by simp) (.cells #[.int .i64 (f + a), .int .i64 (l + a)] 33)).alloc (by simp; omega) (.cells #[.int .i64 f, .int .i64 l, .int .i64 a] 39)).alloc (by simp; omega) (.cells #[.int .i64 f, .int .i64 l, .int .i64 a] 39))
  exact ⟨rfl, hb.trans ((below_drewN _ 1).mono hb.size)⟩

end Go.Proofs.YtdkiahelnomjpaaDoor.Fd

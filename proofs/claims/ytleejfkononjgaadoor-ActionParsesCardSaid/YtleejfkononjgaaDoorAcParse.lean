/- Parse, the program's. -/
import Derived.Test.YtleejfkononjgaaDoorAcRead
namespace Go.Proofs.YtleejfkononjgaaDoor.Ac
open Go Go.RowKit Go.Shelf Go.Proofs.YtleejfkononjgaaDoor.Wd

set_option maxRecDepth 100000 in
set_option maxHeartbeats 4000000 in
theorem parse_any (s : ByteArray) (M : List ByteArray) (v : Value) (w : World) (hT : Tab w) (hv : StrsAt w v M) (hs : s.size ≤ 1000000) :
    Calls Tryd.prog 7 #[.string s, v] w fun e w' => e = .returned (vRes (parseL s M)) ∧ Below w.heap.size w w' := by
  have RD := fun (R : Nat) (w1 : World) b1 hR k2 => read_any R s M v w w1 b1 hR hT hv hs k2
  generalize parseL s M = r at *
  obtain ⟨em, g, e, a⟩ := r
  unfold vRes at RD ⊢
  dsimp only at RD ⊢
  have RR := Lib.hid RD
  clear hT hv RD
  go_enter Tryd.func7, Tryd.ntmps7
  go_upto_region 2 with fail
  have b1 := (((Below.refl w.heap.size w).alloc (Nat.le_refl _) (.cells #[.string ⟨#[]⟩, .int .i64 0] 26)).alloc (by simp) (.cells #[.int .i64 0, .int .i64 0] 29)).alloc (by simp; omega) (.cells #[.string s, .int .i64 0] 37)
  have k0 : (((w.alloc (.cells #[.string ⟨#[]⟩, .int .i64 0] 26)).alloc (.cells #[.int .i64 0, .int .i64 0] 29)).alloc (.cells #[.string s, .int .i64 0] 37)).heap[w.heap.size]? = some (.cells #[.string ⟨#[]⟩, .int .i64 0] 26 (0, 0)) := (heap_alloc_old _ _ (by simp; omega)).trans ((heap_alloc_old _ _ (by simp)).trans (heap_alloc_new _ _))
  have k1 : (((w.alloc (.cells #[.string ⟨#[]⟩, .int .i64 0] 26)).alloc (.cells #[.int .i64 0, .int .i64 0] 29)).alloc (.cells #[.string s, .int .i64 0] 37)).heap[w.heap.size + 1]? = some (.cells #[.int .i64 0, .int .i64 0] 29 (0, 0)) := (heap_alloc_old _ _ (by simp)).trans (heap_alloc2_new _ _ _)
  have k2 : (((w.alloc (.cells #[.string ⟨#[]⟩, .int .i64 0] 26)).alloc (.cells #[.int .i64 0, .int .i64 0] 29)).alloc (.cells #[.string s, .int .i64 0] 37)).heap[w.heap.size + 1 + 1]? = some (.cells #[.string s, .int .i64 0] 37 (0, 0)) := by
    have h := heap_alloc_new ((w.alloc (.cells #[.string ⟨#[]⟩, .int .i64 0] 26)).alloc (.cells #[.int .i64 0, .int .i64 0] 29)) (.cells #[.string s, .int .i64 0] 37)
    simp only [World.size_alloc] at h
    exact h
  generalize ((w.alloc (.cells #[.string ⟨#[]⟩, .int .i64 0] 26)).alloc (.cells #[.int .i64 0, .int .i64 0] 29)).alloc (.cells #[.string s, .int .i64 0] 37) = w1 at *
  obtain ⟨n, hn⟩ : ∃ n, w.heap.size = n := ⟨_, rfl⟩
  have C := Lib.hid (RR.out (w.heap.size + 1 + 1) w1 b1 (by omega) k2)
  rw [hn] at C k0 k1 b1 ⊢
  have B1 := Lib.hid b1
  have K0 := Lib.hid k0
  have K1 := Lib.hid k1
  have HN := Lib.hid hn
  have hlt := lt_of_heap k1
  clear b1 k0 k1 k2 hn RR
  go_upto_region 3 with (first
    | (go_at_call 13; ((with_reducible refine C.out.mono ?_); rintro e w2 ⟨rfl, hb⟩); go_must (have z0 := (hb.block n (by omega)).trans K0.out; have z1 := (hb.block (n + 1) (by omega)).trans K1.out; obtain ⟨c0, c1⟩ := cells_two z0; obtain ⟨c2, c3⟩ := cells_two z1; have f0 := frozen_of_row w2 n 0 _ _ z0; have f1 := frozen_of_row w2 n 1 _ _ z0; have f2 := frozen_of_row w2 (n + 1) 0 _ _ z1; have f3 := frozen_of_row w2 (n + 1) 1 _ _ z1; have Z0 := Lib.hid z0; have Z1 := Lib.hid z1; have B2 := Lib.hid (B1.out.trans (hb.mono (by omega))); clear hb z0 z1))
    | fail)
  (try simp only [Exit.inBlock, Exit.then])
  have S4 := set_four (a' := .string em) (b' := .int .i64 g) (c' := .int .i64 e) (d' := .int .i64 a) Z0.out Z1.out
  refine bodyPost_ret (results_rows rfl _ _ n 26 #[.string em, .int .i64 g] (0, 0) _ rfl S4.1 Tryd.underlying26 rfl (by kernel_rfl) (n + 1) 29 #[.int .i64 e, .int .i64 a] (0, 0) _ rfl S4.2 Tryd.underlying29 rfl (by kernel_rfl)) rfl ?_
  exact ⟨rfl, by rw [HN.out]; exact below_four B2.out (Nat.le_refl _)⟩

end Go.Proofs.YtleejfkononjgaaDoor.Ac

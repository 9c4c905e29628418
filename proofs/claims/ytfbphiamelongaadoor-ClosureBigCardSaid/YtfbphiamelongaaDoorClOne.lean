/- What step and best do with one state. -/
import Derived.Test.YtfbphiamelongaaDoorClEach
namespace Go.Proofs.YtfbphiamelongaaDoor.Cl
open Go Go.RowKit Go.Shelf
open Go.Proofs.YtfbphiamelongaaDoor.Bt (grown_trans grown_cell grown_row)

theorem nwtP : ¬ WT 62 := by unfold WT; decide
theorem nwtU : ¬ WT 5 := by unfold WT; decide
/-- where a state leads by a byte -/
def toF (c : Int) (s : St) : List Int := if s.lo ≤ c ∧ c ≤ s.hi then [s.to] else []

set_option maxHeartbeats 1000000 in
theorem step1_any (B : Nat) (X : Nat → Prop) (b : Nat) (a : Int) (sv : Value) (n : Nat) (v : Value) (Q r : List Int) (s : St) (eo : Option Addr) (ec : Nat) (c : Int) (hc0 : 0 ≤ c) (hc1 : c ≤ 255) (pc pw : Nat) (hn : n ≤ 4096) (W : World) (h : WqAt W B X b a sv n v Q r)
    (hc : W.heap[pc]? = some (.cells #[.int .u8 c] 5 (0, 0))) (hw : W.heap[pw]? = some (.cells #[.pointer (some ⟨b, 0, none⟩)] 62 (0, 0))) :
    Calls Tryd.prog 51 #[stV s eo ec, .pointer (some ⟨pc, 0, none⟩), .pointer (some ⟨pw, 0, none⟩)] W fun e W' => WqOut W B X b a sv n v (meets n (toF c s) (Q, r)) e W' := by
  have bA := (Below.refl W.heap.size W).alloc (Nat.le_refl _) (.cells #[.int .i64 s.lo, .int .i64 s.hi, .int .i64 s.to, .slice eo s.eps.length ec, .int .i64 s.tag] 56)
  have h1 := h.next bA
  have k1 : Kw B X W (W.alloc (.cells #[.int .i64 s.lo, .int .i64 s.hi, .int .i64 s.to, .slice eo s.eps.length ec, .int .i64 s.tag] 56)) := Kw.of_below bA
  have bx := at_new W (.cells #[.int .i64 s.lo, .int .i64 s.hi, .int .i64 s.to, .slice eo s.eps.length ec, .int .i64 s.tag] 56)
  have xc := at_next hc bA
  have xw := at_next hw bA
  have C2 := Lib.hid (show Calls _ _ _ _ (fun e W2 => WqOut _ B X b a sv n v (meetQ n s.to (Q, r)) e W2) from meet_any B X b a sv n v Q r s.to hn _ h1)
  have TY : Hid ((s.lo ≤ c ∧ c ≤ s.hi) → meets n (toF c s) (Q, r) = meetQ n s.to (Q, r)) := Lib.hid (fun hh => by unfold toF; rw [if_pos hh]; rfl)
  have TN : Hid (¬ (s.lo ≤ c ∧ c ≤ s.hi) → meets n (toF c s) (Q, r) = (Q, r)) := Lib.hid (fun hh => by unfold toF; rw [if_neg hh]; rfl)
  have R0 := Lib.hid (And.intro h1 (And.intro k1 bx))
  have c0 := at_cell bx 0
  have c1 := at_cell bx 1
  have c2 := at_cell bx 2
  have d0 := at_cell xc 0
  have d1 := at_cell xw 0
  have hl := cell_lt c0
  have hlc := cell_lt d0
  have hlw := cell_lt d1
  clear h bA h1 k1 bx xc xw hc hw
  unfold stV
  generalize meets n (toF c s) (Q, r) = q at *
  go_enter Tryd.func51, Tryd.ntmps51
  go_upto_region 1 with fail
  generalize W.alloc (.cells #[.int .i64 s.lo, .int .i64 s.hi, .int .i64 s.to, .slice eo s.eps.length ec, .int .i64 s.tag] 56) = W1 at *
  by_cases g1 : s.lo ≤ c
  · by_cases g2 : c ≤ s.hi
    · have HZ := Lib.hid (TY.out ⟨g1, g2⟩)
      generalize s.lo = x0 at *
      generalize s.hi = x1 at *
      generalize s.to = x2 at *
      go_wp2_with (go_at_call 47; (with_reducible refine C2.out.mono ?_); rintro e w3 ⟨rfl, h3, h4⟩)
      go_end0
      exact ⟨rfl, by rw [HZ.out]; exact h3, R0.out.2.1.trans h4⟩
    · have HZ := Lib.hid (TN.out (fun h => g2 h.2))
      generalize s.lo = x0 at *
      generalize s.hi = x1 at *
      generalize s.to = x2 at *
      go_wp2
      go_end0
      exact ⟨rfl, by rw [HZ.out]; exact R0.out.1, R0.out.2.1⟩
  · have HZ := Lib.hid (TN.out (fun h => g1 h.1))
    generalize s.lo = x0 at *
    generalize s.hi = x1 at *
    generalize s.to = x2 at *
    go_wp2
    go_end0
    exact ⟨rfl, by rw [HZ.out]; exact R0.out.1, R0.out.2.1⟩

theorem min_u (t x : Int) (ht : -1 ≤ t ∧ t ≤ 9223372036854775807) (hx : -1 ≤ x ∧ x ≤ 9223372036854775807) :
    (IntKind.u64.wrap x < IntKind.u64.wrap t → wrap64 (IntKind.u64.wrap x) = minT t x) ∧ (IntKind.u64.wrap t ≤ IntKind.u64.wrap x → wrap64 (IntKind.u64.wrap t) = minT t x) := by
  unfold minT
  rw [IntKind.wrap_u64, IntKind.wrap_u64]
  unfold wrap64
  constructor
  · intro h; split <;> (try split) <;> (try split) <;> omega
  · intro h; split <;> (try split) <;> (try split) <;> omega

set_option maxHeartbeats 1000000 in
theorem best1_any (s : St) (eo : Option Addr) (ec : Nat) (pt : Nat) (t : Int) (ht : -1 ≤ t ∧ t ≤ 9223372036854775807) (hx : -1 ≤ s.tag ∧ s.tag ≤ 9223372036854775807) (W : World) (h : W.heap[pt]? = some (.cells #[.int .i64 t] 3 (0, 0))) :
    Calls Tryd.prog 52 #[stV s eo ec, .pointer (some ⟨pt, 0, none⟩)] W fun e W' => e = .returned (.tuple #[]) ∧ W'.heap[pt]? = some (.cells #[.int .i64 (minT t s.tag)] 3 (0, 0)) ∧ W.grownBy W' (some pt) := by
  have bA := (Below.refl W.heap.size W).alloc (Nat.le_refl _) (.cells #[.int .i64 s.lo, .int .i64 s.hi, .int .i64 s.to, .slice eo s.eps.length ec, .int .i64 s.tag] 56)
  have bx := at_new W (.cells #[.int .i64 s.lo, .int .i64 s.hi, .int .i64 s.to, .slice eo s.eps.length ec, .int .i64 s.tag] 56)
  have xt := at_next h bA
  have G := Lib.hid (And.intro bA xt)
  have M := Lib.hid (min_u t s.tag ht hx)
  have c4 := at_cell bx 4
  have d0 := at_cell xt 0
  have f0 := at_froz xt 0
  have hl := cell_lt c4
  have hlt := cell_lt d0
  clear bA h bx xt
  unfold stV
  generalize minT t s.tag = m at *
  go_enter Tryd.func52, Tryd.ntmps52
  go_upto_region 1 with fail
  generalize W.alloc (.cells #[.int .i64 s.lo, .int .i64 s.hi, .int .i64 s.to, .slice eo s.eps.length ec, .int .i64 s.tag] 56) = W1 at *
  generalize s.tag = x at *
  go_wp2
  · have e := M.out.1 h
    rw [e]
    go_end0
    exact ⟨rfl, heap_setCell_same W1 pt 0 _ _ _ G.out.2, grown_trans (grown_row G.out.1) (grown_cell W1 pt 0 _)⟩
  · have e := M.out.2 (by omega)
    rw [e]
    go_end0
    exact ⟨rfl, heap_setCell_same W1 pt 0 _ _ _ G.out.2, grown_trans (grown_row G.out.1) (grown_cell W1 pt 0 _)⟩

end Go.Proofs.YtfbphiamelongaaDoor.Cl

/- Of: a set's rows. -/
import Derived.Test.YtoknfelheebidaaDoorBqPart
import Derived.Test.YtoknfelheebidaaDoorRgTwo
import Derived.Laws.EntriesVeiled
namespace Go.Proofs.YtoknfelheebidaaDoor.Bq
open Go Go.RowKit Go.Shelf Go.Proofs.YtoknfelheebidaaDoor.Ut Go.Proofs.YtoknfelheebidaaDoor.Rg

def spansL : List R := [(0, 127), (128, 2047), (2048, 55295), (57344, 65535), (65536, 1114111)]
/-- the spans as the program's text lays them -/
def Tab (w : World) : Prop := w.rangeAt 0 0 (flatR spansL)
theorem Tab.next {w w' : World} (h : Tab w) (hb : Below w.heap.size w w') : Tab w' := fun j v hj => cell_next (h j v hj) hb
theorem index_tab (k : Nat) (hk : k < 5) (w : World) : (Instr.index 42 (.agg (flatR spansL).toArray) (.int .i64 (k : Nat))).run Tryd.prog w = .ok (.agg #[.int .i64 (spanLo k), .int .i64 (spanHi k)]) w := by
  obtain rfl | rfl | rfl | rfl | rfl : k = 0 ∨ k = 1 ∨ k = 2 ∨ k = 3 ∨ k = 4 := by omega
  all_goals kernel_rfl
theorem span_rise {k : Nat} (hk : k < 5) : 0 ≤ spanLo k ∧ spanLo k ≤ spanHi k ∧ spanHi k + 1 ≤ spanLo (k + 1) ∧ spanHi k ≤ 1114111 := by
  obtain rfl | rfl | rfl | rfl | rfl : k = 0 ∨ k = 1 ∨ k = 2 ∨ k = 3 ∨ k = 4 := by omega
  all_goals decide

/-- what Of tells -/
def OfOut (l : List R) (w : World) (e : Ending) (w' : World) : Prop :=
  ∃ v C xs, e = .returned v ∧ Parts l C ∧ RowsOwn w.heap.size w' v (rowsL C) xs ∧ Below w.heap.size w w'
theorem RowsOwn.base {B B' : Nat} {w : World} {v : Value} {L : List (List R)} {xs : List Value} (h : RowsOwn B w v L xs) (hb : B' ≤ B) : RowsOwn B' w v L xs :=
  ⟨row_base h.own hb, fun i hi => by
    obtain ⟨x, h1, h2⟩ := h.row i hi
    exact ⟨x, h1, row_base h2 hb⟩⟩
def OfRel (l : List R) (w : World) (i : Value) (wr : World) : Prop :=
  ∃ (k : Nat) (C : List R) (m : Int) (n : Nat), i = .int .i64 k ∧ k ≤ 5 ∧ SoFar l k [] C m n ∧ m ≤ spanLo k ∧ n ≤ 7 * k * (l.length + 1) ∧ St w C wr
def InRel (l : List R) (w : World) (k n : Nat) (L : List R) (B : Nat) (vL : Value) (i : Value) (wr : World) : Prop :=
  ∃ (j : Nat) (C : List R) (m : Int), i = .int .i64 j ∧ j ≤ L.length ∧ SoFar l k (L.take j) C m (n + 7 * j) ∧ setFrom m (L.drop j) ∧ m ≤ spanLo (k + 1) ∧ St w C wr ∧ wr.ownsRow B 35 2 vL L.length (flatR L)

theorem hasB_mem {L : List R} {m : Int} (h : setFrom m L) {r : R} (hr : r ∈ L) : hasB L r.1 = true ∧ hasB L r.2 = true := by
  have := set_all h r hr
  unfold hasB
  rw [List.any_eq_true, List.any_eq_true]
  exact ⟨⟨r, hr, by simp; omega⟩, ⟨r, hr, by simp; omega⟩⟩
theorem in_span {l L : List R} {a b : Int} (h : setFrom 0 L) (hh : ∀ c, hasB L c = (inB l c && inB [(a, b)] c)) {r : R} (hr : r ∈ L) : a ≤ r.1 ∧ r.1 ≤ r.2 ∧ r.2 ≤ b := by
  obtain ⟨h1, h2⟩ := hasB_mem h hr
  have h3 := set_all h r hr
  rw [hh] at h1 h2
  simp [inB, hasB] at h1 h2
  omega
theorem set_up {L : List R} {m a : Int} (h : setFrom m L) (ha : ∀ r ∈ L, a ≤ r.1) : setFrom a L := by
  cases L with
  | nil => trivial
  | cons r t => exact ⟨ha r List.mem_cons_self, h.2⟩

/-- a range is done -/
theorem in_step {l L C D : List R} {w W : World} {k n j B : Nat} {m : Int} {vL : Value} (hk : k < 5) (h0 : setFrom 0 L) (hh : ∀ c, hasB L c = (inB l c && inB [(spanLo k, spanHi k)] c)) (hj : j < L.length) (hso : SoFar l k (L.take j) C m (n + 7 * j)) (hset : setFrom m (L.drop j))
    (hD : Part (Rg.nth L j).1 (Rg.nth L j).2 D) (hst : St w (C ++ D) W) (hown : W.ownsRow B 35 2 vL L.length (flatR L)) : InRel l w k n L B vL (.int .i64 ((j : Int) + 1)) W := by
  have hr : Rg.nth L j ∈ L := by rw [nth_eq hj]; exact List.getElem_mem hj
  obtain ⟨i1, i2, i3⟩ := in_span h0 hh hr
  obtain ⟨s1, s2, s3, s4⟩ := span_rise hk
  obtain ⟨g1, g2, g3, g4⟩ := (set_at hj).1 hset
  have hp := hD.parted (span_at hk i1 i3) i2
  have hn := hso.range g1 hp (fun p hq => ⟨k, L, _, D, hk, h0, hh, hr, hD, hq⟩)
  rw [← show L.take (j + 1) = L.take j ++ [Rg.nth L j] by rw [List.take_succ_eq_append_getElem hj, nth_eq hj]] at hn
  exact ⟨j + 1, _, _, by go_num, hj, by rw [show n + 7 * (j + 1) = n + 7 * j + 7 by omega]; exact hn, setFrom_mono (by omega) g4, by omega, hst, hown⟩

theorem one_at (W : World) (N : Nat) (hN : W.heap.size = N) (x y : Int) (t : TypeId) : RngsAt (W.alloc (.cells #[.int .i64 x, .int .i64 y] t)) (.slice (some ⟨N, 0, none⟩) 1 1) [(x, y)] := by
  subst hN; exact one_rngs W x y t

set_option maxRecDepth 100000 in
set_option maxHeartbeats 8000000 in
theorem of_all (l : List R) (vl : Value) (w : World) (hv : RngsAt w vl l) (hT : Tab w) (hM : l.length ≤ 10000) :
    Calls Tryd.prog 6 #[vl] w fun e w' => OfOut l w e w' := by
  have HV := Lib.hid hv
  have HT := Lib.hid hT
  clear hv hT
  go_enter Tryd.func6, Tryd.ntmps6
  go_wp2_with (refine wpList_load_mid rfl 42 (.global 0) rfl 0 0 rfl (flatR spansL) _ (HT.out.next (((Below.refl w.heap.size w).alloc (Nat.le_refl _) _).alloc (by simp) _)) Tryd.underlying42 rfl (by kernel_rfl) ?_)
  have hst0 : St w [] ((w.alloc (.cells #[.slice none 0 0] 24)).alloc (.cells #[fv w.heap.size] 38)) := by
    have b2 := Boxed.new (w.alloc (.cells #[.slice none 0 0] 24)) 38 (fv w.heap.size)
    rw [show (w.alloc (.cells #[.slice none 0 0] 24)).heap.size = w.heap.size + 1 by simp] at b2
    exact ⟨⟨_, [], (Boxed.new w _ _).alloc _, RowsOwn.nil _ _⟩, b2, ((Below.refl w.heap.size w).alloc (Nat.le_refl _) _).alloc (by simp) _⟩
  unfold fv at hst0
  generalize (w.alloc (.cells #[.slice none 0 0] 24)).alloc (.cells #[.func (.func 15) #[] #[.pointer (some ⟨w.heap.size, 0, none⟩), .pointer (some ⟨w.heap.size + 1, 0, none⟩)]] 38) = W0 at *
  go_loopw [11] (fun i wr => OfRel l w i wr) (fun i _ => 5 - (intOf i).toNat)
  case atStart => exact ⟨0, [], 0, 0, rfl, by omega, SoFar.start l, by decide, by omega, hst0⟩
  case round =>
    clear hst0
    obtain ⟨k, C, m, n, rfl, hk, hso, hm, hn, hst⟩ := hrel
    have HSO := Lib.hid hso
    have HST := Lib.hid hst
    have hsz := hst.size
    clear hso hst
    by_cases hlt : k < 5
    · have IX := index_tab k hlt
      obtain ⟨s1, s2, s3, s4⟩ := span_rise hlt
      have hB0 : Below wr.heap.size wr ((wr.alloc (.cells #[.int .i64 (spanLo k), .int .i64 (spanHi k)] 35)).alloc (.cells #[.int .i64 (spanLo k), .int .i64 (spanHi k)] 35)) := ((Below.refl wr.heap.size wr).alloc (Nat.le_refl _) _).alloc (by simp) _
      have cb := Lib.hid (both_any l [(spanLo k, spanHi k)] vl (.slice (some ⟨wr.heap.size + 1, 0, none⟩) 1 1) _ (HV.out.next (HST.out.below.trans (hB0.mono HST.out.below.size))) (one_at (wr.alloc (.cells #[.int .i64 (spanLo k), .int .i64 (spanHi k)] 35)) (wr.heap.size + 1) (by simp) (spanLo k) (spanHi k) 35) (by simp; omega))
      have HB0 := Lib.hid hB0
      have SP := Lib.hid (fun (a b : Int) (h1 : spanLo k ≤ a) (h2 : b ≤ spanHi k) => span_at hlt h1 h2)
      clear hB0
      go_wp2_with (first
        | (go_at_call 18; (with_reducible refine cb.out.mono ?_); rintro e w1 ⟨vL, L, rfl, hr, h1, h2, h3, h4⟩; go_must (obtain ⟨ao, cap, rfl, hm1, _⟩ := (rngs_of_row hr).shape; have HL := Lib.hid (row_base (B' := wr.heap.size + 1 + 1) hr (by simp)); have H1 := Lib.hid h1; have H2 := Lib.hid h2; have B1 := Lib.hid (HB0.out.trans (h4.mono HB0.out.size)); clear hr h1 h2 h4))
        | fail)
      have hS1 := HST.out.next B1.out
      simp only [List.length_cons, List.length_nil, Nat.zero_add] at h3
      have hBB : w.heap.size < wr.heap.size + 1 + 1 := by omega
      have hn2 : n ≤ 35 * (l.length + 1) := Nat.le_trans hn (Nat.mul_le_mul_right _ (by omega))
      have HN := Lib.hid hn
      clear hn
      generalize wr.heap.size + 1 + 1 = BB at HL hBB
      go_loopw [19] (fun i wr' => InRel l w k n L BB (.slice ao L.length cap) i wr') (fun i _ => L.length - (intOf i).toNat)
      case atStart =>
        exact ⟨0, C, m, rfl, Nat.zero_le _, HSO.out, setFrom_mono hm (set_up H1.out fun r hr => (in_span H1.out H2.out hr).1), by omega, hS1, HL.out⟩
      case round =>
        clear hS1
        obtain ⟨j, C', m', rfl, hj, hso, hset, hm', hst, hown⟩ := hrel
        have hclen := hso.len
        have hsz' := hst.size
        by_cases hlt2 : j < L.length
        · obtain ⟨ao', cap', he, _, hcs⟩ := (rngs_of_row hown).shape
          simp only [Value.slice.injEq] at he
          obtain ⟨rfl, _, rfl⟩ := he
          obtain ⟨g, rfl, c1, c2⟩ := hcs j hlt2
          have hr : Rg.nth L j ∈ L := by rw [nth_eq hlt2]; exact List.getElem_mem hlt2
          obtain ⟨i1, i2, i3⟩ := in_span H1.out H2.out hr
          have q0 : ∀ (cs : Array Value) (t : TypeId), (wr.alloc (.cells cs t)).cell? ⟨w.heap.size + 1, 0, none⟩ = some (fv w.heap.size) := fun cs t => cell_next hst.part.cell ((Below.refl _ _).alloc (Nat.le_refl _) _)
          unfold fv at q0
          have cp := Lib.hid (part_any w _ (Rg.nth L j).1 (Rg.nth L j).2 C' (wr.alloc (.cells #[.int .i64 (Rg.nth L j).1, .int .i64 (Rg.nth L j).2] 35)) (Nat.lt_succ_self _) (SP.out _ _ i1 i3) i2 (by omega) (hst.next ((Below.refl _ _).alloc (Nat.le_refl _) _)))
          have ST := Lib.hid (fun (D : List R) (W : World) hD hS hO => in_step (w := w) (vL := .slice (some g) L.length cap) (B := BB) (W := W) (D := D) hlt H1.out H2.out hlt2 hso hset hD hS hO)
          have OW := Lib.hid (own_next hown ((Below.refl wr.heap.size wr).alloc (Nat.le_refl _) (.cells #[.int .i64 (Rg.nth L j).1, .int .i64 (Rg.nth L j).2] 35)))
          clear hcs hso hset hst hown i1 i2 i3 hr
          go_wp2_with (first
            | (go_at_call 15; (with_reducible refine cp.out.mono ?_); rintro e w2 ⟨rfl, D, hD, hS, hK⟩; go_must (have Z := Lib.hid (ST.out D w2 hD hS (hK.own OW.out (by omega))); clear hD hS hK))
            | fail)
          go_roundw
          case rel => exact Z.out
          case measure => simp [intOf]; omega
        · obtain rfl : j = L.length := by omega
          rw [List.take_length] at hso
          have e7 : 7 * (k + 1) * (l.length + 1) = 7 * k * (l.length + 1) + 7 * (l.length + 1) := by rw [show 7 * (k + 1) = 7 * k + 7 by omega, Nat.add_mul]
          have Z := Lib.hid (show OfRel l w (.int .i64 ((k : Int) + 1)) wr from ⟨k + 1, C', _, _, by go_num, by omega, hso.span hlt H2.out hm', Int.le_refl _, by have := HN.out; omega, hst⟩)
          clear hso hset hst hown e7
          go_wp2
          go_roundw
          case rel => exact Z.out
          case measure => simp [intOf]; omega
    · obtain rfl : k = 5 := by omega
      obtain ⟨v, xs, hv, hr⟩ := HST.out.rows
      have c1 := hv.cell
      have HR := Lib.hid hr
      clear hv hr
      go_wp2
      go_ret
      exact ⟨v, C, xs, rfl, HSO.out.all (by simpa [spanLo] using hm) (by omega), HR.out.base (by omega), HST.out.below⟩

end Go.Proofs.YtoknfelheebidaaDoor.Bq

/- The printer: a node. -/
import Derived.Test.YtgjiofkjogjhhaaGreatDoorPk03
import Derived.Test.YtgjiofkjogjhhaaGreatDoorPk17
import Derived.Deep.DeepMust
import Derived.Test.YtgjiofkjogjhhaaGreatDoorPk14

namespace Go.Proofs.YtgjiofkjogjhhaaGreatDoor.Rp
open Go Go.RowKit Go.Shelf
open Go.Proofs.YtgjiofkjogjhhaaGreatDoor.Bd (Wr IsB write_string cells_length)

/-- what is told of a piece: whether there was room; where there was the builder has it -/
def WrOut (b : Nat) (acc s : Tx) (w : World) (e : Ending) (w' : World) : Prop :=
  ∃ q, e = .returned (.bool q) ∧ Wr b b w w' ∧ ((q = true ∧ acc.length + s.length ≤ 4096 ∧ IsB b b (acc ++ s) w') ∨ (q = false ∧ 4096 < acc.length + s.length))
theorem WrOut.yes {b : Nat} {acc s : Tx} {w w' : World} {e : Ending} (h : WrOut b acc s w e w') (hl : acc.length + s.length ≤ 4096) : e = .returned (.bool true) ∧ IsB b b (acc ++ s) w' ∧ Wr b b w w' := by
  obtain ⟨q, rfl, hw, h | h⟩ := h
  · obtain ⟨rfl, _, h⟩ := h; exact ⟨rfl, h, hw⟩
  · omega
theorem WrOut.no {b : Nat} {acc s : Tx} {w w' : World} {e : Ending} (h : WrOut b acc s w e w') (hl : 4096 < acc.length + s.length) : e = .returned (.bool false) ∧ Wr b b w w' := by
  obtain ⟨q, rfl, hw, h | h⟩ := h
  · omega
  · obtain ⟨rfl, _⟩ := h; exact ⟨rfl, hw⟩
theorem WrOut.of_yes {b : Nat} {acc s : Tx} {w w' : World} (hw : Wr b b w w') (hl : acc.length + s.length ≤ 4096) (h : IsB b b (acc ++ s) w') : WrOut b acc s w (.returned (.bool true)) w' := ⟨true, rfl, hw, .inl ⟨rfl, hl, h⟩⟩
theorem WrOut.of_no {b : Nat} {acc s : Tx} {w w' : World} (hw : Wr b b w w') (hl : 4096 < acc.length + s.length) : WrOut b acc s w (.returned (.bool false)) w' := ⟨false, rfl, hw, .inr ⟨rfl, hl⟩⟩
/-- .. from an earlier world -/
theorem WrOut.back {b : Nat} {acc s : Tx} {w w0 w' : World} {e : Ending} (h : WrOut b acc s w e w') (hw : Wr b b w0 w) : WrOut b acc s w0 e w' := by
  obtain ⟨q, rfl, k, r⟩ := h
  exact ⟨q, rfl, hw.trans k, r⟩

set_option maxRecDepth 100000 in
set_option maxHeartbeats 1600000 in
theorem write_any (b : Nat) (acc s : Tx) (w : World) (h : IsB b b acc w) (ha : acc.length ≤ 4096) (hs : s.length ≤ 100000000) :
    Calls Tryz.prog 62 #[.string ⟨s.toArray⟩, .pointer (some ⟨b, 0, none⟩)] w (WrOut b acc s w) := by
  have CL := Lib.hid (Tryz.Builder_Len_f b b (Lib.byteCells acc) w h)
  rw [cells_length] at CL
  have CW := Lib.hid (write_string b b acc s w h (by omega))
  by_cases hl : acc.length + s.length ≤ 4096
  · have n1 : ¬ (4096 : Int) < (acc.length : Int) + (s.length : Int) := by omega
    have HO := Lib.hid (fun w' hi hw => WrOut.of_yes (b := b) (acc := acc) (s := s) (w := w) (w' := w') hw hl hi)
    clear h hl
    generalize acc.length = na at *
    go_enter Tryz.func62, Tryz.ntmps62
    go_wp2_with (first
      | (go_at_call 23; (with_reducible refine CL.out.mono ?_); rintro e w1 ⟨rfl, hw⟩; subst hw)
      | (go_at_call 21; (with_reducible refine CW.out.mono ?_); rintro e w2 ⟨rfl, hi2, hw2⟩)
      | fail)
    go_ret
    exact HO.out _ hi2 hw2
  · have n1 : (4096 : Int) < (acc.length : Int) + (s.length : Int) := by omega
    have HO := Lib.hid (fun w' hw => WrOut.of_no (b := b) (acc := acc) (s := s) (w := w) (w' := w') hw (by omega))
    clear h hl CW
    generalize acc.length = na at *
    go_enter Tryz.func62, Tryz.ntmps62
    go_wp2_with (first
      | (go_at_call 23; (with_reducible refine CL.out.mono ?_); rintro e w1 ⟨rfl, hw⟩; subst hw)
      | fail)
    go_ret
    exact HO.out _ (Wr.refl _ _ _)

end Go.Proofs.YtgjiofkjogjhhaaGreatDoor.Rp

namespace Go.Proofs.YtgjiofkjogjhhaaGreatDoor.Rp
open Go Go.RowKit Go.Shelf
open Go.Proofs.YtgjiofkjogjhhaaGreatDoor.Bd (Wr IsB)

/-- a printer's box, and a part's -/
structure PX (W : World) (pb xb : Nat) (vn vs : Value) (r : Int) (b : Nat) (j : Int) (q : Bool) : Prop where
  hp : W.heap[pb]? = some (.cells #[vn, vs, .int .i64 r, .func (.func 62) #[] #[.pointer (some ⟨b, 0, none⟩)]] 99 (0, 0))
  hx : W.heap[xb]? = some (.cells #[.int .i64 j, .bool q] 122 (0, 0))
theorem PX.wr {W W' : World} {pb xb b : Nat} {vn vs : Value} {r j : Int} {q : Bool} (h : PX W pb xb vn vs r b j q) (hw : Wr b b W W') (h1 : pb ≠ b) (h2 : xb ≠ b) : PX W' pb xb vn vs r b j q :=
  ⟨hw.box h.hp h1 (by decide), hw.box h.hx h2 (by decide)⟩
theorem PX.cells {W : World} {pb xb b : Nat} {vn vs : Value} {r j : Int} {q : Bool} (h : PX W pb xb vn vs r b j q) :
    W.cell? ⟨pb, 0, none⟩ = some vn ∧ W.cell? ⟨pb, 1, none⟩ = some vs ∧ W.cell? ⟨pb, 2, none⟩ = some (.int .i64 r) ∧ W.cell? ⟨pb, 3, none⟩ = some (.func (.func 62) #[] #[.pointer (some ⟨b, 0, none⟩)]) ∧ W.cell? ⟨xb, 0, none⟩ = some (.int .i64 j) ∧ W.cell? ⟨xb, 1, none⟩ = some (.bool q) := by
  refine ⟨?_, ?_, ?_, ?_, ?_, ?_⟩
  · rw [Lib.cell_of_heap h.hp]; rfl
  · rw [Lib.cell_of_heap h.hp]; rfl
  · rw [Lib.cell_of_heap h.hp]; rfl
  · rw [Lib.cell_of_heap h.hp]; rfl
  · rw [Lib.cell_of_heap h.hx]; rfl
  · rw [Lib.cell_of_heap h.hx]; rfl
theorem PX.new (w : World) (vn vs : Value) (r : Int) (b : Nat) (j : Int) (q : Bool) : PX ((w.alloc (.cells #[vn, vs, .int .i64 r, .func (.func 62) #[] #[.pointer (some ⟨b, 0, none⟩)]] 99)).alloc (.cells #[.int .i64 j, .bool q] 122)) w.heap.size (w.heap.size + 1) vn vs r b j q := by
  constructor
  · exact (heap_alloc_old _ _ (by simp)).trans (heap_alloc_new _ _)
  · exact heap_alloc2_new _ _ _

/-- what a call of node's tells, wherever the tree still stands -/
def NodeC (W0 : World) (b : Nat) (vn vs : Value) (r : Int) (j : Nat) (s : Tx) : Prop :=
  ∀ (acc : Tx) (w : World), acc.length ≤ 4096 → IsB b b acc w → Below W0.heap.size W0 w →
    Calls Tryz.prog 63 #[.agg #[vn, vs, .int .i64 r, .func (.func 62) #[] #[.pointer (some ⟨b, 0, none⟩)]], .int .i64 j] w (WrOut b acc s w)

set_option maxRecDepth 100000 in
set_option maxHeartbeats 4000000 in
theorem part_any (W0 : World) (b : Nat) (hb0 : W0.heap.size ≤ b) (vn vs : Value) (r : Int) (j : Nat) (s : Tx) (C : NodeC W0 b vn vs r j s) (q : Bool) (acc : Tx) (w : World) (ha : acc.length ≤ 4096) (hi : IsB b b acc w) (hw0 : Below W0.heap.size W0 w) :
    Calls Tryz.prog 107 #[.agg #[vn, vs, .int .i64 r, .func (.func 62) #[] #[.pointer (some ⟨b, 0, none⟩)]], .agg #[.int .i64 j, .bool q]] w (WrOut b acc (wrapL q s) w) := by
  unfold NodeC at C
  have hbw := hi.lt
  have hb2 := (((Below.refl w.heap.size w).alloc (Nat.le_refl _) (.cells #[vn, vs, .int .i64 r, .func (.func 62) #[] #[.pointer (some ⟨b, 0, none⟩)]] 99)).alloc (by simp) (.cells #[.int .i64 j, .bool q] 122))
  have B2 := Lib.hid (Wr.of_below (B := b) (b := b) hb2 (by omega))
  have I2 := Lib.hid (hi.next hb2)
  have D2 := Lib.hid (hw0.trans (hb2.mono hw0.size))
  have P2 := Lib.hid (PX.new w vn vs r b j q)
  have DW := Lib.hid (fun W W' (h : Below W0.heap.size W0 W) (k : Wr b b W W') => h.trans (k.below.mono hb0))
  have HC := Lib.hid C
  clear C hb2
  cases q
  · have CN := Lib.hid (HC.out acc _ ha I2.out D2.out)
    rw [show wrapL false s = s from rfl]
    clear HC
    go_enter Tryz.func107, Tryz.ntmps107
    go_wp2_with (go_at_call 63; (with_reducible refine CN.out.mono ?_); rintro e w1 ⟨q1, rfl, k1, k2⟩)
    go_ret
    exact ⟨q1, rfl, B2.out.trans k1, k2⟩
  · have hl : (wrapL true s).length = s.length + 2 := by simp [wrapL]
    have he : acc ++ wrapL true s = acc ++ [40] ++ s ++ [41] := by simp [wrapL]
    have HE := Lib.hid he
    have CA := Lib.hid (write_any b acc [40] _ I2.out ha (by simp))
    generalize wrapL true s = E at *
    clear he
    by_cases c1 : acc.length + 1 ≤ 4096
    · have CN := Lib.hid (fun W (h : IsB b b (acc ++ [40]) W) (k : Below W0.heap.size W0 W) => HC.out (acc ++ [40]) W (by simp; omega) h k)
      by_cases c2 : acc.length + 1 + s.length ≤ 4096
      · have CB := Lib.hid (fun W (h : IsB b b (acc ++ [40] ++ s) W) => write_any b (acc ++ [40] ++ s) [41] W h (by simp; omega) (by simp))
        have l1 : acc.length + ([40] : Tx).length ≤ 4096 := c1
        have l2 : (acc ++ [40]).length + s.length ≤ 4096 := by simp; omega
        have HL := Lib.hid (show acc.length + E.length = (acc ++ [40] ++ s).length + ([41] : Tx).length by simp; omega)
        have L1 := Lib.hid l1
        have L2 := Lib.hid l2
        clear l1 l2 c1 c2 HC hl ha
        go_enter Tryz.func107, Tryz.ntmps107
        go_wp2_with (first
          | (go_at_call 62; (with_reducible refine CA.out.mono ?_); rintro e w1 h1; go_must (obtain ⟨rfl, i1, k1⟩ := h1.yes L1.out; obtain ⟨p0, p1, p2, p3, x0, x1⟩ := (P2.out.wr k1 (by omega) (by omega)).cells; have P3 := Lib.hid (P2.out.wr k1 (by omega) (by omega)); have I3 := Lib.hid i1; have D3 := Lib.hid (DW.out _ _ D2.out k1); have K3 := Lib.hid (B2.out.trans k1); clear i1 k1 h1))
          | (go_at_call 63; (with_reducible refine (CN.out _ I3.out D3.out).mono ?_); rintro e w2 h2; go_must (obtain ⟨rfl, i2, k2⟩ := h2.yes L2.out; obtain ⟨p0, p1, p2, p3, x0, x1⟩ := (P3.out.wr k2 (by omega) (by omega)).cells; have I4 := Lib.hid i2; have K4 := Lib.hid (K3.out.trans k2); clear i2 k2 h2))
          | (go_at_call 62; (with_reducible refine (CB.out _ I4.out).mono ?_); rintro e w3 ⟨q3, rfl, k3, k4⟩)
          | fail)
        go_ret
        exact ⟨q3, rfl, K4.out.trans k3, by rw [HE.out, HL.out]; exact k4⟩
      · have L1 := Lib.hid (show acc.length + ([40] : Tx).length ≤ 4096 from c1)
        have L2 := Lib.hid (show 4096 < (acc ++ [40]).length + s.length by simp; omega)
        have HL := Lib.hid (show 4096 < acc.length + E.length by omega)
        clear c1 c2 HC hl ha
        go_enter Tryz.func107, Tryz.ntmps107
        go_wp2_with (first
          | (go_at_call 62; (with_reducible refine CA.out.mono ?_); rintro e w1 h1; go_must (obtain ⟨rfl, i1, k1⟩ := h1.yes L1.out; obtain ⟨p0, p1, p2, p3, x0, x1⟩ := (P2.out.wr k1 (by omega) (by omega)).cells; have I3 := Lib.hid i1; have D3 := Lib.hid (DW.out _ _ D2.out k1); have K3 := Lib.hid (B2.out.trans k1); clear i1 k1 h1))
          | (go_at_call 63; (with_reducible refine (CN.out _ I3.out D3.out).mono ?_); rintro e w2 h2; go_must (obtain ⟨rfl, k2⟩ := h2.no L2.out; have K4 := Lib.hid (K3.out.trans k2); clear k2 h2))
          | fail)
        go_ret
        exact WrOut.of_no K4.out HL.out
    · have L1 := Lib.hid (show 4096 < acc.length + ([40] : Tx).length by simp; omega)
      have HL := Lib.hid (show 4096 < acc.length + E.length by omega)
      clear c1 HC hl ha
      go_enter Tryz.func107, Tryz.ntmps107
      go_wp2_with (first
        | (go_at_call 62; (with_reducible refine CA.out.mono ?_); rintro e w1 h1; go_must (obtain ⟨rfl, k1⟩ := h1.no L1.out; have K3 := Lib.hid (B2.out.trans k1); clear k1 h1))
        | fail)
      go_ret
      exact WrOut.of_no K3.out HL.out

end Go.Proofs.YtgjiofkjogjhhaaGreatDoor.Rp

namespace Go.Proofs.YtgjiofkjogjhhaaGreatDoor.Rp
open Go Go.RowKit Go.Shelf
open Go.Proofs.YtgjiofkjogjhhaaGreatDoor.Bd (Wr IsB)
open Go.Proofs.YtgjiofkjogjhhaaGreatDoor.Ar (Nd nd Tr Ok TreeAt)

/-- the first k texts, with one between them -/
def joinK (btw : Tx) (T : Nat → Tx) : Nat → Tx
  | 0 => []
  | k + 1 => joinK btw T k ++ (if k = 0 then [] else btw) ++ T k
theorem joinK_first (btw : Tx) (T : Nat → Tx) : joinK btw T 1 = T 0 := by simp [joinK]
theorem joinK_next {btw : Tx} {T : Nat → Tx} {k : Nat} (h : 0 < k) : joinK btw T (k + 1) = joinK btw T k ++ btw ++ T k := by rw [joinK, if_neg (by omega)]
theorem joinK_le {btw : Tx} {T : Nat → Tx} {k n : Nat} (h : k ≤ n) : (joinK btw T k).length ≤ (joinK btw T n).length := by
  induction n with
  | zero =>
    obtain rfl : k = 0 := by omega
    exact Nat.le_refl _
  | succ n ih =>
    rcases Nat.lt_or_ge k (n + 1) with h1 | h1
    · have := ih (by omega)
      rw [joinK, List.length_append, List.length_append]; omega
    · obtain rfl : k = n + 1 := by omega
      exact Nat.le_refl _
/-- the k-th part -/
def nthP (L : List (Int × Bool)) (k : Nat) : Int × Bool := L.getD k (0, false)
theorem flatP_at : ∀ (L : List (Int × Bool)) (k : Nat), k < L.length → (flatP L)[k * 2]? = some (.int .i64 (nthP L k).1) ∧ (flatP L)[k * 2 + 1]? = some (.bool (nthP L k).2)
  | [], k, h => by simp at h
  | p :: r, 0, h => by simp [flatP, nthP]
  | p :: r, k + 1, h => by
    have := flatP_at r k (by simpa using h)
    rw [show (k + 1) * 2 = (k * 2) + 1 + 1 by omega]
    simpa [flatP, nthP] using this

theorem parts_form {W : World} {v : Value} {L : List (Int × Bool)} {b : Nat} {acc : Tx} (hne : L ≠ []) (h : PartsAt W v L) (hi : IsB b b acc W) :
    ∃ g : Addr, v = .slice (some g) L.length L.length ∧ ∀ W', Wr b b W W' → ∀ k, k < L.length → W'.cell? (g.add (k * 2)) = some (.int .i64 (nthP L k).1) ∧ W'.cell? ⟨(g.add (k * 2)).block, (g.add (k * 2)).off + 1, none⟩ = some (.bool (nthP L k).2) := by
  rcases h with ⟨_, h⟩ | ⟨B, rfl, hB⟩
  · exact absurd h hne
  · have hBb : B ≠ b := by
      intro e
      subst e
      have h1 : ∃ u v, W.heap[B]? = some (.cells #[u, v] 53 (0, 0)) := by
        rcases hi with h | h
        · obtain ⟨_, v, h, _⟩ := h; exact ⟨_, v, h⟩
        · obtain ⟨_, v, h, _⟩ := h; exact ⟨_, v, h⟩
      obtain ⟨u, v, h1⟩ := h1
      rw [hB] at h1; injection h1 with h1; injection h1 with _ h1; cases h1
    refine ⟨⟨B, 0, none⟩, rfl, fun W' hw k hk => ?_⟩
    have hb2 := hw.box hB hBb (by decide)
    obtain ⟨h1, h2⟩ := flatP_at L k hk
    rw [Rg.add_zero]
    rw [Lib.cell_of_heap hb2, Lib.cell_of_heap hb2]
    exact ⟨by simpa using h1, by simpa using h2⟩

/-- what a call of part's tells -/
def PartC (W0 : World) (b : Nat) (vn vs : Value) (r : Int) (L : List (Int × Bool)) (T : Nat → Tx) (k : Nat) : Prop :=
  ∀ (acc : Tx) (w : World), acc.length ≤ 4096 → IsB b b acc w → Below W0.heap.size W0 w →
    Calls Tryz.prog 107 #[.agg #[vn, vs, .int .i64 r, .func (.func 62) #[] #[.pointer (some ⟨b, 0, none⟩)]], .agg #[.int .i64 (nthP L k).1, .bool (nthP L k).2]] w (WrOut b acc (T k) w)

set_option maxRecDepth 100000 in
set_option maxHeartbeats 8000000 in
theorem row_any (t : Tr) (ht : Ok t) (i : Nat) (hi' : i < t.ns.length) (W0 : World) (vn vs : Value) (HT : TreeAt W0 (.agg #[vn, vs, .int .i64 t.root]) t) (b : Nat) (hb0 : W0.heap.size ≤ b) (btw : Tx) (hbt : btw.length ≤ 1) (T : Nat → Tx) (L : List (Int × Bool)) (hL : partsP t.ns (nd t.ns i) = L) (hne : L ≠ []) (_hll : L.length ≤ 2)
    (HP : ∀ k, k < L.length → PartC W0 b vn vs t.root L T k) (acc : Tx) (w : World) (ha : acc.length ≤ 4096) (hi : IsB b b acc w) (hw0 : Below W0.heap.size W0 w) :
    Calls Tryz.prog 90 #[.agg #[vn, vs, .int .i64 t.root, .func (.func 62) #[] #[.pointer (some ⟨b, 0, none⟩)]], .agg #[.int .i64 (nd t.ns i).op, .int .i64 (nd t.ns i).a, .int .i64 (nd t.ns i).b, .int .i64 (nd t.ns i).lo, .int .i64 (nd t.ns i).hi, .int .i64 (nd t.ns i).set], .string ⟨btw.toArray⟩] w (WrOut b acc (joinK btw T L.length) w) := by
  have hbw := hi.lt
  have HA := Lib.hid (fun W (h : Below W0.heap.size W0 W) => parts_any t ht i hi' _ W (HT.next h))
  rw [hL] at HA
  clear hL
  generalize nd t.ns i = n at *
  obtain ⟨op, na, nb, lo, hi2, st⟩ := n
  dsimp only at *
  have hb2 := (((Below.refl w.heap.size w).alloc (Nat.le_refl _) (.cells #[vn, vs, .int .i64 t.root, .func (.func 62) #[] #[.pointer (some ⟨b, 0, none⟩)]] 99)).alloc (by simp) (.cells #[.int .i64 op, .int .i64 na, .int .i64 nb, .int .i64 lo, .int .i64 hi2, .int .i64 st] 70))
  have hp2 : ((w.alloc (.cells #[vn, vs, .int .i64 t.root, .func (.func 62) #[] #[.pointer (some ⟨b, 0, none⟩)]] 99)).alloc (.cells #[.int .i64 op, .int .i64 na, .int .i64 nb, .int .i64 lo, .int .i64 hi2, .int .i64 st] 70)).heap[w.heap.size]? = some (.cells #[vn, vs, .int .i64 t.root, .func (.func 62) #[] #[.pointer (some ⟨b, 0, none⟩)]] 99 (0, 0)) := (heap_alloc_old _ _ (by simp)).trans (heap_alloc_new _ _)
  have HP2 := Lib.hid hp2
  have B2 := Lib.hid hb2
  have CP := Lib.hid (HA.out _ (hw0.trans (hb2.mono hw0.size)))
  have HI := Lib.hid hi
  have HW0 := Lib.hid hw0
  have HPP := Lib.hid HP
  unfold PartsOut at CP
  clear hb2 hp2 HA hi hw0 HP HT
  go_enter Tryz.func90, Tryz.ntmps90
  go_wp2_with (first
    | (go_at_call 97; (with_reducible refine CP.out.mono ?_); rintro e W ⟨v, rfl, hpv, hbW⟩; go_must (obtain ⟨g, rfl, hcs⟩ := parts_form hne hpv ((HI.out.next B2.out).next hbW); have BW := Lib.hid hbW; have HC := Lib.hid hcs; clear hpv hbW hcs))
    | fail)
  have hsz0 : w.heap.size + 2 ≤ W.heap.size := by have := BW.out.size; simp at this; omega
  have W1 := Lib.hid (Wr.of_below (B := b) (b := b) (B2.out.trans (BW.out.mono B2.out.size)) (by omega))
  have PW := Lib.hid ((BW.out.block w.heap.size (by simp; omega)).trans HP2.out)
  have IW := Lib.hid ((HI.out.next B2.out).next BW.out)
  have DW := Lib.hid (HW0.out.trans ((B2.out.trans (BW.out.mono B2.out.size)).mono HW0.out.size))
  clear CP HP2 HI HW0
  generalize (w.alloc (.cells #[vn, vs, .int .i64 t.root, .func (.func 62) #[] #[.pointer (some ⟨b, 0, none⟩)]] 99)).alloc (.cells #[.int .i64 op, .int .i64 na, .int .i64 nb, .int .i64 lo, .int .i64 hi2, .int .i64 st] 70) = Wb at *
  go_loopw [14] (fun i wr => ∃ k : Nat, i = .int .i64 k ∧ k ≤ L.length ∧ acc.length + (joinK btw T k).length ≤ 4096 ∧ IsB b b (acc ++ joinK btw T k) wr ∧ Wr b b W wr) (fun i _ => L.length - (intOf i).toNat)
  case atStart => exact ⟨0, rfl, Nat.zero_le _, by simpa [joinK] using ha, by simpa [joinK] using IW.out, Wr.refl _ _ _⟩
  case round =>
    obtain ⟨k, rfl, hk, hlen, hib, hwr⟩ := hrel
    have hsz := hwr.size
    have HIB := Lib.hid hib
    have HWR := Lib.hid hwr
    have hpb := hwr.box PW.out (by omega) (by decide)
    by_cases hlt : k < L.length
    · obtain ⟨c0, c1⟩ := HC.out wr hwr k hlt
      have hbx := fun o => (Below.refl wr.heap.size wr).alloc (Nat.le_refl _) o
      have hwx := fun o => hwr.trans (Wr.of_below (B := b) (b := b) (hbx o) (by omega))
      have HWX := Lib.hid hwx
      have HDX := Lib.hid (fun o => DW.out.trans ((hwx o).below.mono hb0))
      have HIX := Lib.hid (fun o => hib.next (hbx o))
      have HPK := Lib.hid (HPP.out k hlt)
      unfold PartC at HPK
      have hAl : (acc ++ joinK btw T k).length ≤ 4096 := by rw [List.length_append]; exact hlen
      have HNX := Lib.hid (show ∀ M : Tx, M = (if k = 0 then [] else btw) → acc ++ joinK btw T (k + 1) = acc ++ joinK btw T k ++ M ++ T k from fun M hM => by rw [joinK, hM]; simp)
      have HNO := Lib.hid (show ∀ M : Tx, M = (if k = 0 then [] else btw) → 4096 < (acc ++ joinK btw T k).length + M.length + (T k).length → 4096 < acc.length + (joinK btw T L.length).length from fun M hM h => by
        have h1 := joinK_le (btw := btw) (T := T) (k := k + 1) (n := L.length) hlt
        rw [joinK, ← hM] at h1
        simp only [List.length_append] at h h1
        omega)
      have HLN := Lib.hid (show ∀ M : Tx, M = (if k = 0 then [] else btw) → acc.length + (joinK btw T (k + 1)).length = (acc ++ joinK btw T k).length + M.length + (T k).length from fun M hM => by
        rw [joinK, ← hM]; simp only [List.length_append]; omega)
      have HPX := Lib.hid (show ∀ j q, PX (wr.alloc (.cells #[.int .i64 j, .bool q] 122)) w.heap.size wr.heap.size vn vs t.root b j q from fun j q => ⟨(heap_alloc_old _ _ (by omega)).trans hpb, heap_alloc_new _ _⟩)
      have hcell := Lib.cell_of_heap hpb
      have p0 : wr.cell? ⟨w.heap.size, 0, none⟩ = some vn := by rw [hcell]; rfl
      have p1 : wr.cell? ⟨w.heap.size, 1, none⟩ = some vs := by rw [hcell]; rfl
      have p2 : wr.cell? ⟨w.heap.size, 2, none⟩ = some (.int .i64 t.root) := by rw [hcell]; rfl
      have p3 : wr.cell? ⟨w.heap.size, 3, none⟩ = some (.func (.func 62) #[] #[.pointer (some ⟨b, 0, none⟩)]) := by rw [hcell]; rfl
      clear hib hwr hpb hbx hwx hlen HPP hcell
      generalize acc ++ joinK btw T k = A at *
      generalize nthP L k = x at *
      obtain ⟨j, q⟩ := x
      dsimp only at *
      have hlt2 : w.heap.size < wr.heap.size := by omega
      by_cases hk0 : k = 0
      · subst hk0
        rw [show g.add (0 * 2) = g by simp [Addr.add]] at c0 c1
        have hM : ([] : Tx) = (if 0 = 0 then [] else btw) := rfl
        have CQ := Lib.hid (HPK.out A (wr.alloc (.cells #[.int .i64 j, .bool q] 122)) hAl (HIX.out _) (HDX.out _))
        by_cases hl : A.length + (T 0).length ≤ 4096
        · have L1 := Lib.hid hl
          go_wp2_with (go_at_call 107; (with_reducible refine CQ.out.mono ?_); rintro e w2 h2; go_must (obtain ⟨rfl, i2, k2⟩ := h2.yes L1.out; have I2 := Lib.hid i2; have K2 := Lib.hid ((HWX.out _).trans k2); clear i2 k2 h2))
          go_roundw
          case rel => exact ⟨0 + 1, by go_num, by omega, by rw [HLN.out [] hM]; simpa using L1.out, by rw [HNX.out [] hM]; simpa using I2.out, K2.out⟩
          case measure => simp [intOf]; omega
        · have L1 := Lib.hid (show 4096 < A.length + (T 0).length by omega)
          go_wp2_with (go_at_call 107; (with_reducible refine CQ.out.mono ?_); rintro e w2 h2; go_must (obtain ⟨rfl, k2⟩ := h2.no L1.out; have K2 := Lib.hid ((HWX.out _).trans k2); clear k2 h2))
          go_ret
          exact WrOut.of_no (W1.out.trans K2.out) (HNO.out [] hM (by simpa using L1.out))
      · have HM := Lib.hid (show btw = (if k = 0 then [] else btw) by rw [if_neg hk0])
        have hkp : (0 : Int) < (k : Int) := by omega
        have hkn : 0 < k := by omega
        have hkd : decide (0 < k) = true := by simpa using hkn
        have CA := Lib.hid (write_any b A btw (wr.alloc (.cells #[.int .i64 j, .bool q] 122)) (HIX.out _) hAl (by omega))
        by_cases hl1 : A.length + btw.length ≤ 4096
        · have CQ := Lib.hid (fun W2 (h : IsB b b (A ++ btw) W2) (h2 : Below W0.heap.size W0 W2) => HPK.out (A ++ btw) W2 (by rw [List.length_append]; exact hl1) h h2)
          have L1 := Lib.hid hl1
          by_cases hl : A.length + btw.length + (T k).length ≤ 4096
          · have L2 := Lib.hid (show (A ++ btw).length + (T k).length ≤ 4096 by rw [List.length_append]; exact hl)
            go_wp2_with (first
              | (go_at_call 62; (with_reducible refine CA.out.mono ?_); rintro e w1 h1; go_must (obtain ⟨rfl, i1, k1⟩ := h1.yes L1.out; obtain ⟨r0, r1, r2, r3, x0, x1⟩ := ((HPX.out j q).wr k1 (by omega) (by omega)).cells; have I3 := Lib.hid i1; have K3 := Lib.hid ((HWX.out _).trans k1); have D3 := Lib.hid (DW.out.trans (K3.out.below.mono hb0)); clear i1 k1 h1))
              | (go_at_call 107; (with_reducible refine (CQ.out _ I3.out D3.out).mono ?_); rintro e w2 h2; go_must (obtain ⟨rfl, i2, k2⟩ := h2.yes L2.out; have I2 := Lib.hid i2; have K2 := Lib.hid (K3.out.trans k2); clear i2 k2 h2))
              | fail)
            go_roundw
            case rel => exact ⟨k + 1, by go_num, by omega, by rw [HLN.out btw HM.out]; have := L2.out; rw [List.length_append] at this; exact this, by rw [HNX.out btw HM.out]; exact I2.out, K2.out⟩
            case measure => simp [intOf]; omega
          · have L2 := Lib.hid (show 4096 < (A ++ btw).length + (T k).length by rw [List.length_append]; omega)
            go_wp2_with (first
              | (go_at_call 62; (with_reducible refine CA.out.mono ?_); rintro e w1 h1; go_must (obtain ⟨rfl, i1, k1⟩ := h1.yes L1.out; obtain ⟨r0, r1, r2, r3, x0, x1⟩ := ((HPX.out j q).wr k1 (by omega) (by omega)).cells; have I3 := Lib.hid i1; have K3 := Lib.hid ((HWX.out _).trans k1); have D3 := Lib.hid (DW.out.trans (K3.out.below.mono hb0)); clear i1 k1 h1))
              | (go_at_call 107; (with_reducible refine (CQ.out _ I3.out D3.out).mono ?_); rintro e w2 h2; go_must (obtain ⟨rfl, k2⟩ := h2.no L2.out; have K2 := Lib.hid (K3.out.trans k2); clear k2 h2))
              | fail)
            go_ret
            exact WrOut.of_no (W1.out.trans K2.out) (HNO.out btw HM.out (by have := L2.out; rw [List.length_append] at this; exact this))
        · have L1 := Lib.hid (show 4096 < A.length + btw.length by omega)
          go_wp2_with (first
            | (go_at_call 62; (with_reducible refine CA.out.mono ?_); rintro e w1 h1; go_must (obtain ⟨rfl, k1⟩ := h1.no L1.out; have K2 := Lib.hid ((HWX.out _).trans k1); clear k1 h1))
            | fail)
          go_ret
          exact WrOut.of_no (W1.out.trans K2.out) (HNO.out btw HM.out (by have := L1.out; omega))
    · obtain rfl : k = L.length := by omega
      have L1 := Lib.hid hlen
      clear hib hwr hpb hlen
      go_wp2
      go_ret
      exact WrOut.of_yes (W1.out.trans HWR.out) L1.out HIB.out

end Go.Proofs.YtgjiofkjogjhhaaGreatDoor.Rp

namespace Go.Proofs.YtgjiofkjogjhhaaGreatDoor.Rp
open Go Go.RowKit Go.Shelf
open Go.Proofs.YtgjiofkjogjhhaaGreatDoor.Bd (Wr IsB)
open Go.Proofs.YtgjiofkjogjhhaaGreatDoor.Ar (Nd nd Tr Ok TreeAt NodeAt nodeB_ways)
open Go.Proofs.YtgjiofkjogjhhaaGreatDoor.Rg (nthL rightB)

/-- the text of the k-th part -/
def partT (S : List (List Rg.R)) (l : List Nd) (L : List (Int × Bool)) (k : Nat) : Tx := wrapL (nthP L k).2 (textL S l (nthP L k).1.toNat)
theorem parts_cat {l : List Nd} {n : Nd} (h : n.op = 3) : partsP l n = [(n.a, opB l n.a [4]), (n.b, opB l n.b [3, 4])] := by unfold partsP; rw [if_pos h]
theorem parts_alt {l : List Nd} {n : Nd} (h : n.op = 4) : partsP l n = [(n.a, false), (n.b, opB l n.b [4])] := by unfold partsP; rw [if_neg (by omega), if_pos h]
theorem parts_rep {l : List Nd} {n : Nd} (h : n.op = 5) : partsP l n = [(n.a, opB l n.a [3, 4, 5])] := by unfold partsP; rw [if_neg (by omega), if_neg (by omega), if_pos h]
theorem parts_lt {t : Tr} (ht : Ok t) {i : Nat} (hi : i < t.ns.length) {k : Nat} (hk : k < (partsP t.ns (nd t.ns i)).length) : 0 ≤ (nthP (partsP t.ns (nd t.ns i)) k).1 ∧ (nthP (partsP t.ns (nd t.ns i)) k).1 < i := by
  rcases nodeB_ways (ht.node i hi) with ⟨h1, _⟩ | ⟨h1, _⟩ | ⟨h1 | h1, h2⟩ | ⟨h1, h2⟩
  · unfold partsP at hk; rw [if_neg (by omega), if_neg (by omega), if_neg (by omega)] at hk; simp at hk
  · unfold partsP at hk; rw [if_neg (by omega), if_neg (by omega), if_neg (by omega)] at hk; simp at hk
  · rw [parts_cat h1] at hk ⊢
    simp at hk
    have e : k = 0 ∨ k = 1 := by omega
    rcases e with rfl | rfl <;> simp [nthP] <;> omega
  · rw [parts_alt h1] at hk ⊢
    simp at hk
    have e : k = 0 ∨ k = 1 := by omega
    rcases e with rfl | rfl <;> simp [nthP] <;> omega
  · rw [parts_rep h1] at hk ⊢
    simp at hk
    subst hk
    simp [nthP]; omega

theorem parts_two (l : List Nd) (n : Nd) : (partsP l n).length ≤ 2 := by
  unfold partsP; split
  · simp
  · split
    · simp
    · split <;> simp

/-- a printer's box, and a node's -/
structure PN (W : World) (pb nb : Nat) (vn vs : Value) (r : Int) (b : Nat) (n : Nd) : Prop where
  hp : W.heap[pb]? = some (.cells #[vn, vs, .int .i64 r, .func (.func 62) #[] #[.pointer (some ⟨b, 0, none⟩)]] 99 (0, 0))
  hn : W.heap[nb]? = some (.cells #[.int .i64 n.op, .int .i64 n.a, .int .i64 n.b, .int .i64 n.lo, .int .i64 n.hi, .int .i64 n.set] 70 (0, 0))
theorem PN.wr {W W' : World} {pb nb b : Nat} {vn vs : Value} {r : Int} {n : Nd} (h : PN W pb nb vn vs r b n) (hw : Wr b b W W') (h1 : pb ≠ b) (h2 : nb ≠ b) : PN W' pb nb vn vs r b n :=
  ⟨hw.box h.hp h1 (by decide), hw.box h.hn h2 (by decide)⟩
theorem PN.next {W W' : World} {pb nb b : Nat} {vn vs : Value} {r : Int} {n : Nd} (h : PN W pb nb vn vs r b n) (hb : Below W.heap.size W W') : PN W' pb nb vn vs r b n :=
  ⟨(hb.block _ (Array.getElem?_eq_some_iff.1 h.hp).1).trans h.hp, (hb.block _ (Array.getElem?_eq_some_iff.1 h.hn).1).trans h.hn⟩
theorem PN.cells {W : World} {pb nb b : Nat} {vn vs : Value} {r : Int} {n : Nd} (h : PN W pb nb vn vs r b n) :
    W.cell? ⟨pb, 0, none⟩ = some vn ∧ W.cell? ⟨pb, 1, none⟩ = some vs ∧ W.cell? ⟨pb, 2, none⟩ = some (.int .i64 r) ∧ W.cell? ⟨pb, 3, none⟩ = some (.func (.func 62) #[] #[.pointer (some ⟨b, 0, none⟩)]) ∧
    W.cell? ⟨nb, 0, none⟩ = some (.int .i64 n.op) ∧ W.cell? ⟨nb, 1, none⟩ = some (.int .i64 n.a) ∧ W.cell? ⟨nb, 2, none⟩ = some (.int .i64 n.b) ∧ W.cell? ⟨nb, 3, none⟩ = some (.int .i64 n.lo) ∧ W.cell? ⟨nb, 4, none⟩ = some (.int .i64 n.hi) ∧ W.cell? ⟨nb, 5, none⟩ = some (.int .i64 n.set) := by
  refine ⟨?_, ?_, ?_, ?_, ?_, ?_, ?_, ?_, ?_, ?_⟩
  all_goals first
    | (rw [Lib.cell_of_heap h.hp]; rfl)
    | (rw [Lib.cell_of_heap h.hn]; rfl)
theorem PN.new (w : World) (vn vs : Value) (r : Int) (b : Nat) (n : Nd) : PN ((w.alloc (.cells #[vn, vs, .int .i64 r, .func (.func 62) #[] #[.pointer (some ⟨b, 0, none⟩)]] 99)).alloc (.cells #[.int .i64 n.op, .int .i64 n.a, .int .i64 n.b, .int .i64 n.lo, .int .i64 n.hi, .int .i64 n.set] 70)) w.heap.size (w.heap.size + 1) vn vs r b n := by
  constructor
  · exact (heap_alloc_old _ _ (by simp)).trans (heap_alloc_new _ _)
  · exact heap_alloc2_new _ _ _

set_option maxRecDepth 100000 in
set_option maxHeartbeats 8000000 in
theorem node_any (t : Tr) (ht : Ok t) (hs30 : ∀ k, k < t.sets.length → (nthL t.sets k).length ≤ 30) (W0 : World) (vn vs : Value) (HT : TreeAt W0 (.agg #[vn, vs, .int .i64 t.root]) t) (hst : Dg.St W0) (b : Nat) (hb0 : W0.heap.size ≤ b) :
    ∀ i, i < t.ns.length → NodeC W0 b vn vs t.root i (textL t.sets t.ns i) := by
  intro i
  induction i using Nat.strongRecOn with
  | ind i ih =>
    intro hi acc w ha hib hw0
    have hbw := hib.lt
    have CR := Lib.hid (fun (btw : Tx) (hbt : btw.length ≤ 1) (hne : partsP t.ns (nd t.ns i) ≠ []) W (h1 : IsB b b acc W) (h2 : Below W0.heap.size W0 W) => row_any t ht i hi W0 vn vs HT b hb0 btw hbt (partT t.sets t.ns (partsP t.ns (nd t.ns i))) _ rfl hne (parts_two _ _) (fun k hk acc w ha hi2 hw => by
      have hp := parts_lt ht hi hk
      have := part_any W0 b hb0 vn vs t.root (nthP (partsP t.ns (nd t.ns i)) k).1.toNat _ (ih _ (by omega) (by omega)) (nthP (partsP t.ns (nd t.ns i)) k).2 acc w ha hi2 hw
      rw [show (((nthP (partsP t.ns (nd t.ns i)) k).1.toNat : Nat) : Int) = (nthP (partsP t.ns (nd t.ns i)) k).1 by omega] at this
      exact this) acc W ha h1 h2)
    obtain ⟨ao, cap, so, scap, hve, hm, hm2, hn, hss⟩ := HT.shape
    have hve2 : vn = .slice ao t.ns.length cap ∧ vs = .slice so t.sets.length scap := by simpa using hve
    obtain ⟨rfl, rfl⟩ := hve2
    obtain ⟨g, rfl, hN⟩ := hn i hi
    obtain ⟨c0, c1, c2, c3, c4, c5⟩ := hN.next hw0
    have hlt := cell_lt c0
    have hb2 := fun (n : Nd) => (((Below.refl w.heap.size w).alloc (Nat.le_refl _) (.cells #[.slice (some g) t.ns.length cap, .slice so t.sets.length scap, .int .i64 t.root, .func (.func 62) #[] #[.pointer (some ⟨b, 0, none⟩)]] 99)).alloc (by simp) (.cells #[.int .i64 n.op, .int .i64 n.a, .int .i64 n.b, .int .i64 n.lo, .int .i64 n.hi, .int .i64 n.set] 70))
    have B2 := Lib.hid (fun n => Wr.of_below (B := b) (b := b) (hb2 n) (by omega))
    have I2 := Lib.hid (fun n => hib.next (hb2 n))
    have D2 := Lib.hid (fun n => hw0.trans ((hb2 n).mono hw0.size))
    have HST := Lib.hid (fun W (h : Below W0.heap.size W0 W) => hst.next h)
    clear hn hb2 ih hve hN hst
    rcases nodeB_ways (ht.node i hi) with ⟨h1, h2⟩ | ⟨h1, h2⟩ | ⟨h1 | h1, h2⟩ | ⟨h1, h2⟩
    · rw [text_one h1]
      clear h2
      have CA := Lib.hid (write_any b acc [40, 41] _ (I2.out (nd t.ns i)) ha (by simp))
      have BB := Lib.hid (B2.out (nd t.ns i))
      clear CR hss ht HT D2 I2 B2 hs30 HST hib hw0
      generalize nd t.ns i = n at *
      obtain ⟨op, na, nb, lo, hi2, st⟩ := n
      dsimp only at *
      subst h1
      go_enter Tryz.func63, Tryz.ntmps63
      go_wp2_with (go_at_call 62; (with_reducible refine CA.out.mono ?_); rintro e w1 ⟨q1, rfl, k1, k2⟩)
      go_ret
      exact ⟨q1, rfl, BB.out.trans k1, k2⟩
    · have HE := Lib.hid (text_set (S := t.sets) (l := t.ns) (i := i) h1)
      have hs0 : 0 ≤ (nd t.ns i).set ∧ (nd t.ns i).set < t.sets.length := ⟨h2.2.2.2.2.1, h2.2.2.2.2.2⟩
      obtain ⟨k, hk⟩ := Int.eq_ofNat_of_zero_le hs0.1
      have hks : k < t.sets.length := by omega
      obtain ⟨gs, x, rfl, x1, x2⟩ := hss k hks
      have CS := Lib.hid (fun W (hb : Below W0.heap.size W0 W) => setp_any (nthL t.sets k) x W (x2.next hb) (ht.sets _ (by rw [Rg.nthL_eq hks]; exact List.getElem_mem hks)) (hs30 k hks) (HST.out W hb))
      have hsl := set_len (nthL t.sets k)
      have h30 := hs30 k hks
      have X1 := Lib.hid (fun W (hb : Below W0.heap.size W0 W) => cell_next x1 hb)
      rw [hk, Int.toNat_natCast] at HE
      rw [HE.out]
      have CA := Lib.hid (fun W (h : IsB b b acc W) => write_any b acc (setL (nthL t.sets k)) W h ha (by omega))
      have BB := Lib.hid (B2.out (nd t.ns i))
      have II := Lib.hid (I2.out (nd t.ns i))
      have DD := Lib.hid (D2.out (nd t.ns i))
      have PP := Lib.hid (PN.new w (.slice (some g) t.ns.length cap) (.slice (some gs) t.sets.length scap) t.root b (nd t.ns i))
      clear CR hss ht HT D2 I2 B2 hs30 HST hib hw0 h2 HE hs0 x1 x2 hsl h30
      generalize setL (nthL t.sets k) = E at *
      generalize nd t.ns i = n at *
      obtain ⟨op, na, nb, lo, hi2, st⟩ := n
      dsimp only at *
      subst h1 hk
      go_enter Tryz.func63, Tryz.ntmps63
      go_wp2
      generalize ((w.alloc (.cells #[.slice (some g) t.ns.length cap, .slice (some gs) t.sets.length scap, .int .i64 t.root, .func (.func 62) #[] #[.pointer (some ⟨b, 0, none⟩)]] 99)).alloc (.cells #[.int .i64 2, .int .i64 na, .int .i64 nb, .int .i64 lo, .int .i64 hi2, .int .i64 (k : Int)] 70)) = W at *
      have P0 := Lib.hid (PP.out.next (Below.refl _ W).drew)
      have I0 := Lib.hid (II.out.next (Below.refl _ W).drew)
      have D0 := Lib.hid (DD.out.drew)
      have B0 := Lib.hid (BB.out.trans (Wr.of_below (B := b) (b := b) (Below.refl _ W).drew (by have := II.out.lt; omega)))
      obtain ⟨p0, p1, p2, p3, n0, n1, n2, n3, n4, n5⟩ := P0.out.cells
      have e0 := X1.out _ D0.out
      dsimp only at n5
      clear PP II DD BB p0 p2 n0 n1 n2 n3 n4
      go_region_held3 (fun W => W.cell? ⟨w.heap.size, 1, none⟩ = some (.slice (some gs) t.sets.length scap) ∧ W.cell? ⟨w.heap.size, 3, none⟩ = some (.func (.func 62) #[] #[.pointer (some ⟨b, 0, none⟩)]) ∧ W.cell? ⟨w.heap.size + 1, 5, none⟩ = some (.int .i64 (k : Int)) ∧ W.cell? (gs.add k) = some x) (first | exact ⟨by assumption, by assumption, by assumption, by assumption⟩ | go_keep)
        (first
          | (go_at_call 89; (with_reducible refine (CS.out _ D0.out).mono ?_); rintro e w1 ⟨rfl, hb1⟩; go_must (have P1 := Lib.hid (P0.out.next hb1); have I1 := Lib.hid (I0.out.next hb1); have D1 := Lib.hid (D0.out.trans (hb1.mono D0.out.size)); have B1 := Lib.hid (B0.out.trans (Wr.of_below (B := b) (b := b) hb1 (by have := I0.out.lt; omega))); obtain ⟨r0, r1, r2, r3, m0, m1, m2, m3, m4, m5⟩ := P1.out.cells; have e1 := X1.out _ D1.out; dsimp only at m5; clear r0 r2 m0 m1 m2 m3 m4 hb1))
          | (go_at_call 62; (with_reducible refine (CA.out _ I1.out).mono ?_); rintro e w2 ⟨q1, rfl, k1, k2⟩; go_must (have P2 := Lib.hid (P1.out.wr k1 (by omega) (by omega)); have D2 := Lib.hid (D1.out.trans (k1.below.mono hb0)); have B2 := Lib.hid (B1.out.trans k1); have K2 := Lib.hid k2; obtain ⟨r0, r1, r2, r3, m0, m1, m2, m3, m4, m5⟩ := P2.out.cells; have e2 := X1.out _ D2.out; dsimp only at m5; clear r0 r2 m0 m1 m2 m3 m4 k1 k2))
          | fail)
      all_goals (
        go_wp2
        go_ret
        exact ⟨q1, rfl, B2.out, K2.out⟩)
    · rw [text_cat h1 (by omega) (by omega)]
      have he : wrapL (opB t.ns (nd t.ns i).a [4]) (textL t.sets t.ns (nd t.ns i).a.toNat) ++ wrapL (opB t.ns (nd t.ns i).b [3, 4]) (textL t.sets t.ns (nd t.ns i).b.toNat) = joinK [] (partT t.sets t.ns (partsP t.ns (nd t.ns i))) (partsP t.ns (nd t.ns i)).length := by
        rw [parts_cat h1]; simp [joinK, partT, nthP]
      rw [he]
      have CA := Lib.hid (CR.out [] (by simp) (by rw [parts_cat h1]; simp) _ (I2.out (nd t.ns i)) (D2.out (nd t.ns i)))
      have BB := Lib.hid (B2.out (nd t.ns i))
      clear CR hss ht HT D2 I2 B2 hs30 HST hib hw0 h2 he
      generalize joinK [] (partT t.sets t.ns (partsP t.ns (nd t.ns i))) (partsP t.ns (nd t.ns i)).length = E at *
      generalize nd t.ns i = n at *
      obtain ⟨op, na, nb, lo, hi2, st⟩ := n
      dsimp only at *
      subst h1
      go_enter Tryz.func63, Tryz.ntmps63
      go_wp2_with (go_at_call 90; (with_reducible refine CA.out.mono ?_); rintro e w1 ⟨q1, rfl, k1, k2⟩)
      go_ret
      exact ⟨q1, rfl, BB.out.trans k1, k2⟩
    · rw [text_alt h1 (by omega) (by omega)]
      have he : textL t.sets t.ns (nd t.ns i).a.toNat ++ [124] ++ wrapL (opB t.ns (nd t.ns i).b [4]) (textL t.sets t.ns (nd t.ns i).b.toNat) = joinK [124] (partT t.sets t.ns (partsP t.ns (nd t.ns i))) (partsP t.ns (nd t.ns i)).length := by
        rw [parts_alt h1]; simp [joinK, partT, nthP, wrapL]
      rw [he]
      have CA := Lib.hid (CR.out [124] (by simp) (by rw [parts_alt h1]; simp) _ (I2.out (nd t.ns i)) (D2.out (nd t.ns i)))
      have BB := Lib.hid (B2.out (nd t.ns i))
      clear CR hss ht HT D2 I2 B2 hs30 HST hib hw0 h2 he
      generalize joinK [124] (partT t.sets t.ns (partsP t.ns (nd t.ns i))) (partsP t.ns (nd t.ns i)).length = E at *
      generalize nd t.ns i = n at *
      obtain ⟨op, na, nb, lo, hi2, st⟩ := n
      dsimp only at *
      subst h1
      go_enter Tryz.func63, Tryz.ntmps63
      go_wp2_with (go_at_call 90; (with_reducible refine CA.out.mono ?_); rintro e w1 ⟨q1, rfl, k1, k2⟩)
      go_ret
      exact ⟨q1, rfl, BB.out.trans k1, k2⟩
    · rw [text_rep h1 (by omega)]
      have he : wrapL (opB t.ns (nd t.ns i).a [3, 4, 5]) (textL t.sets t.ns (nd t.ns i).a.toNat) = joinK [] (partT t.sets t.ns (partsP t.ns (nd t.ns i))) (partsP t.ns (nd t.ns i)).length := by
        rw [parts_rep h1]; simp [joinK, partT, nthP]
      rw [he]
      have CA := Lib.hid (fun W (h : IsB b b acc W) (h2 : Below W0.heap.size W0 W) => CR.out [] (by simp) (by rw [parts_rep h1]; simp) W h h2)
      have htm := times_le (rep_times (ht.node i hi) h1)
      have CO := Lib.hid (fun W (h : Below W0.heap.size W0 W) => often_any (nd t.ns i).lo (nd t.ns i).hi W (by omega) (by omega) (by omega) (by omega) (HST.out W h))
      have hol := often_len (lo := (nd t.ns i).lo) (hi := (nd t.ns i).hi) (by omega) (by omega)
      have BB := Lib.hid (B2.out (nd t.ns i))
      have II := Lib.hid (I2.out (nd t.ns i))
      have DD := Lib.hid (D2.out (nd t.ns i))
      have PP := Lib.hid (PN.new w (.slice (some g) t.ns.length cap) (.slice so t.sets.length scap) t.root b (nd t.ns i))
      clear CR hss ht HT D2 I2 B2 hs30 HST hib hw0 h2 he htm
      generalize joinK [] (partT t.sets t.ns (partsP t.ns (nd t.ns i))) (partsP t.ns (nd t.ns i)).length = R at *
      generalize nd t.ns i = n at *
      obtain ⟨op, na, nb, lo, hi2, st⟩ := n
      dsimp only at *
      subst h1
      generalize oftenL lo hi2 = OF at *
      by_cases hl : acc.length + R.length ≤ 4096
      · have L1 := Lib.hid hl
        have LL := Lib.hid (show acc.length + (R ++ OF).length = (acc ++ R).length + OF.length by simp only [List.length_append]; omega)
        have CW := Lib.hid (fun W (h : IsB b b (acc ++ R) W) => write_any b (acc ++ R) OF W h (by rw [List.length_append]; exact hl) (by omega))
        clear hl hol
        go_enter Tryz.func63, Tryz.ntmps63
        go_wp2
        generalize ((w.alloc (.cells #[.slice (some g) t.ns.length cap, .slice so t.sets.length scap, .int .i64 t.root, .func (.func 62) #[] #[.pointer (some ⟨b, 0, none⟩)]] 99)).alloc (.cells #[.int .i64 5, .int .i64 na, .int .i64 nb, .int .i64 lo, .int .i64 hi2, .int .i64 st] 70)) = W at *
        have P0 := Lib.hid (PP.out.next (Below.refl _ W).drew)
        have I0 := Lib.hid (II.out.next (Below.refl _ W).drew)
        have D0 := Lib.hid (DD.out.drew)
        have B0 := Lib.hid (BB.out.trans (Wr.of_below (B := b) (b := b) (Below.refl _ W).drew (by have := II.out.lt; omega)))
        obtain ⟨p0, p1, p2, p3, n0, n1, n2, n3, n4, n5⟩ := P0.out.cells
        dsimp only at n0 n1 n2 n3 n4 n5
        clear PP II DD BB
        go_region_held3 (fun W => W.cell? ⟨w.heap.size, 0, none⟩ = some (.slice (some g) t.ns.length cap) ∧ W.cell? ⟨w.heap.size, 1, none⟩ = some (.slice so t.sets.length scap) ∧ W.cell? ⟨w.heap.size, 2, none⟩ = some (.int .i64 t.root) ∧ W.cell? ⟨w.heap.size, 3, none⟩ = some (.func (.func 62) #[] #[.pointer (some ⟨b, 0, none⟩)]) ∧ W.cell? ⟨w.heap.size + 1, 0, none⟩ = some (.int .i64 5) ∧ W.cell? ⟨w.heap.size + 1, 1, none⟩ = some (.int .i64 na) ∧ W.cell? ⟨w.heap.size + 1, 2, none⟩ = some (.int .i64 nb) ∧ W.cell? ⟨w.heap.size + 1, 3, none⟩ = some (.int .i64 lo) ∧ W.cell? ⟨w.heap.size + 1, 4, none⟩ = some (.int .i64 hi2) ∧ W.cell? ⟨w.heap.size + 1, 5, none⟩ = some (.int .i64 st)) (first | exact ⟨by assumption, by assumption, by assumption, by assumption, by assumption, by assumption, by assumption, by assumption, by assumption, by assumption⟩ | go_keep)
          (first
            | (go_at_call 90; (with_reducible refine (CA.out _ I0.out D0.out).mono ?_); rintro e w1 hr1; go_must (obtain ⟨rfl, i1, k1⟩ := hr1.yes L1.out; have P1 := Lib.hid (P0.out.wr k1 (by omega) (by omega)); have I1 := Lib.hid i1; have D1 := Lib.hid (D0.out.trans (k1.below.mono hb0)); have B1 := Lib.hid (B0.out.trans k1); obtain ⟨r0, r1, r2, r3, m0, m1, m2, m3, m4, m5⟩ := P1.out.cells; dsimp only at m0 m1 m2 m3 m4 m5; clear i1 k1 hr1))
            | (go_at_call 91; (with_reducible refine (CO.out _ D1.out).mono ?_); rintro e w2 ⟨rfl, hb1⟩; go_must (have P2 := Lib.hid (P1.out.next hb1); have I2 := Lib.hid (I1.out.next hb1); have B2 := Lib.hid (B1.out.trans (Wr.of_below (B := b) (b := b) hb1 (by have := I1.out.lt; omega))); obtain ⟨r0, r1, r2, r3, m0, m1, m2, m3, m4, m5⟩ := P2.out.cells; dsimp only at m0 m1 m2 m3 m4 m5; clear hb1))
            | (go_at_call 62; (with_reducible refine (CW.out _ I2.out).mono ?_); rintro e w3 ⟨q1, rfl, k1, k2⟩; go_must (have P3 := Lib.hid (P2.out.wr k1 (by omega) (by omega)); have B3 := Lib.hid (B2.out.trans k1); have K3 := Lib.hid k2; obtain ⟨r0, r1, r2, r3, m0, m1, m2, m3, m4, m5⟩ := P3.out.cells; dsimp only at m0 m1 m2 m3 m4 m5; clear k1 k2))
            | fail)
        all_goals (
          go_wp2
          go_ret
          exact ⟨q1, rfl, B3.out, by rw [← List.append_assoc, LL.out]; exact K3.out⟩)
      · have L1 := Lib.hid (show 4096 < acc.length + R.length by omega)
        have LE := Lib.hid (show 4096 < acc.length + (R ++ OF).length by rw [List.length_append]; omega)
        clear hl hol CO
        go_enter Tryz.func63, Tryz.ntmps63
        go_wp2
        generalize ((w.alloc (.cells #[.slice (some g) t.ns.length cap, .slice so t.sets.length scap, .int .i64 t.root, .func (.func 62) #[] #[.pointer (some ⟨b, 0, none⟩)]] 99)).alloc (.cells #[.int .i64 5, .int .i64 na, .int .i64 nb, .int .i64 lo, .int .i64 hi2, .int .i64 st] 70)) = W at *
        have P0 := Lib.hid (PP.out.next (Below.refl _ W).drew)
        have I0 := Lib.hid (II.out.next (Below.refl _ W).drew)
        have D0 := Lib.hid (DD.out.drew)
        have B0 := Lib.hid (BB.out.trans (Wr.of_below (B := b) (b := b) (Below.refl _ W).drew (by have := II.out.lt; omega)))
        obtain ⟨p0, p1, p2, p3, n0, n1, n2, n3, n4, n5⟩ := P0.out.cells
        dsimp only at n0 n1 n2 n3 n4 n5
        clear PP II DD BB
        refine wp_region_noPanic ?_
        refine wp_region_held_drew (S := (fun W => W.cell? ⟨w.heap.size, 0, none⟩ = some (.slice (some g) t.ns.length cap) ∧ W.cell? ⟨w.heap.size, 1, none⟩ = some (.slice so t.sets.length scap) ∧ W.cell? ⟨w.heap.size, 2, none⟩ = some (.int .i64 t.root) ∧ W.cell? ⟨w.heap.size, 3, none⟩ = some (.func (.func 62) #[] #[.pointer (some ⟨b, 0, none⟩)]) ∧ W.cell? ⟨w.heap.size + 1, 0, none⟩ = some (.int .i64 5) ∧ W.cell? ⟨w.heap.size + 1, 1, none⟩ = some (.int .i64 na) ∧ W.cell? ⟨w.heap.size + 1, 2, none⟩ = some (.int .i64 nb) ∧ W.cell? ⟨w.heap.size + 1, 3, none⟩ = some (.int .i64 lo) ∧ W.cell? ⟨w.heap.size + 1, 4, none⟩ = some (.int .i64 hi2) ∧ W.cell? ⟨w.heap.size + 1, 5, none⟩ = some (.int .i64 st))) (by kernel_rfl) ⟨p0, p1, p2, p3, n0, n1, n2, n3, n4, n5⟩ (fun hS => ?_)
        refine wpAnyH_take (i := 0) (v := ?_) rfl (by kernel_rfl) (by kernel_rfl) (by kernel_rfl) (fun _ _ _ h => h) (Or.inl ⟨by rfl, ?_⟩) hS ?_
        rotate_left
        · (intro W hSw; (try dsimp only at hSw); go_simp <;> with_reducible rfl)
        simp only [Act.put, List.getElem_toArray, List.getElem_cons_zero, List.setIfInBounds_toArray, List.set_cons_zero, List.set_cons_succ]
        refine wpAnyH_take (i := 1) (v := ?_) rfl (by kernel_rfl) (by kernel_rfl) (by kernel_rfl) (fun _ _ _ h => h) (Or.inl ⟨by rfl, ?_⟩) hS ?_
        rotate_left
        · (intro W hSw; (try dsimp only at hSw); go_simp <;> with_reducible rfl)
        simp only [Act.put, List.getElem_toArray, List.getElem_cons_succ, List.getElem_cons_zero, List.setIfInBounds_toArray, List.set_cons_zero, List.set_cons_succ]
        refine wpAnyH_ready (rs := [2]) (by kernel_rfl) (by simp) ?_
        refine AllReadyH.cons rfl (fun K hK => ?_) AllReadyH.nil
        simp only [List.getElem_toArray, List.getElem_cons_succ, List.getElem_cons_zero]
        go_simp
        go_wp2_with (go_at_call 90; (with_reducible refine (CA.out _ I0.out D0.out).mono ?_); rintro e w1 hr1; go_must (obtain ⟨rfl, k1⟩ := hr1.no L1.out; have B1 := Lib.hid (B0.out.trans k1); obtain ⟨r0, r1, r2, r3, m0, m1, m2, m3, m4, m5⟩ := (P0.out.wr k1 (by omega) (by omega)).cells; dsimp only at m0 m1 m2 m3 m4 m5; clear k1 hr1))
        refine hK.out _ _ ⟨r0, r1, r2, r3, m0, m1, m2, m3, m4, m5⟩ (fun hS => ?_)
        clear hK K
        try simp only [Act.put, List.getElem_toArray, List.getElem_cons_succ, List.getElem_cons_zero, List.setIfInBounds_toArray, List.set_cons_zero, List.set_cons_succ]
        refine wpAnyH_take (i := 3) (v := ?_) rfl (by kernel_rfl) (by kernel_rfl) (by kernel_rfl) (fun _ _ _ h => h) (Or.inl ⟨by rfl, ?_⟩) hS ?_
        rotate_left
        · (intro W hSw; (try dsimp only at hSw); go_simp <;> with_reducible rfl)
        simp only [Act.put, List.getElem_toArray, List.getElem_cons_succ, List.getElem_cons_zero, List.setIfInBounds_toArray, List.set_cons_zero, List.set_cons_succ]
        refine wpAnyH_take (i := 4) (v := undef) rfl (by kernel_rfl) (by kernel_rfl) (by kernel_rfl) (fun _ _ _ h => h) (Or.inr ⟨by rfl, rfl⟩) hS ?_
        simp only [Act.put, List.getElem_toArray, List.getElem_cons_succ, List.getElem_cons_zero, List.setIfInBounds_toArray, List.set_cons_zero, List.set_cons_succ]
        refine wpAnyH_take (i := 5) (v := undef) rfl (by kernel_rfl) (by kernel_rfl) (by kernel_rfl) (fun _ _ _ h => h) (Or.inr ⟨by rfl, rfl⟩) hS ?_
        simp only [Act.put, List.getElem_toArray, List.getElem_cons_succ, List.getElem_cons_zero, List.setIfInBounds_toArray, List.set_cons_zero, List.set_cons_succ]
        refine wpAnyH_take (i := 6) (v := undef) rfl (by kernel_rfl) (by kernel_rfl) (by kernel_rfl) (fun _ _ _ h => h) (Or.inr ⟨by rfl, rfl⟩) hS ?_
        simp only [Act.put, List.getElem_toArray, List.getElem_cons_succ, List.getElem_cons_zero, List.setIfInBounds_toArray, List.set_cons_zero, List.set_cons_succ]
        refine wpAnyH_take (i := 7) (v := undef) rfl (by kernel_rfl) (by kernel_rfl) (by kernel_rfl) (fun _ _ _ h => h) (Or.inr ⟨by rfl, rfl⟩) hS ?_
        simp only [Act.put, List.getElem_toArray, List.getElem_cons_succ, List.getElem_cons_zero, List.setIfInBounds_toArray, List.set_cons_zero, List.set_cons_succ]
        refine wpAnyH_take (i := 8) (v := undef) rfl (by kernel_rfl) (by kernel_rfl) (by kernel_rfl) (fun _ _ _ h => h) (Or.inr ⟨by rfl, rfl⟩) hS ?_
        simp only [Act.put, List.getElem_toArray, List.getElem_cons_succ, List.getElem_cons_zero, List.setIfInBounds_toArray, List.set_cons_zero, List.set_cons_succ]
        refine wpAnyH_take (i := 9) (v := undef) rfl (by kernel_rfl) (by kernel_rfl) (by kernel_rfl) (fun _ _ _ h => h) (Or.inr ⟨by rfl, rfl⟩) hS ?_
        simp only [Act.put, List.getElem_toArray, List.getElem_cons_succ, List.getElem_cons_zero, List.setIfInBounds_toArray, List.set_cons_zero, List.set_cons_succ]
        refine wpAnyH_take (i := 10) (v := undef) rfl (by kernel_rfl) (by kernel_rfl) (by kernel_rfl) (fun _ _ _ h => h) (Or.inr ⟨by rfl, rfl⟩) hS ?_
        simp only [Act.put, List.getElem_toArray, List.getElem_cons_succ, List.getElem_cons_zero, List.setIfInBounds_toArray, List.set_cons_zero, List.set_cons_succ]
        refine wpAnyH_take (i := 11) (v := undef) rfl (by kernel_rfl) (by kernel_rfl) (by kernel_rfl) (fun _ _ _ h => h) (Or.inr ⟨by rfl, rfl⟩) hS ?_
        simp only [Act.put, List.getElem_toArray, List.getElem_cons_succ, List.getElem_cons_zero, List.setIfInBounds_toArray, List.set_cons_zero, List.set_cons_succ]
        refine wpAnyH_take (i := 12) (v := ?_) rfl (by kernel_rfl) (by kernel_rfl) (by kernel_rfl) (fun _ _ _ h => h) (Or.inl ⟨by rfl, ?_⟩) hS ?_
        rotate_left
        · (intro W hSw; (try dsimp only at hSw); go_simp <;> with_reducible rfl)
        simp only [Act.put, List.getElem_toArray, List.getElem_cons_succ, List.getElem_cons_zero, List.setIfInBounds_toArray, List.set_cons_zero, List.set_cons_succ]
        refine wpAnyH_take (i := 13) (v := ?_) rfl (by kernel_rfl) (by kernel_rfl) (by kernel_rfl) (fun _ _ _ h => h) (Or.inl ⟨by rfl, ?_⟩) hS ?_
        rotate_left
        · (intro W hSw; (try dsimp only at hSw); go_simp <;> with_reducible rfl)
        simp only [Act.put, List.getElem_toArray, List.getElem_cons_succ, List.getElem_cons_zero, List.setIfInBounds_toArray, List.set_cons_zero, List.set_cons_succ]
        refine wpAnyH_done (by kernel_rfl) ?_ _
        refine NoPanic.normal ?_
        go_wp2
        go_ret
        exact WrOut.of_no B1.out LE.out

end Go.Proofs.YtgjiofkjogjhhaaGreatDoor.Rp

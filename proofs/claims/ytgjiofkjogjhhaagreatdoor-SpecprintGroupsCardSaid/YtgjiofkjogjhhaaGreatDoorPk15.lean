/- The program's Deep. The looks at a rule. Walks of one code point: whether it is one, how many bytes, its bytes by the document, what a text begins with. Whether a number is a code point, and how many bytes it has: the program's. A set's code points, and its span. -/
import Derived.Test.YtgjiofkjogjhhaaGreatDoorPk14
import Derived.Test.YtgjiofkjogjhhaaGreatDoorPk04
import Derived.Laws.MakeOwn
import Derived.OwnWalk
import Derived.Test.YtgjiofkjogjhhaaGreatDoorPk13
import Derived.Test.YtgjiofkjogjhhaaGreatDoorPk03
import Derived.Test.YtgjiofkjogjhhaaGreatDoorChecked
import Derived.WalkKit
import Derived.Lib.Hide
import Derived.WalkLawsBesides
import Derived.WalkSpells
import Derived.Test.YtgjiofkjogjhhaaGreatDoorPk05
import Derived.Test.YtgjiofkjogjhhaaGreatDoorPk10

namespace Go.Proofs.YtgjiofkjogjhhaaGreatDoor.Rp
open Go Go.RowKit Go.Shelf
open Go.Proofs.YtgjiofkjogjhhaaGreatDoor.Ar (Nd nd Tr Ok TreeAt TBox NodeAt nodeB_ways checkE check_ok check_any)
open Go.Proofs.YtgjiofkjogjhhaaGreatDoor.Rg (own_next)

/-- the k-th part -/
def nthQ (L : List (Int × Bool)) (k : Nat) : Int × Bool := L.getD k (0, false)
theorem flatQ_at : ∀ (L : List (Int × Bool)) (k : Nat), k < L.length → (flatP L)[k * 2]? = some (.int .i64 (nthQ L k).1) ∧ (flatP L)[k * 2 + 1]? = some (.bool (nthQ L k).2)
  | [], k, h => by simp at h
  | p :: r, 0, h => by simp [flatP, nthQ]
  | p :: r, k + 1, h => by
    have := flatQ_at r k (by simpa using h)
    rw [show (k + 1) * 2 = (k * 2) + 1 + 1 by omega]
    simpa [flatP, nthQ] using this
theorem PartsAt.next {W W' : World} {v : Value} {L : List (Int × Bool)} (h : PartsAt W v L) (hb : Below W.heap.size W W') : PartsAt W' v L := by
  rcases h with h | ⟨B, h1, h2⟩
  · exact .inl h
  · exact .inr ⟨B, h1, (hb.block B (Array.getElem?_eq_some_iff.1 h2).1).trans h2⟩
theorem PartsAt.set {W : World} {v u : Value} {L : List (Int × Bool)} {G o : Nat} {c : Array Value} {ty : TypeId} {fz : Nat × Nat} (h : PartsAt W v L) (hG : W.heap[G]? = some (.cells c ty fz)) (hty : ty ≠ 122) : PartsAt (W.setCell ⟨G, o, none⟩ u) v L := by
  rcases h with h | ⟨B, h1, h2⟩
  · exact .inl h
  · refine .inr ⟨B, h1, ?_⟩
    rw [Below.heap_setCell _ _ _ _ (fun e => ?_)]
    · exact h2
    · have e' : B = G := by first | exact e | exact e.symm
      rw [e', hG] at h2
      injection h2 with h2
      injection h2 with _ h2
      exact hty h2
theorem PartsAt.shape {W : World} {v : Value} {L : List (Int × Bool)} (h : PartsAt W v L) : ∃ ao : Option Addr, v = .slice ao L.length L.length := by
  rcases h with ⟨rfl, rfl⟩ | ⟨B, rfl, h2⟩
  · exact ⟨none, rfl⟩
  · exact ⟨_, rfl⟩
theorem partsQ_two (l : List Nd) (n : Nd) : (partsP l n).length ≤ 2 := by
  unfold partsP; split
  · simp
  · split
    · simp
    · split <;> simp
theorem PartsAt.at' {W : World} {ao : Option Addr} {n c : Nat} {L : List (Int × Bool)} (h : PartsAt W (.slice ao n c) L) {k : Nat} (hk : k < L.length) : ∃ g : Addr, ao = some g ∧ W.cell? (g.add (k * 2)) = some (.int .i64 (nthQ L k).1) ∧ W.cell? ⟨(g.add (k * 2)).block, (g.add (k * 2)).off + 1, none⟩ = some (.bool (nthQ L k).2) := by
  rcases h with ⟨_, rfl⟩ | ⟨B, h1, h2⟩
  · simp at hk
  · injection h1 with h1
    obtain ⟨a1, a2⟩ := flatQ_at L k hk
    refine ⟨⟨B, 0, none⟩, h1, ?_⟩
    rw [Rg.add_zero, Lib.cell_of_heap h2, Lib.cell_of_heap h2]
    exact ⟨by simpa using a1, by simpa using a2⟩

/-- a row of numbers -/
def rowF (f : Nat → Int) (n : Nat) : List Value := (List.range n).map fun i => .int .i64 (f i)
def upd (f : Nat → Int) (k : Nat) (c : Int) : Nat → Int := fun i => if i = k then c else f i
theorem rowF_at {f : Nat → Int} {n i : Nat} (h : i < n) : (rowF f n)[i]? = some (.int .i64 (f i)) := by unfold rowF; simp [h]
theorem rowF_start (n : Nat) : (madeCells (Value.int .i64 0).cells (n * 1)).toList = rowF (fun _ => 0) n := by
  show (madeCells #[Value.int .i64 0] (n * 1)).toList = _
  rw [toList_madeCells_one, Nat.mul_one]
  apply List.ext_getElem?
  intro j
  unfold rowF
  by_cases h : j < n
  · simp [h]
  · simp [h]
theorem rowF_set {f : Nat → Int} {n k : Nat} {c : Int} (h : k < n) : (rowF f n).set k (.int .i64 c) = rowF (upd f k c) n := by
  apply List.ext_getElem?
  intro j
  unfold rowF upd
  rw [List.getElem?_set]
  by_cases hj : k = j
  · subst hj; simp [h]
  · rw [if_neg hj]
    by_cases h2 : j < n
    · simp only [List.getElem?_map, List.getElem?_range h2, Option.map_some]
      rw [if_neg (fun e => hj e.symm)]
    · simp [h2]
/-- what has been told when k nodes are done -/
def fK (l : List Nd) (k : Nat) : Nat → Int := fun i => if i < k then deepL l i else 0
theorem fK_next (l : List Nd) (k : Nat) : upd (fK l k) k (deepL l k) = fK l (k + 1) := by
  funext i
  unfold upd fK
  by_cases h : i = k
  · subst h; rw [if_pos rfl, if_pos (by omega)]
  · rw [if_neg h]
    by_cases h2 : i < k
    · rw [if_pos h2, if_pos (by omega)]
    · rw [if_neg h2, if_neg (by omega)]
theorem upd_upd (f : Nat → Int) (k : Nat) (a c : Int) : upd (upd f k a) k c = upd f k c := by
  funext i; unfold upd; by_cases h : i = k
  · rw [if_pos h, if_pos h]
  · rw [if_neg h, if_neg h, if_neg h]
theorem upd_same (f : Nat → Int) (k : Nat) : upd f k (f k) = f := by
  funext i; unfold upd; by_cases h : i = k
  · rw [if_pos h, h]
  · rw [if_neg h]
/-- the deepest so far, when j parts are done -/
def curJ (l : List Nd) (L : List (Int × Bool)) (c0 : Int) : Nat → Int
  | 0 => c0
  | j + 1 => max (curJ l L c0 j) (deepL l (nthQ L j).1.toNat + brk (nthQ L j).2)
def c0N (n : Nd) : Int := if n.op = 1 then 1 else 0
theorem cur_end {t : Tr} (ht : Ok t) {k : Nat} (hk : k < t.ns.length) : curJ t.ns (partsP t.ns (nd t.ns k)) (c0N (nd t.ns k)) (partsP t.ns (nd t.ns k)).length = deepL t.ns k := by
  have hd := deep_le ht
  rcases nodeB_ways (ht.node k hk) with ⟨h1, _⟩ | ⟨h1, _⟩ | ⟨h1 | h1, h2⟩ | ⟨h1, h2⟩
  · unfold partsP c0N; rw [if_neg (by omega), if_neg (by omega), if_neg (by omega), if_pos h1, deep_one h1]; rfl
  · unfold partsP c0N; rw [if_neg (by omega), if_neg (by omega), if_neg (by omega), if_neg (by omega), deep_set h1]; rfl
  · have e1 := hd (nd t.ns k).a.toNat (by omega)
    have e2 := hd (nd t.ns k).b.toNat (by omega)
    have b1 := brk_le (opB t.ns (nd t.ns k).a [4])
    have b2 := brk_le (opB t.ns (nd t.ns k).b [3, 4])
    rw [deep_cat h1 (by omega) (by omega)]
    unfold partsP c0N; rw [if_pos h1, if_neg (by omega)]
    simp [curJ, nthQ]; omega
  · have e1 := hd (nd t.ns k).a.toNat (by omega)
    have e2 := hd (nd t.ns k).b.toNat (by omega)
    have b2 := brk_le (opB t.ns (nd t.ns k).b [4])
    rw [deep_alt h1 (by omega) (by omega)]
    unfold partsP c0N; rw [if_neg (by omega), if_pos h1, if_neg (by omega)]
    simp [curJ, nthQ, brk]; omega
  · have e1 := hd (nd t.ns k).a.toNat (by omega)
    have b1 := brk_le (opB t.ns (nd t.ns k).a [3, 4, 5])
    rw [deep_rep h1 (by omega)]
    unfold partsP c0N; rw [if_neg (by omega), if_neg (by omega), if_pos h1, if_neg (by omega)]
    simp [curJ, nthQ]; omega
theorem cur_bnd {t : Tr} (ht : Ok t) {L : List (Int × Bool)} (hL : ∀ j, j < L.length → 0 ≤ (nthQ L j).1 ∧ (nthQ L j).1 < t.ns.length) (hl : t.ns.length ≤ 4096) {c0 : Int} (h0 : 0 ≤ c0 ∧ c0 ≤ 5000) : ∀ j, j ≤ L.length → 0 ≤ curJ t.ns L c0 j ∧ curJ t.ns L c0 j ≤ 5000
  | 0, _ => h0
  | j + 1, hj => by
    have e1 := cur_bnd ht hL hl h0 j (by omega)
    have e2 := hL j (by omega)
    have e3 := deep_le ht (nthQ L j).1.toNat (by omega)
    have e4 := brk_le (nthQ L j).2
    unfold curJ; omega
theorem parts_ltQ {t : Tr} (ht : Ok t) {i : Nat} (hi : i < t.ns.length) {k : Nat} (hk : k < (partsP t.ns (nd t.ns i)).length) : 0 ≤ (nthQ (partsP t.ns (nd t.ns i)) k).1 ∧ (nthQ (partsP t.ns (nd t.ns i)) k).1 < i := by
  unfold partsP at *
  rcases nodeB_ways (ht.node i hi) with ⟨h1, _⟩ | ⟨h1, _⟩ | ⟨h1 | h1, h2⟩ | ⟨h1, h2⟩
  · rw [if_neg (by omega), if_neg (by omega), if_neg (by omega)] at hk; simp at hk
  · rw [if_neg (by omega), if_neg (by omega), if_neg (by omega)] at hk; simp at hk
  · rw [if_pos h1] at hk ⊢
    simp at hk
    have e : k = 0 ∨ k = 1 := by omega
    rcases e with rfl | rfl <;> simp [nthQ] <;> omega
  · rw [if_neg (by omega), if_pos h1] at hk ⊢
    simp at hk
    have e : k = 0 ∨ k = 1 := by omega
    rcases e with rfl | rfl <;> simp [nthQ] <;> omega
  · rw [if_neg (by omega), if_neg (by omega), if_pos h1] at hk ⊢
    simp at hk
    subst hk
    simp [nthQ]; omega

theorem cell_grown {w w' : World} {G k o : Nat} {v : Value} (h : w.grownBy w' (some G)) (hk : k ≠ G) (hc : w.cell? ⟨k, o, none⟩ = some v) : w'.cell? ⟨k, o, none⟩ = some v :=
  (World.cell?_of_block (h.block k (cell_lt hc) (fun e => hk (Option.some.inj e)))).trans hc
theorem row_block {w : World} {B G n c : Nat} {e : TypeId} {xs : List Value} (h : w.ownsRow B e 1 (.slice (some ⟨G, 0, none⟩) n c) n xs) : ∃ cs fz, w.heap[G]? = some (.cells cs e fz) := by
  rcases h.2 with ⟨h, _⟩ | ⟨g, cap, cur, h, _, hg, _⟩
  · cases h
  · injection h with h1
    injection h1 with h1
    injection h1 with h1 _ _
    subst h1
    exact ⟨_, _, hg⟩

set_option maxRecDepth 100000 in
set_option maxHeartbeats 8000000 in
theorem deep_any (t : Tr) (v : Value) (w : World) (h : TreeAt w v t) :
    Calls Tryz.prog 72 #[v] w fun e w' => e = .returned (.int .i64 (if checkE t = 0 then deepL t.ns t.root.toNat else 0)) ∧ Below w.heap.size w w' := by
  obtain ⟨i0, hi, hz0, hz1, hz2⟩ := info_parts infoI
  have HV := Lib.hid h
  obtain ⟨ao, cap, so, scap, rfl, hm, hm2, hn, hs⟩ := h.shape
  have HN := Lib.hid hn
  clear hn hs h
  have b1 := (Below.refl w.heap.size w).alloc (Nat.le_refl _) (.cells #[.slice ao t.ns.length cap, .slice so t.sets.length scap, .int .i64 t.root] 38)
  have B1 := Lib.hid b1
  have T0 := Lib.hid (TBox.new w (.slice ao t.ns.length cap) (.slice so t.sets.length scap) t.root)
  have CC := Lib.hid (check_any t _ _ (HV.out.next b1))
  by_cases hc : checkE t = 0
  · rw [if_pos hc]
    obtain ⟨ok, hl1, hl2⟩ := check_ok hc
    have OK := Lib.hid ok
    have hr0 := ok.root0
    have hr1 := ok.root1
    have hroot : ∃ q : Nat, t.root = q ∧ q < t.ns.length := by
      obtain ⟨q, hq⟩ := Int.eq_ofNat_of_zero_le hr0
      exact ⟨q, hq, by omega⟩
    obtain ⟨q, hq, hq2⟩ := hroot
    rw [hc] at CC
    have CP := Lib.hid (fun k (hk : k < t.ns.length) W (hW : Below w.heap.size w W) => parts_any t ok k hk _ W (HV.out.next hW))
    unfold PartsOut at CP
    rw [hq] at CC HV T0 b1 B1 CP ⊢
    rw [Int.toNat_natCast]
    clear hc ok hr0 hr1 hq b1
    go_enter Tryz.func72, Tryz.ntmps72
    go_wp2_with (first
      | (go_at_call 61; (with_reducible refine CC.out.mono ?_); rintro e w1 ⟨rfl, hb1⟩; go_must (obtain ⟨q0, q1, q2⟩ := T0.out.next hb1; have H1 := Lib.hid (hb1.mono (show w.heap.size + 1 ≤ _ by simp)); have hs1 := hb1.size; simp only [World.size_alloc] at hs1; clear hb1))
      | (at_make; refine wpList_make_full _ rfl _ _ 32 rfl (w.heap.size + 1) 3 i0 (.int .i64 0) 1 Tryz.underlying32 hi hz0 hz1 .i64 .i64 t.ns.length t.ns.length t.ns.length rfl rfl rfl rfl (by rw [hz2]; omega) (by unfold maxLen; omega) (by omega) ?_; intro w2 hown2 hgrow2; go_must (rw [rowF_start] at hown2; have BB := Lib.hid (H1.out.grown hgrow2 (by omega) (fun k hk => by cases hk)); obtain ⟨r0, r1, r2⟩ := T0.out.next (BB.out.mono (by simp)); have hs2 := (hown2.lt _ rfl).2; have ROW := Lib.hid hown2; clear hown2 hgrow2))
      | fail)
    have hW1s : w.heap.size + 1 ≤ (w.alloc (.cells #[.slice ao t.ns.length cap, .slice so t.sets.length scap, .int .i64 (q : Int)] 38)).heap.size := by simp
    have hW1t : (w.alloc (.cells #[.slice ao t.ns.length cap, .slice so t.sets.length scap, .int .i64 (q : Int)] 38)).heap.size ≤ w.heap.size + 1 := by simp
    generalize hW1 : w.alloc (.cells #[.slice ao t.ns.length cap, .slice so t.sets.length scap, .int .i64 (q : Int)] 38) = W1 at *
    clear hW1
    obtain ⟨G, hG⟩ : ∃ G, G = w1.heap.size := ⟨_, rfl⟩
    rw [← hG] at ROW ⊢
    have hGw : w.heap.size < G := by omega
    have hGs : G < w2.heap.size := by omega
    clear hG q0 q1 q2
    have hfk0 : (fun _ => 0 : Nat → Int) = fK t.ns 0 := by funext i; unfold fK; rw [if_neg (by omega)]
    rw [hfk0] at ROW
    clear hfk0
    go_loopw [18] (fun i wr => ∃ k : Nat, i = .int .i64 k ∧ k ≤ t.ns.length ∧ wr.ownsRow (w.heap.size + 1) 3 1 (.slice (some ⟨G, 0, none⟩) t.ns.length t.ns.length) t.ns.length (rowF (fK t.ns k) t.ns.length) ∧ Below (w.heap.size + 1) W1 wr) (fun i _ => t.ns.length - (intOf i).toNat)
    case atStart => exact ⟨0, rfl, Nat.zero_le _, ROW.out, BB.out⟩
    case round =>
      clear r0 r1 r2 hGs hs2
      obtain ⟨k, rfl, hk, hrow, hbw⟩ := hrel
      obtain ⟨wo, rfl⟩ : ∃ x, x = wr := ⟨_, rfl⟩
      obtain ⟨r0, r1, r2⟩ := T0.out.next (hbw.mono (by omega))
      have hsz := hbw.size
      have hGs := (hrow.lt _ rfl).2
      by_cases hlt : k < t.ns.length
      · obtain ⟨g, rfl, hnode⟩ := HN.out k hlt
        have hB := B1.out.trans (hbw.mono (by omega))
        obtain ⟨c0, c1, c2, c3, c4, c5⟩ := hnode.next hB
        have hl0 := cell_lt c0
        have HCE := Lib.hid (cur_end OK.out hlt)
        have HPL := Lib.hid (fun j hj => parts_ltQ OK.out hlt (k := j) hj)
        have HCB := Lib.hid (cur_bnd OK.out (L := partsP t.ns (nd t.ns k)) (fun j hj => by have := parts_ltQ OK.out hlt hj; omega) (by omega) (c0 := c0N (nd t.ns k)) (by unfold c0N; split <;> omega))
        have hll := partsQ_two t.ns (nd t.ns k)
        have HLE : (nd t.ns k).op = 1 → partsP t.ns (nd t.ns k) = [] := fun h => by unfold partsP; rw [if_neg (by omega), if_neg (by omega), if_neg (by omega)]
        have CPk := Lib.hid (CP.out k hlt)
        have HROW := Lib.hid hrow
        have HBW := Lib.hid hbw
        have hbx := fun o => (Below.refl wo.heap.size wo).alloc (Nat.le_refl _) o
        have HBX := Lib.hid hbx
        have hlw : w.heap.size < wo.heap.size := by omega
        clear hrow hbw hnode hB CP hbx
        generalize nd t.ns k = n at *
        generalize partsP t.ns n = L at *
        obtain ⟨op, na, nb, lo, hi2, st⟩ := n
        dsimp only at *
        -- the row ahead of the inner loop
        have hc0 : ∃ c0 : Int, c0 = c0N ⟨op, na, nb, lo, hi2, st⟩ := ⟨_, rfl⟩
        obtain ⟨cc, hcc⟩ := hc0
        rw [← hcc] at HCE HCB
        have HCC := Lib.hid hcc
        clear hcc
        by_cases o1 : op = 1
        · subst o1
          have HL0 := Lib.hid (show L = [] from HLE rfl)
          clear HLE
          have hb0 := HBX.out (.cells #[.int .i64 1, .int .i64 na, .int .i64 nb, .int .i64 lo, .int .i64 hi2, .int .i64 st] 70)
          have R0 := own_next HROW.out hb0
          have BW0 := HBW.out.trans (hb0.mono (by omega))
          have e1 : (wo.alloc (.cells #[.int .i64 1, .int .i64 na, .int .i64 nb, .int .i64 lo, .int .i64 hi2, .int .i64 st] 70)).cell? ⟨G, k, none⟩ = some (.int .i64 0) := by rw [R0.cellAt k (by omega), rowF_at hlt]; unfold fK; rw [if_neg (by omega)]
          have e2 : (wo.alloc (.cells #[.int .i64 1, .int .i64 na, .int .i64 nb, .int .i64 lo, .int .i64 hi2, .int .i64 st] 70)).frozen? ⟨G, k, none⟩ = false := R0.frozenAt k
          obtain ⟨s1, s2⟩ := HROW.out.stored k (.int .i64 1)
          rw [rowF_set hlt] at s1
          have hbs := (Below.refl (wo.setCell ⟨G, k, none⟩ (.int .i64 1)).heap.size (wo.setCell ⟨G, k, none⟩ (.int .i64 1))).alloc (Nat.le_refl _) (.cells #[.int .i64 1, .int .i64 na, .int .i64 nb, .int .i64 lo, .int .i64 hi2, .int .i64 st] 70)
          have hss : (wo.setCell ⟨G, k, none⟩ (.int .i64 1)).heap.size = wo.heap.size := by simp
          have R1 := Lib.hid (show ((wo.setCell ⟨G, k, none⟩ (.int .i64 1)).alloc (.cells #[.int .i64 1, .int .i64 na, .int .i64 nb, .int .i64 lo, .int .i64 hi2, .int .i64 st] 70)).ownsRow (w.heap.size + 1) 3 1 (.slice (some ⟨G, 0, none⟩) t.ns.length t.ns.length) t.ns.length (rowF (upd (fK t.ns k) k cc) t.ns.length) by rw [HCC.out]; exact own_next s1 hbs)
          have bw1 := (HBW.out.grown s2 (by omega) (fun a ha => by simp at ha; omega)).trans (hbs.mono (by rw [hss]; omega))
          have BB1 := Lib.hid bw1
          have hsx : ((wo.setCell ⟨G, k, none⟩ (.int .i64 1)).alloc (.cells #[.int .i64 1, .int .i64 na, .int .i64 nb, .int .i64 lo, .int .i64 hi2, .int .i64 st] 70)).heap.size = wo.heap.size + 1 := by simp
          obtain ⟨r0, r1, r2⟩ := T0.out.next (bw1.mono (by omega))
          clear s1 s2 hbs hss
          have CQ := Lib.hid (CPk.out ((wo.setCell ⟨G, k, none⟩ (.int .i64 1)).alloc (.cells #[.int .i64 1, .int .i64 na, .int .i64 nb, .int .i64 lo, .int .i64 hi2, .int .i64 st] 70)) (B1.out.trans (BB1.out.mono (by omega))))
          have hs3' : w.heap.size + 1 ≤ ((wo.setCell ⟨G, k, none⟩ (.int .i64 1)).alloc (.cells #[.int .i64 1, .int .i64 na, .int .i64 nb, .int .i64 lo, .int .i64 hi2, .int .i64 st] 70)).heap.size := by rw [hsx]; omega
          clear hb0 R0 BW0 CPk bw1
          go_wp2_with (go_at_call 97; (with_reducible refine CQ.out.mono ?_); rintro e w3 ⟨v, rfl, hpv, hb3⟩; go_must (obtain ⟨po, rfl⟩ := hpv.shape; have PV := Lib.hid hpv; have R3 := Lib.hid (own_next R1.out hb3); have BW3 := Lib.hid (BB1.out.trans (hb3.mono hs3')); clear hpv hb3))
          go_loopw [33] (fun i wr => ∃ j : Nat, i = .int .i64 j ∧ j ≤ L.length ∧ wr.ownsRow (w.heap.size + 1) 3 1 (.slice (some ⟨G, 0, none⟩) t.ns.length t.ns.length) t.ns.length (rowF (upd (fK t.ns k) k (curJ t.ns L cc j)) t.ns.length) ∧ PartsAt wr (.slice po L.length L.length) L ∧ Below (w.heap.size + 1) W1 wr) (fun i _ => L.length - (intOf i).toNat)
          case atStart => exact ⟨0, rfl, Nat.zero_le _, R3.out, PV.out, BW3.out⟩
          case round =>
            clear e1 e2 r0 r1 r2 c0 c1 c2 c3 c4 c5 hl0 hsx hs3'
            obtain ⟨j, rfl, hj, hLr, hPV, hbq⟩ := hrel
            have hsz3 := hbq.size
            by_cases hjl : j < L.length
            · exfalso; rw [HL0.out] at hjl; simp at hjl
            · obtain rfl : j = L.length := by omega
              rw [HCE.out, fK_next] at hLr
              have HLR := Lib.hid hLr
              have BQ := Lib.hid hbq
              have hkn : (k : Int) < (t.ns.length : Int) := by omega
              clear hLr hbq hPV
              go_wp2
              go_roundw
              case rel => exact ⟨k + 1, by go_num, by omega, HLR.out, BQ.out⟩
              case measure => simp [intOf]; omega
        · have o2 : (op == 1) = false := by simpa using o1
          clear HLE
          have hb0 := HBX.out (.cells #[.int .i64 op, .int .i64 na, .int .i64 nb, .int .i64 lo, .int .i64 hi2, .int .i64 st] 70)
          have R0 := own_next HROW.out hb0
          have BW0 := HBW.out.trans (hb0.mono (by omega))
          have e1 : (wo.alloc (.cells #[.int .i64 op, .int .i64 na, .int .i64 nb, .int .i64 lo, .int .i64 hi2, .int .i64 st] 70)).cell? ⟨G, k, none⟩ = some (.int .i64 0) := by rw [R0.cellAt k (by omega), rowF_at hlt]; unfold fK; rw [if_neg (by omega)]
          have e2 : (wo.alloc (.cells #[.int .i64 op, .int .i64 na, .int .i64 nb, .int .i64 lo, .int .i64 hi2, .int .i64 st] 70)).frozen? ⟨G, k, none⟩ = false := R0.frozenAt k
          have hcc0 : cc = 0 := by rw [HCC.out]; unfold c0N; rw [if_neg (by simpa using o1)]
          have R1 := Lib.hid (show (wo.alloc (.cells #[.int .i64 op, .int .i64 na, .int .i64 nb, .int .i64 lo, .int .i64 hi2, .int .i64 st] 70)).ownsRow (w.heap.size + 1) 3 1 (.slice (some ⟨G, 0, none⟩) t.ns.length t.ns.length) t.ns.length (rowF (upd (fK t.ns k) k cc) t.ns.length) by
            have hu := upd_same (fK t.ns k) k
            have hz : fK t.ns k k = 0 := by unfold fK; rw [if_neg (by omega)]
            rw [hz] at hu
            rw [hcc0, hu]; exact R0)
          have BB1 := Lib.hid BW0
          have hsx : (wo.alloc (.cells #[.int .i64 op, .int .i64 na, .int .i64 nb, .int .i64 lo, .int .i64 hi2, .int .i64 st] 70)).heap.size = wo.heap.size + 1 := by simp
          clear hcc0 o1
          have CQ := Lib.hid (CPk.out (wo.alloc (.cells #[.int .i64 op, .int .i64 na, .int .i64 nb, .int .i64 lo, .int .i64 hi2, .int .i64 st] 70)) (B1.out.trans (BB1.out.mono (by omega))))
          have hs3' : w.heap.size + 1 ≤ (wo.alloc (.cells #[.int .i64 op, .int .i64 na, .int .i64 nb, .int .i64 lo, .int .i64 hi2, .int .i64 st] 70)).heap.size := by rw [hsx]; omega
          clear hb0 R0 BW0 CPk
          go_wp2_with (go_at_call 97; (with_reducible refine CQ.out.mono ?_); rintro e w3 ⟨v, rfl, hpv, hb3⟩; go_must (obtain ⟨po, rfl⟩ := hpv.shape; have PV := Lib.hid hpv; have R3 := Lib.hid (own_next R1.out hb3); have BW3 := Lib.hid (BB1.out.trans (hb3.mono hs3')); clear hpv hb3))
          go_loopw [33] (fun i wr => ∃ j : Nat, i = .int .i64 j ∧ j ≤ L.length ∧ wr.ownsRow (w.heap.size + 1) 3 1 (.slice (some ⟨G, 0, none⟩) t.ns.length t.ns.length) t.ns.length (rowF (upd (fK t.ns k) k (curJ t.ns L cc j)) t.ns.length) ∧ PartsAt wr (.slice po L.length L.length) L ∧ Below (w.heap.size + 1) W1 wr) (fun i _ => L.length - (intOf i).toNat)
          case atStart => exact ⟨0, rfl, Nat.zero_le _, R3.out, PV.out, BW3.out⟩
          case round =>
            clear e1 e2 r0 r1 r2 c0 c1 c2 c3 c4 c5 hl0 hsx hs3'
            obtain ⟨j, rfl, hj, hLr, hPV, hbq⟩ := hrel
            have hsz3 := hbq.size
            by_cases hjl : j < L.length
            · obtain ⟨pg, rfl, d0, d1⟩ := hPV.at' hjl
              obtain ⟨x0, x1⟩ := HPL.out j hjl
              obtain ⟨cb0, cb1⟩ := HCB.out j (by omega)
              obtain ⟨cb2, cb3⟩ := HCB.out (j + 1) (by omega)
              have HCJ := Lib.hid (show curJ t.ns L cc (j + 1) = max (curJ t.ns L cc j) (deepL t.ns (nthQ L j).1.toNat + brk (nthQ L j).2) from rfl)
              generalize curJ t.ns L cc j = cu at *
              generalize nthQ L j = z at *
              obtain ⟨z, zq⟩ := z
              dsimp only at *
              obtain ⟨y, rfl⟩ := Int.eq_ofNat_of_zero_le x0
              have hyk : y < k := by omega
              have hyn : y < t.ns.length := by omega
              rw [Int.toNat_natCast] at HCJ
              have hdy := deep_le OK.out y hyn
              have hbk := brk_le zq
              have hd0 := hdy.1
              have hd1 : deepL t.ns y ≤ 5000 := by omega
              generalize hdd : deepL t.ns y = dy at *
              have hbx2 := (Below.refl wr.heap.size wr).alloc (Nat.le_refl _) (.cells #[.int .i64 (y : Int), .bool zq] 122)
              have R4 := own_next hLr hbx2
              have g0 : (wr.alloc (.cells #[.int .i64 (y : Int), .bool zq] 122)).drew.cell? ⟨G, k, none⟩ = some (.int .i64 cu) := by
                show World.cell? (World.alloc _ _) _ = _
                rw [R4.cellAt k (by omega), rowF_at hlt]; unfold upd; rw [if_pos rfl]
              have g1 : (wr.alloc (.cells #[.int .i64 (y : Int), .bool zq] 122)).drew.cell? ⟨G, y, none⟩ = some (.int .i64 dy) := by
                show World.cell? (World.alloc _ _) _ = _
                rw [R4.cellAt y (by omega), rowF_at hyn]; unfold upd fK; rw [if_neg (by omega), if_pos hyk, hdd]
              have x0' : (wr.alloc (.cells #[.int .i64 (y : Int), .bool zq] 122)).drew.cell? ⟨wr.heap.size, 0, none⟩ = some (.int .i64 (y : Int)) := by show World.cell? (World.alloc _ _) _ = _; rw [World.cell?_alloc_new]; rfl
              have x1' : (wr.alloc (.cells #[.int .i64 (y : Int), .bool zq] 122)).drew.cell? ⟨wr.heap.size, 1, none⟩ = some (.bool zq) := by show World.cell? (World.alloc _ _) _ = _; rw [World.cell?_alloc_new]; rfl
              have CB := Lib.hid (fun W => (brackets_any (y : Int) zq W).mono fun e w' (h : e = .returned (.int .i64 (brk zq)) ∧ w' = W.alloc (.cells #[.int .i64 (y : Int), .bool zq] 122)) => show e = .returned (.int .i64 (brk zq)) ∧ Below W.heap.size W w' from ⟨h.1, by rw [h.2]; exact (Below.refl _ _).alloc (Nat.le_refl _) _⟩)
              have nj : (j : Int) < (L.length : Int) := by omega
              have hGl := (hLr.lt _ rfl).2
              have hGl2 : wr.heap.size ≠ G := Nat.ne_of_gt hGl
              have R4d := Lib.hid (own_next hLr (hbx2.drew))
              have hw1r : w.heap.size + 1 ≤ wr.heap.size := Nat.le_trans hW1s hsz3
              have BX4 := Lib.hid (hbq.trans ((hbx2.drew).mono hw1r))
              have hs4 : w.heap.size + 1 ≤ (wr.alloc (.cells #[.int .i64 (y : Int), .bool zq] 122)).drew.heap.size := by show w.heap.size + 1 ≤ (World.alloc _ _).heap.size; simp; omega
              have HPV4 := Lib.hid (hPV.next hbx2.drew)
              have HDD := Lib.hid hdd
              obtain ⟨bz0, bz1⟩ := hbk
              have hd0 := hdy.1
              have hd1 : dy ≤ 5000 := by omega
              clear hLr hPV hbq R4 x0 x1 hbx2 hdy hdd
              generalize brk zq = bz at *
              have wr1 : IntKind.i64.wrap (dy + bz) = dy + bz := by rw [IntKind.wrap_i64]; omega
              go_wp2
              refine wp_region_noPanic ?_
              refine wp_region_held_drew (S := (fun W => W.cell? ⟨wr.heap.size, 0, none⟩ = some (.int .i64 (y : Int)) ∧ W.cell? ⟨wr.heap.size, 1, none⟩ = some (.bool zq) ∧ W.cell? ⟨G, y, none⟩ = some (.int .i64 dy))) (by kernel_rfl) ⟨x0', x1', g1⟩ (fun hS => ?_)
              refine wpAnyH_take (i := 0) (v := ?_) rfl (by kernel_rfl) (by kernel_rfl) (by kernel_rfl) (fun _ _ _ h => h) (Or.inl ⟨by rfl, ?_⟩) hS ?_
              rotate_left
              · (intro W hSw; (try dsimp only at hSw); go_simp <;> with_reducible rfl)
              simp only [Act.put, List.getElem_toArray, List.getElem_cons_zero, List.setIfInBounds_toArray, List.set_cons_zero, List.set_cons_succ]
              refine wpAnyH_take (i := 1) (v := ?_) rfl (by kernel_rfl) (by kernel_rfl) (by kernel_rfl) (fun _ _ _ h => h) (Or.inl ⟨by rfl, ?_⟩) hS ?_
              rotate_left
              · (intro W hSw; (try dsimp only at hSw); go_simp <;> with_reducible rfl)
              simp only [Act.put, List.getElem_toArray, List.getElem_cons_succ, List.getElem_cons_zero, List.setIfInBounds_toArray, List.set_cons_zero, List.set_cons_succ]
              refine wpAnyH_take (i := 2) (v := ?_) rfl (by kernel_rfl) (by kernel_rfl) (by kernel_rfl) (fun _ _ _ h => h) (Or.inl ⟨by rfl, ?_⟩) hS ?_
              rotate_left
              · (intro W hSw; (try dsimp only at hSw); go_simp <;> with_reducible rfl)
              simp only [Act.put, List.getElem_toArray, List.getElem_cons_succ, List.getElem_cons_zero, List.setIfInBounds_toArray, List.set_cons_zero, List.set_cons_succ]
              refine wpAnyH_take (i := 3) (v := ?_) rfl (by kernel_rfl) (by kernel_rfl) (by kernel_rfl) (fun _ _ _ h => h) (Or.inl ⟨by rfl, ?_⟩) hS ?_
              rotate_left
              · (intro W hSw; (try dsimp only at hSw); go_simp <;> with_reducible rfl)
              simp only [Act.put, List.getElem_toArray, List.getElem_cons_succ, List.getElem_cons_zero, List.setIfInBounds_toArray, List.set_cons_zero, List.set_cons_succ]
              refine wpAnyH_take (i := 4) (v := ?_) rfl (by kernel_rfl) (by kernel_rfl) (by kernel_rfl) (fun _ _ _ h => h) (Or.inl ⟨by rfl, ?_⟩) hS ?_
              rotate_left
              · (intro W hSw; (try dsimp only at hSw); go_simp <;> with_reducible rfl)
              simp only [Act.put, List.getElem_toArray, List.getElem_cons_succ, List.getElem_cons_zero, List.setIfInBounds_toArray, List.set_cons_zero, List.set_cons_succ]
              refine wpAnyH_take (i := 6) (v := ?_) rfl (by kernel_rfl) (by kernel_rfl) (by kernel_rfl) (fun _ _ _ h => h) (Or.inl ⟨by rfl, ?_⟩) hS ?_
              rotate_left
              · (intro W hSw; (try dsimp only at hSw); go_simp <;> with_reducible rfl)
              simp only [Act.put, List.getElem_toArray, List.getElem_cons_succ, List.getElem_cons_zero, List.setIfInBounds_toArray, List.set_cons_zero, List.set_cons_succ]
              refine wpAnyH_take (i := 7) (v := ?_) rfl (by kernel_rfl) (by kernel_rfl) (by kernel_rfl) (fun _ _ _ h => h) (Or.inl ⟨by rfl, ?_⟩) hS ?_
              rotate_left
              · (intro W hSw; (try dsimp only at hSw); go_simp <;> with_reducible rfl)
              simp only [Act.put, List.getElem_toArray, List.getElem_cons_succ, List.getElem_cons_zero, List.setIfInBounds_toArray, List.set_cons_zero, List.set_cons_succ]
              refine wpAnyH_take (i := 8) (v := ?_) rfl (by kernel_rfl) (by kernel_rfl) (by kernel_rfl) (fun _ _ _ h => h) (Or.inl ⟨by rfl, ?_⟩) hS ?_
              rotate_left
              · (intro W hSw; (try dsimp only at hSw); go_simp <;> with_reducible rfl)
              simp only [Act.put, List.getElem_toArray, List.getElem_cons_succ, List.getElem_cons_zero, List.setIfInBounds_toArray, List.set_cons_zero, List.set_cons_succ]
              refine wpAnyH_take (i := 9) (v := ?_) rfl (by kernel_rfl) (by kernel_rfl) (by kernel_rfl) (fun _ _ _ h => h) (Or.inl ⟨by rfl, ?_⟩) hS ?_
              rotate_left
              · (intro W hSw; (try dsimp only at hSw); go_simp <;> with_reducible rfl)
              simp only [Act.put, List.getElem_toArray, List.getElem_cons_succ, List.getElem_cons_zero, List.setIfInBounds_toArray, List.set_cons_zero, List.set_cons_succ]
              refine wpAnyH_take (i := 10) (v := ?_) rfl (by kernel_rfl) (by kernel_rfl) (by kernel_rfl) (fun _ _ _ h => h) (Or.inl ⟨by rfl, ?_⟩) hS ?_
              rotate_left
              · (intro W hSw; (try dsimp only at hSw); go_simp <;> with_reducible rfl)
              simp only [Act.put, List.getElem_toArray, List.getElem_cons_succ, List.getElem_cons_zero, List.setIfInBounds_toArray, List.set_cons_zero, List.set_cons_succ]
              refine wpAnyH_take (i := 11) (v := ?_) rfl (by kernel_rfl) (by kernel_rfl) (by kernel_rfl) (fun _ _ _ h => h) (Or.inl ⟨by rfl, ?_⟩) hS ?_
              rotate_left
              · (intro W hSw; (try dsimp only at hSw); go_simp <;> with_reducible rfl)
              simp only [Act.put, List.getElem_toArray, List.getElem_cons_succ, List.getElem_cons_zero, List.setIfInBounds_toArray, List.set_cons_zero, List.set_cons_succ]
              refine wpAnyH_ready (rs := [5, 12]) (by kernel_rfl) (by simp) ?_
              refine AllReadyH.cons rfl (fun K hK => ?_) (AllReadyH.cons rfl (fun K hK => ?_) AllReadyH.nil)
              · -- the load first
                simp only [List.getElem_toArray, List.getElem_cons_succ, List.getElem_cons_zero]
                go_simp
                refine hK.out _ _ ⟨x0', x1', g1⟩ (fun hS => ?_)
                clear hK K
                try simp only [Act.put, List.getElem_toArray, List.getElem_cons_succ, List.getElem_cons_zero, List.setIfInBounds_toArray, List.set_cons_zero, List.set_cons_succ]
                refine wpAnyH_ready (rs := [12]) (by kernel_rfl) (by simp) ?_
                refine AllReadyH.cons rfl (fun K hK => ?_) AllReadyH.nil
                simp only [List.getElem_toArray, List.getElem_cons_succ, List.getElem_cons_zero]
                go_simp
                go_wp2_with (go_at_call 98; (with_reducible refine (CB.out _).mono ?_); rintro e w5 ⟨rfl, hb5⟩; go_must (have y0 := cell_next x0' hb5; have y1 := cell_next x1' hb5; have y2 := cell_next g1 hb5; have y3 := cell_next g0 hb5; have R5 := own_next R4d.out hb5; have y4 := R5.frozenAt k; obtain ⟨s1, s2⟩ := R5.stored k (.int .i64 (max cu (dy + bz))); rw [rowF_set hlt, upd_upd] at s1; have S1 := Lib.hid s1; have z0 := cell_grown s2 hGl2 y0; have z1 := cell_grown s2 hGl2 y1; have z2 : (w5.setCell ⟨G, k, none⟩ (.int .i64 (max cu (dy + bz)))).cell? ⟨G, y, none⟩ = some (.int .i64 dy) := (by rw [s1.cellAt y (by omega), rowF_at hyn]; unfold upd fK; rw [if_neg (by omega), if_pos hyk, HDD.out]); have B5 := Lib.hid ((BX4.out.trans (hb5.mono hs4)).grown s2 (by have := hb5.size; omega) (fun a ha => by simp at ha; omega)); have P5 := Lib.hid ((HPV4.out.next hb5).set (G := G) (o := k) (u := .int .i64 (max cu (dy + bz))) (row_block R5).choose_spec.choose_spec (by decide)); clear hb5 s1 s2 R5))
                refine hK.out _ _ ⟨y0, y1, y2⟩ (fun hS => ?_)
                clear hK K
                try simp only [Act.put, List.getElem_toArray, List.getElem_cons_succ, List.getElem_cons_zero, List.setIfInBounds_toArray, List.set_cons_zero, List.set_cons_succ]
                refine wpAnyH_take (i := 13) (v := ?_) rfl (by kernel_rfl) (by kernel_rfl) (by kernel_rfl) (fun _ _ _ h => h) (Or.inl ⟨by rfl, ?_⟩) hS ?_
                rotate_left
                · (intro W hSw; (try dsimp only at hSw); go_simp <;> with_reducible rfl)
                simp only [Act.put, List.getElem_toArray, List.getElem_cons_succ, List.getElem_cons_zero, List.setIfInBounds_toArray, List.set_cons_zero, List.set_cons_succ]
                refine wpAnyH_take (i := 14) (v := ?_) rfl (by kernel_rfl) (by kernel_rfl) (by kernel_rfl) (fun _ _ _ h => h) (Or.inl ⟨by rfl, ?_⟩) hS ?_
                rotate_left
                · (intro W hSw; (try dsimp only at hSw); go_simp <;> with_reducible rfl)
                simp only [Act.put, List.getElem_toArray, List.getElem_cons_succ, List.getElem_cons_zero, List.setIfInBounds_toArray, List.set_cons_zero, List.set_cons_succ]
                refine wpAnyH_take (i := 15) (v := ?_) rfl (by kernel_rfl) (by kernel_rfl) (by kernel_rfl) (fun _ _ _ h => h) (Or.inl ⟨by rfl, ?_⟩) hS ?_
                rotate_left
                · (intro W hSw; (try dsimp only at hSw); go_simp <;> with_reducible rfl)
                simp only [Act.put, List.getElem_toArray, List.getElem_cons_succ, List.getElem_cons_zero, List.setIfInBounds_toArray, List.set_cons_zero, List.set_cons_succ]
                refine wpAnyH_ready (rs := [16]) (by kernel_rfl) (by simp) ?_
                refine AllReadyH.cons rfl (fun K hK => ?_) AllReadyH.nil
                simp only [List.getElem_toArray, List.getElem_cons_succ, List.getElem_cons_zero]
                go_simp
                refine hK.out _ _ ⟨z0, z1, z2⟩ (fun hS => ?_)
                clear hK K
                try simp only [Act.put, List.getElem_toArray, List.getElem_cons_succ, List.getElem_cons_zero, List.setIfInBounds_toArray, List.set_cons_zero, List.set_cons_succ]
                refine wpAnyH_done (by kernel_rfl) ?_ _
                refine NoPanic.normal ?_
                go_wp2
                go_roundw
                case rel => exact ⟨j + 1, by go_num, by omega, by rw [HCJ.out]; exact S1.out, P5.out, B5.out⟩
                case measure => simp [intOf]; omega
              · -- the call first
                simp only [List.getElem_toArray, List.getElem_cons_succ, List.getElem_cons_zero]
                go_simp
                go_wp2_with (go_at_call 98; (with_reducible refine (CB.out _).mono ?_); rintro e w5 ⟨rfl, hb5⟩; go_must (have y0 := cell_next x0' hb5; have y1 := cell_next x1' hb5; have y2 := cell_next g1 hb5; have y3 := cell_next g0 hb5; have R5 := own_next R4d.out hb5; have y4 := R5.frozenAt k; obtain ⟨s1, s2⟩ := R5.stored k (.int .i64 (max cu (dy + bz))); rw [rowF_set hlt, upd_upd] at s1; have S1 := Lib.hid s1; have z0 := cell_grown s2 hGl2 y0; have z1 := cell_grown s2 hGl2 y1; have z2 : (w5.setCell ⟨G, k, none⟩ (.int .i64 (max cu (dy + bz)))).cell? ⟨G, y, none⟩ = some (.int .i64 dy) := (by rw [s1.cellAt y (by omega), rowF_at hyn]; unfold upd fK; rw [if_neg (by omega), if_pos hyk, HDD.out]); have B5 := Lib.hid ((BX4.out.trans (hb5.mono hs4)).grown s2 (by have := hb5.size; omega) (fun a ha => by simp at ha; omega)); have P5 := Lib.hid ((HPV4.out.next hb5).set (G := G) (o := k) (u := .int .i64 (max cu (dy + bz))) (row_block R5).choose_spec.choose_spec (by decide)); clear hb5 s1 s2 R5))
                refine hK.out _ _ ⟨y0, y1, y2⟩ (fun hS => ?_)
                clear hK K
                try simp only [Act.put, List.getElem_toArray, List.getElem_cons_succ, List.getElem_cons_zero, List.setIfInBounds_toArray, List.set_cons_zero, List.set_cons_succ]
                refine wpAnyH_take (i := 13) (v := ?_) rfl (by kernel_rfl) (by kernel_rfl) (by kernel_rfl) (fun _ _ _ h => h) (Or.inl ⟨by rfl, ?_⟩) hS ?_
                rotate_left
                · (intro W hSw; (try dsimp only at hSw); go_simp <;> with_reducible rfl)
                simp only [Act.put, List.getElem_toArray, List.getElem_cons_succ, List.getElem_cons_zero, List.setIfInBounds_toArray, List.set_cons_zero, List.set_cons_succ]
                refine wpAnyH_ready (rs := [5]) (by kernel_rfl) (by simp) ?_
                refine AllReadyH.cons rfl (fun K hK => ?_) AllReadyH.nil
                simp only [List.getElem_toArray, List.getElem_cons_succ, List.getElem_cons_zero]
                go_simp
                refine hK.out _ _ ⟨y0, y1, y2⟩ (fun hS => ?_)
                clear hK K
                try simp only [Act.put, List.getElem_toArray, List.getElem_cons_succ, List.getElem_cons_zero, List.setIfInBounds_toArray, List.set_cons_zero, List.set_cons_succ]
                refine wpAnyH_take (i := 14) (v := ?_) rfl (by kernel_rfl) (by kernel_rfl) (by kernel_rfl) (fun _ _ _ h => h) (Or.inl ⟨by rfl, ?_⟩) hS ?_
                rotate_left
                · (intro W hSw; (try dsimp only at hSw); go_simp <;> with_reducible rfl)
                simp only [Act.put, List.getElem_toArray, List.getElem_cons_succ, List.getElem_cons_zero, List.setIfInBounds_toArray, List.set_cons_zero, List.set_cons_succ]
                refine wpAnyH_take (i := 15) (v := ?_) rfl (by kernel_rfl) (by kernel_rfl) (by kernel_rfl) (fun _ _ _ h => h) (Or.inl ⟨by rfl, ?_⟩) hS ?_
                rotate_left
                · (intro W hSw; (try dsimp only at hSw); go_simp <;> with_reducible rfl)
                simp only [Act.put, List.getElem_toArray, List.getElem_cons_succ, List.getElem_cons_zero, List.setIfInBounds_toArray, List.set_cons_zero, List.set_cons_succ]
                refine wpAnyH_ready (rs := [16]) (by kernel_rfl) (by simp) ?_
                refine AllReadyH.cons rfl (fun K hK => ?_) AllReadyH.nil
                simp only [List.getElem_toArray, List.getElem_cons_succ, List.getElem_cons_zero]
                go_simp
                refine hK.out _ _ ⟨z0, z1, z2⟩ (fun hS => ?_)
                clear hK K
                try simp only [Act.put, List.getElem_toArray, List.getElem_cons_succ, List.getElem_cons_zero, List.setIfInBounds_toArray, List.set_cons_zero, List.set_cons_succ]
                refine wpAnyH_done (by kernel_rfl) ?_ _
                refine NoPanic.normal ?_
                go_wp2
                go_roundw
                case rel => exact ⟨j + 1, by go_num, by omega, by rw [HCJ.out]; exact S1.out, P5.out, B5.out⟩
                case measure => simp [intOf]; omega
            · obtain rfl : j = L.length := by omega
              rw [HCE.out, fK_next] at hLr
              have HLR := Lib.hid hLr
              have BQ := Lib.hid hbq
              have hkn : (k : Int) < (t.ns.length : Int) := by omega
              clear hLr hbq hPV
              go_wp2
              go_roundw
              case rel => exact ⟨k + 1, by go_num, by omega, HLR.out, BQ.out⟩
              case measure => simp [intOf]; omega
      · obtain rfl : k = t.ns.length := by omega
        have d2 : wo.cell? ⟨G, q, none⟩ = some (.int .i64 (deepL t.ns q)) := by rw [hrow.cellAt q (by omega), rowF_at hq2]; unfold fK; rw [if_pos (by omega)]
        have HBW := Lib.hid hbw
        clear hrow hbw
        go_wp2
        go_ret
        exact ⟨rfl, B1.out.trans (HBW.out.mono (by omega))⟩
  · rw [if_neg hc]
    have hne : (checkE t != 0) = true := by simpa using hc
    generalize checkE t = E at *
    clear hc
    go_enter Tryz.func72, Tryz.ntmps72
    go_wp2_with (go_at_call 61; (with_reducible refine CC.out.mono ?_); rintro e w1 ⟨rfl, hb1⟩; go_must (have H1 := Lib.hid (B1.out.trans (hb1.mono (by simp))); clear hb1))
    go_ret
    exact ⟨rfl, H1.out⟩

end Go.Proofs.YtgjiofkjogjhhaaGreatDoor.Rp

namespace Go.Proofs.YtgjiofkjogjhhaaGreatDoor.Sp
open Go Go.RowKit Go.Shelf
open Go.Proofs.YtgjiofkjogjhhaaGreatDoor.Wd (nameL name_both)
open Go.Proofs.YtgjiofkjogjhhaaGreatDoor.Ac (bE isE_no empty_no)
open Go.Proofs.YtgjiofkjogjhhaaGreatDoor.Ar (Tr TreeAt checkE check_any check_ok)
open Go.Proofs.YtgjiofkjogjhhaaGreatDoor.Rp (deepL deep_any heapA heapB belA)

theorem heapN {w w' : World} {k : Nat} {o : Obj} (h : w.heap[k]? = some o) (hb : Below w.heap.size w w') : w'.heap[k]? = some o := (hb.block k (Array.getElem?_eq_some_iff.1 h).1).trans h
/-- the box of a rule that the looks read -/
structure RB (R : Nat) (r : Rl) (no : Option Addr) (ncap : Nat) (so : Option Addr) (scap : Nat) (W : World) : Prop where
  hR : W.heap[R]? = some (.cells #[.int .i64 r.mode, .slice no r.t.ns.length ncap, .slice so r.t.sets.length scap, .int .i64 r.t.root, .string r.em, .int .i64 r.go] 40 (0, 0))
  hT : TreeAt W (.agg #[.slice no r.t.ns.length ncap, .slice so r.t.sets.length scap, .int .i64 r.t.root]) r.t
theorem RB.next {R : Nat} {r : Rl} {no : Option Addr} {ncap : Nat} {so : Option Addr} {scap : Nat} {W W' : World} (h : RB R r no ncap so scap W) (hb : Below W.heap.size W W') : RB R r no ncap so scap W' := ⟨heapN h.hR hb, h.hT.next hb⟩
/-- the box of a spec that the looks read -/
structure SB (S : Nat) (M : List ByteArray) (l : List Rl) (mo : Option Addr) (mcap : Nat) (ro : Option Addr) (rcap : Nat) (W : World) : Prop where
  hS : W.heap[S]? = some (.cells #[.slice mo M.length mcap, .slice ro l.length rcap] 25 (0, 0))
  hA : SpecAt W (.agg #[.slice mo M.length mcap, .slice ro l.length rcap]) M l
theorem SB.next {S : Nat} {M : List ByteArray} {l : List Rl} {mo : Option Addr} {mcap : Nat} {ro : Option Addr} {rcap : Nat} {W W' : World} (h : SB S M l mo mcap ro rcap W) (hb : Below W.heap.size W W') : SB S M l mo mcap ro rcap W' := ⟨heapN h.hS hb, h.hA.next hb⟩
theorem SB.cells {S : Nat} {M : List ByteArray} {l : List Rl} {mo : Option Addr} {mcap : Nat} {ro : Option Addr} {rcap : Nat} {W : World} (h : SB S M l mo mcap ro rcap W) : W.cell? ⟨S, 0, none⟩ = some (.slice mo M.length mcap) ∧ W.cell? ⟨S, 1, none⟩ = some (.slice ro l.length rcap) := by
  constructor <;> (rw [Lib.cell_of_heap h.hS]; rfl)
theorem RB.cells {R : Nat} {r : Rl} {no : Option Addr} {ncap : Nat} {so : Option Addr} {scap : Nat} {W : World} (h : RB R r no ncap so scap W) : W.cell? ⟨R, 0, none⟩ = some (.int .i64 r.mode) ∧ W.cell? ⟨R, 1, none⟩ = some (.slice no r.t.ns.length ncap) ∧ W.cell? ⟨R, 2, none⟩ = some (.slice so r.t.sets.length scap) ∧
    W.cell? ⟨R, 3, none⟩ = some (.int .i64 r.t.root) ∧ W.cell? ⟨R, 4, none⟩ = some (.string r.em) ∧ W.cell? ⟨R, 5, none⟩ = some (.int .i64 r.go) := by
  refine ⟨?_, ?_, ?_, ?_, ?_, ?_⟩ <;> (rw [Lib.cell_of_heap h.hR]; rfl)
section
variable {R S : Nat} {r : Rl} {no : Option Addr} {ncap : Nat} {so : Option Addr} {scap : Nat} {M : List ByteArray} {l : List Rl} {mo : Option Addr} {mcap : Nat} {ro : Option Addr} {rcap : Nat} {w : World}

set_option maxHeartbeats 1000000 in
theorem look1 (h : RB R r no ncap so scap w) (k : SB S M l mo mcap ro rcap w) :
    Calls Tryz.prog 68 #[.pointer (some ⟨R, 0, none⟩), .pointer (some ⟨S, 0, none⟩)] w fun e w' => e = .returned (.int .i64 (eIf (!isM r.mode M.length || (!decide (r.go = -1) && !isM r.go M.length)) 11)) ∧ Below w.heap.size w w' := by
  have C1 := Lib.hid (isMode_any r.mode M l _ w k.hA)
  have C2 := Lib.hid (fun W (hb : Below w.heap.size w W) => isMode_any r.go M l _ W (k.hA.next hb))
  have T := Lib.hid (fun b W => told_any b 11 W)
  obtain ⟨a0, a1, a2, a3, a4, a5⟩ := h.cells
  obtain ⟨b0, b1⟩ := k.cells
  clear h k
  have HR : Hid (∀ b, (!isM r.mode M.length || (!decide (r.go = -1) && !isM r.go M.length)) = b → Ending.returned (.int .i64 (eIf b 11)) = .returned (.int .i64 (eIf (!isM r.mode M.length || (!decide (r.go = -1) && !isM r.go M.length)) 11))) := Lib.hid fun b h => by rw [h]
  generalize Ending.returned (.int .i64 (eIf (!isM r.mode M.length || (!decide (r.go = -1) && !isM r.go M.length)) 11)) = E at *
  generalize r.mode = p at *
  generalize r.go = q at *
  generalize isM p M.length = x at *
  generalize isM q M.length = y at *
  cases x
  · have HZ := Lib.hid (HR.out true (by simp))
    clear HR C2
    go_enter Tryz.func68, Tryz.ntmps68
    go_wp2_with (first
      | (go_at_call 44; (with_reducible refine C1.out.mono ?_); rintro e w1 ⟨rfl, hb1⟩; go_must (have B1 := Lib.hid hb1; clear hb1))
      | (go_at_call 27; (with_reducible refine (T.out _ _).mono ?_); rintro e w2 ⟨rfl, hw⟩; subst hw)
      | fail)
    go_ret
    exact ⟨HZ.out, B1.out⟩
  · by_cases hq : q = -1
    · have HZ := Lib.hid (HR.out false (by simp [hq]))
      subst hq
      clear HR C2
      go_enter Tryz.func68, Tryz.ntmps68
      go_wp2_with (first
        | (go_at_call 44; (with_reducible refine C1.out.mono ?_); rintro e w1 ⟨rfl, hb1⟩; go_must (have k5 := cell_next a5 hb1; have B1 := Lib.hid hb1; clear hb1))
        | (go_at_call 27; (with_reducible refine (T.out _ _).mono ?_); rintro e w2 ⟨rfl, hw⟩; subst hw)
        | fail)
      go_ret
      exact ⟨HZ.out, B1.out⟩
    · have HZ := Lib.hid (HR.out (!y) (by simp [hq]))
      have d0 : (q != -1) = true := by simpa using hq
      clear HR hq
      go_enter Tryz.func68, Tryz.ntmps68
      go_wp2_with (first
        | (go_at_call 44; (with_reducible refine C1.out.mono ?_); rintro e w1 ⟨rfl, hb1⟩; go_must (have k5 := cell_next a5 hb1; have m0 := cell_next b0 hb1; have m1 := cell_next b1 hb1; have D2 := Lib.hid (C2.out _ hb1); have B1 := Lib.hid hb1; clear hb1))
        | (go_at_call 44; (with_reducible refine D2.out.mono ?_); rintro e w3 ⟨rfl, hb3⟩; go_must (have B3 := Lib.hid (B1.out.trans (hb3.mono B1.out.size)); clear hb3))
        | (go_at_call 27; (with_reducible refine (T.out _ _).mono ?_); rintro e w2 ⟨rfl, hw⟩; subst hw)
        | fail)
      go_ret
      exact ⟨HZ.out, B3.out⟩
set_option maxHeartbeats 1000000 in
theorem look2 (h : RB R r no ncap so scap w) (hs : r.em.size ≤ 1000000) :
    Calls Tryz.prog 69 #[.pointer (some ⟨R, 0, none⟩)] w fun e w' => e = .returned (.int .i64 (eIf (!decide (r.em = bE) && !nameL r.em.data.toList) 4)) ∧ Below w.heap.size w w' := by
  have C1 := Lib.hid ((name_both r.em (by unfold maxLen; omega) w).1)
  have T := Lib.hid (fun b W => told_any b 4 W)
  obtain ⟨a0, a1, a2, a3, a4, a5⟩ := h.cells
  clear h hs
  have HR : Hid (∀ b, (!decide (r.em = bE) && !nameL r.em.data.toList) = b → Ending.returned (.int .i64 (eIf b 4)) = .returned (.int .i64 (eIf (!decide (r.em = bE) && !nameL r.em.data.toList) 4))) := Lib.hid fun b h => by rw [h]
  generalize Ending.returned (.int .i64 (eIf (!decide (r.em = bE) && !nameL r.em.data.toList) 4)) = E at *
  generalize nameL r.em.data.toList = y at *
  generalize r.em = em at *
  by_cases hq : em = bE
  · have HZ := Lib.hid (HR.out false (by simp [hq]))
    have hq' : em = ⟨#[]⟩ := hq
    subst hq'
    clear HR C1 hq
    go_enter Tryz.func69, Tryz.ntmps69
    go_wp2_with (first
      | (go_at_call 27; (with_reducible refine (T.out _ _).mono ?_); rintro e w2 ⟨rfl, hw⟩; subst hw)
      | fail)
    go_ret
    exact ⟨HZ.out, Below.refl _ _⟩
  · have HZ := Lib.hid (HR.out (!y) (by simp [hq]))
    have d0 := isE_no hq
    have d1 := empty_no hq
    clear HR hq
    go_enter Tryz.func69, Tryz.ntmps69
    go_wp2_with (first
      | (go_at_call 48; (with_reducible refine C1.out.mono ?_); rintro e w1 ⟨rfl, hw⟩; subst hw)
      | (go_at_call 27; (with_reducible refine (T.out _ _).mono ?_); rintro e w2 ⟨rfl, hw⟩; subst hw)
      | fail)
    go_ret
    exact ⟨HZ.out, Below.refl _ _⟩
theorem look3 (h : RB R r no ncap so scap w) :
    Calls Tryz.prog 70 #[.pointer (some ⟨R, 0, none⟩)] w fun e w' => e = .returned (.int .i64 (checkE r.t)) ∧ Below w.heap.size w w' := by
  have C1 := Lib.hid (check_any r.t _ w h.hT)
  obtain ⟨a0, a1, a2, a3, a4, a5⟩ := h.cells
  clear h
  generalize checkE r.t = x at *
  go_enter Tryz.func70, Tryz.ntmps70
  go_wp2_with (first
    | (go_at_call 61; (with_reducible refine C1.out.mono ?_); rintro e w1 ⟨rfl, hb1⟩; go_must (have B1 := Lib.hid hb1; clear hb1))
    | fail)
  go_ret
  exact ⟨rfl, B1.out⟩
theorem look4 (h : RB R r no ncap so scap w) (hc : checkE r.t = 0) :
    Calls Tryz.prog 71 #[.pointer (some ⟨R, 0, none⟩)] w fun e w' => e = .returned (.int .i64 (eIf (decide (32 < deepL r.t.ns r.t.root.toNat)) 7)) ∧ Below w.heap.size w w' := by
  have C1 := Lib.hid (deep_any r.t _ w h.hT)
  rw [if_pos hc] at C1
  have T := Lib.hid (fun b W => told_any b 7 W)
  obtain ⟨a0, a1, a2, a3, a4, a5⟩ := h.cells
  clear h hc
  generalize deepL r.t.ns r.t.root.toNat = x at *
  have HR : Hid (∀ b, decide (32 < x) = b → Ending.returned (.int .i64 (eIf b 7)) = .returned (.int .i64 (eIf (decide (32 < x)) 7))) := Lib.hid fun b h => by rw [h]
  go_enter Tryz.func71, Tryz.ntmps71
  go_wp2_with (first
    | (go_at_call 72; (with_reducible refine C1.out.mono ?_); rintro e w1 ⟨rfl, hb1⟩; go_must (have B1 := Lib.hid hb1; clear hb1))
    | (go_at_call 27; (with_reducible refine (T.out _ _).mono ?_); rintro e w2 ⟨rfl, hw⟩; subst hw)
    | fail)
  go_ret
  exact ⟨HR.out _ rfl, B1.out⟩
end
end Go.Proofs.YtgjiofkjogjhhaaGreatDoor.Sp

namespace Go.Proofs.YtgjiofkjogjhhaaGreatDoor.Ut
open Go.RowKit

theorem sc_end {c : Int} {b : Bool} (h : b = scalar c) : Ending.returned (.bool b) = .returned (.bool (scalar c)) := by rw [h]

theorem runeLen_good {c : Int} (h : scalar c = true) : Lib.runeLen c = ((putL c).length : Int) := by
  rw [putL, if_pos h, ← Lib.runeCells_length]
  rw [scalar_iff] at h
  unfold Lib.runeLen Lib.runeCells
  rw [List.length_map]
  by_cases a : c ≤ 127
  · rw [Lib.encodeRuneZ_one (by omega) a]; simp; omega
  · by_cases b : c ≤ 2047
    · rw [Lib.encodeRuneZ_two (by omega) b]; simp; omega
    · by_cases d : c ≤ 65535
      · rw [Lib.encodeRuneZ_three (by omega)]; simp; omega
      · rw [Lib.encodeRuneZ_four (by omega) (by omega)]; simp; omega

end Go.Proofs.YtgjiofkjogjhhaaGreatDoor.Ut

namespace Go.Proofs.YtgjiofkjogjhhaaGreatDoor.Ut
open Go.RowKit

set_option maxRecDepth 100000 in
set_option maxHeartbeats 400000 in
theorem scalar_any (c : Int) (w : World) :
    Calls Tryz.prog 138 #[.int .i64 c] w fun e w' => e = .returned (.bool (scalar c)) ∧ w = w' := by
  go_enter Tryz.func138, Tryz.ntmps138
  go_wp2
  all_goals (go_ret; refine ⟨sc_end ?_, rfl⟩; rw [Bool.eq_iff_iff]; simp [scalar]; try omega)

set_option maxRecDepth 100000 in
set_option maxHeartbeats 400000 in
theorem length_any (c : Int) (w : World) :
    Calls Tryz.prog 131 #[.int .i64 c] w fun e w' => e = .returned (.int .i64 ((putL c).length : Int)) ∧ w = w' := by
  have hs : ∀ w, Calls Tryz.prog 138 #[.int .i64 c] w fun e w' => e = .returned (.bool (scalar c)) ∧ w = w' := fun w => scalar_any c w
  cases h : scalar c with
  | false =>
    rw [h] at hs
    have HS := Lib.hid hs
    clear hs
    go_enter Tryz.func131, Tryz.ntmps131
    go_wp2_with (go_at_call 138; refine (HS.out _).mono ?_; rintro e w' ⟨rfl, rfl⟩)
    go_ret
    exact ⟨by rw [put_bad h]; rfl, rfl⟩
  | true =>
    rw [h] at hs
    have HS := Lib.hid hs
    clear hs
    have hr := runeLen_good h
    rw [scalar_iff] at h
    have hr1 : ∀ w, Calls Tryz.prog 139 #[.int .i32 c] w fun e w' => e = .returned (.int .i64 (Lib.runeLen c)) ∧ w' = w := fun w => Tryz.utf8_RuneLen c w
    have HR := Lib.hid hr1
    clear hr1
    rw [← hr]
    clear hr
    have h0 : 0 ≤ c := by omega
    have h1 : c ≤ 1114111 := by omega
    clear h
    go_enter Tryz.func131, Tryz.ntmps131
    go_wp2_with (first
      | (go_at_call 138; refine (HS.out _).mono ?_; rintro e w' ⟨rfl, rfl⟩)
      | (go_at_call 139; refine (HR.out _).mono ?_; rintro e w' ⟨rfl, rfl⟩))
    go_ret
    exact ⟨rfl, rfl⟩

end Go.Proofs.YtgjiofkjogjhhaaGreatDoor.Ut

namespace Go.Proofs.YtgjiofkjogjhhaaGreatDoor.Ms
open Go Go.RowKit Go.Shelf
open Go.Proofs.YtgjiofkjogjhhaaGreatDoor.Rp (heapA heapB belA)
open Go.Proofs.YtgjiofkjogjhhaaGreatDoor.Rg (R RngsAt hasB inB isC setFrom SetOut less_any2 inB_set uniq flatR flatR_at flatR_len nth rngs_of_row rightB rightB_iff)
open Go.Proofs.YtgjiofkjogjhhaaGreatDoor.Ut (scalar putL length_any)

def halfB (c : Int) : Bool := inB [((55296 : Int), (57343 : Int))] c
theorem half_eq (c : Int) : halfB c = (decide (55296 ≤ c) && decide (c ≤ 57343)) := by
  unfold halfB
  rw [inB_set (by simp [setFrom]), Rg.hasB_one]
/-- what is left of a set without what is no code point -/
def ptB (l : List R) (c : Int) : Bool := inB l c && (isC c && !halfB c)
open Classical in
noncomputable def ptsL (l : List R) : List R := if h : ∃ L, setFrom 0 L ∧ ∀ c, hasB L c = ptB l c then Classical.choose h else []
open Classical in
theorem pts_eq {l L : List R} (h : setFrom 0 L) (k : ∀ c, hasB L c = ptB l c) : ptsL l = L := by
  have hx : ∃ L, setFrom 0 L ∧ ∀ c, hasB L c = ptB l c := ⟨L, h, k⟩
  unfold ptsL
  rw [dif_pos hx]
  exact uniq (Classical.choose_spec hx).1 h fun c => by rw [(Classical.choose_spec hx).2, k]
theorem pts_ok {l L : List R} (k : ∀ c, hasB L c = ptB l c) : ∀ c, hasB L c = true → scalar c = true := fun c hc => by
  rw [k] at hc
  rw [Ut.scalar_iff]
  unfold ptB isC at hc
  rw [half_eq] at hc
  simp at hc
  omega
noncomputable def spL (l : List R) : Sp := setS (ptsL l)
theorem spL_bd (l : List R) : Bd (spL l) := setS_bd _
open Classical in
theorem spL_no (l : List R) : ¬ nulS (spL l) := by
  unfold spL ptsL
  split
  · rename_i h
    exact setS_no (pts_ok (Classical.choose_spec h).2) (Classical.choose_spec h).1
  · rintro ⟨h, _⟩; simp [setS, z0] at h

theorem rngs_half {W : World} {B : Nat} (h : W.heap[B]? = some (.cells #[.int .i64 55296, .int .i64 57343] 75 (0, 0))) : RngsAt W (.slice (some ⟨B, 0, none⟩) 1 1) [(55296, 57343)] :=
  .inr ⟨_, 1, rfl, by unfold maxLen; simp, fun i hi => by
    have e : i = 0 := by simpa using hi
    subst e
    rw [Rg.add_zero, Lib.cell_of_heap h, Lib.cell_of_heap h]
    exact ⟨rfl, rfl⟩⟩
theorem points_any (l : List R) (v : Value) (w : World) (hv : RngsAt w v l) (hM : l.length + 2 < 1000000) :
    Calls Tryz.prog 130 #[v] w fun e w' => ∃ v' L, e = .returned v' ∧ w'.ownsRow w.heap.size 75 2 v' L.length (flatR L) ∧ setFrom 0 L ∧ (∀ c, hasB L c = ptB l c) ∧ Below w.heap.size w w' := by
  have hb := (Below.refl w.heap.size w).alloc (Nat.le_refl _) (.cells #[.int .i64 55296, .int .i64 57343] 75)
  have C := Lib.hid (less_any2 l [(55296, 57343)] v (.slice (some ⟨w.heap.size, 0, none⟩) 1 1) (w.alloc (.cells #[.int .i64 55296, .int .i64 57343] 75)) (hv.next hb) (rngs_half (heapA rfl)) (by simpa using hM))
  have HB := Lib.hid hb
  clear hv hb
  go_enter Tryz.func130, Tryz.ntmps130
  go_wp2_with (go_at_call 137; (with_reducible refine C.out.mono ?_); rintro e w' ⟨v', L, rfl, h1, h2, h3, _, h5⟩; go_must (have H1 := Lib.hid h1; have H2 := Lib.hid h2; have H3 := Lib.hid h3; have H5 := Lib.hid h5; clear h1 h2 h3 h5))
  go_ret
  exact ⟨v', L, rfl, Rg.row_base H1.out (by simp), H2.out, H3.out, HB.out.trans (H5.out.mono HB.out.size)⟩

theorem row_ends {W : World} {B : Nat} {v : Value} {L : List R} (h : W.ownsRow B 75 2 v L.length (flatR L)) (h0 : 0 < L.length) :
    ∃ g cap, v = .slice (some ⟨g, 0, none⟩) L.length cap ∧ W.cell? ⟨g, 0, none⟩ = some (.int .i64 (nth L 0).1) ∧ W.cell? ⟨g, (L.length - 1) * 2 + 1, none⟩ = some (.int .i64 (nth L (L.length - 1)).2) := by
  rcases h.2 with ⟨_, h'⟩ | ⟨g, cap, cur, rfl, _⟩
  · omega
  · refine ⟨g, cap, rfl, ?_, ?_⟩
    · rw [h.cellAt 0 (by omega)]
      have := (flatR_at L 0 h0).1
      simpa using this
    · rw [h.cellAt _ (by omega)]
      exact (flatR_at L (L.length - 1) (by omega)).2

set_option maxRecDepth 100000 in
set_option maxHeartbeats 4000000 in
theorem spanOf_any (l : List R) (v : Value) (w : World) (hv : RngsAt w v l) (hM : l.length + 2 < 1000000) :
    Calls Tryz.prog 120 #[v] w fun e w' => e = .returned (aggS (spL l)) ∧ Below w.heap.size w w' := by
  have hb := (Below.refl w.heap.size w).alloc (Nat.le_refl _) (.cells #[.bool false, .bool false, .int .i64 0, .int .i64 0] 124)
  have x2 : (w.alloc (.cells #[.bool false, .bool false, .int .i64 0, .int .i64 0] 124)).heap[w.heap.size]? = some (.cells #[.bool false, .bool false, .int .i64 0, .int .i64 0] 124 (0, 0)) := heapA rfl
  have C := Lib.hid (points_any l v _ (hv.next hb) hM)
  have LN := Lib.hid (fun c W => length_any c W)
  have HB := Lib.hid hb
  have X2 := Lib.hid x2
  have HR : Hid (∀ L, setFrom 0 L → (∀ c, hasB L c = ptB l c) → ∀ x, setS L = x → Ending.returned (aggS x) = .returned (aggS (spL l))) := Lib.hid fun L h1 h2 x h => by unfold spL; rw [pts_eq h1 h2, h]
  clear hv hb x2
  generalize Ending.returned (aggS (spL l)) = E at *
  go_enter Tryz.func120, Tryz.ntmps120
  go_upto_region 1 with fail
  generalize w.alloc (.cells #[.bool false, .bool false, .int .i64 0, .int .i64 0] 124) = W1 at *
  go_wp2_with (go_at_call 130; (with_reducible refine C.out.mono ?_); rintro e w2 ⟨v', L, rfl, h1, h2, h3, h5⟩; go_must (obtain ⟨ao, cap, rfl, hLm, hR⟩ := (rngs_of_row h1).shape; have HRR := Lib.hid hR; have H1 := Lib.hid h1; have H2 := Lib.hid (HR.out L h2 h3); have X3 := Lib.hid (heap_below X2.out h5); have B3 := Lib.hid (HB.out.trans (h5.mono HB.out.size)); have f0 := Lib.frozen_of_heap X3.out 0; have f1 := Lib.frozen_of_heap X3.out 1; have f2 := Lib.frozen_of_heap X3.out 2; have f3 := Lib.frozen_of_heap X3.out 3; obtain ⟨e0, e1, e2, e3⟩ := cells_sp X3.out; clear h1 h2 h3 h5 hR))
  · obtain rfl : L = [] := by have := ‹((L.length : Int) == 0) = true›; simpa using this
    (try simp only [Exit.inBlock, Exit.then])
    refine bodyPost_ret (results_cell_row rfl _ _ w.heap.size 124 #[.bool false, .bool false, .int .i64 0, .int .i64 0] (0, 0) _ rfl (set_sp X3.out _ _ _ _) Tryz.underlying124 rfl (by kernel_rfl)) rfl ?_
    exact ⟨H2.out z0 rfl, below_sp B3.out (Nat.le_refl _) _ _ _ _⟩
  · have hz : ¬ L = [] := by have := ‹((L.length : Int) == 0) = false›; simpa using this
    have hp : 0 < L.length := List.length_pos_iff.2 hz
    obtain ⟨m, hm⟩ : ∃ m, L.length = m + 1 := ⟨L.length - 1, by omega⟩
    obtain ⟨gg, _, hg, _⟩ := row_ends H1.out hp
    have hgl := (H1.out.lt gg (by rw [hg]; rfl)).1
    have hw1 := (Array.getElem?_eq_some_iff.1 X2.out).1
    simp only [Value.slice.injEq] at hg
    have hga := hg.1
    clear hg hz
    obtain ⟨ad, rfl, c0, _⟩ := HRR.out 0 (by omega)
    obtain ⟨ad', he, _, c1⟩ := HRR.out m (by omega)
    obtain rfl := Option.some.inj he
    have c0' : w2.cell? ad = some (.int .i64 (nth L 0).1) := c0
    have HZ : Hid (Ending.returned (aggS ⟨true, false, ((putL (nth L 0).1).length : Nat), ((putL (nth L m).2).length : Nat)⟩) = E) := Lib.hid (H2.out _ (by
      cases L with
      | nil => simp at hm
      | cons r t => simp only [List.length_cons, Nat.add_right_cancel_iff] at hm; subst hm; rfl))
    have C1 := Lib.hid (fun W => LN.out (nth L 0).1 W)
    have C2 := Lib.hid (fun W => LN.out (nth L m).2 W)
    unfold aggS at HZ
    generalize ((putL (nth L 0).1).length : Int) = p at *
    generalize ((putL (nth L m).2).length : Int) = q at *
    generalize (nth L 0).1 = x at *
    generalize (nth L m).2 = y at *
    have z1 : IntKind.i64.wrap ((L.length : Int) - 1) = (m : Int) := by rw [IntKind.wrap_i64]; omega
    have z2 : m < L.length := by omega
    have z3 : 0 < L.length := by omega
    have l2 := (Array.getElem?_eq_some_iff.1 X3.out).1
    have n0 : ad.block ≠ w.heap.size := by rw [Option.some.inj hga]; show gg ≠ _; omega
    clear H1 H2 HRR LN hm c0 he hLm C HR hp hgl hw1 hga
    generalize L.length = n at *
    go_region_held3 (fun W => W.cell? ad = some (.int .i64 x) ∧ W.cell? ⟨(ad.add (m * 2)).block, (ad.add (m * 2)).off + 1, none⟩ = some (.int .i64 y)) (first | with_reducible exact ⟨c0', c1⟩ | with_reducible exact ⟨cell_drew (put4 c0' n0 _ _ _ _), cell_drew (put4 c1 (by rw [add_block]; exact n0) _ _ _ _)⟩ | go_keep) (first
      | (go_at_call 131; (with_reducible refine (C1.out _).mono ?_); rintro e w' ⟨rfl, hw⟩; subst hw)
      | (go_at_call 131; (with_reducible refine (C2.out _).mono ?_); rintro e w' ⟨rfl, hw⟩; subst hw)
      | fail)
    go_wp2
    (try simp only [Exit.inBlock, Exit.then])
    refine bodyPost_ret (results_cell_row rfl _ _ w.heap.size 124 #[.bool true, .bool false, .int .i64 p, .int .i64 q] (0, 0) _ rfl (set_sp (heap_drew X3.out) _ _ _ _) Tryz.underlying124 rfl (by kernel_rfl)) rfl ?_
    exact ⟨HZ.out, below_sp (below_drew B3.out) (Nat.le_refl _) _ _ _ _⟩

end Go.Proofs.YtgjiofkjogjhhaaGreatDoor.Ms

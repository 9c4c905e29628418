/- Sets of bits in memory. -/
import Derived.Test.YtemmaoapicaloaaDoorInts
import Derived.Test.YtemmaoapicaloaaDoorBtPop
import Derived.Laws.OwnMore
import Derived.Lib.Hide
namespace Go.Proofs.YtemmaoapicaloaaDoor.Bt
open Go Go.RowKit

/-- is a number among these words' bits -/
def memL (L : List Nat) (n : Nat) : Bool := (L.getD (n / 64) 0).testBit (n % 64)
/-- words, as values -/
def wV (L : List Nat) : List Value := L.map fun x => Value.int .u64 (x : Nat)
theorem wV_len (L : List Nat) : (wV L).length = L.length := by simp [wV]

/-- a set whose words are the call's own (from a block on) -/
structure SetAt (w : World) (B room : Nat) (v : Value) (L : List Nat) : Prop where
  row : w.ownsRow B 55 1 v L.length (wV L)
  len : L.length = (room + 63) / 64
  lim : room ≤ 65536
  word : ∀ i, L.getD i 0 < 18446744073709551616
  inn : ∀ n, memL L n = true → n < room

/-- a set, as a value -/
def setV (room : Nat) (v : Value) : Value := .agg #[.int .i64 (room : Nat), v]

theorem SetAt.kept {w w' : World} {B room : Nat} {v : Value} {L : List Nat} {row : Option Nat} (h : SetAt w B room v L) (hg : w.grownBy w' row) (hne : v.ownBlock = none ∨ v.ownBlock ≠ row) : SetAt w' B room v L :=
  ⟨h.row.kept hg hne, h.len, h.lim, h.word, h.inn⟩
theorem SetAt.next {w w' : World} {B room : Nat} {v : Value} {L : List Nat} (h : SetAt w B room v L) (hb : Below w.heap.size w w') : SetAt w' B room v L :=
  ⟨row_next h.row hb, h.len, h.lim, h.word, h.inn⟩

theorem SetAt.shape {w : World} {B room : Nat} {v : Value} {L : List Nat} (h : SetAt w B room v L) :
    ∃ (ao : Option Addr) (cap : Nat), v = .slice ao L.length cap ∧ L.length ≤ 1024 ∧ L.length ≤ cap ∧ ∀ i, i < L.length → ∃ g, ao = some ⟨g, 0, none⟩ ∧ w.cell? ⟨g, i, none⟩ = some (.int .u64 (L.getD i 0 : Nat)) := by
  have hl := h.len
  have hm := h.lim
  have hle : L.length ≤ 1024 := by omega
  rcases h.row.2 with ⟨e, h0⟩ | ⟨g, cap, cur, e, hb, hg, hn, hmx, hcs, ht⟩
  · exact ⟨none, 0, by rw [e, h0], hle, by omega, fun i hi => by omega⟩
  · subst e
    refine ⟨some ⟨g, 0, none⟩, cap, rfl, hle, by omega, fun i hi => ⟨g, rfl, ?_⟩⟩
    rw [h.row.cellAt i (by omega)]
    simp [wV, List.getD, hi]

theorem getD_set {L : List Nat} {i x j : Nat} (hi : i < L.length) : (L.set i x).getD j 0 = if j = i then x else L.getD j 0 := by
  simp only [List.getD_eq_getElem?_getD, List.getElem?_set]
  by_cases h : i = j
  · subst h; simp [hi]
  · have : ¬ j = i := fun e => h e.symm
    simp [h, this]
theorem memL_set {L : List Nat} {i x n : Nat} (hi : i < L.length) : memL (L.set i x) n = if n / 64 = i then x.testBit (n % 64) else memL L n := by
  unfold memL
  rw [getD_set hi]
  split <;> rfl

/-- one word is stored anew -/
theorem SetAt.store {w : World} {B room g cap : Nat} {L : List Nat} (h : SetAt w B room (.slice (some ⟨g, 0, none⟩) L.length cap) L) (i x : Nat) (hi : i < L.length) (hx : x < 18446744073709551616)
    (hin : ∀ j, j < 64 → x.testBit j = true → 64 * i + j < room) :
    SetAt (w.setCell ⟨g, i, none⟩ (.int .u64 (x : Nat))) B room (.slice (some ⟨g, 0, none⟩) L.length cap) (L.set i x) ∧ w.grownBy (w.setCell ⟨g, i, none⟩ (.int .u64 (x : Nat))) (some g) := by
  obtain ⟨h1, h2⟩ := h.row.stored i (.int .u64 (x : Nat))
  refine ⟨⟨?_, by rw [List.length_set]; exact h.len, h.lim, fun j => ?_, fun n hn => ?_⟩, h2⟩
  · rw [List.length_set]
    have e : wV (L.set i x) = (wV L).set i (.int .u64 (x : Nat)) := by simp [wV, List.map_set]
    rw [e]; exact h1
  · rw [getD_set hi]; split
    · exact hx
    · exact h.word j
  · rw [memL_set hi] at hn
    split at hn
    · rename_i e
      have := hin (n % 64) (by omega) hn
      omega
    · exact h.inn n hn

theorem infoU : (Tryd.prog.info? 55).map (fun i => (i.zero, i.size, i.bytes)) = some (some (.int .u64 0), 1, 8) := by kernel_rfl

/-- a set in a box -/
def BoxS (W : World) (b room : Nat) (v : Value) : Prop := W.heap[b]? = some (.cells #[.int .i64 (room : Nat), v] 34 (0, 0))
theorem BoxS.lt {W : World} {b room : Nat} {v : Value} (h : BoxS W b room v) : b < W.heap.size := (Array.getElem?_eq_some_iff.1 h).1
theorem BoxS.cells {W : World} {b room : Nat} {v : Value} (h : BoxS W b room v) : W.cell? ⟨b, 0, none⟩ = some (.int .i64 (room : Nat)) ∧ W.cell? ⟨b, 1, none⟩ = some v := by simp [World.cell?, show W.heap[b]? = _ from h]
theorem BoxS.kept {W W' : World} {row : Option Nat} {b room : Nat} {v : Value} (h : BoxS W b room v) (hg : W.grownBy W' row) (hne : some b ≠ row) : BoxS W' b room v := (hg.block b h.lt hne).trans h
theorem BoxS.next {W W' : World} {b room : Nat} {v : Value} (h : BoxS W b room v) (hb : Below W.heap.size W W') : BoxS W' b room v := (hb.block b h.lt).trans h
theorem BoxS.not_row {W : World} {b room B r : Nat} {u v : Value} {L : List Nat} (h : BoxS W b r u) (hs : SetAt W B room v L) : some b ≠ v.ownBlock := by
  rcases hs.row.2 with ⟨rfl, _⟩ | ⟨g, cap, cur, rfl, _, hg, _⟩
  · simp [Value.ownBlock]
  · intro e
    have : b = g := by simpa [Value.ownBlock] using e
    subst this
    rw [show W.heap[b]? = _ from h] at hg
    simp only [Option.some.injEq, Obj.cells.injEq] at hg
    exact absurd hg.2.1 (by decide)

end Go.Proofs.YtemmaoapicaloaaDoor.Bt

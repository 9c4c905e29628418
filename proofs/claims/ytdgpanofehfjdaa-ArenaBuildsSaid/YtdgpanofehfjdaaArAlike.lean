/- A number of each set. -/
import Derived.Test.YtdgpanofehfjdaaArCmp
import Derived.Shelf.SlSortCmp.Whole1
import Derived.Sort.Walk13a
import Derived.Laws.MakeOwn
import Derived.OwnWalk
import Derived.Shelf.SlSortCmp.NoneTotal
namespace Go.Proofs.Ytdgpanofehfjdaa.Ar
open Go Go.RowKit Go.Shelf
open Go.Proofs.Ytdgpanofehfjdaa.Rg (R RngsAt RowsAt nthL)

/-- the place at which a run of the same sets begins -/
def lead (f : Nat → List R) : Nat → Nat
  | 0 => 0
  | k + 1 => if cmpL (f k) (f (k + 1)) = 0 then lead f k else k + 1
theorem lead_le (f : Nat → List R) : ∀ k, lead f k ≤ k
  | 0 => Nat.le_refl _
  | k + 1 => by unfold lead; split; have := lead_le f k; omega; exact Nat.le_refl _
theorem lead_same (f : Nat → List R) : ∀ k, f (lead f k) = f k
  | 0 => rfl
  | k + 1 => by
    unfold lead
    split
    · rename_i h; rw [lead_same f k]; exact cmpL_eq.1 h
    · rfl
theorem lead_run {f : Nat → List R} {n : Nat} (hs : ∀ i j, i < j → j < n → ¬ cmpL (f j) (f i) < 0) : ∀ q p, p ≤ q → q < n → f p = f q → lead f q = lead f p
  | 0, p, hp, _, _ => by
    obtain rfl : p = 0 := by omega
    rfl
  | q + 1, p, hp, hq, he => by
    rcases Nat.lt_or_ge p (q + 1) with h | h
    · have h1 : f p = f q := by
        rcases Nat.lt_or_ge p q with h' | h'
        · have a1 := hs p q h' (by omega)
          have a2 := hs q (q + 1) (by omega) hq
          rw [← he] at a2
          have k1 := cmpL_lt (f p) (f q)
          by_cases e : cmpL (f p) (f q) = 0
          · exact cmpL_eq.1 e
          · exact absurd (k1.2 ⟨e, a1⟩) a2
        · rw [show p = q by omega]
      rw [lead, if_pos (cmpL_eq.2 (h1 ▸ he)), lead_run hs q p (by omega) (by omega) h1]
    · rw [show p = q + 1 by omega]
theorem lead_iff {f : Nat → List R} {n : Nat} (hs : ∀ i j, i < j → j < n → ¬ cmpL (f j) (f i) < 0) {p q : Nat} (hp : p < n) (hq : q < n) : lead f p = lead f q ↔ f p = f q := by
  constructor
  · intro h; rw [← lead_same f p, h, lead_same f q]
  · intro h
    rcases Nat.le_total p q with hpq | hpq
    · exact (lead_run hs q p hpq hq h).symm
    · exact lead_run hs p q hpq hp h.symm

/-- an order of the numbers below n: places and numbers, one by one -/
structure Ord (n : Nat) (ord pos : Nat → Nat) : Prop where
  lt : ∀ j, j < n → ord j < n
  plt : ∀ i, i < n → pos i < n
  left : ∀ j, j < n → pos (ord j) = j
  right : ∀ i, i < n → ord (pos i) = i
theorem ord_of (n : Nat) (d' : Array (Fin n)) [Inhabited (Fin n)] (hs : d'.size = n) (hp : d'.toList.Perm (List.finRange n)) : ∃ pos, Ord n (fun j => (d'[j]!).val) pos := by
  have hnd : d'.toList.Nodup := (hp.nodup_iff).2 (List.nodup_finRange n)
  have hmem : ∀ i (h : i < n), (⟨i, h⟩ : Fin n) ∈ d'.toList := fun i h => hp.symm.subset (List.mem_finRange _)
  have hex : ∀ i, ∃ j, i < n → j < n ∧ (d'[j]!).val = i := by
    intro i
    by_cases h : i < n
    · obtain ⟨j, hj, he⟩ := List.mem_iff_getElem.1 (hmem i h)
      have hj' : j < d'.size := by simpa using hj
      refine ⟨j, fun _ => ⟨by omega, ?_⟩⟩
      rw [getElem!_pos d' j hj']
      rw [Array.getElem_toList] at he
      rw [he]
    · exact ⟨0, fun h' => absurd h' h⟩
  have hch := Classical.skolem.1 hex
  obtain ⟨pos, hpos⟩ := hch
  have hlt : ∀ j, j < n → (d'[j]!).val < n := fun j _ => (d'[j]!).isLt
  have hinj : ∀ a b, a < n → b < n → (d'[a]!).val = (d'[b]!).val → a = b := by
    intro a b ha hb he
    have ha' : a < d'.toList.length := by simp; omega
    have hb' : b < d'.toList.length := by simp; omega
    have e : d'.toList[a] = d'.toList[b] := by
      rw [Array.getElem_toList, Array.getElem_toList, ← getElem!_pos d' a (by omega), ← getElem!_pos d' b (by omega)]
      exact Fin.ext he
    have hpw := List.pairwise_iff_getElem.1 hnd
    rcases Nat.lt_trichotomy a b with h | h | h
    · exact absurd e (hpw a b ha' hb' h)
    · exact h
    · exact absurd e.symm (hpw b a hb' ha' h)
  exact ⟨pos, hlt, fun i hi => (hpos i hi).1, fun j hj => hinj _ _ (hpos _ (hlt j hj)).1 hj (hpos _ (hlt j hj)).2, fun i hi => (hpos i hi).2⟩
/-- the row of numbers when the first k of the order are told -/
def partP (f : Nat → List R) (pos : Nat → Nat) (n k : Nat) : List Int := (List.range n).map fun i => if pos i < k then ((lead f (pos i) : Nat) : Int) else 0
theorem partP_len (f : Nat → List R) (pos : Nat → Nat) (n k : Nat) : (partP f pos n k).length = n := by simp [partP]
theorem partP_at {f : Nat → List R} {pos : Nat → Nat} {n k i : Nat} (h : i < n) : (partP f pos n k)[i]? = some (if pos i < k then ((lead f (pos i) : Nat) : Int) else 0) := by
  unfold partP; simp [h]
theorem partP_set {f : Nat → List R} {ord pos : Nat → Nat} {n k : Nat} (ho : Ord n ord pos) (h : k < n) : (partP f pos n k).set (ord k) (lead f k) = partP f pos n (k + 1) := by
  apply List.ext_getElem?
  intro j
  have hl : ((partP f pos n k).set (ord k) (lead f k)).length = n := by rw [List.length_set, partP_len]
  by_cases hj : j < n
  · rw [List.getElem?_set, partP_at hj, partP_at hj]
    by_cases hk : ord k = j
    · subst hk
      rw [if_pos rfl, if_pos (by rw [partP_len]; exact hj), ho.left k h, if_pos (by omega)]
    · rw [if_neg hk]
      have : pos j ≠ k := fun e => hk (by rw [← e]; exact ho.right j hj)
      by_cases h1 : pos j < k
      · rw [if_pos h1, if_pos (by omega)]
      · rw [if_neg h1, if_neg (by omega)]
  · rw [List.getElem?_eq_none (by omega), List.getElem?_eq_none (by rw [partP_len]; omega)]
theorem partP_start (f : Nat → List R) (pos : Nat → Nat) (n : Nat) : (madeCells (Value.int .i64 0).cells (n * 1)).toList = (partP f pos n 0).map (Value.int .i64) := by
  show (madeCells #[Value.int .i64 0] (n * 1)).toList = _
  rw [toList_madeCells_one, Nat.mul_one]
  apply List.ext_getElem?
  intro j
  by_cases hj : j < n
  · rw [List.getElem?_map, partP_at hj]; simp [hj]
  · rw [List.getElem?_eq_none (by simp; omega), List.getElem?_eq_none (by rw [List.length_map, partP_len]; omega)]
/-- what the numbers tell -/
theorem partP_end {L : List (List R)} {ord pos : Nat → Nat} {n : Nat} (ho : Ord n ord pos) (hs : ∀ i j, i < j → j < n → ¬ cmpL (nthL L (ord j)) (nthL L (ord i)) < 0) {i j : Nat} (hi : i < n) (hj : j < n) :
    (partP (fun k => nthL L (ord k)) pos n n).getD i 0 = (partP (fun k => nthL L (ord k)) pos n n).getD j 0 ↔ nthL L i = nthL L j := by
  rw [List.getD_eq_getElem?_getD, List.getD_eq_getElem?_getD, partP_at hi, partP_at hj, if_pos (ho.plt i hi), if_pos (ho.plt j hj)]
  simp only [Option.getD_some]
  rw [Int.ofNat_inj, lead_iff (f := fun k => nthL L (ord k)) hs (ho.plt i hi) (ho.plt j hj), ho.right i hi, ho.right j hj]

/-- the numbers' values -/
def encF {n : Nat} (i : Fin n) : Value := .int .i64 ((i.val : Nat) : Int)
theorem sort_grown {n : Nat} [Inhabited (Fin n)] {w : World} {g m : Nat} {os : Array Obj} (d : Array (Fin n)) : Kx (fun b => b = g) w (sortWorld encF w g 0 m d os) := by
  unfold sortWorld
  refine ⟨rfl, rfl, rfl, by simp, fun k hk hne => ?_⟩
  rw [Go.Sort.heap_grow_old _ _ (by simpa using hk)]
  have : g ≠ k := fun e => hne e.symm
  simp [Go.Sort.putRow, Go.Sort.mapBlock, Go.Sort.ahead, Array.getElem?_modify, this]
theorem sort_cells {n : Nat} [Inhabited (Fin n)] {w : World} {g m : Nat} {os : Array Obj} {d d0 : Array (Fin n)} (h0 : Go.Sort.Holds encF w g 0 d0) (hs : d.size = d0.size) (hb : g < w.heap.size) : ∀ j, j < d.size → (sortWorld encF w g 0 m d os).cell? ⟨g, j, none⟩ = some (.int .i64 (((d[j]!).val : Nat) : Int)) := by
  intro j hj
  have h : Go.Sort.At encF w g 0 d (sortWorld encF w g 0 m d os) := ⟨m, os, rfl⟩
  have := ((h.holds h0 hs hb).1 j hj).1
  rw [Nat.zero_add] at this
  exact this

end Go.Proofs.Ytdgpanofehfjdaa.Ar

namespace Go.Proofs.Ytdgpanofehfjdaa.Ar
open Go Go.RowKit Go.Shelf
open Go.Proofs.Ytdgpanofehfjdaa.Rg (R RngsAt RowsAt nthL add_zero own_next)

set_option maxRecDepth 100000 in
set_option maxHeartbeats 4000000 in
theorem alike1_any (L : List (List R)) (vs : Value) (N i j : Nat) (w : World) (hr : RowsAt w vs L) (hc : w.cell? ⟨N, 0, none⟩ = some vs) (hi : i < L.length) (hj : j < L.length) :
    Calls Try.prog 53 #[.int .i64 i, .int .i64 j, .pointer (some ⟨N, 0, none⟩)] w fun e w' => e = .returned (.int .i64 (cmpL (nthL L i) (nthL L j))) ∧ Gw w w' := by
  obtain ⟨so, scap, rfl, hm, hs⟩ := hr.shape
  obtain ⟨gs, x, rfl, x1, x2⟩ := hs i hi
  obtain ⟨gs', y, hg, y1, y2⟩ := hs j hj
  simp only [Option.some.injEq] at hg
  subst hg
  have C := Lib.hid (fun W (h : Gw w W) => compare_any (nthL L i) (nthL L j) x y W (x2.next h.below) (y2.next h.below))
  have hi' : (i : Int) < (L.length : Int) := by omega
  have hj' : (j : Int) < (L.length : Int) := by omega
  obtain ⟨xo, xcap, rfl, _, _⟩ := x2.shape
  obtain ⟨yo, ycap, rfl, _, _⟩ := y2.shape
  generalize cmpL (nthL L i) (nthL L j) = r at *
  generalize (nthL L i).length = xn at *
  generalize (nthL L j).length = yn at *
  have G0 := Lib.hid (Gw.refl w).drew
  clear hs hr x2 y2
  go_enter Try.func53, Try.ntmps53
  go_wp2
  go_region_held3 (fun W => W.cell? ⟨N, 0, none⟩ = some (.slice (some gs) L.length scap) ∧ W.cell? (gs.add i) = some (.slice xo xn xcap) ∧ W.cell? (gs.add j) = some (.slice yo yn ycap) ∧ Gw w W) (first | exact ⟨by assumption, by assumption, by assumption, by assumption⟩ | (refine ⟨by go_keep, by go_keep, by go_keep, ?_⟩; exact G0.out) | go_keep)
    (first
      | (go_at_call 54; ((with_reducible refine (C.out _ G0.out).mono ?_); rintro e w1 ⟨rfl, hg1⟩); go_must (have p0 := cell_next (a := ⟨N, 0, none⟩) (v := .slice (some gs) L.length scap) hc (G0.out.trans hg1).below; have p1 := cell_next x1 (G0.out.trans hg1).below; have p2 := cell_next y1 (G0.out.trans hg1).below; have p3 := G0.out.trans hg1))
      | fail)
  all_goals (
    go_wp2
    go_ret
    exact ⟨rfl, by assumption⟩)

/-- numbers from 0 on -/
def numK (k : Nat) : List Int := (List.range k).map fun (i : Nat) => (i : Int)
theorem numK_len (k : Nat) : (numK k).length = k := by simp [numK]
theorem numK_succ (k : Nat) : numK (k + 1) = numK k ++ [(k : Int)] := by simp [numK, List.range_succ]
theorem numK_at {k i : Nat} (h : i < k) : (numK k).getD i 0 = (i : Int) := by simp [numK, List.getD, h]
theorem ext_all {α : Type} (a : Array α) (n : Nat) (h : a.size = n) : a.extract 0 n = a := by subst h; simp
theorem below_drewQ {B : Nat} (w : World) (q : Nat) : Below B w (w.drewN q) := ⟨rfl, rfl, rfl, Nat.le_refl _, fun _ _ => rfl⟩
theorem below_drew1 {B : Nat} (w : World) : Below B w w.drew := ⟨rfl, rfl, rfl, Nat.le_refl _, fun _ _ => rfl⟩
/-- what the sort leaves -/
def Sorted (L : List (List R)) (G n : Nat) (w : World) (e : Ending) (w' : World) : Prop :=
  e = .returned (.tuple #[]) ∧ ∃ ord pos, Ord n ord pos ∧ (∀ i j, i < j → j < n → ¬ cmpL (nthL L (ord j)) (nthL L (ord i)) < 0) ∧ (∀ j, j < n → w'.cell? ⟨G, j, none⟩ = some (.int .i64 ((ord j : Nat) : Int))) ∧ Kx (fun b => b = G) w w'

theorem sort_any (L : List (List R)) (vs : Value) (N G B n : Nat) (w W : World) (hn : n = L.length) (hr : RowsAt w vs L) (hb : Below w.heap.size w W) (hG : w.heap.size ≤ G) (hc : W.cell? ⟨N, 0, none⟩ = some vs) (hNG : N ≠ G)
    (hrow : W.ownsRow B 3 1 (.slice (some ⟨G, 0, none⟩) n n) n (cellsL (numK n) n)) (hM : n ≤ 1000000) :
    Calls Try.prog 52 #[.slice (some ⟨G, 0, none⟩) n n, .func (.func 53) #[] #[.pointer (some ⟨N, 0, none⟩)]] W (Sorted L G n W) := by
  have hGl : G < W.heap.size := (hrow.lt _ rfl).2
  by_cases h0 : n = 0
  · rw [h0]
    refine (Try.slices_SortFunc_none (α := Nat) (some ⟨G, 0, none⟩) 0 (.func (.func 53) #[] #[.pointer (some ⟨N, 0, none⟩)]) W).mono ?_
    rintro e w' ⟨rfl, hw⟩
    subst w'
    exact ⟨rfl, id, id, ⟨fun j h => by omega, fun j h => by omega, fun j h => by omega, fun j h => by omega⟩, fun i j _ h => by omega, fun j h => by omega, Kx.refl _ _⟩
  · haveI : Inhabited (Fin n) := ⟨⟨0, by omega⟩⟩
    have eg : ∀ args w, (callFunc 53 args).run Try.prog w = .ok (.enter 53 args) w := enters_of Try.func53 (by kernel_rfl) rfl
    obtain ⟨d, hd⟩ : ∃ d : Array (Fin n), d = (List.finRange n).toArray := ⟨_, rfl⟩
    have hds : d.size = n := by rw [hd]; simp
    have hH : Go.Sort.Holds encF W G 0 d := by
      intro j hj
      have hj' : j < n := by omega
      rw [Nat.zero_add]
      refine ⟨?_, hrow.frozenAt j⟩
      rw [hrow.cellAt j (by omega), cellsL_at (by rw [numK_len]; exact hj'), numK_at hj']
      have : d[j]! = ⟨j, hj'⟩ := by rw [getElem!_pos d j hj]; subst hd; simp
      rw [this]; rfl
    have hcmp : CmpLays1 Try.prog 53 #[.pointer (some ⟨N, 0, none⟩)] (encF (n := n)) (fun i j => cmpL (nthL L i.val) (nthL L j.val)) G 0 d.size W := by
      intro m os dk hdk x y
      have hk := sort_grown (w := W) (g := G) (m := m) (os := os) dk
      have hB := hb.trans (hk.below (by have := hb.size; omega) (fun k hk h => by omega) : Below w.heap.size W _)
      refine (alike1_any L vs N x.val y.val _ (hr.next hB) (hk.cell hc hNG) (by have := x.isLt; omega) (by have := y.isLt; omega)).mono ?_
      rintro e w' ⟨rfl, q, os', rfl⟩
      exact ⟨rfl, q, os', rfl⟩
    have key := Try.slices_SortFunc (encF (n := n)) (fun _ => rfl) (fun i j => cmpL (nthL L i.val) (nthL L j.val)) (swo_cmp fun i : Fin n => nthL L i.val) 53 #[.pointer (some ⟨N, 0, none⟩)] G 0 n d W eg hcmp hH hGl (by omega)
    rw [hds] at key
    refine key.mono ?_
    rintro e w' ⟨rfl, d', m, os, hp, hs, rfl⟩
    have hs' : d'.size = n := by rw [hp.1, hds]
    have hperm : d'.toList.Perm (List.finRange n) := by
      have h2 := hp.2.2
      rw [ext_all d' n hs', ext_all d n hds] at h2
      rw [hd] at h2; simpa using h2
    obtain ⟨pos, ho⟩ := ord_of n d' hs' hperm
    refine ⟨rfl, _, pos, ho, fun i j hij hj => ?_, fun j hj => sort_cells hH (by rw [hs', hds]) hGl j (by omega), sort_grown d'⟩
    have := hs i j (Nat.zero_le _) hij hj
    unfold ltOf at this
    rw [decide_eq_false_iff_not] at this
    exact this

/-- what alike tells -/
def AlikeOut (w : World) (L : List (List R)) (e : Ending) (w' : World) : Prop :=
  ∃ (G : Nat) (A : List Int), e = .returned (.slice (some ⟨G, 0, none⟩) L.length L.length) ∧ A.length = L.length ∧ (∀ i, i < L.length → w'.cell? ⟨G, i, none⟩ = some (.int .i64 (A.getD i 0))) ∧ w.heap.size ≤ G ∧ (∀ i, 0 ≤ A.getD i 0 ∧ A.getD i 0 ≤ L.length) ∧ (∀ i j, i < L.length → j < L.length → (A.getD i 0 = A.getD j 0 ↔ nthL L i = nthL L j)) ∧ Below w.heap.size w w'

set_option maxRecDepth 100000 in
set_option maxHeartbeats 16000000 in
theorem alike_any (L : List (List R)) (vs : Value) (w : World) (hr : RowsAt w vs L) (hM : L.length ≤ 1000000) : Calls Try.prog 36 #[vs] w (AlikeOut w L) := by
  obtain ⟨i0, hi, hz0, hz1, hz2⟩ := info_parts infoI
  obtain ⟨so, scap, rfl, hm, hs⟩ := hr.shape
  have HR := Lib.hid hr
  have HSC := Lib.hid hs
  clear hr hs
  obtain ⟨n, hn⟩ : ∃ n, n = L.length := ⟨_, rfl⟩
  have HN := Lib.hid hn
  have BW := Lib.hid (fun o => (Below.refl w.heap.size w).alloc (Nat.le_refl _) o)
  rw [← hn] at hM hm
  have CS := Lib.hid (fun (W : World) (hb : Below w.heap.size w W) (hc : W.cell? ⟨w.heap.size, 0, none⟩ = some (.slice so n scap)) (hrow : W.ownsRow (w.heap.size + 1) 3 1 (.slice (some ⟨w.heap.size + 1, 0, none⟩) n n) n (cellsL (numK n) n)) => sort_any L (.slice so n scap) w.heap.size (w.heap.size + 1) (w.heap.size + 1) n w W hn (by rw [hn]; exact HR.out) hb (by omega) hc (by omega) hrow hM)
  rw [← hn] at HR ⊢
  have HSC2 := Lib.hid (fun k (hk : k < n) => HSC.out k (by rw [← HN.out]; exact hk))
  clear HSC hn
  have hTB : (w.alloc (.cells #[.slice so n scap] 23)).cell? ⟨w.heap.size, 0, none⟩ = some (.slice so n scap) := by rw [World.cell?_alloc_new]; rfl
  have HTB := Lib.hid hTB
  clear hTB
  go_enter Try.func36, Try.ntmps36
  go_wp2_with (at_make; refine wpList_make_full _ rfl _ _ 53 rfl (w.heap.size + 1) 3 i0 (.int .i64 0) 1 Try.underlying53 hi hz0 hz1 .i64 .i64 n n n rfl rfl rfl rfl (by rw [hz2]; omega) (by unfold maxLen; omega) (by simp) ?_; intro w2 hown2 hgrow2; go_must (rw [cellsL_start] at hown2; have BT := Lib.hid ((Below.refl _ _).grown hgrow2 (Nat.le_refl _) (fun k hk => by cases hk)); have BB := Lib.hid ((BW.out (.cells #[.slice so n scap] 23)).grown hgrow2 (by simp) (fun k hk => by cases hk)); have r0 := cell_next HTB.out BT.out; have ROW := Lib.hid hown2; clear hown2 hgrow2))
  have hLe : (w.alloc (.cells #[.slice so n scap] 23)).heap.size = w.heap.size + 1 := by simp
  rw [hLe] at ROW
  clear BT hLe
  go_loopw [13] (fun i wr => ∃ k : Nat, i = .int .i64 k ∧ k ≤ n ∧ wr.ownsRow (w.heap.size + 1) 3 1 (.slice (some ⟨w.heap.size + 1, 0, none⟩) n n) n (cellsL (numK k) n) ∧ wr.cell? ⟨w.heap.size, 0, none⟩ = some (.slice so n scap) ∧ Below w.heap.size w wr) (fun i _ => n - (intOf i).toNat)
  case atStart => exact ⟨0, rfl, Nat.zero_le _, ROW.out, r0, BB.out⟩
  case round =>
    clear r0 ROW BB
    obtain ⟨k, rfl, hk, hrow, r0, hbw⟩ := hrel
    obtain ⟨wo, rfl⟩ : ∃ x, x = wr := ⟨_, rfl⟩
    have hsz := hbw.size
    by_cases hlt : k < n
    · have fz := hrow.frozenAt k
      have hnl : (numK k).length = k := numK_len k
      have e0 : wo.cell? ⟨w.heap.size + 1, k, none⟩ = some (.int .i64 0) := by
        have := cellsL_next (l := numK k) (n := n) (by rw [hnl]; exact hlt)
        rw [hrow.cellAt k (by omega)]; rw [hnl] at this; exact this
      have st := hrow.stored k (.int .i64 (k : Int))
      have hset := cellsL_set (l := numK k) (n := n) (k : Int) (by rw [hnl]; exact hlt)
      rw [hnl] at hset
      rw [hset, ← numK_succ] at st
      have ST := Lib.hid st.1
      have hk1 : (wo.setCell ⟨w.heap.size + 1, k, none⟩ (.int .i64 (k : Int))).cell? ⟨w.heap.size, 0, none⟩ = some (.slice so n scap) := (Kx.of_set (U := fun b => b = w.heap.size + 1) rfl).cell r0 (by show ¬ w.heap.size = w.heap.size + 1; omega)
      have K1 := Lib.hid hk1
      have B1 := Lib.hid (hbw.grown st.2 (by omega) (fun a ha => by simp at ha; omega))
      have hlt' : (k : Int) < (n : Int) := by omega
      clear st hset hk1 hrow hbw hnl
      go_wp2
      go_roundw
      case rel => exact ⟨k + 1, by go_num, by omega, ST.out, K1.out, B1.out⟩
      case measure => simp [intOf]; omega
    · obtain rfl : k = n := by omega
      have CSo := Lib.hid (CS.out wo hbw r0 hrow)
      have BO := Lib.hid hbw
      clear hrow hbw CS
      go_wp2_with (first
        | (go_at_call 52; (with_reducible refine CSo.out.mono ?_); rintro e w3 ⟨rfl, ord, pos, hO, hS, hcells, hK⟩; go_must (have r3 := hK.cell r0 (show ¬ w.heap.size = w.heap.size + 1 by omega); have B3 := Lib.hid (BO.out.trans (hK.below (show w.heap.size ≤ wo.heap.size from hsz) (fun b hb h => by omega))); have HO := Lib.hid hO; have HSO := Lib.hid hS; have HC := Lib.hid hcells; have hs3 : w.heap.size + 1 ≤ w3.heap.size := cell_lt r3; clear hO hS hcells hK))
        | (at_make; refine wpList_make_full _ rfl _ _ 53 rfl (w.heap.size + 1) 3 i0 (.int .i64 0) 1 Try.underlying53 hi hz0 hz1 .i64 .i64 k k k rfl rfl rfl rfl (by rw [hz2]; omega) (by unfold maxLen; omega) (by omega) ?_; intro w4 hown4 hgrow4; go_must (rw [partP_start (fun j => nthL L (ord j)) pos] at hown4; have B34 := Lib.hid ((Below.refl w3.heap.size w3).grown hgrow4 (Nat.le_refl _) (fun k hk => by cases hk)); have r4 := cell_next r3 B34.out; have ROW4 := Lib.hid hown4; clear hown4 hgrow4))
        | fail)
      obtain ⟨M, hMe⟩ : ∃ M, M = w3.heap.size := ⟨_, rfl⟩
      rw [← hMe] at ROW4 ⊢
      have hMw : w.heap.size + 1 ≤ M := by omega
      obtain ⟨f, hf⟩ : ∃ f : Nat → List R, f = fun j => nthL L (ord j) := ⟨_, rfl⟩
      rw [← hf] at ROW4
      have HF := Lib.hid hf
      have HCL := Lib.hid (fun j (hj : j < k) => show w4.cell? ⟨w.heap.size + 1, j, none⟩ = some (.int .i64 ((ord j : Nat) : Int)) ∧ w.heap.size + 1 < M from ⟨cell_next (HC.out j hj) B34.out, by rw [hMe]; exact cell_lt (HC.out j hj)⟩)
      have B4 := Lib.hid (B3.out.trans (B34.out.mono (by omega)))
      have hs4 : M ≤ w4.heap.size := by have := B34.out.size; omega
      have R4 := Lib.hid r4
      clear hf hMe r3 hs3 r4 hk
      go_loopw [29] (fun i wr => ∃ j : Nat, i = .int .i64 j ∧ j ≤ k ∧ wr.ownsRow (w.heap.size + 1) 3 1 (.slice (some ⟨M, 0, none⟩) k k) k ((partP f pos k j).map (Value.int .i64)) ∧ Kx (fun b => b = M) w4 wr) (fun i _ => k - (intOf i).toNat)
      case atStart => exact ⟨0, rfl, Nat.zero_le _, ROW4.out, Kx.refl _ _⟩
      case round =>
        clear ROW4
        obtain ⟨j, rfl, hj, hrow, hkx⟩ := hrel
        obtain ⟨wq, rfl⟩ : ∃ x, x = wr := ⟨_, rfl⟩
        have hq4 := hkx.size
        have BQ := Lib.hid (B4.out.trans (hkx.below (show w.heap.size ≤ w4.heap.size by omega) (fun b hb h => by omega)))
        have r0 := hkx.cell R4.out (show ¬ w.heap.size = M by omega)
        by_cases hlt2 : j < k
        · obtain ⟨e1, hM2⟩ := HCL.out j hlt2
          have e1 := hkx.cell e1 (show ¬ w.heap.size + 1 = M by omega)
          have ho := HO.out.lt j hlt2
          have fz := hrow.frozenAt (ord j)
          obtain ⟨old, hold⟩ : ∃ u, wq.cell? ⟨M, ord j, none⟩ = some (.int .i64 u) := ⟨_, by rw [hrow.cellAt _ (by omega), List.getElem?_map, partP_at ho]; rfl⟩
          have st := hrow.stored (ord j) (.int .i64 (j : Int))
          have HROW := Lib.hid hrow
          have HKX := Lib.hid hkx
          have hj' : (j : Int) < (k : Int) := by omega
          have ho' : ((ord j : Nat) : Int) < (k : Int) := by omega
          have hMq : M < wq.heap.size := cell_lt hold
          clear hrow hkx
          rcases Nat.eq_zero_or_pos j with rfl | hpos
          · have hset : ((partP f pos k 0).map (Value.int .i64)).set (ord 0) (.int .i64 ((0 : Nat) : Int)) = (partP f pos k 1).map (Value.int .i64) := by
              rw [← partP_set HO.out hlt2, List.map_set]; rfl
            rw [hset] at st
            have ST := Lib.hid st.1
            have KS := Lib.hid (HKX.out.trans (Kx.of_grown st.2 (fun b hb => by simpa [Value.ownBlock] using hb.symm)))
            clear st hset
            go_wp2
            go_quiet (fail)
            go_wp2
            go_roundw
            case rel => exact ⟨1, by go_num, by omega, own_next ST.out (by first | exact below_drewQ _ _ | exact Below.refl _ _), KS.out.trans (Kx.of_below (by first | exact below_drewQ _ _ | exact Below.refl _ _))⟩
            case measure => simp [intOf]; omega
          · obtain ⟨j', rfl⟩ : ∃ j', j = j' + 1 := ⟨j - 1, by omega⟩
            have hj1 : j' < k := by omega
            obtain ⟨e2, _⟩ := HCL.out j' hj1
            have e2 := HKX.out.cell e2 (show ¬ w.heap.size + 1 = M by omega)
            have ho1 := HO.out.lt j' hj1
            have hno : ord j' ≠ ord (j' + 1) := fun e => by
              have a1 := HO.out.left j' hj1
              have a2 := HO.out.left (j' + 1) hlt2
              rw [e] at a1; omega
            obtain ⟨gs, x, rfl, x1, x2⟩ := HSC2.out (ord j') ho1
            obtain ⟨gs', y, hg, y1, y2⟩ := HSC2.out (ord (j' + 1)) ho
            simp only [Option.some.injEq] at hg
            subst hg
            obtain ⟨W2, hW2⟩ : ∃ W2, W2 = wq.setCell ⟨M, ord (j' + 1), none⟩ (.int .i64 ((j' + 1 : Nat) : Int)) := ⟨_, rfl⟩
            rw [← hW2] at st
            have hks : Kx (fun b => b = M) wq W2 := by rw [hW2]; exact Kx.of_set rfl
            have B2 := BQ.out.trans (hks.below (show w.heap.size ≤ wq.heap.size from BQ.out.size) (fun b hb h => by omega))
            have s0 := hks.cell r0 (show ¬ w.heap.size = M by omega)
            have s1 := hks.cell e1 (show ¬ w.heap.size + 1 = M by omega)
            have s2 := hks.cell e2 (show ¬ w.heap.size + 1 = M by omega)
            have s3 := cell_next x1 B2
            have s4 := cell_next y1 B2
            have C := Lib.hid (fun W (h : Below W2.heap.size W2 W) => compare_any (nthL L (ord j')) (nthL L (ord (j' + 1))) x y W (x2.next (B2.trans (h.mono B2.size))) (y2.next (B2.trans (h.mono B2.size))))
            have ho1' : ((ord j' : Nat) : Int) < (k : Int) := by omega
            have hlead : lead f (j' + 1) = if cmpL (nthL L (ord j')) (nthL L (ord (j' + 1))) = 0 then lead f j' else j' + 1 := by rw [lead, HF.out]
            have HLD := Lib.hid hlead
            have HSET := Lib.hid (fun u => show (((partP f pos k (j' + 1)).map (Value.int .i64)).set (ord (j' + 1)) u).set (ord (j' + 1)) (.int .i64 ((lead f (j' + 1) : Nat) : Int)) = (partP f pos k (j' + 2)).map (Value.int .i64) by
              rw [List.set_set, ← partP_set HO.out hlt2, List.map_set])
            have HSET1 := Lib.hid (fun (h : lead f (j' + 1) = j' + 1) => show ((partP f pos k (j' + 1)).map (Value.int .i64)).set (ord (j' + 1)) (.int .i64 ((j' + 1 : Nat) : Int)) = (partP f pos k (j' + 2)).map (Value.int .i64) by
              rw [← partP_set HO.out hlt2, List.map_set, h])
            have HPREV := Lib.hid (show (((partP f pos k (j' + 1)).map (Value.int .i64)).set (ord (j' + 1)) (.int .i64 ((j' + 1 : Nat) : Int)))[ord j']? = some (.int .i64 ((lead f j' : Nat) : Int)) by
              rw [List.getElem?_set, if_neg (Ne.symm hno), List.getElem?_map, partP_at ho1, HO.out.left j' hj1, if_pos (by omega)]; rfl)
            obtain ⟨xo, xcap, rfl, _, _⟩ := x2.shape
            obtain ⟨yo, ycap, rfl, _, _⟩ := y2.shape
            generalize cmpL (nthL L (ord j')) (nthL L (ord (j' + 1))) = c at *
            generalize (nthL L (ord j')).length = xn at *
            generalize (nthL L (ord (j' + 1))).length = yn at *
            have ST := Lib.hid st
            have KS := Lib.hid (HKX.out.trans hks)
            have hW2s : M < W2.heap.size := by have := hks.size; omega
            have z1 : IntKind.i64.wrap (((j' + 1 : Nat) : Int) - 1) = (j' : Int) := by rw [IntKind.wrap_i64]; omega
            have z0 : (0 : Int) < ((j' + 1 : Nat) : Int) := by omega
            have z2 : ((j' + 1 : Nat) : Int) ≤ 1000000 := by omega
            obtain ⟨J, hJ⟩ : ∃ J : Int, J = ((j' + 1 : Nat) : Int) := ⟨_, rfl⟩
            rw [← hJ] at z1 z0 z2 hj' hW2 ⊢
            have HJ := Lib.hid hJ
            have hJn : J.toNat = j' + 1 := by rw [hJ]; rfl
            have HW2 := Lib.hid hW2
            have hj2 : (j' : Int) < (k : Int) := by omega
            clear hJ hW2 st hks x1 x2 y1 y2 hlead hpos B2 e2
            go_wp2
            rw [← HW2.out]
            go_region_held3 (fun W => W.cell? ⟨w.heap.size, 0, none⟩ = some (.slice (some gs) k scap) ∧ W.cell? ⟨w.heap.size + 1, j', none⟩ = some (.int .i64 ((ord j' : Nat) : Int)) ∧ W.cell? (gs.add (ord j')) = some (.slice xo xn xcap) ∧ W.cell? (gs.add (ord (j' + 1))) = some (.slice yo yn ycap) ∧ Below W2.heap.size W2 W) (first | exact ⟨by assumption, by assumption, by assumption, by assumption, by assumption⟩ | (refine ⟨by go_keep, by go_keep, by go_keep, by go_keep, ?_⟩; exact below_drew1 _) | go_keep)
              (first
                | (go_at_call 54; ((with_reducible refine (C.out _ (by first | assumption | exact below_drew1 _)).mono ?_); rintro e w5 ⟨rfl, hg5⟩); go_must (have B5 : Below W2.heap.size W2 w5 := (below_drew1 (B := W2.heap.size) W2).trans (hg5.below.mono (by first | exact Nat.le_refl _ | simp)); have p0 := cell_next s0 B5; have p1 := cell_next s2 B5; have p2 := cell_next s3 B5; have p3 := cell_next s4 B5; have p4 := cell_next s1 B5; clear hg5))
                | fail)
            have R5 := own_next ST.out.1 B5
            by_cases hz : c = 0
            · subst hz
              have hle : lead f (j' + 1) = lead f j' := by rw [HLD.out, if_pos rfl]
              have f5 := R5.frozenAt (ord (j' + 1))
              have q1 : w5.cell? ⟨M, ord j', none⟩ = some (.int .i64 ((lead f j' : Nat) : Int)) := by rw [R5.cellAt _ (by omega)]; exact HPREV.out
              have q2 : ∃ u, w5.cell? ⟨M, ord (j' + 1), none⟩ = some u := ⟨_, by rw [R5.cellAt _ (by omega), List.getElem?_set, if_pos rfl, if_pos (by rw [List.length_map, partP_len]; exact ho)]⟩
              obtain ⟨u5, q2⟩ := q2
              have s5 := R5.stored (ord (j' + 1)) (.int .i64 ((lead f j' : Nat) : Int))
              rw [← hle, HSET.out, hle] at s5
              have S5 := Lib.hid s5.1
              have K5 := Lib.hid ((KS.out.trans (Kx.of_below B5)).trans (Kx.of_grown s5.2 (fun b hb => by simpa [Value.ownBlock] using hb.symm)))
              have z3 : (J - 1).toNat = j' := by have := HJ.out; omega
              have z4 : (0 : Int) ≤ J - 1 := by have := HJ.out; omega
              have z5 : J - 1 < (k : Int) := by have := HJ.out; omega
              clear s5 R5 HPREV hle
              go_wp2
              go_roundw
              case rel => exact ⟨j' + 2, by have := HJ.out; congr 1; omega, by omega, S5.out, K5.out⟩
              case measure => simp [intOf]; have := HJ.out; omega
            · have hz' : (c == 0) = false := by simpa using hz
              have hle : lead f (j' + 1) = j' + 1 := by rw [HLD.out, if_neg hz]
              rw [HSET1.out hle] at R5
              have S5 := Lib.hid R5
              have K5 := Lib.hid (KS.out.trans (Kx.of_below B5))
              clear R5 hle
              go_wp2
              go_roundw
              case rel => exact ⟨j' + 2, by have := HJ.out; congr 1; omega, by omega, S5.out, K5.out⟩
              case measure => simp [intOf]; have := HJ.out; omega
        · obtain rfl : j = k := by omega
          have hlp : (partP f pos j j).length = L.length := by rw [partP_len]; exact HN.out
          have hI : ∀ i, i < j → wq.cell? ⟨M, i, none⟩ = some (.int .i64 ((partP f pos j j).getD i 0)) := fun i hi => by
            rw [hrow.cellAt i (by omega), List.getElem?_map, List.getD_eq_getElem?_getD]
            obtain ⟨x, hx⟩ : ∃ x, (partP f pos j j)[i]? = some x := ⟨_, partP_at hi⟩
            rw [hx]; rfl
          have hbd : ∀ i, 0 ≤ (partP f pos j j).getD i 0 ∧ (partP f pos j j).getD i 0 ≤ j := fun i => by
            rw [List.getD_eq_getElem?_getD]
            rcases Nat.lt_or_ge i j with h | h
            · rw [partP_at h, Option.getD_some]
              split
              · have := lead_le f (pos i); omega
              · omega
            · rw [List.getElem?_eq_none (by rw [partP_len]; exact h)]; simp
          have HBD := Lib.hid hbd
          clear hbd
          have HI := Lib.hid hI
          have HL := Lib.hid hlp
          clear hI hlp hrow hkx
          go_wp2
          go_ret
          exact ⟨M, _, by rw [← HN.out]; rfl, HL.out, fun i hi => HI.out i (by rw [HN.out]; exact hi), by omega, fun i => by rw [← HN.out]; exact HBD.out i, fun a b ha hb => by rw [HF.out]; exact partP_end HO.out (fun x y hxy hy => by have := HSO.out x y hxy hy; omega) (by rw [HN.out]; exact ha) (by rw [HN.out]; exact hb), BQ.out⟩

end Go.Proofs.Ytdgpanofehfjdaa.Ar

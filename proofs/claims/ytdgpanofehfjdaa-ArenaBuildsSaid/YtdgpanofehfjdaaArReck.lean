/- What a tree tells by what its parts tell. -/
import Derived.Test.YtdgpanofehfjdaaArRRec
import Derived.Laws.MakeOwn
import Derived.OwnWalk
import Derived.Test.YtdgpanofehfjdaaArChk
namespace Go.Proofs.Ytdgpanofehfjdaa.Ar
open Go Go.RowKit Go.Shelf
open Go.Proofs.Ytdgpanofehfjdaa.Rg (R RngsAt RowsAt nthL add_zero own_next)

def InB (l : List Int) : Prop := ∀ x ∈ l, 1 ≤ x ∧ x ≤ 1048576
theorem InB.at' {l : List Int} (h : InB l) {k : Nat} (hk : k < l.length) : 1 ≤ l.getD k 0 ∧ l.getD k 0 ≤ 1048576 := by
  rw [List.getD_eq_getElem?_getD, List.getElem?_eq_getElem hk]
  exact h _ (List.getElem_mem hk)
theorem fold_at {f : Int → Int → Int} {l : List Int} {k : Nat} {d : Int} (h : k < l.length) : (l.drop k).foldl f d = (l.drop (k + 1)).foldl f (f d (l.getD k 0)) := by
  rw [List.drop_eq_getElem_cons h, List.foldl_cons]; simp [List.getD, h]
theorem fold_end {f : Int → Int → Int} {l : List Int} {d : Int} : (l.drop l.length).foldl f d = d := by rw [List.drop_length]; rfl

set_option maxRecDepth 100000 in
set_option maxHeartbeats 1000000 in
theorem deeper_any (l : List Int) (hl : InB l) (v : Value) (w : World) (h : IntsAt w v l) :
    Calls Try.prog 34 #[v] w fun e w' => e = .returned (.int .i64 (gD l)) ∧ Below w.heap.size w w' := by
  obtain ⟨ao, cap, rfl, hm, hc⟩ := h.shape
  have HC := Lib.hid hc
  have HI := Lib.hid hl
  obtain ⟨r, hr⟩ : ∃ r, l.foldl max 0 = r := ⟨_, rfl⟩
  have HR := Lib.hid hr
  rw [show gD l = r + 1 by unfold gD; rw [hr]]
  clear hc h hl hr
  go_enter Try.func34, Try.ntmps34
  go_wp2
  go_loop [3, 8] (fun d i => ∃ (k : Nat) (m : Int), k ≤ l.length ∧ i = .int .i64 k ∧ d = .int .i64 m ∧ 0 ≤ m ∧ m ≤ 1048576 ∧ (l.drop k).foldl max m = r) (fun _ i => l.length - (intOf i).toNat)
  case atStart => exact ⟨0, 0, Nat.zero_le _, rfl, rfl, by omega, by omega, HR.out⟩
  case round =>
    obtain ⟨k, m, hk, rfl, rfl, h0, h1, he⟩ := hrel
    by_cases hlt : k < l.length
    · obtain ⟨ad, rfl, hcell⟩ := HC.out k hlt
      rw [fold_at hlt] at he
      have hb := HI.out.at' hlt
      have HE := Lib.hid he
      clear he
      generalize l.getD k 0 = x at *
      obtain ⟨b1, b2⟩ := hb
      go_wp2
      all_goals (
        go_round
        case rel => exact ⟨k + 1, max m x, by omega, by go_num, by first | rfl | (congr 1; omega), by omega, by omega, HE.out⟩
        case measure => simp [intOf]; omega)
    · obtain rfl : k = l.length := by omega
      rw [fold_end] at he
      subst he
      go_wp2
      go_ret
      exact ⟨rfl, Below.refl _ _⟩

set_option maxRecDepth 100000 in
set_option maxHeartbeats 1000000 in
theorem greater_any (l : List Int) (hl : InB l) (h2 : l.length ≤ 2) (v : Value) (w : World) (h : IntsAt w v l) :
    Calls Try.prog 35 #[v] w fun e w' => e = .returned (.int .i64 (gS l)) ∧ Below w.heap.size w w' := by
  obtain ⟨ao, cap, rfl, hm, hc⟩ := h.shape
  have HC := Lib.hid hc
  have HI := Lib.hid hl
  obtain ⟨r, hr⟩ : ∃ r, l.foldl (· + ·) 1 = r := ⟨_, rfl⟩
  have HR := Lib.hid hr
  have HG := Lib.hid (show gS l = min r 1048576 by unfold gS; rw [hr])
  generalize gS l = G at *
  clear hc h hl hr
  go_enter Try.func35, Try.ntmps35
  go_wp2
  go_loop [3, 8] (fun d i => ∃ (k : Nat) (m : Int), k ≤ l.length ∧ i = .int .i64 k ∧ d = .int .i64 m ∧ 0 ≤ m ∧ m ≤ 1048577 * ((k : Int) + 1) ∧ (l.drop k).foldl (· + ·) m = r) (fun _ i => l.length - (intOf i).toNat)
  case atStart => exact ⟨0, 1, Nat.zero_le _, rfl, rfl, by omega, by omega, HR.out⟩
  case round =>
    obtain ⟨k, m, hk, rfl, rfl, h0, h1, he⟩ := hrel
    by_cases hlt : k < l.length
    · obtain ⟨ad, rfl, hcell⟩ := HC.out k hlt
      rw [fold_at hlt] at he
      have hb := HI.out.at' hlt
      have HE := Lib.hid he
      clear he
      generalize l.getD k 0 = x at *
      obtain ⟨b1, b2⟩ := hb
      go_wp2
      go_round
      case rel => exact ⟨k + 1, m + x, by omega, by go_num, by go_num, by omega, by omega, HE.out⟩
      case measure => simp [intOf]; omega
    · obtain rfl : k = l.length := by omega
      rw [fold_end] at he
      subst he
      rcases Int.lt_trichotomy m 1048576 with g | g | g
      · have e := HG.out
        rw [Int.min_eq_left (by omega)] at e
        have HE := Lib.hid e
        clear e
        go_wp2
        go_ret
        exact ⟨ret_int HE.out.symm, Below.refl _ _⟩
      · have e := HG.out
        rw [g, Int.min_self] at e
        have HE := Lib.hid e
        clear e
        go_wp2
        go_ret
        exact ⟨ret_int HE.out.symm, Below.refl _ _⟩
      · have e := HG.out
        rw [Int.min_eq_right (by omega)] at e
        have HE := Lib.hid e
        clear e
        go_wp2
        go_ret
        exact ⟨ret_int HE.out.symm, Below.refl _ _⟩

/-- a row of n numbers of which the first k are told -/
def partK (r : Nat → Int) (n k : Nat) : List Value := (List.range n).map fun i => .int .i64 (if i < k then r i else 0)
theorem partK_len (r : Nat → Int) (n k : Nat) : (partK r n k).length = n := by simp [partK]
theorem partK_start (r : Nat → Int) (n : Nat) : (madeCells (Value.int .i64 0).cells (n * 1)).toList = partK r n 0 := by
  show (madeCells #[Value.int .i64 0] (n * 1)).toList = _
  rw [toList_madeCells_one, Nat.mul_one]
  apply List.ext_getElem?
  intro j
  unfold partK
  by_cases h : j < n
  · simp [h]
  · simp [h]
theorem partK_at {r : Nat → Int} {n k i : Nat} (h : i < k) (hk : k ≤ n) : (partK r n k)[i]? = some (.int .i64 (r i)) := by
  unfold partK; simp [show i < n by omega, h]
theorem partK_any {r : Nat → Int} {n k i : Nat} (h : i < n) : ∃ x, (partK r n k)[i]? = some x := by
  unfold partK; simp [h]
theorem partK_set {r : Nat → Int} {n k : Nat} (h : k < n) : (partK r n k).set k (.int .i64 (r k)) = partK r n (k + 1) := by
  apply List.ext_getElem?
  intro j
  unfold partK
  rw [List.getElem?_set]
  by_cases hj : k = j
  · subst hj; simp [h]
  · rw [if_neg hj]
    by_cases h2 : j < n
    · simp only [List.getElem?_map, List.getElem?_range h2, Option.map_some]
      by_cases h3 : j < k
      · rw [if_pos h3, if_pos (by omega)]
      · rw [if_neg h3, if_neg (by omega)]
    · simp [h2]
/-- a list of numbers of which the first j are turned -/
def midJ (f : Int → Int) (P : List Int) (j : Nat) : List Int := (P.take j).map f ++ P.drop j
theorem midJ_len (f : Int → Int) (P : List Int) (j : Nat) : (midJ f P j).length = P.length := by simp [midJ]; omega
theorem midJ_zero (f : Int → Int) (P : List Int) : midJ f P 0 = P := by simp [midJ]
theorem midJ_end (f : Int → Int) (P : List Int) : midJ f P P.length = P.map f := by simp [midJ]
theorem midJ_at {f : Int → Int} {P : List Int} {j : Nat} (h : j < P.length) : (midJ f P j)[j]? = some (P.getD j 0) := by
  unfold midJ
  have : ((P.take j).map f).length = j := by simp; omega
  rw [List.getElem?_append_right (by omega), this]
  simp [h]
theorem midJ_set {f : Int → Int} {P : List Int} {j : Nat} (h : j < P.length) : (midJ f P j).set j (f (P.getD j 0)) = midJ f P (j + 1) := by
  unfold midJ
  have e : ((P.take j).map f).length = j := by simp; omega
  rw [List.set_append_right _ _ (by omega), e, Nat.sub_self, List.drop_eq_getElem_cons h, List.set_cons_zero, List.take_succ_eq_append_getElem h, List.map_append, List.append_assoc]
  simp [List.getD, h]

end Go.Proofs.Ytdgpanofehfjdaa.Ar

namespace Go.Proofs.Ytdgpanofehfjdaa.Ar
open Go Go.RowKit Go.Shelf
open Go.Proofs.Ytdgpanofehfjdaa.Rg (R RngsAt RowsAt nthL add_zero own_next)

theorem reck_of {g : List Int → Int} {l : List Nd} {i : Nat} {s : Int} (h : nodeB (nd l i) i s = true) : reck g l i = g ((partsL (nd l i)).map fun x => reck g l x.toNat) := reck_parts h
/-- a node's parts stand ahead of it -/
theorem parts_lt {n : Nd} {i s : Int} (h : nodeB n i s = true) : ∀ x ∈ partsL n, 0 ≤ x ∧ x < i := by
  intro x hx
  unfold partsL at hx
  rcases nodeB_ways h with ⟨h1, h2⟩ | ⟨h1, h2⟩ | ⟨h1, h2⟩ | ⟨h1, h2⟩
  · rw [if_neg (by omega), if_neg (by omega)] at hx; cases hx
  · rw [if_neg (by omega), if_neg (by omega)] at hx; cases hx
  · rw [if_pos h1] at hx; simp at hx; omega
  · rw [if_neg (by omega), if_pos h1] at hx; simp at hx; omega
theorem parts_len (n : Nd) : (partsL n).length ≤ 2 := by unfold partsL; split; simp; split <;> simp

/-- one of the parts' numbers turned -/
theorem its_step {W : World} {B B' I L n k j : Nat} {cap : Nat} {P : List Int} {f : Int → Int} {RR : Nat → Int} (hI : W.ownsRow B 3 1 (.slice (some ⟨I, 0, none⟩) P.length cap) P.length ((midJ f P j).map (Value.int .i64)))
    (hL : W.ownsRow B' 3 1 (.slice (some ⟨L, 0, none⟩) n n) n (partK RR n k)) (hne : L ≠ I) (hj : j < P.length) :
    (W.setCell ⟨I, j, none⟩ (.int .i64 (f (P.getD j 0)))).ownsRow B 3 1 (.slice (some ⟨I, 0, none⟩) P.length cap) P.length ((midJ f P (j + 1)).map (Value.int .i64)) ∧
    (W.setCell ⟨I, j, none⟩ (.int .i64 (f (P.getD j 0)))).ownsRow B' 3 1 (.slice (some ⟨L, 0, none⟩) n n) n (partK RR n k) := by
  obtain ⟨h1, h2⟩ := hI.stored j (.int .i64 (f (P.getD j 0)))
  refine ⟨?_, hL.kept h2 (.inr (by simp [Value.ownBlock, hne]))⟩
  rw [← midJ_set hj, List.map_set]
  exact h1
theorem map_at {l : List Int} {j : Nat} {x : Int} (h : l[j]? = some x) : (l.map (Value.int .i64))[j]? = some (.int .i64 x) := by simp [h]

set_option maxRecDepth 100000 in
set_option maxHeartbeats 8000000 in
theorem reckoned_any (gg : List Int → Int) (K : FuncId) (hE : Enters Try.prog K)
    (hK : ∀ (l : List Int) (v : Value) (W : World), InB l → l.length ≤ 2 → IntsAt W v l → Calls Try.prog K #[v] W fun e W' => e = .returned (.int .i64 (gg l)) ∧ Below W.heap.size W W')
    (t : Tr) (hb : checkE t = 0 → Bnd gg t.ns) (v : Value) (w : World) (h : TreeAt w v t) :
    Calls Try.prog 33 #[v, .func (.func K) #[] #[]] w fun e w' => e = .returned (.int .i64 (if checkE t = 0 then reck gg t.ns t.root.toNat else 0)) ∧ Below w.heap.size w w' := by
  obtain ⟨i0, hi, hz0, hz1, hz2⟩ := info_parts infoI
  have HV := Lib.hid h
  obtain ⟨ao, cap, so, scap, rfl, hm, hm2, hn, hs⟩ := h.shape
  have HN := Lib.hid hn
  clear hn hs h
  have hE' : ∀ (args : Array Value) (w : World), (callFunc K args).run Try.prog w = .ok (.enter K args) w := hE
  have b1 := (Below.refl w.heap.size w).alloc (Nat.le_refl _) (.cells #[.slice ao t.ns.length cap, .slice so t.sets.length scap, .int .i64 t.root] 25)
  have B1 := Lib.hid b1
  have T0 := Lib.hid (TBox.new w (.slice ao t.ns.length cap) (.slice so t.sets.length scap) t.root)
  have CC := Lib.hid (check_any t _ _ (HV.out.next b1))
  by_cases hc : checkE t = 0
  · rw [if_pos hc]
    have HB := Lib.hid (hb hc)
    obtain ⟨ok, hl1, hl2⟩ := check_ok hc
    have OK := Lib.hid ok
    have hr0 := ok.root0
    have hr1 := ok.root1
    have hroot : ∃ q : Nat, t.root = q ∧ q < t.ns.length := by
      obtain ⟨q, hq⟩ := Int.eq_ofNat_of_zero_le hr0
      exact ⟨q, hq, by omega⟩
    obtain ⟨q, hq, hq2⟩ := hroot
    rw [hc] at CC
    obtain ⟨RR, hRR⟩ : ∃ RR : Nat → Int, ∀ i, RR i = reck gg t.ns i := ⟨_, fun _ => rfl⟩
    have HRR := Lib.hid hRR
    rw [hq] at CC HV T0 b1 B1 ⊢
    rw [Int.toNat_natCast, ← hRR]
    clear hb hc ok hr0 hr1 hRR hq b1
    go_enter Try.func33, Try.ntmps33
    go_wp2_with (first
      | (go_at_call 9; (with_reducible refine CC.out.mono ?_); rintro e w1 ⟨rfl, hb1⟩; go_must (obtain ⟨q0, q1, q2⟩ := T0.out.next hb1; have H1 := Lib.hid (hb1.mono (show w.heap.size + 1 ≤ _ by simp)); have hs1 := hb1.size; simp only [World.size_alloc] at hs1; clear hb1))
      | (at_make; refine wpList_make_full _ rfl _ _ 53 rfl (w.heap.size + 1) 3 i0 (.int .i64 0) 1 Try.underlying53 hi hz0 hz1 .i64 .i64 t.ns.length t.ns.length t.ns.length rfl rfl rfl rfl (by rw [hz2]; omega) (by unfold maxLen; omega) (by omega) ?_; intro w2 hown2 hgrow2; go_must (rw [partK_start RR] at hown2; have BB := Lib.hid (H1.out.grown hgrow2 (by omega) (fun k hk => by cases hk)); obtain ⟨r0, r1, r2⟩ := T0.out.next (BB.out.mono (by simp)); have hs2 := (hown2.lt _ rfl).2; have ROW := Lib.hid hown2; clear hown2 hgrow2))
      | fail)
    have hW1s : w.heap.size + 1 ≤ (w.alloc (.cells #[.slice ao t.ns.length cap, .slice so t.sets.length scap, .int .i64 (q : Int)] 25)).heap.size := by simp
    have hW1t : (w.alloc (.cells #[.slice ao t.ns.length cap, .slice so t.sets.length scap, .int .i64 (q : Int)] 25)).heap.size ≤ w.heap.size + 1 := by simp
    generalize hW1 : w.alloc (.cells #[.slice ao t.ns.length cap, .slice so t.sets.length scap, .int .i64 (q : Int)] 25) = W1 at *
    clear hW1
    obtain ⟨L, hL⟩ : ∃ L, L = w1.heap.size := ⟨_, rfl⟩
    rw [← hL] at ROW ⊢
    have hLw : w.heap.size < L := by omega
    have hLs : L < w2.heap.size := by omega
    clear hL q0 q1 q2
    go_loopw [21] (fun i wr => ∃ k : Nat, i = .int .i64 k ∧ k ≤ t.ns.length ∧ wr.ownsRow (w.heap.size + 1) 3 1 (.slice (some ⟨L, 0, none⟩) t.ns.length t.ns.length) t.ns.length (partK RR t.ns.length k) ∧ Below (w.heap.size + 1) W1 wr) (fun i _ => t.ns.length - (intOf i).toNat)
    case atStart => exact ⟨0, rfl, Nat.zero_le _, ROW.out, BB.out⟩
    case round =>
      clear r0 r1 r2 hLs hs2
      obtain ⟨k, rfl, hk, hrow, hbw⟩ := hrel
      obtain ⟨wo, rfl⟩ : ∃ x, x = wr := ⟨_, rfl⟩
      obtain ⟨r0, r1, r2⟩ := T0.out.next (hbw.mono (by omega))
      have hsz := hbw.size
      have hLs := (hrow.lt _ rfl).2
      by_cases hlt : k < t.ns.length
      · obtain ⟨g, rfl, hnode⟩ := HN.out k hlt
        have hB := B1.out.trans (hbw.mono (by omega))
        obtain ⟨c0, c1, c2, c3, c4, c5⟩ := hnode.next hB
        have hl0 := cell_lt c0
        have hpl := parts_lt (OK.out.node k hlt)
        have hrk := reck_parts (g := gg) (l := t.ns) (i := k) (OK.out.node k hlt)
        have hpn := parts_len (nd t.ns k)
        have CP := Lib.hid (fun W => parts_any (nd t.ns k) W)
        unfold aggN PartsOut at CP
        generalize nd t.ns k = n at *
        generalize partsL n = P at *
        have hval : ∀ x ∈ P.map (fun x => RR x.toNat), 1 ≤ x ∧ x ≤ 1048576 := by
          intro x hx
          obtain ⟨y, hy, rfl⟩ := List.mem_map.1 hx
          rw [HRR.out]
          exact HB.out _ (by have := hpl y hy; omega)
        have hres : RR k = gg (P.map fun x => RR x.toNat) := by rw [HRR.out, hrk]; congr 1; exact List.map_congr_left fun x _ => (HRR.out _).symm
        have HPL := Lib.hid hpl
        have HVAL := Lib.hid hval
        have HRES := Lib.hid hres
        have HROW := Lib.hid hrow
        have HBW := Lib.hid hbw
        clear hpl hval hres hrk hrow hbw hnode hB
        go_wp2_with (first
          | (go_at_call 50; (with_reducible refine (CP.out _).mono ?_); rintro e w3 ⟨v, rfl, hr, hb3⟩; go_must (obtain ⟨io, icap, rfl, him, hic⟩ := (ints_of_row hr).shape; have R0 := Lib.hid hr; have B3 := Lib.hid (((Below.refl wo.heap.size wo).alloc (Nat.le_refl _) _).trans (hb3.mono (by simp))); clear hr hb3 hic))
          | fail)
        have R1 := Lib.hid (own_next HROW.out B3.out)
        have BW3 := Lib.hid (HBW.out.trans (B3.out.mono (by omega)))
        have hIB : L < (wo.alloc (.cells #[.int .i64 n.op, .int .i64 n.a, .int .i64 n.b, .int .i64 n.lo, .int .i64 n.hi, .int .i64 n.set] 41)).heap.size := by simp; omega
        generalize (wo.alloc (.cells #[.int .i64 n.op, .int .i64 n.a, .int .i64 n.b, .int .i64 n.lo, .int .i64 n.hi, .int .i64 n.set] 41)).heap.size = B4 at *
        go_loopw [30] (fun i wr => ∃ j : Nat, i = .int .i64 j ∧ j ≤ P.length ∧ wr.ownsRow B4 3 1 (.slice io P.length icap) P.length ((midJ (fun x => RR x.toNat) P j).map (Value.int .i64)) ∧ wr.ownsRow (w.heap.size + 1) 3 1 (.slice (some ⟨L, 0, none⟩) t.ns.length t.ns.length) t.ns.length (partK RR t.ns.length k) ∧ Below (w.heap.size + 1) W1 wr) (fun i _ => P.length - (intOf i).toNat)
        case atStart => exact ⟨0, rfl, Nat.zero_le _, by rw [midJ_zero]; exact R0.out, R1.out, BW3.out⟩
        case round =>
          clear r0 r1 r2 c0 c1 c2 c3 c4 c5 hl0
          obtain ⟨j, rfl, hj, hI, hLr, hbq⟩ := hrel
          have hsz3 := hbq.size
          by_cases hjl : j < P.length
          · obtain ⟨I, icap', he, hIb, hIc⟩ := hI.form (by omega)
            simp only [Value.slice.injEq] at he
            obtain ⟨rfl, _, rfl⟩ := he
            obtain ⟨x, hx⟩ : ∃ x, P.getD j 0 = x := ⟨_, rfl⟩
            have hxm : x ∈ P := by rw [← hx, List.getD_eq_getElem?_getD, List.getElem?_eq_getElem hjl]; exact List.getElem_mem hjl
            obtain ⟨x0, x1⟩ := HPL.out x hxm
            obtain ⟨y, rfl⟩ := Int.eq_ofNat_of_zero_le x0
            have hyk : y < k := by omega
            have hyn : y < t.ns.length := by omega
            have d1 : wr.cell? ⟨I, j, none⟩ = some (.int .i64 (y : Int)) := by rw [hI.cellAt j (by omega), map_at (midJ_at hjl), hx]
            have d2 : wr.cell? ⟨L, y, none⟩ = some (.int .i64 (RR y)) := by rw [hLr.cellAt y (by omega), partK_at hyk (by omega)]
            have fz : wr.frozen? ⟨I, j, none⟩ = false := hI.frozenAt j
            have st := its_step (f := fun x => RR x.toNat) hI hLr (by omega) hjl
            rw [hx] at st
            simp only [Int.toNat_natCast] at st
            have hst := (hI.stored j (.int .i64 (RR y))).2
            have ST := Lib.hid st
            have BQ := Lib.hid (hbq.grown hst (by omega) (fun a ha => by simp at ha; omega))
            have nj : (j : Int) < (P.length : Int) := by omega
            clear st hst hI hLr hx hxm x0 x1 hbq
            go_wp2
            go_roundw
            case rel => exact ⟨j + 1, by go_num, by omega, ST.out.1, ST.out.2, BQ.out⟩
            case measure => simp [intOf]; omega
          · obtain rfl : j = P.length := by omega
            rw [midJ_end] at hI
            have hIA : IntsAt wr (.slice io P.length icap) (P.map fun x => RR x.toNat) := ints_of_row (by simpa using hI)
            have CK := Lib.hid (hK _ _ wr HVAL.out (by simpa using hpn) hIA)
            rw [← HRES.out] at CK
            have HLR := Lib.hid hLr
            have BQ := Lib.hid hbq
            have hkn : (k : Int) < (t.ns.length : Int) := by omega
            clear hI hIA hLr hbq
            go_wp2_with (go_at_fn K; (with_reducible refine CK.out.mono ?_); rintro e w5 ⟨rfl, hb5⟩; go_must (have hL5 := own_next HLR.out hb5; have e1 : w5.cell? ⟨L, k, none⟩ = some (.int .i64 0) := (by rw [hL5.cellAt k (by omega)]; unfold partK; simp [hlt]); have e2 : w5.frozen? ⟨L, k, none⟩ = false := hL5.frozenAt k; obtain ⟨s1, s2⟩ := hL5.stored k (.int .i64 (RR k)); rw [partK_set hlt] at s1; have S1 := Lib.hid s1; have B5 := Lib.hid ((BQ.out.trans (hb5.mono (by omega))).grown s2 (by have := hb5.size; omega) (fun a ha => by simp at ha; omega)); clear hb5 hL5 s1 s2))
            go_roundw
            case rel => exact ⟨k + 1, by go_num, by omega, S1.out, B5.out⟩
            case measure => simp [intOf]; omega
      · obtain rfl : k = t.ns.length := by omega
        have d2 : wo.cell? ⟨L, q, none⟩ = some (.int .i64 (RR q)) := by rw [hrow.cellAt q (by omega), partK_at hq2 (by omega)]
        have HBW := Lib.hid hbw
        clear hrow hbw
        go_wp2
        go_ret
        exact ⟨rfl, B1.out.trans (HBW.out.mono (by omega))⟩
  · rw [if_neg hc]
    have hne : (checkE t == 0) = false := by simpa using hc
    generalize checkE t = E at *
    clear hb hc
    go_enter Try.func33, Try.ntmps33
    go_wp2_with (go_at_call 9; (with_reducible refine CC.out.mono ?_); rintro e w1 ⟨rfl, hb1⟩; go_must (have H1 := Lib.hid (B1.out.trans (hb1.mono (by simp))); clear hb1))
    go_ret
    exact ⟨rfl, H1.out⟩

end Go.Proofs.Ytdgpanofehfjdaa.Ar

/- How many texts match rows: the document's Count, its Points, the program's Count. -/
import Derived.Test.YtoknfelheebidaaDoorBqRef
import Derived.Test.YtoknfelheebidaaDoorRgCount
namespace Go.Proofs.YtoknfelheebidaaDoor.Bq
open Go Go.RowKit Go.Shelf Go.Proofs.YtoknfelheebidaaDoor.Ut Go.Proofs.YtoknfelheebidaaDoor.Rg

/-- how many texts match rows -/
def sumL : List (List R) → Int
  | [] => 0
  | r :: t => prodA 1 r + sumL t
theorem sum_rows : ∀ {C : List R}, (∀ p ∈ C, Cell p) → sumL (rowsL C) = cntL C
  | [], _ => rfl
  | p :: t, h => by
    show prodA 1 (rowL p) + sumL (rowsL t) = _
    rw [(h p List.mem_cons_self).prod, sum_rows fun q hq => h q (List.mem_cons_of_mem _ hq)]
    rfl
def bnd4 (k : Nat) : Int := if k = 0 then 1 else if k = 1 then 256 else if k = 2 then 65536 else if k = 3 then 16777216 else 4294967296
theorem mul_bnd {n m : Int} {k : Nat} (hk : k < 4) (h0 : 0 ≤ n) (h1 : n ≤ bnd4 k) (m0 : 0 ≤ m) (m1 : m ≤ 256) : 0 ≤ n * m ∧ n * m ≤ bnd4 (k + 1) := by
  refine ⟨Int.mul_nonneg h0 m0, ?_⟩
  have hp : 0 ≤ bnd4 k := by
    rcases (show k = 0 ∨ k = 1 ∨ k = 2 ∨ k = 3 by omega) with rfl | rfl | rfl | rfl <;> decide
  have h2 : n * m ≤ bnd4 k * 256 := Int.mul_le_mul h1 m1 m0 hp
  refine Int.le_trans h2 ?_
  rcases (show k = 0 ∨ k = 1 ∨ k = 2 ∨ k = 3 by omega) with rfl | rfl | rfl | rfl <;> decide
theorem bnd4_le (k : Nat) : bnd4 k ≤ 4294967296 := by
  unfold bnd4; repeat' split
  all_goals omega
/-- a row's product, from the k-th range on -/
theorem prod_at {row : List R} {n : Int} {k : Nat} (h : k < row.length) : prodA n (row.drop k) = prodA (n * ((Rg.nth row k).2 - (Rg.nth row k).1 + 1)) (row.drop (k + 1)) := by
  rw [List.drop_eq_getElem_cons h, nth_eq h]; rfl
theorem sum_at {L : List (List R)} {k : Nat} (h : k < L.length) : sumL (L.drop k) = prodA 1 (nthL L k) + sumL (L.drop (k + 1)) := by
  rw [List.drop_eq_getElem_cons h, nthL_eq h]; rfl
theorem good_at {row : List R} (h : Good row) {k : Nat} (hk : k < row.length) : 0 ≤ (Rg.nth row k).1 ∧ (Rg.nth row k).1 ≤ (Rg.nth row k).2 ∧ (Rg.nth row k).2 ≤ 255 := by
  rw [nth_eq hk]; exact h.bytes _ (List.getElem_mem hk)
theorem good_nth {L : List (List R)} (h : ∀ r ∈ L, Good r) {k : Nat} (hk : k < L.length) : Good (nthL L k) := by
  rw [nthL_eq hk]; exact h _ (List.getElem_mem hk)

/-! ### the program's -/
def TextsRel (row : List R) (w : World) (n i : Value) (wr : World) : Prop :=
  ∃ (k : Nat) (m : Int), i = .int .i64 k ∧ n = .int .i64 m ∧ k ≤ row.length ∧ 0 ≤ m ∧ m ≤ bnd4 k ∧ prodA m (row.drop k) = prodA 1 row ∧ Below w.heap.size w wr
theorem prod_end {row : List R} {m : Int} (h : prodA m (row.drop row.length) = prodA 1 row) : m = prodA 1 row := by
  rw [List.drop_length] at h; exact h

set_option maxRecDepth 100000 in
set_option maxHeartbeats 4000000 in
theorem texts_any (row : List R) (v : Value) (w : World) (hv : RngsAt w v row) (hg : Good row) :
    Calls Tryd.prog 25 #[v] w fun e w' => e = .returned (.int .i64 (prodA 1 row)) ∧ Below w.heap.size w w' := by
  obtain ⟨ao, cap, rfl, hm, hcs⟩ := hv.shape
  have HC := Lib.hid hcs
  have HG := Lib.hid hg
  obtain ⟨g1, g2⟩ := hg.len
  have t0 : ((row.length : Int) == 0) = false := by rw [beq_eq_false_iff_ne]; omega
  have t1 : ¬ (4 : Int) < (row.length : Int) := by omega
  clear hcs hv hg
  go_enter Tryd.func25, Tryd.ntmps25
  go_wp2
  go_loopw [3, 18] (fun n i wr => TextsRel row w n i wr) (fun _ i _ => row.length - (intOf i).toNat)
  case atStart => exact ⟨0, 1, rfl, rfl, Nat.zero_le _, by omega, by decide, rfl, Below.refl _ _⟩
  case round =>
    obtain ⟨k, m, rfl, rfl, hk, hm0, hm1, hp, hb⟩ := hrel
    by_cases hlt : k < row.length
    · obtain ⟨g, rfl, c1, c2⟩ := HC.out k hlt
      replace c1 := cell_next c1 hb
      replace c2 := cell_next c2 hb
      obtain ⟨b0, b1, b2⟩ := good_at HG.out hlt
      have hmb := mul_bnd (show k < 4 by omega) hm0 hm1 (show 0 ≤ (Rg.nth row k).2 - (Rg.nth row k).1 + 1 by omega) (by omega)
      have hb4 := bnd4_le (k + 1)
      rw [prod_at hlt] at hp
      have HP := Lib.hid hp
      have HB := Lib.hid (hb.alloc hb.size (.cells #[.int .i64 (Rg.nth row k).1, .int .i64 (Rg.nth row k).2] 35))
      have HMB := Lib.hid hmb
      have n1 : (k : Int) < row.length := by omega
      have z1 : IntKind.i64.wrap (m * ((Rg.nth row k).2 - (Rg.nth row k).1 + 1)) = m * ((Rg.nth row k).2 - (Rg.nth row k).1 + 1) := by rw [IntKind.wrap_i64]; omega
      have x1 : min (Rg.nth row k).2 255 = (Rg.nth row k).2 := by omega
      have x2 : max (Rg.nth row k).1 0 = (Rg.nth row k).1 := by omega
      clear hp hb hmb hb4 hm0 hm1
      go_wp2
      go_region
      all_goals (
        go_wp2
        go_roundw
        case rel => exact ⟨k + 1, _, by go_num, rfl, hlt, HMB.out.1, HMB.out.2, HP.out, HB.out.drew⟩
        case measure => simp [intOf]; omega)
    · obtain rfl : k = row.length := by omega
      obtain rfl := prod_end hp
      go_wp2
      go_ret
      exact ⟨rfl, hb⟩

def CntRel (L : List (List R)) (w : World) (n i : Value) (wr : World) : Prop :=
  ∃ (k : Nat) (m : Int), i = .int .i64 k ∧ n = .int .i64 m ∧ k ≤ L.length ∧ 0 ≤ m ∧ m ≤ 4294967296 * k ∧ m + sumL (L.drop k) = sumL L ∧ Below w.heap.size w wr
theorem prodA_bnd {row : List R} (h : Good row) : 0 ≤ prodA 1 row ∧ prodA 1 row ≤ 4294967296 := by
  have key : ∀ (k : Nat) (m : Int), k + row.length ≤ row.length + row.length → k ≤ row.length → 0 ≤ m → m ≤ bnd4 (row.length - k) → 0 ≤ prodA m (row.drop (row.length - k)) ∧ prodA m (row.drop (row.length - k)) ≤ 4294967296 := by
    intro k
    induction k with
    | zero =>
      intro m _ _ h0 h1
      rw [Nat.sub_zero, List.drop_length]
      exact ⟨h0, Int.le_trans h1 (bnd4_le _)⟩
    | succ k ih =>
      intro m h2 h3 h0 h1
      have hlen := h.len
      have hlt : row.length - (k + 1) < row.length := by omega
      obtain ⟨b0, b1, b2⟩ := good_at h hlt
      have := mul_bnd (m := (Rg.nth row (row.length - (k + 1))).2 - (Rg.nth row (row.length - (k + 1))).1 + 1) (show row.length - (k + 1) < 4 by omega) h0 h1 (by omega) (by omega)
      rw [show row.length - (k + 1) + 1 = row.length - k by omega] at this
      rw [prod_at hlt, show row.length - (k + 1) + 1 = row.length - k by omega]
      exact ih _ (by omega) (by omega) this.1 this.2
  have := key row.length 1 (by omega) (Nat.le_refl _) (by omega) (by rw [Nat.sub_self]; decide)
  rwa [Nat.sub_self] at this

set_option maxHeartbeats 1000000 in
theorem count_rows (L : List (List R)) (v : Value) (w : World) (hv : RowsAt w v L) (hg : ∀ r ∈ L, Good r) (hM : L.length ≤ 1000000) :
    Calls Tryd.prog 14 #[v] w fun e w' => e = .returned (.int .i64 (sumL L)) ∧ Below w.heap.size w w' := by
  obtain ⟨ao, cap, rfl, hm, hcs⟩ := hv.shape
  have HC := Lib.hid hcs
  have HG := Lib.hid hg
  clear hcs hv hg
  go_enter Tryd.func14, Tryd.ntmps14
  go_wp2
  go_loopw [3, 8] (fun n i wr => CntRel L w n i wr) (fun _ i _ => L.length - (intOf i).toNat)
  case atStart => exact ⟨0, 0, rfl, rfl, Nat.zero_le _, by omega, by omega, by simp, Below.refl _ _⟩
  case round =>
    obtain ⟨k, m, rfl, rfl, hk, hm0, hm1, hs, hb⟩ := hrel
    by_cases hlt : k < L.length
    · obtain ⟨g, x, rfl, c1, hx⟩ := HC.out k hlt
      replace c1 := cell_next c1 hb
      have hgd := good_nth HG.out hlt
      have ct := Lib.hid (texts_any (nthL L k) x wr (hx.next hb) hgd)
      obtain ⟨xo, xc, rfl, _, _⟩ := hx.shape
      obtain ⟨p0, p1⟩ := prodA_bnd hgd
      rw [sum_at hlt] at hs
      have HS := Lib.hid hs
      have HB := Lib.hid hb
      have n1 : (k : Int) < L.length := by omega
      clear hs hb hx hgd
      generalize prodA 1 (nthL L k) = q at *
      go_wp2_with (first
        | (go_at_call 25; (with_reducible refine ct.out.mono ?_); rintro e w1 ⟨rfl, h1⟩; go_must (have B1 := Lib.hid (HB.out.trans (h1.mono HB.out.size)); clear h1))
        | fail)
      go_roundw
      case rel => exact ⟨k + 1, m + q, by go_num, by go_num, hlt, by omega, by omega, by have := HS.out; omega, B1.out⟩
      case measure => simp [intOf]; omega
    · obtain rfl : k = L.length := by omega
      have e : m = sumL L := by rw [List.drop_length] at hs; simpa [sumL] using hs
      subst e
      clear hs
      go_wp2
      go_ret
      exact ⟨rfl, hb⟩

/-! ### the document's -/
/-- how many of the numbers below c are in a range -/
def hits (lo hi c : Int) : Int := if c ≤ lo then 0 else if c ≤ hi then c - lo else hi - lo + 1
theorem hits_yes {lo hi c : Int} (h1 : lo ≤ c) (h2 : c ≤ hi) : hits lo hi (c + 1) = hits lo hi c + 1 := by
  unfold hits; repeat' split
  all_goals omega
theorem hits_no {lo hi c : Int} (hl : lo ≤ hi) (h : ¬ (lo ≤ c ∧ c ≤ hi)) : hits lo hi (c + 1) = hits lo hi c := by
  unfold hits; repeat' split
  all_goals omega
theorem hits_bnd {lo hi c : Int} (hl : lo ≤ hi) (h0 : 0 ≤ lo) (h1 : hi ≤ 255) : 0 ≤ hits lo hi c ∧ hits lo hi c ≤ 256 := by
  unfold hits; repeat' split
  all_goals omega
theorem hits_all {lo hi : Int} (h1 : hi ≤ 255) (hl : lo ≤ hi) : hits lo hi 256 = hi - lo + 1 := by
  unfold hits; repeat' split
  all_goals omega
def HitRel (lo hi : Int) (w : World) (n i : Value) (wr : World) : Prop :=
  ∃ c : Nat, i = .int .i64 c ∧ n = .int .i64 (hits lo hi c) ∧ c ≤ 256 ∧ Below w.heap.size w wr

set_option maxRecDepth 100000 in
set_option maxHeartbeats 8000000 in
theorem rcount_rows (L : List (List R)) (v : Value) (w : World) (hv : RowsAt w v L) (hg : ∀ r ∈ L, Good r) (hM : L.length ≤ 1000000) :
    Calls Tryd.prog 11 #[v] w fun e w' => e = .returned (.int .i64 (sumL L)) ∧ Below w.heap.size w w' := by
  obtain ⟨ao, cap, rfl, hm, hcs⟩ := hv.shape
  have HC := Lib.hid hcs
  have HG := Lib.hid hg
  clear hcs hv hg
  go_enter Tryd.func11, Tryd.ntmps11
  go_wp2
  go_loopw [3, 4] (fun n i wr => CntRel L w n i wr) (fun _ i _ => L.length - (intOf i).toNat)
  case atStart => exact ⟨0, 0, rfl, rfl, Nat.zero_le _, by omega, by omega, by simp, Below.refl _ _⟩
  case round =>
    obtain ⟨k, m, rfl, rfl, hk, hm0, hm1, hs, hb⟩ := hrel
    by_cases hlt : k < L.length
    · obtain ⟨g, x, rfl, c1, hx⟩ := HC.out k hlt
      have C0 := Lib.hid c1
      replace c1 := cell_next c1 hb
      have hgd := good_nth HG.out hlt
      obtain ⟨xo, xc, rfl, hxm, hxc⟩ := hx.shape
      obtain ⟨p0, p1⟩ := prodA_bnd hgd
      rw [sum_at hlt] at hs
      have HS := Lib.hid hs
      have HB := Lib.hid hb
      have HXC := Lib.hid hxc
      have HGD := Lib.hid hgd
      obtain ⟨g1, g2⟩ := hgd.len
      have n1 : (k : Int) < L.length := by omega
      have t0 : (((nthL L k).length : Int) == 0) = false := by rw [beq_eq_false_iff_ne]; omega
      have t1 : ¬ (4 : Int) < ((nthL L k).length : Int) := by omega
      clear hs hb hx hgd hxc
      generalize nthL L k = row at *
      go_wp2
      go_loopw [5, 6] (fun n i wr => TextsRel row w n i wr) (fun _ i _ => row.length - (intOf i).toNat)
      case atStart => exact ⟨0, 1, rfl, rfl, Nat.zero_le _, by omega, by decide, rfl, HB.out⟩
      case round =>
        clear c1
        obtain ⟨j, n, rfl, rfl, hj, hn0, hn1, hp, hb⟩ := hrel
        have c1 := cell_next C0.out hb
        by_cases hlt2 : j < row.length
        · obtain ⟨ga, rfl, d1, d2⟩ := HXC.out j hlt2
          have D1 := Lib.hid d1
          have D2 := Lib.hid d2
          obtain ⟨b0, b1, b2⟩ := good_at HGD.out hlt2
          have hmb := mul_bnd (show j < 4 by omega) hn0 hn1 (show 0 ≤ (Rg.nth row j).2 - (Rg.nth row j).1 + 1 by omega) (by omega)
          have hb4 := bnd4_le (j + 1)
          rw [prod_at hlt2] at hp
          have HP := Lib.hid hp
          have HB2 := Lib.hid hb
          have HMB := Lib.hid hmb
          have n2 : (j : Int) < row.length := by omega
          have n3 : (j : Int) < 4 := by omega
          have z1 : IntKind.i64.wrap (n * ((Rg.nth row j).2 - (Rg.nth row j).1 + 1)) = n * ((Rg.nth row j).2 - (Rg.nth row j).1 + 1) := by rw [IntKind.wrap_i64]; omega
          have HA := Lib.hid (hits_all b2 b1)
          clear hp hb hmb hb4 hn0 hn1 d1 d2
          generalize (Rg.nth row j).1 = lo at *
          generalize (Rg.nth row j).2 = hi at *
          go_wp2
          go_loopw [7, 8] (fun n i wr => HitRel lo hi w n i wr) (fun _ i _ => 256 - (intOf i).toNat)
          case atStart => exact ⟨0, rfl, by unfold hits; rw [if_pos (by omega)], by omega, HB2.out⟩
          case round =>
            clear c1
            obtain ⟨c, rfl, rfl, hc, hb⟩ := hrel
            have c1 := cell_next C0.out hb
            have d1 := cell_next D1.out hb
            have d2 := cell_next D2.out hb
            by_cases hlt3 : c < 256
            · obtain ⟨q0, q1⟩ := hits_bnd (c := (c : Int)) b1 b0 b2
              have n4 : (c : Int) < 256 := by omega
              have hy := fun h1 h2 => hits_yes (c := (c : Int)) (lo := lo) (hi := hi) h1 h2
              have hn := fun h => hits_no (c := (c : Int)) b1 h
              have HY := Lib.hid hy
              have HN := Lib.hid hn
              have HB3 := Lib.hid hb
              clear hy hn hb
              generalize hits lo hi (c : Int) = q at *
              by_cases g3 : lo ≤ (c : Int) <;> by_cases g4 : (c : Int) ≤ hi
              · go_wp2
                go_roundw
                case rel => exact ⟨c + 1, by go_num, by rw [show ((c + 1 : Nat) : Int) = (c : Int) + 1 by omega, HY.out g3 g4]; try go_num, by omega, HB3.out⟩
                case measure => simp [intOf]; omega
              · go_wp2
                go_roundw
                case rel => exact ⟨c + 1, by go_num, by rw [show ((c + 1 : Nat) : Int) = (c : Int) + 1 by omega, HN.out (by omega)], by omega, HB3.out⟩
                case measure => simp [intOf]; omega
              · go_wp2
                go_roundw
                case rel => exact ⟨c + 1, by go_num, by rw [show ((c + 1 : Nat) : Int) = (c : Int) + 1 by omega, HN.out (by omega)], by omega, HB3.out⟩
                case measure => simp [intOf]; omega
              · exfalso
                omega
            · obtain rfl : c = 256 := by omega
              have ha := HA.out
              have e2 : hits lo hi ((256 : Nat) : Int) = hi - lo + 1 := ha
              rw [e2]
              have HB3 := Lib.hid hb
              clear hb ha e2
              go_wp2
              go_roundw
              case rel => exact ⟨j + 1, _, by go_num, rfl, hlt2, HMB.out.1, HMB.out.2, HP.out, HB3.out⟩
              case measure => simp [intOf]; omega
        · obtain rfl : j = row.length := by omega
          obtain rfl := prod_end hp
          have n2 : ¬ (row.length : Int) < row.length := by omega
          clear hp hn1
          go_wp2
          go_roundw
          case rel => exact ⟨k + 1, m + prodA 1 row, by go_num, by go_num, hlt, by omega, by omega, by have := HS.out; omega, hb⟩
          case measure => simp [intOf]; omega
    · obtain rfl : k = L.length := by omega
      have e : m = sumL L := by rw [List.drop_length] at hs; simpa [sumL] using hs
      subst e
      clear hs
      go_wp2
      go_ret
      exact ⟨rfl, hb⟩

set_option maxHeartbeats 1000000 in
theorem points_any (l : List R) (v : Value) (w : World) (hv : RngsAt w v l) (hM : l.length ≤ 10000) :
    Calls Tryd.prog 12 #[v] w fun e w' => ∃ Z, setFrom 0 Z ∧ (∀ c, hasB Z c = (isC c && holdB 4 l [(55296, 57343)] c)) ∧ e = .returned (.int .i64 (cntL Z)) ∧ Below w.heap.size w w' := by
  have h1 := (Below.refl w.heap.size w).alloc (Nat.le_refl _) (.cells #[.int .i64 55296, .int .i64 57343] 35)
  have c1 := Lib.hid (set_any 4 (Nat.le_refl _) l [(55296, 57343)] v (.slice (some ⟨w.heap.size, 0, none⟩) 1 1) _ (hv.next h1) (.inr ⟨⟨w.heap.size, 0, none⟩, 1, rfl, by unfold maxLen; simp, fun i hi => by
    obtain rfl : i = 0 := by simpa using hi
    show (w.alloc (.cells #[.int .i64 55296, .int .i64 57343] 35)).cell? ⟨w.heap.size, 0, none⟩ = _ ∧ (w.alloc _).cell? ⟨w.heap.size, 0 + 1, none⟩ = _
    rw [World.cell?_alloc_new, World.cell?_alloc_new]
    exact ⟨rfl, rfl⟩⟩) (by simp; omega))
  have H1 := Lib.hid h1
  clear h1 hv
  go_enter Tryd.func12, Tryd.ntmps12
  go_wp2_with (first
    | (go_at_call 24; (refine c1.out.mono ?_); rintro e w1 ⟨v1, Z, rfl, hr, k1, k2, k3, k4⟩; go_must (have B1 := Lib.hid (H1.out.trans (k4.mono H1.out.size)); have K1 := Lib.hid k1; have K2 := Lib.hid k2; have c2 := Lib.hid (rcount_all Z Z v1 w1 (rngs_of_row hr) (by simp at k3; omega) k1 (fun c => by rw [inB_set k1])); clear k1 k2 k4 hr))
    | (go_at_call 23; (with_reducible refine c2.out.mono ?_); rintro e w2 ⟨rfl, h2⟩; go_must (have B2 := Lib.hid (B1.out.trans (h2.mono B1.out.size)); clear h2))
    | fail)
  go_ret
  exact ⟨Z, K1.out, K2.out, rfl, B2.out⟩

end Go.Proofs.YtoknfelheebidaaDoor.Bq

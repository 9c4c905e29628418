/- How many rows a text matches; any; is a text the bytes of a code point of a set. -/
import Derived.Test.YtoknfelheebidaaDoorBqRef
import Derived.WalkMore
import Derived.Deep.LoopGhost
namespace Go.Proofs.YtoknfelheebidaaDoor.Bq
open Go Go.RowKit Go.Shelf Go.Proofs.YtoknfelheebidaaDoor.Ut Go.Proofs.YtoknfelheebidaaDoor.Rg

theorem many_step {L : List (List R)} {b : List UInt8} {k : Nat} (h : k < L.length) : manyL (L.take (k + 1)) b = manyL (L.take k) b + (matchB (nthL L k) b).toNat := by
  rw [List.take_succ_eq_append_getElem h, nthL_eq h]
  unfold manyL
  rw [List.filter_append, List.length_append]
  cases hm : matchB L[k] b <;> simp [hm]
theorem many_le (L : List (List R)) (b : List UInt8) : manyL L b ≤ L.length := List.length_filter_le _ _

def ManyRel (L : List (List R)) (b : List UInt8) (w : World) (n i : Value) (wr : World) : Prop :=
  ∃ k : Nat, i = .int .i64 k ∧ k ≤ L.length ∧ n = .int .i64 (manyL (L.take k) b : Nat) ∧ Below w.heap.size w wr
set_option maxHeartbeats 1000000 in
theorem many_any (L : List (List R)) (s : ByteArray) (v : Value) (w : World) (hv : RowsAt w v L) (hs : s.size ≤ maxLen) :
    Calls Tryd.prog 9 #[v, .string s] w fun e w' => e = .returned (.int .i64 (manyL L s.data.toList : Nat)) ∧ Below w.heap.size w w' := by
  obtain ⟨ao, cap, rfl, hm, hcs⟩ := hv.shape
  have HC := Lib.hid hcs
  have HV := Lib.hid hv
  clear hcs hv
  go_enter Tryd.func9, Tryd.ntmps9
  go_wp2
  go_loopw [5, 6] (fun n i wr => ManyRel L s.data.toList w n i wr) (fun _ i _ => L.length - (intOf i).toNat)
  case atStart => exact ⟨0, rfl, Nat.zero_le _, rfl, Below.refl _ _⟩
  case round =>
    obtain ⟨k, rfl, hk, rfl, hb⟩ := hrel
    by_cases hlt : k < L.length
    · obtain ⟨g, x, rfl, c1, hx⟩ := HC.out k hlt
      replace c1 := cell_next c1 hb
      have hst := many_step (b := s.data.toList) hlt
      have hle := many_le (L.take k) s.data.toList
      rw [List.length_take] at hle
      have cm := rmatch_any (nthL L k) s x wr (hx.next hb) hs
      obtain ⟨xo, xc, rfl, _, _⟩ := hx.shape
      have HB := Lib.hid hb
      have n1 : (k : Int) < L.length := by omega
      clear hb hx
      generalize manyL (L.take k) s.data.toList = N at *
      have n2 : (N : Int) ≤ 9223372036854775806 := by omega
      cases hmb : matchB (nthL L k) s.data.toList
      · rw [hmb] at cm hst
        have CM := Lib.hid cm
        have ST := Lib.hid hst
        clear cm hst hmb hle
        go_wp2_with (first
          | (go_at_call 22; (with_reducible refine CM.out.mono ?_); rintro e w1 ⟨rfl, h1⟩; go_must (have B1 := Lib.hid (HB.out.trans (h1.mono HB.out.size)); clear h1))
          | fail)
        go_roundw
        case rel => exact ⟨k + 1, by go_num, hlt, by rw [ST.out]; simp, B1.out⟩
        case measure => simp [intOf]; omega
      · rw [hmb] at cm hst
        have CM := Lib.hid cm
        have ST := Lib.hid hst
        clear cm hst hmb hle
        go_wp2_with (first
          | (go_at_call 22; (with_reducible refine CM.out.mono ?_); rintro e w1 ⟨rfl, h1⟩; go_must (have B1 := Lib.hid (HB.out.trans (h1.mono HB.out.size)); clear h1))
          | fail)
        go_roundw
        case rel => exact ⟨k + 1, by go_num, hlt, by rw [ST.out]; simp, B1.out⟩
        case measure => simp [intOf]; omega
    · obtain rfl : k = L.length := by omega
      rw [List.take_length]
      go_wp2
      go_ret
      exact ⟨rfl, hb⟩

set_option maxHeartbeats 1000000 in
theorem is_any (l : List R) (s : ByteArray) (v : Value) (w : World) (hv : RngsAt w v l) (hs : s.size ≤ maxLen) :
    Calls Tryd.prog 8 #[v, .string s] w fun e w' => e = .returned (.bool (isB l s.data.toList)) ∧ Below w.heap.size w w' := by
  have cg := rget_any s w hs
  unfold vGet at cg
  have HV := Lib.hid hv
  unfold isB
  rw [← Lib.size_eq s]
  have hr := getL_range s.data.toList
  have hw : ((getL s.data.toList).2 : Int) ≤ 4 := by
    by_cases h0 : s.data.toList = []
    · rw [h0, getL_nil]; simp
    · have := (getL_width h0).2.2; omega
  generalize (getL s.data.toList).1 = c at *
  generalize ((getL s.data.toList).2 : Int) = m at *
  have CG := Lib.hid cg
  clear cg hv
  have hc1 : c ≤ 1114111 := by omega
  have ch := Lib.hid (fun w1 (h : Below w.heap.size w w1) => rhas_any l c v w1 (HV.out.next h))
  by_cases g1 : 0 ≤ c
  · by_cases g2 : m = (s.size : Int)
    · have t2 : (m == (s.size : Int)) = true := by rw [beq_iff_eq]; exact g2
      have hres : (decide (0 ≤ c) && decide (m = (s.size : Int)) && inB l c) = inB l c := by rw [decide_eq_true g1, decide_eq_true g2]; simp
      rw [hres]
      clear hres g2 hr
      go_enter Tryd.func8, Tryd.ntmps8
      go_wp2_with (first
        | (go_at_call 20; (with_reducible refine CG.out.mono ?_); rintro e w1 ⟨rfl, h1⟩; go_must (have B1 := Lib.hid h1; clear h1))
        | (go_at_call 21; (with_reducible refine (ch.out _ B1.out).mono ?_); rintro e w2 ⟨rfl, rfl⟩)
        | fail)
      go_ret
      exact ⟨rfl, B1.out⟩
    · have t2 : (m == (s.size : Int)) = false := by rw [beq_eq_false_iff_ne]; exact g2
      have hres : (decide (0 ≤ c) && decide (m = (s.size : Int)) && inB l c) = false := by rw [decide_eq_false g2]; simp
      rw [hres]
      clear hres g2 hr
      go_enter Tryd.func8, Tryd.ntmps8
      go_wp2_with (first
        | (go_at_call 20; (with_reducible refine CG.out.mono ?_); rintro e w1 ⟨rfl, h1⟩; go_must (have B1 := Lib.hid h1; clear h1))
        | fail)
      go_ret
      exact ⟨rfl, B1.out⟩
  · have hres : (decide (0 ≤ c) && decide (m = (s.size : Int)) && inB l c) = false := by rw [decide_eq_false g1]; simp
    rw [hres]
    clear hres hr
    go_enter Tryd.func8, Tryd.ntmps8
    go_wp2_with (first
      | (go_at_call 20; (with_reducible refine CG.out.mono ?_); rintro e w1 ⟨rfl, h1⟩; go_must (have B1 := Lib.hid h1; clear h1))
      | fail)
    go_ret
    exact ⟨rfl, B1.out⟩

theorem many_pos {L : List (List R)} {b : List UInt8} {k : Nat} (h : k < L.length) (hm : matchB (nthL L k) b = true) : 0 < manyL L b := by
  unfold manyL
  rw [List.length_pos_iff_exists_mem]
  exact ⟨L[k], List.mem_filter.2 ⟨List.getElem_mem h, by rw [← nthL_eq h]; exact hm⟩⟩
theorem many_nil {L : List (List R)} {s : ByteArray} (h : s.size = 0) : manyL L s.data.toList = 0 := by
  unfold manyL
  rw [List.length_eq_zero_iff, List.filter_eq_nil_iff]
  intro r _
  rw [match_nil h]; simp
theorem any_end {a : Nat} {b : Bool} (h : b = decide (0 < a)) : Ending.returned (.bool b) = .returned (.bool (decide (0 < a))) := by rw [h]

def AnyRel (L : List (List R)) (b : List UInt8) (w : World) (g : Nat) (i : Value) (wr : World) : Prop :=
  ∃ k : Nat, i = .int .i64 k ∧ k + g = L.length ∧ manyL (L.take k) b = 0 ∧ Below w.heap.size w wr
def AnyIn (row : List R) (s : ByteArray) (w : World) (g : Nat) (i : Value) (wr : World) : Prop :=
  ∃ k : Nat, i = .int .i64 k ∧ k + g = s.size ∧ inZ (row.drop 0) ((ints s.data.toList).drop 0) = inZ (row.drop k) ((ints s.data.toList).drop k) ∧ Below w.heap.size w wr
theorem any_next {L : List (List R)} {s : ByteArray} {w W : World} {k g : Nat} (h : k + (g + 1) = L.length) (h0 : manyL (L.take k) s.data.toList = 0) (hm : matchB (nthL L k) s.data.toList = false) (hb : Below w.heap.size w W) : AnyRel L s.data.toList w g (.int .i64 ((k : Int) + 1)) W :=
  ⟨k + 1, by go_num, by omega, by rw [many_step (by omega), h0, hm]; rfl, hb⟩

set_option maxRecDepth 100000 in
set_option maxHeartbeats 4000000 in
theorem any_any (L : List (List R)) (s : ByteArray) (v : Value) (w : World) (hv : RowsAt w v L) (hs : s.size ≤ maxLen) :
    Calls Tryd.prog 10 #[v, .string s] w fun e w' => e = .returned (.bool (decide (0 < manyL L s.data.toList))) ∧ Below w.heap.size w w' := by
  unfold maxLen at hs
  obtain ⟨ao, cap, rfl, hm, hcs⟩ := hv.shape
  have HC := Lib.hid hcs
  clear hcs hv
  by_cases h0 : 0 < s.size
  · have hne : s.toList.isEmpty = false := by
      rw [ByteArray.toList_eq]
      cases hq : s.data.toList with
      | nil =>
        have := Lib.size_eq s
        rw [hq] at this
        rw [this] at h0
        exact absurd h0 (by decide)
      | cons a t => rfl
    go_enter Tryd.func10, Tryd.ntmps10
    go_wp2
    go_step3
    go_wp2
    go_step3
    go_wp2
    go_loopg [14] L.length (fun g i wr => AnyRel L s.data.toList w g i wr)
    case atStart => exact ⟨0, rfl, by omega, rfl, Below.refl _ _⟩
    case round =>
      obtain ⟨k, rfl, hk, hmz, hb⟩ := hrel
      have HB := Lib.hid hb
      have HMZ := Lib.hid hmz
      clear hb hmz
      by_cases hlt : k < L.length
      · obtain ⟨g0, rfl⟩ : ∃ g0, gk = g0 + 1 := ⟨gk - 1, by omega⟩
        obtain ⟨g, x, rfl, c1, hx⟩ := HC.out k hlt
        replace c1 := cell_next c1 HB.out
        obtain ⟨xo, xc, rfl, hxm, hxc⟩ := hx.shape
        have HXC := Lib.hid hxc
        have n1 : (k : Int) < L.length := by omega
        have NX := Lib.hid (fun W hm hb => any_next (w := w) (W := W) hk HMZ.out hm hb)
        have PO := Lib.hid (fun h => many_pos (b := s.data.toList) hlt h)
        clear hx hxc
        generalize nthL L k = row at *
        by_cases hlen : row.length = s.size
        · have t1 : ((row.length : Int) != (s.size : Int)) = false := by rw [hlen]; simp
          have HLEN := Lib.hid hlen
          have hle : row.length ≤ s.size ∧ s.size ≤ row.length := by omega
          obtain ⟨l1, l2⟩ := hle
          have MI := Lib.hid (match_in (row := row) h0)
          clear hlen
          go_wp2
          go_loopg [25] s.size (fun g i wr => AnyIn row s w g i wr)
          case atStart => exact ⟨0, rfl, by omega, rfl, HB.out⟩
          case round =>
            obtain ⟨j, rfl, hj, he, hb⟩ := hrel
            by_cases hlt2 : j < s.size
            · obtain ⟨j0, rfl⟩ : ∃ g0, gk = g0 + 1 := ⟨gk - 1, by omega⟩
              obtain ⟨ga, rfl, d1, d2⟩ := HXC.out j (by omega)
              replace d1 := cell_next d1 hb
              replace d2 := cell_next d2 hb
              rw [inZ_at (by omega) hlt2] at he
              have HE := Lib.hid he
              have HB2 := Lib.hid (hb.alloc hb.size (.cells #[.int .i64 (Rg.nth row j).1, .int .i64 (Rg.nth row j).2] 35))
              have n2 : (j : Int) < row.length := by omega
              have n3 : (j : Int) < s.size := by omega
              have z1 : IntKind.i64.wrap (s[j].toNat : Int) = (s[j].toNat : Int) := by have := s[j].toNat_lt; rw [IntKind.wrap_i64]; omega
              clear he hb
              by_cases g1 : (s[j].toNat : Int) < (Rg.nth row j).1
              · have hr : matchB row s.data.toList = false := by rw [MI.out, HE.out, show decide ((Rg.nth row j).1 ≤ (s[j].toNat : Int)) = false by simp; omega]; rfl
                have HR := Lib.hid hr
                clear hr
                go_wp2
                go_roundg g0
                case rel => exact NX.out _ HR.out HB2.out
                case measure => omega
              · by_cases g2 : (Rg.nth row j).2 < (s[j].toNat : Int)
                · have hr : matchB row s.data.toList = false := by rw [MI.out, HE.out, show decide ((s[j].toNat : Int) ≤ (Rg.nth row j).2) = false by simp; omega]; simp
                  have HR := Lib.hid hr
                  clear hr
                  go_wp2
                  go_roundg g0
                  case rel => exact NX.out _ HR.out HB2.out
                  case measure => omega
                · have hr := HE.out
                  rw [show decide ((Rg.nth row j).1 ≤ (s[j].toNat : Int)) = true by simp; omega, show decide ((s[j].toNat : Int) ≤ (Rg.nth row j).2) = true by simp; omega, Bool.true_and, Bool.true_and] at hr
                  have HR := Lib.hid hr
                  clear hr
                  go_wp2
                  go_roundg j0
                  case rel => exact ⟨j + 1, by go_num, by omega, HR.out, HB2.out⟩
                  case measure => omega
            · obtain rfl : j = s.size := by omega
              rw [inZ_end HLEN.out, ← MI.out] at he
              have PP := Lib.hid (PO.out he)
              clear he
              go_wp2
              try rw [Exit.noGoto_ret]
              go_ret
              exact ⟨any_end (decide_eq_true PP.out).symm, hb⟩
        · have t1 : ((row.length : Int) != (s.size : Int)) = true := by rw [bne_iff_ne]; omega
          have HR := Lib.hid (match_len hlen)
          clear hlen
          go_wp2
          go_roundg g0
          case rel => exact NX.out _ HR.out HB.out
          case measure => omega
      · obtain rfl : k = L.length := by omega
        have hz := HMZ.out
        rw [List.take_length] at hz
        have HZ := Lib.hid hz
        clear hz
        go_wp2
        try rw [Exit.noGoto_ret]
        go_ret
        exact ⟨any_end (by rw [HZ.out]; rfl), HB.out⟩
  · have hz : s = ⟨#[]⟩ := by
      have h1 : s.data.size = 0 := by show s.size = 0; omega
      exact ByteArray.ext (Array.eq_empty_of_size_eq_zero h1)
    have HL := Lib.hid (many_nil (L := L) (s := s) (by omega))
    subst hz
    clear h0
    go_enter Tryd.func10, Tryd.ntmps10
    go_wp2
    go_step3
    go_wp2
    try rw [Exit.noGoto_ret]
    go_ret
    exact ⟨any_end (by rw [HL.out]; rfl), Below.refl _ _⟩

end Go.Proofs.YtoknfelheebidaaDoor.Bq

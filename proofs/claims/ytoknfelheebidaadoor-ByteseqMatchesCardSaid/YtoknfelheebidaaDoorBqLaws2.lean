/- The law ByteseqCounts. -/
import Derived.Test.YtoknfelheebidaaDoorBqAlive
import Derived.Test.YtoknfelheebidaaDoorBqLeast
import Derived.Deep.RegionHeld3
namespace Go.Proofs.YtoknfelheebidaaDoor.Bq
open Go Go.RowKit Go.Shelf Go.Proofs.YtoknfelheebidaaDoor.Ut Go.Proofs.YtoknfelheebidaaDoor.Rg

theorem less_false : ∀ {x y : List UInt8}, y < x → Op.bytesLess x y = false ∧ (x == y) = false
  | [], [], h => by simp at h
  | [], _ :: _, h => by simp at h
  | _ :: _, [], _ => ⟨rfl, rfl⟩
  | a :: x, b :: y, h => by
    rw [List.cons_lt_cons_iff] at h
    rcases h with h | ⟨h, h2⟩
    · have h3 : ¬ a < b := UInt8.lt_asymm h
      have h4 : (a == b) = false := by
        rw [beq_eq_false_iff_ne]
        rintro rfl
        exact UInt8.lt_irrefl _ h
      exact ⟨by simp [Op.bytesLess, h3, h4], by simp [h4]⟩
    · subst h
      obtain ⟨e1, e2⟩ := less_false h2
      exact ⟨by simp [Op.bytesLess, e1], by simpa using e2⟩

theorem nth_mem {C : List R} {i : Nat} (h : i < C.length) : Rg.nth C i ∈ C := by rw [nth_eq h]; exact List.getElem_mem h
/-- rows rise by length, and then by their least text -/
theorem Parts.pairs {l C : List R} (h : Parts l C) {i : Nat} (hi : i + 1 < (rowsL C).length) :
    (nthL (rowsL C) i).length ≤ (nthL (rowsL C) (i + 1)).length ∧ ((nthL (rowsL C) i).length = (nthL (rowsL C) (i + 1)).length → lows (nthL (rowsL C) i) < lows (nthL (rowsL C) (i + 1))) := by
  rw [rowsL_len] at hi
  rw [rowsL_nth hi, rowsL_nth (show i < C.length by omega)]
  have c1 := h.cells _ (nth_mem (show i < C.length by omega))
  have c2 := h.cells _ (nth_mem hi)
  have hlt := h.rise.pairs hi
  rw [c1.good.2, c2.good.2, c1.lows, c2.lows]
  exact ⟨wid_mono (Int.le_of_lt hlt), fun e => putL_lt c1.first c2.first hlt e⟩
theorem Parts.good {l C : List R} (h : Parts l C) : ∀ r ∈ rowsL C, Good r := by
  intro r hr
  obtain ⟨p, hp, rfl⟩ := List.mem_map.1 hr
  exact (h.cells p hp).good.1
def txt (row : List R) : ByteArray := ⟨(lows row).toArray⟩
theorem least_txt (row : List R) (v : Value) (w : World) (hv : RngsAt w v row) (hg : Good row) :
    Calls Tryd.prog 13 #[v] w fun e w' => e = .returned (.string (txt row)) ∧ Below w.heap.size w w' := by
  refine (least_any row v w hv hg).mono ?_
  rintro e w' ⟨t, rfl, ht, hb⟩
  refine ⟨?_, hb⟩
  rw [show t = txt row from ByteArray.ext (Array.toList_inj.1 (by rw [ht]; rfl))]
theorem txt_less {a b : List R} (h : lows b < lows a) : Op.bytesLess (txt a).toList (txt b).toList = false ∧ ((txt a).toList == (txt b).toList) = false := by
  rw [ByteArray.toList_eq, ByteArray.toList_eq]
  exact less_false h

set_option maxRecDepth 100000 in
set_option maxHeartbeats 8000000 in
theorem lawCounts_any (l : List R) (v : Value) (w : World) (hv : RngsAt w v l) (hT : Tab w) :
    Calls Tryd.prog 4 #[v] w fun e w' => e = .returned (.bool true) ∧ Below w.heap.size w w' := by
  obtain ⟨vo, vc, rfl, hm, _⟩ := hv.shape
  have HV := Lib.hid hv
  have HT := Lib.hid hT
  have ca := Lib.hid (fun W (h : Below w.heap.size w W) => alive_any W (hT.next h))
  clear hv hT
  by_cases hl : l.length ≤ 20
  · have c1 := Lib.hid (of_all l _ w HV.out HT.out (by omega))
    have n1 : ¬ (20 : Int) < (l.length : Int) := by omega
    have n3 : (l.length : Int) ≤ 20 := by omega
    have cp := Lib.hid (fun W (h : Below w.heap.size w W) => points_any l _ W (HV.out.next h) (by omega))
    go_enter Tryd.func4, Tryd.ntmps4
    go_wp2_with (first
      | (go_at_call 6; (with_reducible refine c1.out.mono ?_); rintro e w1 ⟨v1, C, xs, rfl, hp, hr, hb⟩; go_must (have R1 := hr.at'; obtain ⟨ro, rc, rfl, rm, rcs⟩ := R1.shape; have hq := sum_rows hp.cells; have hlen := hp.len; rw [← rowsL_len] at hlen; have HQ := Lib.hid (fun Z z1 z2 => hq.trans (hp.count (Z := Z) z1 z2)); have HPR := Lib.hid (fun i (hi : i + 1 < (rowsL C).length) => hp.pairs hi); have HGD := Lib.hid hp.good; have cc := Lib.hid (rcount_rows (rowsL C) _ w1 R1 hp.good (by omega)); have HRC := Lib.hid rcs; have B1 := Lib.hid hb; have n4 : ((rowsL C).length : Int) ≤ 40 * ((l.length : Int) + 2) := (by omega); clear hp hr hb R1 hq rcs; generalize rowsL C = L at *; generalize sumL L = q at *))
      | (go_at_call 11; (with_reducible refine cc.out.mono ?_); rintro e w2 ⟨rfl, h2⟩; go_must (have B2 := Lib.hid (B1.out.trans (h2.mono B1.out.size)); have K2 := Lib.hid h2; clear h2))
      | (go_at_call 12; (with_reducible refine (cp.out _ B2.out).mono ?_); rintro e w3 ⟨Z, z1, z2, rfl, h3⟩; go_must (rw [← HQ.out Z z1 z2]; have B3 := Lib.hid (B2.out.trans (h3.mono B2.out.size)); have K3 := Lib.hid (K2.out.trans (h3.mono K2.out.size)); clear h3 z1 z2))
      | fail)
    have hK3 := K3.out
    have HB3 := B3
    clear hlen K2 B1 B2 cc cp c1 HQ
    go_loopw [30] (fun i wr => ∃ k : Nat, i = .int .i64 k ∧ k ≤ L.length ∧ Below w3.heap.size w3 wr) (fun i _ => L.length - (intOf i).toNat)
    case atStart => exact ⟨0, rfl, Nat.zero_le _, Below.refl _ _⟩
    case round =>
      clear hK3
      obtain ⟨k, rfl, hk, hb⟩ := hrel
      by_cases hlt : k < L.length
      · obtain ⟨g, x, rfl, d0, hx⟩ := HRC.out k hlt
        have hK := K3.out.trans (hb.mono K3.out.size)
        have d1 := cell_next d0 hK
        have hgd := good_nth HGD.out hlt
        have HX := Lib.hid hx
        obtain ⟨xo, xc, rfl, hxm, hxc⟩ := hx.shape
        have HXC := Lib.hid hxc
        have HG := Lib.hid hgd
        obtain ⟨g1, g2⟩ := hgd.len
        have n5 : (k : Int) < L.length := by omega
        have n6 : ¬ ((nthL L k).length : Int) < 1 := by omega
        have n7 : ¬ (4 : Int) < ((nthL L k).length : Int) := by omega
        have HB := Lib.hid hb
        have HK := Lib.hid hK
        clear hb hK hx hxc hgd d0
        obtain ⟨row, hrow⟩ : ∃ row, row = nthL L k := ⟨_, rfl⟩
        rw [← hrow] at HX HXC HG g1 g2 n6 n7 hxm d1
        have HROW := Lib.hid hrow
        clear hrow
        go_wp2
        go_loopw [45] (fun i wr' => ∃ j : Nat, i = .int .i64 j ∧ j ≤ row.length ∧ Below wr.heap.size wr wr') (fun i _ => row.length - (intOf i).toNat)
        case atStart => exact ⟨0, rfl, Nat.zero_le _, Below.refl _ _⟩
        case round =>
          obtain ⟨j, rfl, hj, hb⟩ := hrel
          by_cases hlt2 : j < row.length
          · obtain ⟨ga, rfl, e1, e2⟩ := HXC.out j hlt2
            replace e1 := cell_next e1 (HK.out.trans (hb.mono HK.out.size))
            replace e2 := cell_next e2 (HK.out.trans (hb.mono HK.out.size))
            obtain ⟨b0, b1, b2⟩ := good_at HG.out hlt2
            have n8 : (j : Int) < row.length := by omega
            have HB4 := Lib.hid (hb.alloc hb.size (.cells #[.int .i64 (Rg.nth row j).1, .int .i64 (Rg.nth row j).2] 35))
            clear hb
            go_wp2
            go_roundw
            case rel => exact ⟨j + 1, by go_num, by omega, HB4.out⟩
            case measure => simp [intOf]; omega
          · obtain rfl : j = row.length := by omega
            have HB5 := Lib.hid (HB.out.trans (hb.mono HB.out.size))
            have HK5 := Lib.hid (HK.out.trans (hb.mono HK.out.size))
            replace d1 := cell_next d1 hb
            have ss := hb.size
            clear hb
            by_cases hk0 : k = 0
            · have n9 : ¬ (0 : Int) < (k : Int) := by omega
              clear hk0
              have nl : (0 : Int) ≤ (k : Int) := by omega
              generalize hkk : (k : Int) = kk at *
              have HKK := Lib.hid hkk
              clear hkk
              go_wp2
              have nb : ¬ (0 : Int) < kk := by omega
              go_quiet (fail)
              go_wp2
              go_roundw
              case rel => exact ⟨k + 1, by rw [← HKK.out]; go_num, by omega, HB5.out.trans ((bdN' _ _).mono HB5.out.size)⟩
              case measure => have hk9 := HKK.out; simp [intOf]; omega
            · obtain ⟨k1, hk1⟩ : ∃ k1, k = k1 + 1 := ⟨k - 1, by omega⟩
              obtain ⟨gp, y, hgp, d2, hy⟩ := HRC.out k1 (by omega)
              obtain rfl := Option.some.inj hgp
              replace d2 := cell_next d2 HK5.out
              have hpr := HPR.out k1 (by omega)
              rw [← hk1, ← HROW.out] at hpr
              have hgp := good_nth HGD.out (show k1 < L.length by omega)
              have HY := Lib.hid hy
              obtain ⟨yo, yc, rfl, hym, _⟩ := hy.shape
              have HGP := Lib.hid hgp
              have n9 : (0 : Int) < (k : Int) := by omega
              have z1 : IntKind.i64.wrap ((k : Int) - 1) = (k1 : Int) := by rw [IntKind.wrap_i64]; omega
              have n10 : (k1 : Int) < L.length := by omega
              clear hy hgp hk1
              have nl : (0 : Int) ≤ (k : Int) := by omega
              generalize hkk : (k : Int) = kk at *
              have HKK := Lib.hid hkk
              clear hkk
              generalize nthL L k1 = prev at *
              obtain ⟨p1, p2⟩ := hpr
              have q1 : ¬ (row.length : Int) < (prev.length : Int) := by omega
              by_cases hleq : prev.length = row.length
              · obtain ⟨f1, f2⟩ := txt_less (p2 hleq)
                have q2 : ((row.length : Int) == (prev.length : Int)) = true := by rw [beq_iff_eq]; omega
                have l1 := Lib.hid (fun W (h : Below w1.heap.size w1 W) => least_txt row _ W (HX.out.next h) HG.out)
                have l2 := Lib.hid (fun W (h : Below w1.heap.size w1 W) => least_txt prev _ W (HY.out.next h) HGP.out)
                generalize txt row = A at *
                generalize txt prev = B at *
                clear hleq p1 p2
                have K5 := Lib.hid (HK5.out)
                go_wp2
                have nb : ¬ (row.length : Int) < (prev.length : Int) := by omega
                go_region_held3 (fun W => W.cell? (g.add k1) = some (.slice yo prev.length yc)) (first | go_keep | exact (by assumption))
                  (first
                    | (go_at_call 13; ((with_reducible refine (l1.out _ K5.out.drew).mono ?_); rintro e w8 ⟨rfl, h8⟩; go_must (have c8 := (bdN' wr 1).trans h8; have d8 := cell_next d2 c8; have C8 := Lib.hid c8; have B8 := Lib.hid (K5.out.trans (c8.mono K5.out.size)); clear h8 c8)))
                    | (go_at_call 13; ((with_reducible refine (l2.out _ B8.out).mono ?_); rintro e w9 ⟨rfl, h9⟩; go_must (have d9 := cell_next d8 h9; have C9 := Lib.hid (C8.out.trans (h9.mono C8.out.size)); clear h9)))
                    | fail)
                go_wp2
                go_roundw
                case rel => exact ⟨k + 1, by rw [← HKK.out]; go_num, by omega, HB5.out.trans (C9.out.mono HB5.out.size)⟩
                case measure => have hk9 := HKK.out; simp [intOf]; omega
              · have q2 : ((row.length : Int) == (prev.length : Int)) = false := by rw [beq_eq_false_iff_ne]; omega
                clear hleq p1 p2
                go_wp2
                have nb : ¬ (row.length : Int) < (prev.length : Int) := by omega
                go_quiet (fail)
                go_wp2
                go_roundw
                case rel => exact ⟨k + 1, by rw [← HKK.out]; go_num, by omega, HB5.out.trans ((bdN' _ _).mono HB5.out.size)⟩
                case measure => have hk9 := HKK.out; simp [intOf]; omega
      · obtain rfl : k = L.length := by omega
        have HB := Lib.hid (B3.out.trans (hb.mono B3.out.size))
        clear hb
        go_wp2_with (first
          | (go_at_call 5; (with_reducible refine (ca.out _ HB.out).mono ?_); rintro e w7 ⟨rfl, h7⟩; go_must (have B7 := Lib.hid (HB.out.trans (h7.mono HB.out.size)); clear h7))
          | fail)
        go_ret
        exact ⟨rfl, B7.out⟩
  · have n1 : (20 : Int) < (l.length : Int) := by omega
    go_enter Tryd.func4, Tryd.ntmps4
    go_wp2_with (first
      | (go_at_call 5; (with_reducible refine (ca.out _ (Below.refl _ _)).mono ?_); rintro e w7 ⟨rfl, h7⟩; go_must (have B7 := Lib.hid h7; clear h7))
      | fail)
    go_ret
    exact ⟨rfl, B7.out⟩

end Go.Proofs.YtoknfelheebidaaDoor.Bq

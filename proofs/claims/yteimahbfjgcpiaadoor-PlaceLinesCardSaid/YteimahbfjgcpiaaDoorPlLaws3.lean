/- The laws of place, walked: PlaceLines. -/
import Derived.Test.YteimahbfjgcpiaaDoorPlLaws2
import Derived.ChangeKeysEq
namespace Go.Proofs.YteimahbfjgcpiaaDoor.Pl
open Go.RowKit

theorem pair_of {l : List (Nat × Nat)} {k : Nat} (h : k < l.length) : l[k]? = some ((l.getD k (0, 0)).1, (l.getD k (0, 0)).2) := by
  rw [List.getElem?_eq_getElem h]; simp [List.getD, h]

theorem plain3 : Tryd.prog.plainKey 3 = true := by kernel_rfl
theorem cells3 : Tryd.prog.cellsOf 3 = 1 := by kernel_rfl
theorem run_eq1 (d : Nat) (x : Int) (w : World) : (Op.equalIn (d + 1) 3 (.int .i64 x) (.int .i64 x)).run Tryd.prog w = .ok true w := by
  simp [Op.equalIn, run_underlying Tryd.underlying3]
/-- two arrays of two that are one -/
theorem run_eq2 (a b : Int) (w : World) : (Op.equalIn 10000 22 (.agg #[.int .i64 a, .int .i64 b]) (.agg #[.int .i64 a, .int .i64 b])).run Tryd.prog w = .ok true w := by
  obtain ⟨i, hi⟩ := info_of_underlying (P := Tryd.prog) Tryd.underlying3
  have he : ∀ x : Int, (Op.equalIn 9999 3 (.int .i64 x) (.int .i64 x)).run Tryd.prog w = .ok true w := fun x => run_eq1 9998 x w
  have p0 : (part 3 #[.int .i64 a, .int .i64 b] 0).run Tryd.prog w = .ok (.int .i64 a) w := run_part_plain w plain3 rfl
  have p1 : (part 3 #[.int .i64 a, .int .i64 b] 1).run Tryd.prog w = .ok (.int .i64 b) w := run_part_plain w plain3 rfl
  rw [show (10000 : Nat) = 9999 + 1 from rfl, run_equalIn_array w 9999 _ _ Tryd.underlying22 hi, cells3, show List.range 2 = [0, 1] from rfl]
  simp [Op.eqItems, p0, p1, he]

set_option maxRecDepth 100000 in
set_option maxHeartbeats 2000000 in
theorem law_lines (s : ByteArray) (w : World) (hs : s.size ≤ maxLen) (hT : St w) :
    Calls Tryd.prog 4 #[.string s] w fun r w' => r = .returned (.bool true) ∧ Below w.heap.size w w' := by
  have g0 := Gr.start hT
  have HA := Lib.hid (fun W (g : Gr w W) => alive_g (w0 := w) W g)
  clear hT
  by_cases hm : 1000 < s.size
  · unfold maxLen at hs
    go_enter Tryd.func4, Tryd.ntmps4
    go_wp2_with (go_at_call 6; refine (HA.out _ (by assumption)).mono ?_; rintro e w' ⟨rfl, g1⟩)
    go_ret
    exact ⟨rfl, g1.b⟩
  · have hs2 : s.size ≤ 1000000 := by omega
    have L1 := Lib.hid (fun W => lines_any s hs2 W)
    have L2 := Lib.hid (fun W => rlines_any s hs2 W)
    have hp := lines_pos s.data.toList
    rw [len_size] at hp
    have hat := fun k h => lines_at (l := s.data.toList) (k := k) (pair_of h)
    have hst : ∀ k, (h : k < (linesL s.data.toList).length) → upTo s.data.toList (k + 1) = (if k = 0 then [] else upTo s.data.toList k ++ [10]) ++ (s.data.toList.take ((linesL s.data.toList).getD k (0, 0)).2).drop ((linesL s.data.toList).getD k (0, 0)).1 := fun k h => by
      cases k with
      | zero => rw [upTo_first (pair_of h)]; rfl
      | succ k => rw [upTo_next (pair_of h), if_neg (by omega)]
    have hall := upTo_all s.data.toList
    have hlen : ∀ k, (upTo s.data.toList k).length ≤ s.size := fun k => by
      cases k with
      | zero => simp [upTo]
      | succ k => rw [upTo_succ, List.length_take, len_size]; omega
    have hz : upTo s.data.toList 0 = [] := rfl
    generalize upTo s.data.toList = U at *
    generalize linesL s.data.toList = l at *
    have HT := Lib.hid hat
    have HS := Lib.hid hst
    have HU := Lib.hid hall
    have HZ := Lib.hid hz
    have HL := Lib.hid hlen
    clear hat hst hall hlen hz
    unfold maxLen at hs
    go_enter Tryd.func4, Tryd.ntmps4
    go_wp2_with (first
      | (go_at_call 11; refine (L1.out _).mono ?_; rintro e w1 ⟨x, rfl, px, b1⟩)
      | (go_at_call 12; refine (L2.out _).mono ?_; rintro e w2 ⟨y, rfl, py, b2⟩; have g2 := (g0.on b1).on b2; obtain ⟨ao, cap, rfl, hxm, hxc⟩ := (px.next b2).shape; obtain ⟨bo, cap2, rfl, hym, hyc⟩ := py.shape; have HX := Lib.hid hxc; have HY := Lib.hid hyc; clear hxc hyc px py))
    go_loopw [5, 22] (fun x i wr => ∃ (k : Nat) (t : ByteArray), k ≤ l.length ∧ t.data.toList = U k ∧ x = .string t ∧ i = .int .i64 k ∧ Gr w wr ∧ Below w2.heap.size w2 wr) (fun _ i _ => l.length - (intOf i).toNat)
    case atStart => exact ⟨0, ⟨#[]⟩, by omega, HZ.out.symm, rfl, rfl, g2, Below.refl _ _⟩
    case round =>
      obtain ⟨k, t, hk, ht, rfl, rfl, gr, hbr⟩ := hrel
      by_cases hlt : k < l.length
      · obtain ⟨ad, rfl, ca1, ca2⟩ := HX.out k hlt
        obtain ⟨bd, rfl, cb1, cb2⟩ := HY.out k hlt
        replace ca1 := cell_next ca1 hbr
        replace ca2 := cell_next ca2 hbr
        replace cb1 := cell_next cb1 hbr
        replace cb2 := cell_next cb2 hbr
        have hst := HS.out k hlt
        have hat := HT.out k hlt
        have htl : t.size ≤ s.size := by
          have := HL.out k
          rw [← ht, len_size] at this
          exact this
        generalize (l.getD k (0, 0)).1 = a at *
        generalize (l.getD k (0, 0)).2 = b at *
        obtain ⟨hab, hbl, _⟩ := hat
        rw [len_size] at hbl
        have i1 : (a : Int) ≤ b := by omega
        have i2 : (b : Int) ≤ s.size := by omega
        have hex : (s.extract a b).data.toList = (s.data.toList.take b).drop a := by rw [Lib.extract_eq, List.drop_take]
        have hes : (s.extract a b).size = b - a := by rw [ByteArray.size_extract]; omega
        have HS' := Lib.hid hst
        have HT' := Lib.hid ht
        have HE := Lib.hid hex
        have HES := Lib.hid hes
        clear hst ht hex hes hm
        have h0i : (0 : Int) ≤ k := by omega
        have heq := run_eq2 (a : Int) (b : Int)
        by_cases h0 : k = 0
        · have d0 : decide (0 < k) = false := by simp; omega
          have H0 := Lib.hid h0
          clear h0
          go_wp2
          go_region
          go_wp2
          go_region
          go_wp2
          go_roundw
          case rel => exact ⟨k + 1, t ++ s.extract a b, by omega, by rw [HS'.out, if_pos H0.out, ByteArray.data_append, Array.toList_append, HE.out, HT'.out, H0.out, HZ.out], rfl, by go_num, (gr.on (Below.refl _ wr).drew).on (Below.refl _ wr.drew).drew, hbr.drew.drew⟩
          case measure => simp [intOf]; omega
        · have d0 : decide (0 < k) = true := by simp; omega
          have H0 := Lib.hid h0
          clear h0
          go_wp2
          go_region
          go_wp2
          go_region
          go_wp2
          go_roundw
          case rel => exact ⟨k + 1, t ++ ⟨#[10]⟩ ++ s.extract a b, by omega, by rw [HS'.out, if_neg H0.out, ByteArray.data_append, Array.toList_append, HE.out, ByteArray.data_append, Array.toList_append, HT'.out], rfl, by go_num, (gr.on (Below.refl _ wr).drew).on (Below.refl _ wr.drew).drew, hbr.drew.drew⟩
          case measure => simp [intOf]; omega
      · obtain rfl : k = l.length := by omega
        rw [HU.out] at ht
        obtain rfl : t = s := by apply ByteArray.ext; exact Array.toList_inj.1 ht
        clear ht
        go_wp2_with (go_at_call 6; refine (HA.out _ (by assumption)).mono ?_; rintro e w3 ⟨rfl, g3⟩)
        go_ret
        exact ⟨rfl, g3.b⟩

end Go.Proofs.YteimahbfjgcpiaaDoor.Pl

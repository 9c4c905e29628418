/- The least text that matches a row. -/
import Derived.Test.YtoknfelheebidaaDoorBqCnt
import Derived.Test.YtoknfelheebidaaDoorUtSc
namespace Go.Proofs.YtoknfelheebidaaDoor.Bq
open Go Go.RowKit Go.Shelf Go.Proofs.YtoknfelheebidaaDoor.Ut Go.Proofs.YtoknfelheebidaaDoor.Rg

def lows (row : List R) : List UInt8 := row.map fun r => UInt8.ofNat r.1.toNat
theorem lows_take {row : List R} {k : Nat} (h : k < row.length) : lows (row.take (k + 1)) = lows (row.take k) ++ [UInt8.ofNat (Rg.nth row k).1.toNat] := by
  rw [List.take_succ_eq_append_getElem h, nth_eq h]; unfold lows; rw [List.map_append]; rfl
theorem lows_len (row : List R) : (lows row).length = row.length := by simp [lows]
theorem zip_fst : ∀ {a b : List Int}, a.length = b.length → (a.zip b).map Prod.fst = a
  | [], _, _ => by simp
  | _ :: _, [], h => by simp at h
  | x :: s, y :: t, h => by simp [zip_fst (a := s) (b := t) (by simpa using h)]
theorem Cell.lows {p : R} (h : Cell p) : lows (rowL p) = putL p.1 := by
  have e : (rowL p).map Prod.fst = ints (putL p.1) := by
    refine zip_fst ?_
    rw [ints_len, ints_len, putL_len h.span h.le, putL_len (h.span.sub h.le (Int.le_refl _)) (Int.le_refl _), wid_eq h.span h.le (Int.le_refl _)]
  have e2 : Bq.lows (rowL p) = ((rowL p).map Prod.fst).map fun x => UInt8.ofNat x.toNat := by simp [Bq.lows]
  rw [e2, e]
  unfold ints
  rw [List.map_map]
  conv => rhs; rw [← List.map_id (putL p.1)]
  apply List.map_congr_left
  intro b _
  simp
theorem run_byte (w : World) (x : Int) (h0 : 0 ≤ x) (h1 : x ≤ 255) :
    (convert 45 9 (.slice (some ⟨w.heap.size, 0, none⟩) 1 1)).run Tryd.prog (w.alloc (.cells #[.int .u8 x] 5)) = .ok (.string ⟨[UInt8.ofNat x.toNat].toArray⟩) (w.alloc (.cells #[.int .u8 x] 5)) := by
  refine run_convert_bytes_back _ _ _ 5 _ 1 [UInt8.ofNat x.toNat] Tryd.underlying45 Tryd.underlying5 Tryd.underlying9 fun j hj => ?_
  obtain rfl : j = 0 := by simpa using hj
  show (w.alloc _).cell? ⟨w.heap.size, 0, none⟩ = _
  rw [World.cell?_alloc_new]
  simp
  omega

def LeastRel (row : List R) (w : World) (s i : Value) (wr : World) : Prop :=
  ∃ (k : Nat) (t : ByteArray), i = .int .i64 k ∧ s = .string t ∧ k ≤ row.length ∧ t.data.toList = lows (row.take k) ∧ Below w.heap.size w wr
set_option maxHeartbeats 1000000 in
theorem least_any (row : List R) (v : Value) (w : World) (hv : RngsAt w v row) (hg : Good row) :
    Calls Tryd.prog 13 #[v] w fun e w' => ∃ t : ByteArray, e = .returned (.string t) ∧ t.data.toList = lows row ∧ Below w.heap.size w w' := by
  obtain ⟨ao, cap, rfl, hm, hcs⟩ := hv.shape
  have HC := Lib.hid hcs
  have HG := Lib.hid hg
  have hlen := hg.len.2
  clear hcs hv hg
  go_enter Tryd.func13, Tryd.ntmps13
  go_wp2
  go_loopw [3, 4] (fun s i wr => LeastRel row w s i wr) (fun _ i _ => row.length - (intOf i).toNat)
  case atStart => exact ⟨0, ⟨#[]⟩, rfl, rfl, Nat.zero_le _, rfl, Below.refl _ _⟩
  case round =>
    obtain ⟨k, t, rfl, rfl, hk, ht, hb⟩ := hrel
    by_cases hlt : k < row.length
    · obtain ⟨g, rfl, c1, c2⟩ := HC.out k hlt
      replace c1 := cell_next c1 hb
      obtain ⟨b0, b1, b2⟩ := good_at HG.out hlt
      have b3 : (Rg.nth row k).1 ≤ 255 := by omega
      have hcv := run_byte wr (Rg.nth row k).1 b0 b3
      have hz : t.size ≤ 4 := by
        rw [Lib.size_eq t, ht, lows_len, List.length_take]; omega
      have hz2 : (t.size : Int) ≤ 4 := by omega
      have HT := Lib.hid (show ∀ u : ByteArray, u.data.toList = [UInt8.ofNat (Rg.nth row k).1.toNat] → (t ++ u).data.toList = lows (row.take (k + 1)) from fun u hu => by rw [lows_take hlt, ← ht, ← hu]; simp)
      have HB := Lib.hid (hb.alloc hb.size (.cells #[.int .u8 (Rg.nth row k).1] 5))
      have n1 : (k : Int) < row.length := by omega
      clear ht hb c2
      generalize (Rg.nth row k).1 = x at *
      go_wp2
      go_roundw
      case rel => exact ⟨k + 1, _, by go_num, rfl, hlt, HT.out _ rfl, HB.out⟩
      case measure => simp [intOf]; omega
    · obtain rfl : k = row.length := by omega
      rw [List.take_length] at ht
      have HT := Lib.hid ht
      clear ht
      go_wp2
      go_ret
      exact ⟨t, rfl, HT.out, hb⟩

end Go.Proofs.YtoknfelheebidaaDoor.Bq

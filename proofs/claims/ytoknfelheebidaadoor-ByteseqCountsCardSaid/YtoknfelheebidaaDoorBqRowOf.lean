/- The row of a part. -/
import Derived.Test.YtoknfelheebidaaDoorBqCut
import Derived.Test.YtoknfelheebidaaDoorUtJoin
import Derived.Test.YtoknfelheebidaaDoorRgStep
import Derived.Deep.RegionHeld3
namespace Go.Proofs.YtoknfelheebidaaDoor.Bq
open Go Go.RowKit Go.Shelf Go.Proofs.YtoknfelheebidaaDoor.Ut Go.Proofs.YtoknfelheebidaaDoor.Rg

/-- two texts, byte by byte -/
def rowAB (a b : ByteArray) : List R := (ints a.data.toList).zip (ints b.data.toList)
theorem rowAB_len {a b : ByteArray} (h : a.size = b.size) : (rowAB a b).length = a.size := by
  simp [rowAB, ints]; omega
theorem rowAB_take {a b : ByteArray} {k : Nat} (ha : k < a.size) (hb : k < b.size) : (rowAB a b).take (k + 1) = (rowAB a b).take k ++ [((a[k].toNat : Int), (b[k].toNat : Int))] := by
  have h1 : k < (rowAB a b).length := by simp [rowAB, ints]; omega
  rw [List.take_succ_eq_append_getElem h1]
  congr 2
  simp [rowAB, ints]
  exact ⟨rfl, rfl⟩
theorem one_rngs (W : World) (x y : Int) (t : TypeId) : RngsAt (W.alloc (.cells #[.int .i64 x, .int .i64 y] t)) (.slice (some ⟨W.heap.size, 0, none⟩) 1 1) [(x, y)] := by
  refine .inr ⟨_, 1, rfl, by unfold maxLen; simp, fun i hi => ?_⟩
  obtain rfl : i = 0 := by simpa using hi
  show (W.alloc _).cell? ⟨W.heap.size, 0, none⟩ = _ ∧ (W.alloc _).cell? ⟨W.heap.size, 0 + 1, none⟩ = _
  rw [World.cell?_alloc_new, World.cell?_alloc_new]
  exact ⟨rfl, rfl⟩
def RowRel (X : List R) (w : World) (s i : Value) (wr : World) : Prop :=
  ∃ k : Nat, i = .int .i64 k ∧ k ≤ X.length ∧ wr.ownsRow w.heap.size 35 2 s (X.take k).length (flatR (X.take k)) ∧ Below w.heap.size w wr

set_option maxRecDepth 100000 in
set_option maxHeartbeats 4000000 in
theorem rowOf_any (lo hi : Int) (w : World) (hs : Span lo hi) (hl : lo ≤ hi) :
    Calls Tryd.prog 17 #[.agg #[.int .i64 lo, .int .i64 hi]] w fun e w' => ∃ v, e = .returned v ∧ w'.ownsRow w.heap.size 35 2 v (rowL (lo, hi)).length (flatR (rowL (lo, hi))) ∧ Below w.heap.size w w' := by
  have c1 := Lib.hid (fun w => put_any lo w)
  have c2 := Lib.hid (fun w => put_any hi w)
  obtain ⟨a, ha⟩ : ∃ a : ByteArray, a = ⟨(putL lo).toArray⟩ := ⟨_, rfl⟩
  obtain ⟨b, hb⟩ : ∃ b : ByteArray, b = ⟨(putL hi).toArray⟩ := ⟨_, rfl⟩
  rw [← ha] at c1
  rw [← hb] at c2
  have hrow : rowL (lo, hi) = rowAB a b := by rw [ha, hb]; simp [rowL, rowAB]
  have e1 : a.size = b.size := by
    have h1 := putL_len hs hl
    have h2 := putL_len (hs.sub hl (Int.le_refl hi)) (Int.le_refl hi)
    have h3 := wid_eq hs hl (Int.le_refl hi)
    rw [ha, hb]; show (putL lo).toArray.size = (putL hi).toArray.size; simp; omega
  have e2 : a.size ≤ 4 := by
    have h1 := putL_len hs hl
    have h2 : wid lo ≤ 4 := by unfold wid; repeat' split
                               all_goals omega
    rw [ha]; show (putL lo).toArray.size ≤ 4; simp; omega
  rw [hrow]
  have XL := Lib.hid (rowAB_len e1)
  have XT := Lib.hid (fun k (h : k < a.size) (h2 : k < b.size) => rowAB_take h h2)
  have E1 := Lib.hid e1
  generalize rowAB a b = X at *
  clear ha hb hrow e1 hs hl
  go_enter Tryd.func17, Tryd.ntmps17
  go_wp2
  go_region_held3 (fun W => W.cell? ⟨w.heap.size, 0, none⟩ = some (.int .i64 lo) ∧ W.cell? ⟨w.heap.size, 1, none⟩ = some (.int .i64 hi)) (first | go_keep | exact ⟨by assumption, by assumption⟩)
    (first
      | (go_at_call 27; ((with_reducible refine (c1.out _).mono ?_); rintro e w2 ⟨rfl, h2⟩; go_must (have p0 := cell_next (a := ⟨w.heap.size, 0, none⟩) (v := .int .i64 lo) (by simp) h2; have p1 := cell_next (a := ⟨w.heap.size, 1, none⟩) (v := .int .i64 hi) (by simp) h2; have B2 := Lib.hid (((Below.refl w.heap.size w).alloc (Nat.le_refl _) _).trans ((bdN _ 1).trans h2 |>.mono (by simp))); clear h2)))
      | (go_at_call 27; ((with_reducible refine (c2.out _).mono ?_); rintro e w3 ⟨rfl, h3⟩; go_must (have p2 := cell_next p0 h3; have p3 := cell_next p1 h3; have B3 := Lib.hid (B2.out.trans (h3.mono B2.out.size)); clear h3)))
      | fail)
  go_wp2
  go_loopw [3, 15] (fun s i wr => RowRel X w s i wr) (fun _ i _ => X.length - (intOf i).toNat)
  case atStart => exact ⟨0, rfl, Nat.zero_le _, World.ownsRow_nil _ _ _ _, B3.out⟩
  case round =>
    obtain ⟨k, rfl, hk, hrow, hbw⟩ := hrel
    have hsz := hbw.size
    have HROW := Lib.hid hrow
    have HBW := Lib.hid hbw
    have xl := XL.out
    clear hrow hbw
    by_cases hlt : k < a.size
    · have hlt2 : k < b.size := by have := E1.out; omega
      have n1 : (k : Int) < a.size := by omega
      have n2 : (k : Int) < b.size := by omega
      have XK := Lib.hid (XT.out k hlt hlt2)
      have z1 : IntKind.i64.wrap (a[k].toNat : Int) = (a[k].toNat : Int) := by have := a[k].toNat_lt; rw [IntKind.wrap_i64]; omega
      have z2 : IntKind.i64.wrap (b[k].toNat : Int) = (b[k].toNat : Int) := by have := b[k].toNat_lt; rw [IntKind.wrap_i64]; omega
      have ln : (X.take k).length ≤ 4 := by rw [List.length_take]; omega
      have LN := Lib.hid ln
      clear ln
      go_wp2
      go_region_held3 (fun W => wr.heap.size ≤ W.heap.size) (first | go_keep | (simp; done) | (simp; omega))
        (first
          | ((refine step_app rfl (.tmp 18) (.tmp 28) (by rfl) w.heap.size u3 (X.take k).length (flatR (X.take k)) (by rfl) (rowR_next HROW.out (((Below.refl wr.heap.size wr).alloc (Nat.le_refl _) _).drew)) (.slice (some ⟨wr.heap.size, 0, none⟩) 1 1) [((a[k].toNat : Int), (b[k].toNat : Int))] (by rfl) ((one_rngs _ _ _ _).next (Below.refl _ _).drew) (by have := LN.out; simp; omega) (by simp; omega) ?_); intro v4 w4 hown hg hat; go_must (have R4 := Lib.hid (app_row (r := ((a[k].toNat : Int), (b[k].toNat : Int))) hown hg (rowR_next HROW.out (((Below.refl wr.heap.size wr).alloc (Nat.le_refl _) _).drew)) (HBW.out.trans (((Below.refl wr.heap.size wr).alloc (Nat.le_refl _) _).drew.mono hsz)) (by simp; omega)); have g4 : wr.heap.size ≤ w4.heap.size := Nat.le_trans (by simp) hg.size; clear hown hg hat))
          | fail)
      all_goals (
        go_wp2
        go_roundw
        case rel => exact ⟨k + 1, by go_num, by omega, by rw [XK.out]; exact R4.out.1, R4.out.2⟩
        case measure => simp [intOf]; omega)
    · obtain rfl : k = a.size := by omega
      have hrow := HROW.out
      rw [List.take_of_length_le (by omega)] at hrow
      have HR := Lib.hid hrow
      clear hrow
      go_wp2
      go_ret
      exact ⟨_, rfl, HR.out, HBW.out⟩

end Go.Proofs.YtoknfelheebidaaDoor.Bq

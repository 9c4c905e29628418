/- Tables of places in memory: the document's plus. Tables of places in memory: the document's times. Tables of places in memory: the document's rep. From where to where each node of a tree has what stands between: the document's Spans. -/
import Derived.Test.YtjmdlioakkibcaaGreatDoorPk22
import Derived.StillTailTactics
import Derived.BigQuiet
import Derived.Test.YtjmdlioakkibcaaGreatDoorPk12
import Derived.Test.YtjmdlioakkibcaaGreatDoorPk01

namespace Go.Proofs.YtjmdlioakkibcaaGreatDoor.Dv
open Go Go.RowKit Go.Shelf
open Go.Proofs.YtjmdlioakkibcaaGreatDoor.Rg (add_zero own_next)

theorem drewB (w : World) : Below w.heap.size w w.drew := ⟨rfl, rfl, rfl, Nat.le_refl _, fun _ _ => rfl⟩
def plusTo (f g : Mx) (i k : Nat) : Mx := fun x y => if x < i ∨ (x = i ∧ y < k) then f x y || g x y else false
theorem plus_start (f g : Mx) : plusTo f g 0 0 = fun _ _ => false := by
  funext x y
  unfold plusTo
  rw [if_neg (by omega)]
theorem plus_step (f g : Mx) (i k : Nat) : upd (plusTo f g i k) i k (f i k || g i k) = plusTo f g i (k + 1) := by
  funext x y
  unfold upd plusTo
  by_cases h : x = i ∧ y = k
  · rw [if_pos h, if_pos (by omega)]
    rw [h.1, h.2]
  · rw [if_neg h]
    by_cases h2 : x < i ∨ x = i ∧ y < k
    · rw [if_pos h2, if_pos (by omega)]
    · rw [if_neg h2, if_neg (by omega)]
theorem plus_row (f g : Mx) (i n : Nat) : Eqm n (plusTo f g i n) (plusTo f g (i + 1) 0) := fun x y _ hy => by
  unfold plusTo
  by_cases h2 : x < i ∨ x = i ∧ y < n
  · rw [if_pos h2, if_pos (by omega)]
  · rw [if_neg h2, if_neg (by omega)]
theorem plus_end (f g : Mx) (n : Nat) : Eqm n (plusTo f g n 0) (fun i m => f i m || g i m) := fun x y hx _ => by
  unfold plusTo
  rw [if_pos (by omega)]

set_option maxRecDepth 100000 in
set_option maxHeartbeats 8000000 in
theorem plus_any (n : Nat) (f g : Mx) (va vb : Value) (w : World) (hn : n ≤ 100000) (h0 : 0 < n) (hA : TabAt w 0 va n f) (hB : TabAt w 0 vb n g) :
    Calls Tryz.prog 29 #[va, vb] w fun e w' => ∃ v, e = .returned v ∧ TabAt w' w.heap.size v n (fun i m => f i m || g i m) ∧ Below w.heap.size w w' := by
  obtain ⟨ga, ca, rfl, hca, hca2, _, _, _⟩ := hA.at' h0
  obtain ⟨gb, cb, rfl, hcb, hcb2, _, _, _⟩ := hB.at' h0
  have HA := Lib.hid hA
  have HB := Lib.hid hB
  obtain ⟨n0, rfl⟩ : ∃ n0, n = n0 + 1 := ⟨n - 1, by omega⟩
  have BL := Lib.hid (blank_any n0 false w (by omega))
  have hm : n0 + 1 ≤ 9223372036854775807 := by omega
  clear hA hB
  go_enter Tryz.func29, Tryz.ntmps29
  go_wp2_with (first
    | (go_at_call 26; ((with_reducible refine BL.out.mono ?_); rintro e w1 ⟨vo, rfl, ho, hb⟩); go_must (have HO := Lib.hid ho; have HBB := Lib.hid hb; clear ho hb))
    | fail)
  clear BL
  go_loopw [6] (fun i wr => ∃ k : Nat, i = .int .i64 k ∧ k ≤ n0 + 1 ∧ TabAt wr w.heap.size vo (n0 + 1) (plusTo f g k 0) ∧ Below w.heap.size w wr) (fun i _ => n0 + 1 - (intOf i).toNat)
  case atStart => exact ⟨0, rfl, by omega, by rw [plus_start]; exact HO.out, HBB.out⟩
  case round =>
    clear HO HBB
    obtain ⟨k, rfl, hk, ht, hb⟩ := hrel
    have HT := Lib.hid ht
    have HW := Lib.hid hb
    clear ht hb
    generalize wr = w2 at *
    by_cases hlt : k < n0 + 1
    · have n1 : (k : Int) < (n0 : Int) + 1 := by omega
      go_wp2
      go_loopw [7] (fun j wr => ∃ m : Nat, j = .int .i64 m ∧ m ≤ n0 + 1 ∧ TabAt wr w.heap.size vo (n0 + 1) (plusTo f g k m) ∧ Below w.heap.size w wr) (fun j _ => n0 + 1 - (intOf j).toNat)
      case atStart => exact ⟨0, rfl, by omega, HT.out, HW.out⟩
      case round =>
        clear HT HW
        obtain ⟨m, rfl, hm2, ht, hb⟩ := hrel
        have HT := Lib.hid ht
        have HW := Lib.hid hb
        by_cases hlm : m < n0 + 1
        · have n2 : (m : Int) < (n0 : Int) + 1 := by omega
          obtain ⟨go, co, rfl, hco, hco2, _, _, hro⟩ := ht.at' (by omega)
          obtain ⟨ro, cr, ds, o1, o2, o3, o4, o5⟩ := hro k hlt
          obtain ⟨_, _, ea, _, _, _, _, hra⟩ := (HA.out.next hb).at' (by omega)
          obtain ⟨_, _, eb, _, _, _, _, hrb⟩ := (HB.out.next hb).at' (by omega)
          simp only [Value.slice.injEq, Option.some.injEq, Addr.mk.injEq] at ea eb
          obtain ⟨⟨rfl, _⟩, _, rfl⟩ := ea
          obtain ⟨⟨rfl, _⟩, _, rfl⟩ := eb
          obtain ⟨ra, cra, _, a1, _, _, _, a5⟩ := hra k hlt
          obtain ⟨rb, crb, _, b1, _, _, _, b5⟩ := hrb k hlt
          replace a5 := a5 m hlm
          replace b5 := b5 m hlm
          obtain ⟨z1, z2, z3⟩ := (ht.next (drewB wr)).set rfl hlt (show wr.drew.cell? ⟨go, k, none⟩ = _ from o1) (show wr.drew.heap[ro]? = _ from o4) hlm (f k m || g k m)
          rw [plus_step] at z2
          replace z3 := (hb.trans ((drewB wr).mono hb.size)).trans z3
          have y0 : wr.drew.cell? ⟨ro, m, none⟩ = some (.bool (plusTo f g k m k m)) := o5 m hlm
          clear ht hb hro hra hrb o4 o5
          cases hf : f k m
          · rw [hf] at a5
            rw [hf, Bool.false_or] at z2 z3
            have Z2 := Lib.hid z2
            have Z3 := Lib.hid z3
            clear z2 z3 hf
            go_wp2
            refine wp_region_still_tail 22 (by kernel_rfl) (by kernel_rfl) ?_
            simp only [List.take_succ_cons, List.take_zero, List.drop_succ_cons, List.drop_zero]
            iterate 22 (with_reducible refine wpStill_step (fun K hK => ?_); go_simp; with_reducible refine hK _ ?_; clear hK K)
            with_reducible refine wpStill_nil ?_
            change wpList _ _ _ _ _ wr.drew
            generalize wr.drew = w3 at *
            go_wp2
            go_roundw
            case rel => exact ⟨m + 1, by go_num, by omega, Z2.out, Z3.out⟩
            case measure => simp [intOf]; omega
          · rw [hf] at a5
            rw [hf, Bool.true_or] at z2 z3
            have Z2 := Lib.hid z2
            have Z3 := Lib.hid z3
            clear z2 z3 hf
            go_wp2
            refine wp_region_still_tail 22 (by kernel_rfl) (by kernel_rfl) ?_
            simp only [List.take_succ_cons, List.take_zero, List.drop_succ_cons, List.drop_zero]
            iterate 22 (with_reducible refine wpStill_step (fun K hK => ?_); go_simp; with_reducible refine hK _ ?_; clear hK K)
            with_reducible refine wpStill_nil ?_
            change wpList _ _ _ _ _ wr.drew
            generalize wr.drew = w3 at *
            go_wp2
            go_roundw
            case rel => exact ⟨m + 1, by go_num, by omega, Z2.out, Z3.out⟩
            case measure => simp [intOf]; omega
        · obtain rfl : m = n0 + 1 := by omega
          have Z2 := Lib.hid (ht.congr (plus_row f g k (n0 + 1)))
          clear ht hb
          go_wp2
          go_roundw
          case rel => exact ⟨k + 1, by go_num, by omega, Z2.out, HW.out⟩
          case measure => simp [intOf]; omega
    · obtain rfl : k = n0 + 1 := by omega
      go_wp2
      go_ret
      exact ⟨_, rfl, HT.out.congr (plus_end f g (n0 + 1)), HW.out⟩
end Go.Proofs.YtjmdlioakkibcaaGreatDoor.Dv

namespace Go.Proofs.YtjmdlioakkibcaaGreatDoor.Dv
open Go Go.RowKit Go.Shelf
open Go.Proofs.YtjmdlioakkibcaaGreatDoor.Rg (add_zero own_next)

open Classical in
noncomputable def timesTo (n : Nat) (f g : Mx) (i k m : Nat) : Mx := fun x y => decide ((x < i ∧ mulM n f g x y = true) ∨ (x = i ∧ ∃ q, i ≤ q ∧ q ≤ y ∧ y < n ∧ f i q = true ∧ g q y = true ∧ (q < k ∨ (q = k ∧ y < m))))
theorem to_iff {n : Nat} {f g : Mx} {i k m x y : Nat} : timesTo n f g i k m x y = true ↔ (x < i ∧ mulM n f g x y = true) ∨ (x = i ∧ ∃ q, i ≤ q ∧ q ≤ y ∧ y < n ∧ f i q = true ∧ g q y = true ∧ (q < k ∨ (q = k ∧ y < m))) := by simp [timesTo]
theorem to_start (n : Nat) (f g : Mx) : Eqm n (fun _ _ => false) (timesTo n f g 0 0 0) := fun x y _ _ => by
  rw [Bool.eq_iff_iff, to_iff]
  exact ⟨fun h => (by cases h), fun h => (by rcases h with ⟨h, _⟩ | ⟨_, q, _, _, _, _, _, h | ⟨_, h⟩⟩ <;> omega)⟩
theorem to_row (n : Nat) (f g : Mx) (i : Nat) : Eqm n (timesTo n f g i 0 0) (timesTo n f g i i 0) := fun x y _ _ => by
  rw [Bool.eq_iff_iff, to_iff, to_iff]
  refine or_congr_right (and_congr_right fun _ => exists_congr fun q => and_congr_right fun h => ?_)
  refine and_congr_right fun _ => and_congr_right fun _ => and_congr_right fun _ => and_congr_right fun _ => ?_
  omega
theorem to_in (n : Nat) (f g : Mx) (i k : Nat) : Eqm n (timesTo n f g i k 0) (timesTo n f g i k k) := fun x y _ _ => by
  rw [Bool.eq_iff_iff, to_iff, to_iff]
  refine or_congr_right (and_congr_right fun _ => exists_congr fun q => and_congr_right fun h => ?_)
  refine and_congr_right fun _ => and_congr_right fun _ => and_congr_right fun _ => and_congr_right fun _ => ?_
  omega
theorem to_step (n : Nat) (f g : Mx) {i k m : Nat} (h1 : i ≤ k) (h2 : k ≤ m) (h3 : m < n) (h4 : f i k = true) : Eqm n (upd (timesTo n f g i k m) i m (timesTo n f g i k m i m || g k m)) (timesTo n f g i k (m + 1)) := fun x y _ _ => by
  unfold upd
  by_cases h : x = i ∧ y = m
  · obtain ⟨rfl, rfl⟩ := h
    rw [if_pos ⟨rfl, rfl⟩, Bool.eq_iff_iff, Bool.or_eq_true, to_iff, to_iff]
    constructor
    · rintro ((⟨h, _⟩ | ⟨_, q, a1, a2, a3, a4, a5, a6⟩) | h)
      · omega
      · exact .inr ⟨rfl, q, a1, a2, a3, a4, a5, by omega⟩
      · exact .inr ⟨rfl, k, h1, h2, h3, h4, h, by omega⟩
    · rintro (⟨h, _⟩ | ⟨_, q, a1, a2, a3, a4, a5, a6⟩)
      · omega
      · rcases Nat.lt_or_ge q k with hq | hq
        · exact .inl (.inr ⟨rfl, q, a1, a2, a3, a4, a5, by omega⟩)
        · obtain rfl : q = k := by omega
          exact .inr a5
  · rw [if_neg h, Bool.eq_iff_iff, to_iff, to_iff]
    constructor
    · rintro (h | ⟨e, q, a1, a2, a3, a4, a5, a6⟩)
      · exact .inl h
      · exact .inr ⟨e, q, a1, a2, a3, a4, a5, by omega⟩
    · rintro (h | ⟨e, q, a1, a2, a3, a4, a5, a6⟩)
      · exact .inl h
      · refine .inr ⟨e, q, a1, a2, a3, a4, a5, ?_⟩
        rcases a6 with a6 | ⟨a6, a7⟩
        · exact .inl a6
        · refine .inr ⟨a6, ?_⟩
          have : y ≠ m := fun e' => h ⟨e, e'⟩
          omega
theorem to_next (n : Nat) (f g : Mx) (i k : Nat) : Eqm n (timesTo n f g i k n) (timesTo n f g i (k + 1) 0) := fun x y _ _ => by
  rw [Bool.eq_iff_iff, to_iff, to_iff]
  refine or_congr_right (and_congr_right fun _ => exists_congr fun q => and_congr_right fun h => ?_)
  refine and_congr_right fun _ => and_congr_right fun _ => and_congr_right fun _ => and_congr_right fun _ => ?_
  omega
theorem to_pass (n : Nat) (f g : Mx) {i k : Nat} (m : Nat) (h : f i k = false) : Eqm n (timesTo n f g i k m) (timesTo n f g i (k + 1) 0) := fun x y _ _ => by
  rw [Bool.eq_iff_iff, to_iff, to_iff]
  refine or_congr_right (and_congr_right fun _ => exists_congr fun q => and_congr_right fun _ => ?_)
  refine and_congr_right fun _ => and_congr_right fun _ => and_congr_right fun h4 => and_congr_right fun _ => ?_
  have : q ≠ k := fun e => by rw [e, h] at h4; cases h4
  omega
theorem to_out (n : Nat) (f g : Mx) (i : Nat) : Eqm n (timesTo n f g i n 0) (timesTo n f g (i + 1) 0 0) := fun x y _ hy => by
  rw [Bool.eq_iff_iff, to_iff, to_iff]
  constructor
  · rintro (⟨h1, h2⟩ | ⟨rfl, q, a1, a2, a3, a4, a5, a6⟩)
    · exact .inl ⟨by omega, h2⟩
    · exact .inl ⟨by omega, mul_iff.2 ⟨q, a1, a2, a3, a4, a5⟩⟩
  · rintro (⟨h1, h2⟩ | ⟨e, q, a1, a2, a3, a4, a5, a6⟩)
    · rcases Nat.lt_or_ge x i with hx | hx
      · exact .inl ⟨hx, h2⟩
      · obtain rfl : x = i := by omega
        obtain ⟨q, a1, a2, a3, a4, a5⟩ := mul_iff.1 h2
        exact .inr ⟨rfl, q, a1, a2, a3, a4, a5, by omega⟩
    · omega
theorem to_end (n : Nat) (f g : Mx) : Eqm n (timesTo n f g n 0 0) (mulM n f g) := fun x y hx _ => by
  rw [Bool.eq_iff_iff, to_iff]
  exact ⟨fun h => (by rcases h with h | ⟨e, _⟩; exact h.2; omega), fun h => .inl ⟨hx, h⟩⟩

set_option maxRecDepth 100000 in
set_option maxHeartbeats 8000000 in
theorem times_any (n : Nat) (f g : Mx) (va vb : Value) (w : World) (hn : n ≤ 100000) (h0 : 0 < n) (hA : TabAt w 0 va n f) (hB : TabAt w 0 vb n g) :
    Calls Tryz.prog 28 #[va, vb] w fun e w' => ∃ v, e = .returned v ∧ TabAt w' w.heap.size v n (mulM n f g) ∧ Below w.heap.size w w' := by
  obtain ⟨ga, ca, rfl, hca, hca2, _, _, _⟩ := hA.at' h0
  obtain ⟨gb, cb, rfl, hcb, hcb2, _, _, _⟩ := hB.at' h0
  have HA := Lib.hid hA
  have HB := Lib.hid hB
  obtain ⟨n0, rfl⟩ : ∃ n0, n = n0 + 1 := ⟨n - 1, by omega⟩
  have BL := Lib.hid (blank_any n0 false w (by omega))
  have hm : n0 + 1 ≤ 9223372036854775807 := by omega
  clear hA hB
  go_enter Tryz.func28, Tryz.ntmps28
  go_wp2_with (first
    | (go_at_call 26; ((with_reducible refine BL.out.mono ?_); rintro e w1 ⟨vo, rfl, ho, hb⟩); go_must (have HO := Lib.hid ho; have HBB := Lib.hid hb; clear ho hb))
    | fail)
  clear BL
  go_loopw [6] (fun i wr => ∃ k : Nat, i = .int .i64 k ∧ k ≤ n0 + 1 ∧ TabAt wr w.heap.size vo (n0 + 1) (timesTo (n0 + 1) f g k 0 0) ∧ Below w.heap.size w wr) (fun i _ => n0 + 1 - (intOf i).toNat)
  case atStart => exact ⟨0, rfl, by omega, HO.out.congr (to_start (n0 + 1) f g), HBB.out⟩
  case round =>
    clear HO HBB
    obtain ⟨i, rfl, hi, ht, hb⟩ := hrel
    have HT := Lib.hid (ht.congr (to_row (n0 + 1) f g i))
    have HE := Lib.hid ht
    have HW := Lib.hid hb
    clear ht hb
    generalize wr = w2 at *
    by_cases hlt : i < n0 + 1
    · have n1 : (i : Int) < (n0 : Int) + 1 := by omega
      go_wp2
      go_loopw [7] (fun j wr => ∃ k : Nat, j = .int .i64 k ∧ i ≤ k ∧ k ≤ n0 + 1 ∧ TabAt wr w.heap.size vo (n0 + 1) (timesTo (n0 + 1) f g i k 0) ∧ Below w.heap.size w wr) (fun j _ => n0 + 1 - (intOf j).toNat)
      case atStart => exact ⟨i, rfl, Nat.le_refl _, by omega, HT.out, HW.out⟩
      case round =>
        clear HT HW HE
        obtain ⟨k, rfl, hik, hk, ht, hb⟩ := hrel
        have HT := Lib.hid (ht.congr (to_in (n0 + 1) f g i k))
        have HE := Lib.hid ht
        have HW := Lib.hid hb
        clear ht hb
        generalize wr = w3 at *
        by_cases hlk : k < n0 + 1
        · have n2 : (k : Int) < (n0 : Int) + 1 := by omega
          go_wp2
          go_loopw [8] (fun j wr => ∃ m : Nat, j = .int .i64 m ∧ k ≤ m ∧ m ≤ n0 + 1 ∧ TabAt wr w.heap.size vo (n0 + 1) (timesTo (n0 + 1) f g i k m) ∧ Below w.heap.size w wr) (fun j _ => n0 + 1 - (intOf j).toNat)
          case atStart => exact ⟨k, rfl, Nat.le_refl _, by omega, HT.out, HW.out⟩
          case round =>
            clear HT HW HE
            obtain ⟨m, rfl, hkm, hm2, ht, hb⟩ := hrel
            have HT := Lib.hid ht
            have HW := Lib.hid hb
            by_cases hlm : m < n0 + 1
            · have n3 : (m : Int) < (n0 : Int) + 1 := by omega
              obtain ⟨_, _, ea, _, _, _, _, hra⟩ := (HA.out.next hb).at' (by omega)
              simp only [Value.slice.injEq, Option.some.injEq, Addr.mk.injEq] at ea
              obtain ⟨⟨rfl, _⟩, _, rfl⟩ := ea
              obtain ⟨ra, cra, _, a1, _, _, _, a5⟩ := hra i hlt
              replace a5 := a5 k hlk
              cases hf : f i k
              · rw [hf] at a5
                have Z2 := Lib.hid (ht.congr (to_pass (n0 + 1) f g m hf))
                clear ht hb hra hf
                go_wp2
                go_roundw
                case rel => exact ⟨k + 1, by go_num, by omega, by omega, Z2.out, HW.out⟩
                case measure => simp [intOf]; omega
              · rw [hf] at a5
                obtain ⟨go, co, rfl, hco, hco2, _, _, hro⟩ := ht.at' (by omega)
                obtain ⟨ro, cr, ds, o1, o2, o3, o4, o5⟩ := hro i hlt
                obtain ⟨_, _, eb, _, _, _, _, hrb⟩ := (HB.out.next hb).at' (by omega)
                simp only [Value.slice.injEq, Option.some.injEq, Addr.mk.injEq] at eb
                obtain ⟨⟨rfl, _⟩, _, rfl⟩ := eb
                obtain ⟨rb, crb, _, b1, _, _, _, b5⟩ := hrb k hlk
                replace b5 := b5 m hlm
                obtain ⟨z1, z2, z3⟩ := (ht.next (drewB wr)).set rfl hlt (show wr.drew.cell? ⟨go, i, none⟩ = _ from o1) (show wr.drew.heap[ro]? = _ from o4) hlm (timesTo (n0 + 1) f g i k m i m || g k m)
                replace z2 := z2.congr (to_step (n0 + 1) f g hik hkm hlm hf)
                replace z3 := (hb.trans ((drewB wr).mono hb.size)).trans z3
                have y0 : wr.drew.cell? ⟨ro, m, none⟩ = some (.bool (timesTo (n0 + 1) f g i k m i m)) := o5 m hlm
                have y1 : wr.cell? ⟨ro, m, none⟩ = some (.bool (timesTo (n0 + 1) f g i k m i m)) := o5 m hlm
                clear ht hb hro hra hrb o4 o5 hf
                generalize timesTo (n0 + 1) f g i k m i m = o at *
                cases o
                · rw [Bool.false_or] at z2 z3
                  have Z2 := Lib.hid z2
                  have Z3 := Lib.hid z3
                  clear z2 z3
                  go_wp2
                  refine wp_region_still_tail 22 (by kernel_rfl) (by kernel_rfl) ?_
                  simp only [List.take_succ_cons, List.take_zero, List.drop_succ_cons, List.drop_zero]
                  iterate 22 (with_reducible refine wpStill_step (fun K hK => ?_); go_simp; with_reducible refine hK _ ?_; clear hK K)
                  with_reducible refine wpStill_nil ?_
                  change wpList _ _ _ _ _ wr.drew
                  generalize wr.drew = w4 at *
                  go_wp2
                  go_roundw
                  case rel => exact ⟨m + 1, by go_num, by omega, by omega, Z2.out, Z3.out⟩
                  case measure => simp [intOf]; omega
                · rw [Bool.true_or] at z2 z3
                  have Z2 := Lib.hid z2
                  have Z3 := Lib.hid z3
                  clear z2 z3
                  go_wp2
                  refine wp_region_still_tail 22 (by kernel_rfl) (by kernel_rfl) ?_
                  simp only [List.take_succ_cons, List.take_zero, List.drop_succ_cons, List.drop_zero]
                  iterate 22 (with_reducible refine wpStill_step (fun K hK => ?_); go_simp; with_reducible refine hK _ ?_; clear hK K)
                  with_reducible refine wpStill_nil ?_
                  change wpList _ _ _ _ _ wr.drew
                  generalize wr.drew = w4 at *
                  go_wp2
                  go_roundw
                  case rel => exact ⟨m + 1, by go_num, by omega, by omega, Z2.out, Z3.out⟩
                  case measure => simp [intOf]; omega
            · obtain rfl : m = n0 + 1 := by omega
              have Z2 := Lib.hid (ht.congr (to_next (n0 + 1) f g i k))
              have n3 : ¬ ((n0 + 1 : Nat) : Int) < (n0 : Int) + 1 := by omega
              clear ht hb
              go_wp2
              go_roundw
              case rel => exact ⟨k + 1, by go_num, by omega, by omega, Z2.out, HW.out⟩
              case measure => simp [intOf]; omega
        · obtain rfl : k = n0 + 1 := by omega
          have Z2 := Lib.hid (HE.out.congr (to_out (n0 + 1) f g i))
          go_wp2
          go_roundw
          case rel => exact ⟨i + 1, by go_num, by omega, Z2.out, HW.out⟩
          case measure => simp [intOf]; omega
    · obtain rfl : i = n0 + 1 := by omega
      go_wp2
      go_ret
      exact ⟨_, rfl, HE.out.congr (to_end (n0 + 1) f g), HW.out⟩
end Go.Proofs.YtjmdlioakkibcaaGreatDoor.Dv

namespace Go.Proofs.YtjmdlioakkibcaaGreatDoor.Dv
open Go Go.RowKit Go.Shelf
open Go.Proofs.YtjmdlioakkibcaaGreatDoor.Rg (add_zero own_next)

theorem eye_no (is : Bool) (h : is = false) (l : List Int) (A : L) (lo hi : Int) : Eqm (l.length + 1) (fun i m => eyeV is i m) (mat (someL A lo hi 0) l) := by
  rw [some_zero]
  exact Eqm.trans (fun i m _ _ => by rw [h]; rfl) (mat_no l (l.length + 1))
theorem eye_eps (l : List Int) (A : L) : Eqm (l.length + 1) (fun i m => eyeV true i m) (mat (pow A 0) l) := Eqm.trans (fun i m _ _ => by simp [eyeV]) (mat_eps l)
theorem some_next {A : L} {lo hi : Int} {k : Nat} {l : List Int} (h1 : lo ≤ k) (h2 : 0 ≤ hi → (k : Int) ≤ hi) : Eqm (l.length + 1) (fun i m => mat (someL A lo hi k) l i m || mat (pow A k) l i m) (mat (someL A lo hi (k + 1)) l) := by
  rw [some_yes h1 h2]
  exact mat_alt
theorem pow_next {A : L} {k : Nat} {l : List Int} : Eqm (l.length + 1) (mulM (l.length + 1) (mat (pow A k) l) (mat A l)) (mat (pow A (k + 1)) l) := by
  rw [← pow_snoc]
  exact mat_seq

set_option maxRecDepth 100000 in
set_option maxHeartbeats 8000000 in
theorem rrep_any (l : List Int) (A : L) (lo hi : Int) (va : Value) (w : World) (hn : l.length ≤ 10000) (hlo : 0 ≤ lo) (hlo2 : lo ≤ 1000) (hhi : -1 ≤ hi) (hhi2 : hi ≤ 1000) (hA : TabAt w 0 va (l.length + 1) (mat A l)) :
    Calls Tryz.prog 30 #[va, .int .i64 lo, .int .i64 hi] w fun e w' => ∃ v, e = .returned v ∧ TabAt w' w.heap.size v (l.length + 1) (mat (rep A lo hi) l) ∧ Below w.heap.size w w' := by
  obtain ⟨ga, ca, rfl, hca, hca2, _, _, _⟩ := hA.at' (by omega)
  have HA := Lib.hid hA
  have BL := Lib.hid (fun (is : Bool) (X : World) => blank_any l.length is X (by omega))
  have PL := Lib.hid (fun (k : Nat) (va vb : Value) (X : World) => plus_any (l.length + 1) (mat (someL A lo hi k) l) (mat (pow A k) l) va vb X (by omega) (by omega))
  have TM := Lib.hid (fun (k : Nat) (va vb : Value) (X : World) => times_any (l.length + 1) (mat (pow A k) l) (mat A l) va vb X (by omega) (by omega))
  have SM := Lib.hid (fun (k : Nat) => eye_no false rfl l A lo hi)
  have EP := Lib.hid (eye_eps l A)
  have SN := Lib.hid (fun (k : Nat) (h1 : lo ≤ k) (h2 : 0 ≤ hi → (k : Int) ≤ hi) => some_next (A := A) (l := l) h1 h2)
  have SP := Lib.hid (fun (k : Nat) (h : (k : Int) < lo) => mat_congr (some_not (A := A) (hi := hi) h).symm l (l.length + 1))
  have PN := Lib.hid (fun (k : Nat) => pow_next (A := A) (l := l) (k := k))
  have EN := Lib.hid (fun (k : Nat) (hk : (lo.toNat + (l.length + 1) < k) ∨ (0 ≤ hi ∧ hi < k)) => some_enough (A := A) (l := l) hk)
  generalize mat A l = M at *
  generalize hS : (fun k => mat (someL A lo hi k) l) = S at *
  generalize hP : (fun k => mat (pow A k) l) = P at *
  replace hS : ∀ k, mat (someL A lo hi k) l = S k := fun k => congrFun hS k
  replace hP : ∀ k, mat (pow A k) l = P k := fun k => congrFun hP k
  simp only [hS, hP] at PL TM SM EP SN SP PN EN
  generalize mat (rep A lo hi) l = E at *
  generalize l.length = n0 at *
  clear hA hS hP
  have hm : n0 + 1 ≤ 9223372036854775807 := by omega
  go_enter Tryz.func30, Tryz.ntmps30
  go_wp2_with (first
    | (go_at_call 26; ((with_reducible refine (BL.out false w).mono ?_); rintro e w1 ⟨vo, rfl, ho, hb⟩); go_must (have HO := Lib.hid (ho.congr (SM.out 0)); have HB := Lib.hid hb; clear ho hb))
    | (go_at_call 26; ((with_reducible refine (BL.out true w1).mono ?_); rintro e w2 ⟨vn, rfl, hn2, hb2⟩); go_must (have HN := Lib.hid ((hn2.congr EP.out).mono HB.out.size); have HO2 := Lib.hid (HO.out.next hb2); have HB2 := Lib.hid (HB.out.trans (hb2.mono HB.out.size)); clear hn2 hb2))
    | fail)
  clear BL
  go_loopw [7, 8, 9] (fun vo vn i wr => ∃ k : Nat, i = .int .i64 k ∧ k ≤ lo.toNat + n0 + 2 ∧ TabAt wr w.heap.size vo (n0 + 1) (S k) ∧ TabAt wr w.heap.size vn (n0 + 1) (P k) ∧ Below w.heap.size w wr) (fun _ _ i _ => lo.toNat + n0 + 3 - (intOf i).toNat)
  case atStart => exact ⟨0, rfl, by omega, HO2.out, HN.out, HB2.out⟩
  case round =>
    clear HO2 HN HB2 HO HB
    obtain ⟨k, rfl, hk, ho, hn1, hb⟩ := hrel
    have HO := Lib.hid ho
    have HN := Lib.hid hn1
    have HB := Lib.hid hb
    have hsz := hb.size
    have Q1 := Lib.hid (ho.mono (M := 0) (Nat.zero_le _))
    have Q2 := Lib.hid (hn1.mono (M := 0) (Nat.zero_le _))
    have Q4 := Lib.hid (HA.out.next hb)
    clear ho hn1 hb
    by_cases c1 : (k : Int) ≤ lo + ((n0 : Int) + 1)
    · by_cases c2 : hi < 0
      · by_cases c4 : lo ≤ (k : Int)
        · have SS := Lib.hid (SN.out k c4 (by omega))
          go_wp2_with (first
            | (go_at_call 29; ((with_reducible refine (PL.out k u7 u8 wr Q1.out Q2.out).mono ?_); rintro e w3 ⟨v3, rfl, h3, hb3⟩); go_must (have HO3 := Lib.hid ((h3.congr SS.out).mono hsz); have HN3 := Lib.hid (HN.out.next hb3); have HB3 := Lib.hid (HB.out.trans (hb3.mono hsz)); have Q3 := Lib.hid (HN3.out.mono (M := 0) (Nat.zero_le _)); have Q4 := Lib.hid (HA.out.next HB3.out); clear h3 hb3))
            | (go_at_call 28; ((with_reducible refine (TM.out k u8 _ w3 Q3.out Q4.out).mono ?_); rintro e w4 ⟨v4, rfl, h4, hb4⟩); go_must (have HN4 := Lib.hid ((h4.congr (PN.out k)).mono HB3.out.size); have HO4 := Lib.hid (HO3.out.next hb4); have HB4 := Lib.hid (HB3.out.trans (hb4.mono HB3.out.size)); clear h4 hb4))
            | fail)
          go_roundw
          case rel => exact ⟨k + 1, by go_num, by omega, HO4.out, HN4.out, HB4.out⟩
          case measure => simp [intOf]; omega
        · have SS := Lib.hid (HO.out.congr (SP.out k (by omega)))
          go_wp2_with (first
            | (go_at_call 28; ((with_reducible refine (TM.out k u8 _ wr Q2.out Q4.out).mono ?_); rintro e w4 ⟨v4, rfl, h4, hb4⟩); go_must (have HN4 := Lib.hid ((h4.congr (PN.out k)).mono hsz); have HO4 := Lib.hid (SS.out.next hb4); have HB4 := Lib.hid (HB.out.trans (hb4.mono hsz)); clear h4 hb4))
            | fail)
          go_roundw
          case rel => exact ⟨k + 1, by go_num, by omega, HO4.out, HN4.out, HB4.out⟩
          case measure => simp [intOf]; omega
      · by_cases c3 : (k : Int) ≤ hi
        · by_cases c4 : lo ≤ (k : Int)
          · have SS := Lib.hid (SN.out k c4 (by omega))
            go_wp2_with (first
              | (go_at_call 29; ((with_reducible refine (PL.out k u7 u8 wr Q1.out Q2.out).mono ?_); rintro e w3 ⟨v3, rfl, h3, hb3⟩); go_must (have HO3 := Lib.hid ((h3.congr SS.out).mono hsz); have HN3 := Lib.hid (HN.out.next hb3); have HB3 := Lib.hid (HB.out.trans (hb3.mono hsz)); have Q3 := Lib.hid (HN3.out.mono (M := 0) (Nat.zero_le _)); have Q4 := Lib.hid (HA.out.next HB3.out); clear h3 hb3))
              | (go_at_call 28; ((with_reducible refine (TM.out k u8 _ w3 Q3.out Q4.out).mono ?_); rintro e w4 ⟨v4, rfl, h4, hb4⟩); go_must (have HN4 := Lib.hid ((h4.congr (PN.out k)).mono HB3.out.size); have HO4 := Lib.hid (HO3.out.next hb4); have HB4 := Lib.hid (HB3.out.trans (hb4.mono HB3.out.size)); clear h4 hb4))
              | fail)
            go_roundw
            case rel => exact ⟨k + 1, by go_num, by omega, HO4.out, HN4.out, HB4.out⟩
            case measure => simp [intOf]; omega
          · have SS := Lib.hid (HO.out.congr (SP.out k (by omega)))
            go_wp2_with (first
              | (go_at_call 28; ((with_reducible refine (TM.out k u8 _ wr Q2.out Q4.out).mono ?_); rintro e w4 ⟨v4, rfl, h4, hb4⟩); go_must (have HN4 := Lib.hid ((h4.congr (PN.out k)).mono hsz); have HO4 := Lib.hid (SS.out.next hb4); have HB4 := Lib.hid (HB.out.trans (hb4.mono hsz)); clear h4 hb4))
              | fail)
            go_roundw
            case rel => exact ⟨k + 1, by go_num, by omega, HO4.out, HN4.out, HB4.out⟩
            case measure => simp [intOf]; omega
        · have EE := Lib.hid (HO.out.congr (EN.out k (.inr ⟨by omega, by omega⟩)))
          go_wp2
          go_ret
          exact ⟨_, rfl, EE.out, HB.out⟩
    · have EE := Lib.hid (HO.out.congr (EN.out k (.inl (by omega))))
      go_wp2
      go_ret
      exact ⟨_, rfl, EE.out, HB.out⟩
end Go.Proofs.YtjmdlioakkibcaaGreatDoor.Dv

namespace Go.Proofs.YtjmdlioakkibcaaGreatDoor.Dv
open Go Go.RowKit Go.Shelf
open Go.Proofs.YtjmdlioakkibcaaGreatDoor.Ar (timesB Nd nd nodeB nodeB_ways NodeAt node_new Tr Ok TreeAt aggN)
open Go.Proofs.YtjmdlioakkibcaaGreatDoor.Rg (R RngsAt RowsAt nthL add_zero own_next inB rhas_any)

theorem infoMx : (Tryz.prog.info? 38).map (fun i => (i.zero, i.size, i.bytes)) = some (some (.slice none 0 0), 1, 24) := by kernel_rfl
def oneTo (P : Int → Bool) (l : List Int) (k : Nat) : Mx := fun i m => decide (m = i + 1 ∧ i < k) && P (l.getD i 0)
theorem one_start (P : Int → Bool) (l : List Int) (n : Nat) : Eqm n (fun i m => eyeV false i m) (oneTo P l 0) := fun i m _ _ => by simp [eyeV, oneTo]
theorem one_step (P : Int → Bool) (l : List Int) (k : Nat) : upd (oneTo P l k) k (k + 1) (P (l.getD k 0)) = oneTo P l (k + 1) := by
  funext i m
  unfold upd oneTo
  by_cases h : i = k ∧ m = k + 1
  · obtain ⟨rfl, rfl⟩ := h
    rw [if_pos ⟨rfl, rfl⟩]
    simp
  · rw [if_neg h]
    congr 1
    rw [decide_eq_decide]
    omega
theorem one_end (P : Int → Bool) (l : List Int) : Eqm (l.length + 1) (oneTo P l l.length) (mat (one P) l) := Eqm.trans (fun i m hi hm => by
  unfold oneTo
  congr 1
  rw [decide_eq_decide]
  omega) (mat_one P l)
theorem eye_one (l : List Int) : Eqm (l.length + 1) (fun i m => eyeV true i m) (mat eps l) := Eqm.trans (fun i m _ _ => by simp [eyeV]) (mat_eps l)
section
variable {w w' : World} {N n : Nat} {f : Mx} {v : Value}
theorem TabAt.grown {o : Option Nat} (h : TabAt w N v n f) (hg : w.grownBy w' o) (ho : ∀ g, o = some g → ∃ cs t, w.heap[g]? = some (.cells cs t (0, 0)) ∧ t ≠ 4 ∧ t ≠ 40) : TabAt w' N v n f := by
  obtain ⟨xs, h1, h2⟩ := h
  refine ⟨xs, ⟨h1.1, ?_⟩, h2.keep fun k ds _ hk => hg.block k (Array.getElem?_eq_some_iff.1 hk).1 fun e => ?_⟩
  · rcases h1.2 with h | ⟨g, cap, cur, a, b, c, d⟩
    · exact .inl h
    · refine .inr ⟨g, cap, cur, a, b, ?_, d⟩
      rw [hg.block g (Array.getElem?_eq_some_iff.1 c).1 (fun e => ?_)]
      · exact c
      · obtain ⟨cs, t, hh, _, ht⟩ := ho g e.symm
        rw [c] at hh
        simp only [Option.some.injEq, Obj.cells.injEq] at hh
        exact ht hh.2.1.symm
  · obtain ⟨cs, t, hh, ht, _⟩ := ho k e.symm
    rw [hk] at hh
    simp only [Option.some.injEq, Obj.cells.injEq] at hh
    exact ht hh.2.1.symm
end
/-- all tables so far -/
structure AllAt (w0 w : World) (v : Value) (k : Nat) (D : Nat → L) (l : List Int) (xs : List Value) : Prop where
  own : w.ownsRow w0.heap.size 38 1 v k xs
  tab : ∀ j, j < k → ∃ x, xs[j]? = some x ∧ TabAt w 0 x (l.length + 1) (mat (D j) l)
  below : Below w0.heap.size w0 w
section
variable {w0 w w' : World} {v v' : Value} {k : Nat} {D : Nat → L} {l : List Int} {xs : List Value}
theorem AllAt.next (h : AllAt w0 w v k D l xs) (hb : Below w.heap.size w w') : AllAt w0 w' v k D l xs :=
  ⟨own_next h.own hb, fun j hj => by
    obtain ⟨x, h1, h2⟩ := h.tab j hj
    exact ⟨x, h1, h2.next hb⟩, h.below.trans (hb.mono h.below.size)⟩
theorem AllAt.at' (h : AllAt w0 w v k D l xs) {j : Nat} (hj : j < k) : ∃ g cap x, v = .slice (some ⟨g, 0, none⟩) k cap ∧ w.cell? ⟨g, j, none⟩ = some x ∧ TabAt w 0 x (l.length + 1) (mat (D j) l) := by
  obtain ⟨x, h1, h2⟩ := h.tab j hj
  obtain ⟨g, cap, rfl, _, _⟩ := h.own.form (by omega)
  have hl := h.own.1
  exact ⟨g, cap, x, rfl, by rw [h.own.cellAt j (by omega), h1], h2⟩
/-- a table more -/
theorem AllAt.app (h : AllAt w0 w v k D l xs) {x : Value} {W : World} (hb : Below w.heap.size w W) (hx : TabAt W 0 x (l.length + 1) (mat (D k) l)) {o : Obj} (hown : w'.ownsRow w0.heap.size 38 1 v' (k + 1) (xs ++ [x])) (hg : (W.alloc o).grownBy w' v.ownBlock) : AllAt w0 w' v' (k + 1) D l (xs ++ [x]) := by
  have h1 := h.next hb
  have bA := (Below.refl W.heap.size W).alloc (Nat.le_refl _) o
  have h2 := h1.next bA
  have hl := h.own.1
  have hgo : ∀ g, v.ownBlock = some g → ∃ cs t, (W.alloc o).heap[g]? = some (.cells cs t (0, 0)) ∧ t ≠ 4 ∧ t ≠ 40 := fun g e => by
    obtain ⟨_, cs, hh⟩ := row_of h2.own e
    exact ⟨cs, _, hh, by decide, by decide⟩
  refine ⟨hown, fun j hj => ?_, h2.below.grown hg h2.below.size (fun q hq => (h2.own.lt q hq).1)⟩
  rcases Nat.lt_or_ge j k with hjk | hjk
  · obtain ⟨y, y1, y2⟩ := h2.tab j hjk
    exact ⟨y, by rw [List.getElem?_append_left (by omega)]; exact y1, y2.grown hg hgo⟩
  · obtain rfl : j = k := by omega
    exact ⟨x, by rw [List.getElem?_append_right (by omega), show j - xs.length = 0 by omega]; rfl, (hx.next bA).grown hg hgo⟩
end
end Go.Proofs.YtjmdlioakkibcaaGreatDoor.Dv

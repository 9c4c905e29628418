/- put: ranges onto the pile. -/
import Derived.Test.YtdmceapbobkklaaDoorRgHeap
namespace Go.Proofs.YtdmceapbobkklaaDoor.Rg
open Go.RowKit Go.Shelf

/-- ranges that count -/
def okL (l : List R) : Prop := ∀ r ∈ l, 0 ≤ r.1 ∧ r.1 ≤ r.2 ∧ r.2 ≤ 1114111
def PutRel (B pb : Nat) (xs l : List R) (w : World) (i : Value) (wr : World) : Prop :=
  ∃ (k : Nat) (v : Value) (ys : List R), i = .int .i64 k ∧ k ≤ l.length ∧ Pile B pb v ys wr ∧ Heap (key ys) ys.length ∧ ys.length ≤ xs.length + k ∧ okL ys ∧ (∀ c, hasB ys c = (hasB xs c || inB (l.take k) c)) ∧ Below B w wr
theorem inB_take {l : List R} {k : Nat} (h : k < l.length) (c : Int) : inB (l.take (k + 1)) c = (inB (l.take k) c || (decide (0 ≤ c) && decide (c ≤ 1114111) && (decide ((nth l k).1 ≤ c) && decide (c ≤ (nth l k).2)))) := by
  unfold inB
  rw [List.take_succ_eq_append_getElem h, hasB_append, hasB_one, nth_eq h]
  grind

set_option maxHeartbeats 1600000 in
theorem put_any (pb : Nat) (v vl : Value) (xs l : List R) (w0 w : World) (hl : RngsAt w0 vl l) (h0 : Below w0.heap.size w0 w) (hp : Pile w0.heap.size pb v xs w) (hh : Heap (key xs) xs.length) (ho : okL xs) (hM : xs.length + l.length < 1000000) :
    Calls Tryd.prog 62 #[.pointer (some ⟨pb, 0, none⟩), vl] w fun e w' => e = .returned (.tuple #[]) ∧ ∃ v' ys, Pile w0.heap.size pb v' ys w' ∧ Heap (key ys) ys.length ∧ ys.length ≤ xs.length + l.length ∧ okL ys ∧ (∀ c, hasB ys c = (hasB xs c || inB l c)) ∧ Below w0.heap.size w w' := by
  obtain ⟨ao, cap, rfl, hm, hcs⟩ := hl.shape
  have HC := Lib.hid hcs
  have H0 := Lib.hid h0
  clear hcs hl h0
  go_enter Tryd.func62, Tryd.ntmps62
  go_wp2
  go_loopw [8] (fun i wr => PutRel w0.heap.size pb xs l w i wr) (fun i _ => l.length - (intOf i).toNat)
  case atStart => exact ⟨0, v, xs, rfl, Nat.zero_le _, hp, hh, Nat.le_refl _, ho, fun c => by simp [inB, hasB], Below.refl _ _⟩
  case round =>
    clear hp hh ho
    obtain ⟨k, v2, ys, rfl, hk, hp, hh, hlen, ho, hhas, hb⟩ := hrel
    have HP := Lib.hid hp
    have HH := Lib.hid hh
    have HO := Lib.hid ho
    have HS := Lib.hid hhas
    have HB := Lib.hid hb
    by_cases hlt : k < l.length
    · obtain ⟨g, rfl, c1, c2⟩ := HC.out k hlt
      replace c1 := cell_next c1 (H0.out.trans hb)
      replace c2 := cell_next c2 (H0.out.trans hb)
      have hsz := hp.base
      have hsz2 := hp.lt
      have push : ∀ (a b : Int) W, Below wr.heap.size wr W → Calls Tryd.prog 66 #[ifc pb, .iface 75 (.agg #[.int .i64 a, .int .i64 b])] W fun e w' => e = .returned (.tuple #[]) ∧ ∃ v' zs, zs.Perm (ys ++ [(a, b)]) ∧ Heap (key zs) zs.length ∧ Pile w0.heap.size pb v' zs w' ∧ Below w0.heap.size wr w' := by
        intro a b W hW
        refine (hpush_any w0.heap.size pb v2 ys (a, b) W (hp.next hW) hh (by omega)).mono ?_
        rintro e w' ⟨rfl, v', zs, h1, h2, h3, h4⟩
        exact ⟨rfl, v', zs, h1, h2, h3, (hW.mono (by omega)).trans h4⟩
      have skip : (min (nth l k).2 1114111 < max (nth l k).1 0) → ∀ W, Below wr.heap.size wr W → PutRel w0.heap.size pb xs l w (.int .i64 ((k : Int) + 1)) W := fun h W hW =>
        ⟨k + 1, v2, ys, by go_num, by omega, hp.next hW, hh, by omega, ho, fun c => by
          rw [hhas, inB_take hlt]
          congr 1
          rw [eq_comm, Bool.or_eq_left_iff_imp]
          intro hc
          simp at hc
          omega, hb.trans (hW.mono (by omega))⟩
      have nxt : ∀ a b : Int, a = max (nth l k).1 0 → b = min (nth l k).2 1114111 → a ≤ b → ∀ v' zs W, zs.Perm (ys ++ [(a, b)]) → Heap (key zs) zs.length → Pile w0.heap.size pb v' zs W → Below w0.heap.size wr W → PutRel w0.heap.size pb xs l w (.int .i64 ((k : Int) + 1)) W := by
        intro a b ha hb' hab v' zs W h1 h2 h3 h4
        refine ⟨k + 1, v', zs, by go_num, by omega, h3, h2, by rw [h1.length_eq]; simp; omega, ?_, ?_, hb.trans h4⟩
        · intro r hr
          have := h1.mem_iff.1 hr
          rw [List.mem_append, List.mem_singleton] at this
          rcases this with h | rfl
          · exact ho r h
          · exact ⟨by omega, hab, by omega⟩
        · intro c
          rw [hasB_perm h1, hasB_append, hasB_one, hhas, inB_take hlt, Bool.or_assoc]
          congr 1
          congr 1
          rw [Bool.eq_iff_iff]
          simp
          omega
      have HPU := Lib.hid push
      have HSK := Lib.hid skip
      have HNX := Lib.hid nxt
      clear hp hh ho hhas hb push skip nxt hsz
      go_wp2_with (go_at_call 66; refine (HPU.out _ _ _ ((Below.refl _ _).alloc (Nat.le_refl _) _)).mono ?_; rintro e w2 ⟨rfl, v', zs, z1, z2, z3, z4⟩; have Z2 := Lib.hid z2; have Z3 := Lib.hid z3; have Z4 := Lib.hid z4; have Z1 := Lib.hid z1; clear z1 z2 z3 z4)
      all_goals first
        | (go_roundw
           case rel => exact HNX.out _ _ (by omega) (by omega) (by omega) _ _ _ Z1.out Z2.out Z3.out Z4.out
           case measure => simp [intOf]; omega)
        | (go_roundw
           case rel => exact HSK.out (by omega) _ ((Below.refl _ _).alloc (Nat.le_refl _) _)
           case measure => simp [intOf]; omega)
    · obtain rfl : k = l.length := by omega
      clear hp hh ho hhas hb
      go_wp2
      go_end0
      exact ⟨rfl, v2, ys, HP.out, HH.out, hlen, HO.out, fun c => by rw [HS.out, List.take_length], HB.out⟩

end Go.Proofs.YtdmceapbobkklaaDoor.Rg

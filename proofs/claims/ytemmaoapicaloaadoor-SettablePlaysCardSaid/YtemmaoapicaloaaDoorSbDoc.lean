/- The document's side: numbers, Room, Find; lists of lists in memory. -/
import Derived.Test.YtemmaoapicaloaaDoorSbAlive
import Derived.Test.YtemmaoapicaloaaDoorBtOfF
import Derived.Test.YtemmaoapicaloaaDoorUtSm
namespace Go.Proofs.YtemmaoapicaloaaDoor.Sb
open Go Go.RowKit Go.Proofs.YtemmaoapicaloaaDoor.At
open Go.Proofs.YtemmaoapicaloaaDoor.Bt (SetAt setV memL nums roomF iV own_slice addF ofF ofF_snoc ofF_len radd_any ListOut)

theorem rroom_any (n : Int) (w : World) : Calls Tryd.prog 12 #[.int .i64 n] w fun e w' => e = .returned (.int .i64 (roomT n : Nat)) ∧ w' = w := by
  unfold roomT
  by_cases h0 : n < 1
  · rw [if_pos h0]
    go_enter Tryd.func12, Tryd.ntmps12
    go_wp2
    go_ret
    exact ⟨rfl, rfl⟩
  · by_cases h1 : 65536 < n
    · rw [if_neg h0, if_pos h1]
      go_enter Tryd.func12, Tryd.ntmps12
      go_wp2
      go_ret
      exact ⟨rfl, rfl⟩
    · rw [if_neg h0, if_neg h1]
      have e : ((n.toNat : Nat) : Int) = n := by omega
      rw [e]
      go_enter Tryd.func12, Tryd.ntmps12
      go_wp2
      go_ret
      exact ⟨rfl, rfl⟩

/-- the numbers that fit, as the law reckons them -/
def NumsOut (w : World) (N : List Int) (e : Ending) (w' : World) : Prop :=
  ∃ ao c, e = .returned (.slice ao N.length c) ∧ w'.ownsRow w.heap.size 3 1 (.slice ao N.length c) N.length (iV N) ∧ Below w.heap.size w w'
set_option maxRecDepth 100000 in
set_option maxHeartbeats 1000000 in
theorem numbers_any (room : Nat) (hr : room ≤ 255) (lv : Value) (l : List Int) (w : World) (hl : IntsAt w lv l) (hm : l.length ≤ 1000) :
    Calls Tryd.prog 7 #[.int .u8 (room : Nat), lv] w fun e w' => NumsOut w (ofF l (room : Nat)) e w' := by
  obtain ⟨lo, lc, rfl, _, hc⟩ := hl.shape
  have HC := Lib.hid hc
  clear hl hc
  have R0 := Lib.hid (show w.ownsRow w.heap.size 3 1 (.slice none 0 0) (ofF (l.take 0) (room : Nat)).length (iV (ofF (l.take 0) (room : Nat))) from World.ownsRow_nil _ _ _ _)
  go_enter Tryd.func7, Tryd.ntmps7
  go_wp2
  go_loopw [5, 10] (fun v i wr => ∃ k : Nat, k ≤ l.length ∧ i = .int .i64 k ∧ wr.ownsRow w.heap.size 3 1 v (ofF (l.take k) (room : Nat)).length (iV (ofF (l.take k) (room : Nat))) ∧ Below w.heap.size w wr) (fun _ i _ => l.length - (intOf i).toNat)
  case atStart => exact ⟨0, by omega, rfl, R0.out, Below.refl _ _⟩
  case round =>
    obtain ⟨k, hk, rfl, ho, hb⟩ := hrel
    by_cases hlt : k < l.length
    · obtain ⟨ad, rfl, c0⟩ := HC.out k hlt
      replace c0 := cell_next c0 hb
      have hle := ofF_len l (room : Nat) k (by omega)
      have AD := Lib.hid (radd_any _ _ (l.getD k 0) (room : Nat) w.heap.size wr hb.size (by omega) ho)
      rw [← ofF_snoc l k (room : Nat) hlt] at AD
      obtain ⟨vo, vc, rfl⟩ := own_slice ho
      have HB := Lib.hid hb
      clear ho hb
      generalize l.getD k 0 = x at *
      generalize ofF (l.take k) (room : Nat) = F at *
      obtain ⟨F2, hF2⟩ : ∃ F2, F2 = ofF (l.take (k + 1)) (room : Nat) := ⟨_, rfl⟩
      rw [← hF2] at AD
      have HF := Lib.hid hF2
      clear hF2
      go_wp2_with (go_at_call 22; (with_reducible refine AD.out.mono ?_); rintro e w2 ⟨v', rfl, h1, h2⟩; go_must (have H1 := Lib.hid h1; have H2 := Lib.hid (HB.out.trans (h2.mono HB.out.size)); clear h1 h2))
      go_roundw
      case rel => exact ⟨k + 1, by omega, by go_num, by rw [← HF.out]; exact H1.out, H2.out⟩
      case measure => simp [intOf]; omega
    · obtain rfl : k = l.length := by omega
      rw [List.take_length] at ho
      obtain ⟨vo, vc, rfl⟩ := own_slice ho
      go_wp2
      go_ret
      exact ⟨vo, vc, rfl, ho, hb⟩

/-- a slice that reads as these lists -/
def LsAt (w : World) (v : Value) (ks : List (List Int)) : Prop :=
  (v = .slice none 0 0 ∧ ks = []) ∨ ∃ (a : Addr) (cap : Nat), v = .slice (some a) ks.length cap ∧ ks.length ≤ maxLen ∧ ∀ i, i < ks.length → ∃ x, w.cell? (a.add i) = some x ∧ IntsAt w x (ks.getD i [])
theorem LsAt.next {w w' : World} {v : Value} {ks : List (List Int)} (h : LsAt w v ks) (hb : Below w.heap.size w w') : LsAt w' v ks := by
  rcases h with h | ⟨a, cap, hv, hm, hc⟩
  · exact .inl h
  · exact .inr ⟨a, cap, hv, hm, fun i hi => by obtain ⟨x, h1, h2⟩ := hc i hi; exact ⟨x, cell_next h1 hb, h2.next hb⟩⟩
theorem LsAt.shape {w : World} {v : Value} {ks : List (List Int)} (h : LsAt w v ks) : ∃ (ao : Option Addr) (cap : Nat), v = .slice ao ks.length cap ∧ ks.length ≤ 9223372036854775807 ∧ ∀ i, i < ks.length → ∃ g, ao = some g ∧ ∃ x, w.cell? (g.add i) = some x ∧ IntsAt w x (ks.getD i []) := by
  rcases h with ⟨rfl, rfl⟩ | ⟨a, cap, hv, hm, hc⟩
  · exact ⟨none, 0, rfl, by simp, fun i hi => by simp at hi⟩
  · exact ⟨some a, cap, hv, by unfold maxLen at hm; omega, fun i hi => ⟨a, rfl, hc i hi⟩⟩

set_option maxRecDepth 100000 in
set_option maxHeartbeats 1000000 in
theorem rfind_any (v x : Value) (ks : List (List Int)) (N : List Int) (r : Int) (w : World) (hv : LsAt w v ks) (hx : IntsAt w x N) (hr : IdxOut ks N r) :
    Calls Tryd.prog 8 #[v, x] w fun e w' => e = .returned (.int .i64 r) ∧ Below w.heap.size w w' := by
  obtain ⟨ao, cap, rfl, hm, hc⟩ := hv.shape
  have HC := Lib.hid hc
  have SM := Lib.hid (fun W (hW : Below w.heap.size w W) y ys (hy : IntsAt W y ys) => Ut.same_any y x ys N W hy (hx.next hW))
  obtain ⟨xo, xc, rfl, _, _⟩ := hx.shape
  have HR := Lib.hid hr
  clear hv hx hc hr
  go_enter Tryd.func8, Tryd.ntmps8
  go_wp2
  go_loopw [5] (fun i wr => ∃ k : Nat, k ≤ ks.length ∧ i = .int .i64 k ∧ (∀ j, j < k → ks.getD j [] ≠ N) ∧ Below w.heap.size w wr) (fun i _ => ks.length - (intOf i).toNat)
  case atStart => exact ⟨0, by omega, rfl, fun j hj => by omega, Below.refl _ _⟩
  case round =>
    obtain ⟨k, hk, rfl, hj, hb⟩ := hrel
    by_cases hlt : k < ks.length
    · obtain ⟨g, rfl, y, c0, hy⟩ := HC.out k hlt
      replace c0 := cell_next c0 hb
      replace hy := hy.next hb
      have HJ := Lib.hid hj
      have S := Lib.hid (SM.out wr hb y _ hy)
      obtain ⟨yo, yc, rfl, _, _⟩ := hy.shape
      have HB := Lib.hid hb
      clear hb hj hy
      by_cases he : ks.getD k [] = N
      · have e : r = (k : Int) := idx_one HR.out (.inr ⟨k, rfl, hlt, he, HJ.out⟩)
        rw [decide_eq_true he] at S
        have E := Lib.hid e
        clear he e
        generalize ks.getD k [] = ys at *
        go_wp2_with (go_at_call 15; (with_reducible refine S.out.mono ?_); rintro e w2 ⟨rfl, h2⟩)
        go_ret
        exact ⟨retI E.out.symm, HB.out.trans (h2.mono HB.out.size)⟩
      · rw [decide_eq_false he] at S
        have HE := Lib.hid he
        clear he
        generalize hys : ks.getD k [] = ys at *
        have HYS := Lib.hid hys
        clear hys
        go_wp2_with (go_at_call 15; (with_reducible refine S.out.mono ?_); rintro e w2 ⟨rfl, h2⟩; have H2 := Lib.hid (HB.out.trans (h2.mono HB.out.size)); clear h2)
        go_roundw
        case rel =>
          refine ⟨k + 1, by omega, by go_num, fun j hj => ?_, H2.out⟩
          by_cases hjk : j = k
          · rw [hjk, HYS.out]; exact HE.out
          · exact HJ.out j (by omega)
        case measure => simp [intOf]; omega
    · obtain rfl : k = ks.length := by omega
      have e : r = -1 := idx_one HR.out (.inl ⟨rfl, hj⟩)
      have E := Lib.hid e
      clear e
      go_wp2
      go_ret
      exact ⟨retI E.out.symm, hb⟩

end Go.Proofs.YtemmaoapicaloaaDoor.Sb

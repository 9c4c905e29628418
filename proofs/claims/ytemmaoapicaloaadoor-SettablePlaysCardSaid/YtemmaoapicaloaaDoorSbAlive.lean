/- Tables by their sets' numbers; the document's example. -/
import Derived.Test.YtemmaoapicaloaaDoorSbNew
import Derived.Test.YtemmaoapicaloaaDoorSbLen
namespace Go.Proofs.YtemmaoapicaloaaDoor.Sb
open Go Go.RowKit Go.Proofs.YtemmaoapicaloaaDoor.At
open Go.Proofs.YtemmaoapicaloaaDoor.Bt (SetAt setV memL nums roomF of_any OfOut ofB nums_is hasI)

/-- a table, with its sets' numbers and its room -/
structure TK (W : World) (B tb : Nat) (ks : List (List Int)) (m : Nat) (T : Tb) : Prop where
  inn : TbIn W B tb T
  good : Good T
  keys : keys T.E = ks
  most : T.most = m
  bw : T.bw ≤ W.heap.size
theorem TK.next {W W' : World} {B tb m : Nat} {ks : List (List Int)} {T : Tb} (h : TK W B tb ks m T) (hb : Below W.heap.size W W') : TK W' B tb ks m T := ⟨h.inn.next hb, h.good, h.keys, h.most, Nat.le_trans h.bw hb.size⟩
theorem TK.len {W : World} {B tb m : Nat} {ks : List (List Int)} {T : Tb} (h : TK W B tb ks m T) : T.E.length = ks.length := by rw [← keys_len, h.keys]
theorem TK.new {w w' : World} {tb : Nat} {n : Int} {pv : Value} (h : TbIn w' w.heap.size tb (tb0 n pv)) : TK w' w.heap.size tb [] (roomT n) (tb0 n pv) := ⟨h, good0 n pv, rfl, rfl, Nat.zero_le _⟩

theorem idx0 (N : List Int) : IdxOut [] N (-1) := .inl ⟨rfl, fun i hi => absurd hi (by simp)⟩
theorem idx1 {a b : Int} (h : a ≠ b) : IdxOut [[a]] [b] (-1) := .inl ⟨rfl, fun i hi => by
  have : i = 0 := by simp at hi; omega
  subst this
  simpa using h⟩
theorem idx_hit (N : List Int) (l : List (List Int)) : IdxOut (N :: l) N 0 := .inr ⟨0, rfl, by simp, rfl, fun j hj => by omega⟩
theorem idx_none {ks : List (List Int)} {N : List Int} (h : ∀ i, i < ks.length → ks.getD i [] ≠ N) : IdxOut ks N (-1) := .inl ⟨rfl, h⟩

theorem put_fresh {W : World} {B tb m room Bs : Nat} {ks : List (List Int)} {T : Tb} {v : Value} {L : List Nat} {N : List Int} (h : TK W B tb ks m T) (hs : SetAt W Bs room v L) (hN : nums L = N) (hr : IdxOut ks N (-1)) (hm : ks.length < m) :
    Calls Tryd.prog 11 #[ptr tb, setV room v] W fun e W' => ∃ T', e = .returned (.tuple #[.int .i64 (ks.length : Nat), .bool true]) ∧ TK W' B tb (ks ++ [N]) m T' ∧ T'.bw = T.bw ∧ Step tb T W T' W' := by
  refine (put_new W h.inn h.good hs (by rw [h.keys, hN]; exact hr) (by rw [h.len, h.most]; exact hm) h.bw).mono ?_
  rintro e W' ⟨T', rfl, z1, z2, z3, z4, z6, z5⟩
  exact ⟨T', by rw [h.len], ⟨z1, z2, by rw [z3, h.keys, hN], z4.trans h.most, by rw [z6]; exact Nat.le_trans h.bw z5.size⟩, z6, z5⟩
theorem put_there {W : World} {B tb m room Bs : Nat} {ks : List (List Int)} {T : Tb} {v : Value} {L : List Nat} {N : List Int} (r : Int) (h : TK W B tb ks m T) (hs : SetAt W Bs room v L) (hN : nums L = N) (hr : IdxOut ks N r) (h0 : 0 ≤ r) :
    Calls Tryd.prog 11 #[ptr tb, setV room v] W fun e W' => e = .returned (.tuple #[.int .i64 r, .bool false]) ∧ Below W.heap.size W W' :=
  put_old r W h.inn h.good hs (by rw [h.keys, hN]; exact hr) h0
theorem len_as {W : World} {B tb m : Nat} {ks : List (List Int)} {T : Tb} (h : TK W B tb ks m T) : Calls Tryd.prog 17 #[ptr tb] W fun e W' => e = .returned (.int .i64 (ks.length : Nat)) ∧ W' = W := by
  rw [← h.len]; exact len_any W h.inn

theorem one_int (W : World) (k : Int) : IntsAt (W.alloc (.cells #[.int .i64 k] 3)) (.slice (some ⟨W.heap.size, 0, none⟩) 1 1) [k] := by
  refine .inr ⟨_, 1, rfl, by unfold maxLen; simp, fun i hi => ?_⟩
  have : i = 0 := by simp at hi; omega
  subst this
  rw [show (⟨W.heap.size, 0, none⟩ : Addr).add 0 = ⟨W.heap.size, 0, none⟩ from rfl, World.cell?_alloc_new]; rfl
theorem nums_one {room k : Nat} {L : List Nat} (hk : k < room) (h : ∀ m, memL L m = ofB room [(k : Int)] m) : nums L = [(k : Int)] := by
  refine (nums_is (L := L) (l := [(k : Int)]) (by simp) fun n => ?_).symm
  unfold hasI
  simp only [Bool.and_eq_true, decide_eq_true_eq, h, ofB, List.any_cons, List.any_nil, Bool.or_false, List.mem_cons, List.not_mem_nil, or_false]
  omega
/-- a set of one number -/
theorem of_one (W : World) (r k : Nat) (hk : k < r) (hr : r ≤ 65536) : Calls Tryd.prog 10 #[.int .i64 (r : Nat), .slice (some ⟨W.heap.size, 0, none⟩) 1 1] (W.alloc (.cells #[.int .i64 (k : Nat)] 3)) fun e w' => ∃ ao n c L, e = .returned (setV r (.slice ao n c)) ∧ SetAt w' W.heap.size r (.slice ao n c) L ∧ nums L = [(k : Int)] ∧ Below W.heap.size W w' := by
  have o := of_any (r : Int) _ [(k : Int)] _ (one_int W k)
  rw [Bt.roomF_nat hr] at o
  refine o.mono ?_
  rintro e w' ⟨v, L, rfl, hs, hm, hb⟩
  obtain ⟨ao, n, c, rfl⟩ := hs.val
  have hal := (Below.refl W.heap.size W).alloc (Nat.le_refl _) (.cells #[.int .i64 (k : Int)] 3)
  exact ⟨ao, n, c, L, rfl, hs.base hal.size, nums_one hk hm, hal.trans (hb.mono hal.size)⟩

set_option maxRecDepth 100000 in
set_option maxHeartbeats 2000000 in
theorem alive_any (w : World) : Calls Tryd.prog 5 #[] w fun e w' => e = .returned (.bool true) ∧ Below w.heap.size w w' := by
  have O1 := Lib.hid (fun W => of_one W 5 1 (by omega) (by omega))
  have O2 := Lib.hid (fun W => of_one W 5 2 (by omega) (by omega))
  have O3 := Lib.hid (fun W => of_one W 9 1 (by omega) (by omega))
  have NW := Lib.hid (new_any 9 w)
  unfold setV at *
  simp only [Int.cast_ofNat_Int] at O1 O2 O3
  go_enter Tryd.func5, Tryd.ntmps5
  go_wp2_with (first
    | (go_at_call 6; (with_reducible refine NW.out.mono ?_); rintro e w1 ⟨tb, pv, rfl, ht, hb⟩; unfold ptr; go_must (have K1 := Lib.hid (show TK w1 w.heap.size tb [] 9 _ ∧ Below w.heap.size w w1 from ⟨TK.new ht, hb⟩); clear ht hb NW))
    | (go_at_call 10; (with_reducible refine (O1.out w1).mono ?_); rintro e w2 ⟨ao, n, c, L1, rfl, hs, hN, hb⟩; go_must (have P1 := Lib.hid (put_fresh (K1.out.1.next hb) hs hN (idx0 _) (by decide)); have B2 := Lib.hid (show Below w.heap.size w w2 from K1.out.2.trans (hb.mono K1.out.2.size)); have J2 := Lib.hid (K1.out.1.next hb).inn; unfold setV ptr at P1; simp only [Int.cast_ofNat_Int, List.length_nil, List.nil_append] at P1; clear hs hN hb))
    | (go_at_call 11; (with_reducible refine P1.out.mono ?_); rintro e w3 ⟨T3, rfl, h3, _, st⟩; go_must (have K3 := Lib.hid (show TK w3 w.heap.size tb ([[1]]) 9 T3 ∧ Below w.heap.size w w3 from ⟨h3, B2.out.trans (st.base J2.out)⟩); clear h3 st))
    | (go_at_call 10; (with_reducible refine (O2.out w3).mono ?_); rintro e w4 ⟨ao, n, c, L2, rfl, hs, hN, hb⟩; go_must (have P2 := Lib.hid (put_fresh (K3.out.1.next hb) hs hN (idx1 (by decide)) (by decide)); have B4 := Lib.hid (show Below w.heap.size w w4 from K3.out.2.trans (hb.mono K3.out.2.size)); have J4 := Lib.hid (K3.out.1.next hb).inn; unfold setV ptr at P2; simp only [Int.cast_ofNat_Int, List.length_nil, List.nil_append, List.cons_append, List.length_cons, Nat.zero_add] at P2; clear hs hN hb))
    | (go_at_call 11; (with_reducible refine P2.out.mono ?_); rintro e w5 ⟨T5, rfl, h5, _, st⟩; go_must (have K5 := Lib.hid (show TK w5 w.heap.size tb ([[1], [2]]) 9 T5 ∧ Below w.heap.size w w5 from ⟨h5, B4.out.trans (st.base J4.out)⟩); clear h5 st))
    | (go_at_call 10; (with_reducible refine (O3.out w5).mono ?_); rintro e w6 ⟨ao, n, c, L3, rfl, hs, hN, hb⟩; go_must (have P3 := Lib.hid (put_there 0 (K5.out.1.next hb) hs hN (idx_hit _ _) (by decide)); have B6 := Lib.hid (show Below w.heap.size w w6 from K5.out.2.trans (hb.mono K5.out.2.size)); have J6 := Lib.hid (K5.out.1.next hb); unfold setV ptr at P3; simp only [Int.cast_ofNat_Int] at P3; clear hs hN hb))
    | (go_at_call 11; (with_reducible refine P3.out.mono ?_); rintro e w7 ⟨rfl, hb⟩; go_must (have L7 := Lib.hid (len_as (J6.out.next hb)); have B7 := Lib.hid (B6.out.trans (hb.mono B6.out.size)); unfold ptr at L7; simp only [Int.cast_ofNat_Int, List.length_nil, List.length_cons, Nat.zero_add, Nat.reduceAdd] at L7; clear hb))
    | (go_at_call 17; (with_reducible refine L7.out.mono ?_); rintro e w8 ⟨rfl, hw⟩; subst hw)
    | fail)
  go_ret
  exact ⟨rfl, B7.out⟩

end Go.Proofs.YtemmaoapicaloaaDoor.Sb

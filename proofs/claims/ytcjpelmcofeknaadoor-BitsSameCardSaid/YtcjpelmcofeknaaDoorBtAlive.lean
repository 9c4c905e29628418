/- The document's example; a set that nobody made. -/
import Derived.Test.YtcjpelmcofeknaaDoorBtFacts
import Derived.Test.YtcjpelmcofeknaaDoorUtSm
namespace Go.Proofs.YtcjpelmcofeknaaDoor.Bt
open Go Go.RowKit Go.Proofs.YtcjpelmcofeknaaDoor.Ut

theorem set_nil (w : World) (B : Nat) : SetAt w B 0 (.slice none 0 0) [] :=
  ⟨World.ownsRow_nil _ _ _ _, rfl, by omega, fun i => by simp, fun n h => by rw [memL_nil] at h; cases h⟩
theorem cnt_nums (L : List Nat) : cntX (fromL 0 L) = (nums L).length := (allX_len (fromL 0 L)).symm

theorem three_ints (w : World) : IntsAt (w.alloc (.cells #[.int .i64 3, .int .i64 1, .int .i64 12] 3)) (.slice (some ⟨w.heap.size, 0, none⟩) 3 3) [3, 1, 12] := by
  refine .inr ⟨_, 3, rfl, by unfold maxLen; simp, fun i hi => ?_⟩
  have : i = 0 ∨ i = 1 ∨ i = 2 := by simp at hi; omega
  rcases this with rfl | rfl | rfl
  · rw [show (⟨w.heap.size, 0, none⟩ : Addr).add 0 = ⟨w.heap.size, 0, none⟩ from rfl, World.cell?_alloc_new]; rfl
  · rw [show (⟨w.heap.size, 0, none⟩ : Addr).add 1 = ⟨w.heap.size, 1, none⟩ from rfl, World.cell?_alloc_new]; rfl
  · rw [show (⟨w.heap.size, 0, none⟩ : Addr).add 2 = ⟨w.heap.size, 2, none⟩ from rfl, World.cell?_alloc_new]; rfl

theorem nums_example {L : List Nat} (h : ∀ m, memL L m = ofB 9 [3, 1, 12] m) : nums L = [1, 3] := by
  refine (nums_is (L := L) (l := [1, 3]) (by simp) fun n => ?_).symm
  unfold hasI
  simp only [Bool.and_eq_true, decide_eq_true_eq, h, ofB, List.any_cons, List.any_nil, Bool.or_false, Bool.or_eq_true, List.mem_cons, List.not_mem_nil, or_false]
  omega

/-- a set of the call's own, in a box -/
structure SetIn (w : World) (bs room : Nat) (v : Value) (L : List Nat) (W : World) : Prop where
  below : Below w.heap.size w W
  box : BoxS W bs room v
  set : SetAt W w.heap.size room v L
theorem SetIn.next {w W W' : World} {bs room : Nat} {v : Value} {L : List Nat} (h : SetIn w bs room v L W) (hb : Below W.heap.size W W') : SetIn w bs room v L W' :=
  ⟨h.below.trans (hb.mono h.below.size), h.box.next hb, h.set.next hb⟩
theorem SetIn.turn {w W W' : World} {bs room : Nat} {v : Value} {L L' : List Nat} (h : SetIn w bs room v L W) (hs : SetAt W' w.heap.size room v L') (hg : W.grownBy W' v.ownBlock) : SetIn w bs room v L' W' :=
  ⟨h.below.grown hg h.below.size (fun k e => (h.set.row.lt k e).1), h.box.kept hg (h.box.not_row h.set), hs⟩
theorem SetIn.made {w w1 : World} {room : Nat} {v : Value} {L : List Nat} (hb : Below w.heap.size w w1) (hs : SetAt w1 w.heap.size room v L) : SetIn w w1.heap.size room v L (w1.alloc (.cells #[.int .i64 (room : Nat), v] 26)) :=
  ⟨hb.alloc hb.size _, World.alloc_heap_new w1 _, hs.next ((Below.refl _ _).alloc (Nat.le_refl _) _)⟩
theorem val_in {room : Nat} {L : List Nat} {n : Int} (m : Nat) (h : memL L m = true) (hn : n = (m : Int)) : (fitB room n && !hasI L n) = false := by
  subst hn
  simp [hasI, h]
theorem val_out {room : Nat} {L : List Nat} {n : Int} (m : Nat) (hr : m < room) (h : memL L m = false) (hn : n = (m : Int)) : (fitB room n && !hasI L n) = true := by
  subst hn
  simp [fitB, hasI, h]
  omega
theorem has_in {L : List Nat} {n : Int} (m : Nat) (h : memL L m = true) (hn : n = (m : Int)) : hasI L n = true := by
  subst hn
  simp [hasI, h]
theorem add_val {w W : World} {bs room : Nat} {v : Value} {L : List Nat} {n : Int} (b : Bool) (h : SetIn w bs room v L W) (hb : (fitB room n && !hasI L n) = b) :
    Calls Tryd.prog 10 #[setV room v, .int .i64 n] W fun e w' => ∃ L', e = .returned (.bool b) ∧ SetIn w bs room v L' w' ∧ (∀ m : Nat, memL L' m = (memL L m || (fitB room n && decide ((m : Int) = n)))) ∧ W.grownBy w' v.ownBlock := by
  subst hb
  refine (add_any w.heap.size room v L n W h.set).mono ?_
  rintro e w' ⟨L', rfl, h1, h2, h3⟩
  exact ⟨L', rfl, h.turn h1 h3, h2, h3⟩
theorem drop_val {w W : World} {bs room : Nat} {v : Value} {L : List Nat} {n : Int} (b : Bool) (h : SetIn w bs room v L W) (hb : hasI L n = b) :
    Calls Tryd.prog 12 #[setV room v, .int .i64 n] W fun e w' => ∃ L', e = .returned (.bool b) ∧ SetIn w bs room v L' w' ∧ (∀ m : Nat, memL L' m = (memL L m && !decide ((m : Int) = n))) ∧ W.grownBy w' v.ownBlock := by
  subst hb
  refine (drop_any w.heap.size room v L n W h.set).mono ?_
  rintro e w' ⟨L', rfl, h1, h2, h3⟩
  exact ⟨L', rfl, h.turn h1 h3, h2, h3⟩

set_option maxRecDepth 100000 in
set_option maxHeartbeats 4000000 in
theorem alive_any (w : World) (hT : Tab w) : Calls Tryd.prog 6 #[] w fun e w' => e = .returned (.bool true) ∧ Below w.heap.size w w' := by
  have HT := Lib.hid hT
  have OF := of_any 9 _ [3, 1, 12] _ (three_ints w)
  obtain ⟨room, hroom⟩ : ∃ room, room = roomF 9 := ⟨_, rfl⟩
  rw [← hroom] at OF
  have R9 := Lib.hid (show room = 9 from hroom)
  have O := Lib.hid OF
  clear hT OF hroom
  go_enter Tryd.func6, Tryd.ntmps6
  go_wp2_with (first
    | (go_at_call 14; (with_reducible refine O.out.mono ?_); rintro e w1 ⟨v, L, rfl, hs, hm, hb⟩; obtain ⟨ao, an, cap, rfl⟩ := hs.val; unfold setV;
        have hal := (Below.refl w.heap.size w).alloc (Nat.le_refl _) (.cells #[.int .i64 3, .int .i64 1, .int .i64 12] 3);
        have E1 := Lib.hid (SetIn.made (hal.trans (hb.mono hal.size)) (hs.base hal.size));
        have NM := Lib.hid (show allX (fromL 0 L) = [1, 3] from nums_example (by rw [R9.out] at hm; exact hm));
        have NC := Lib.hid (show cntX (fromL 0 L) = 2 by rw [cnt_nums]; show (allX (fromL 0 L)).length = 2; rw [NM.out]; rfl);
        have HM := Lib.hid (by rw [R9.out] at hm; exact hm);
        obtain ⟨x0, x1⟩ := E1.out.box.cells;
        have CAll := Lib.hid (fun W (h : SetIn w w1.heap.size room (.slice ao an cap) L W) => show Calls Tryd.prog 16 #[.agg #[.int .i64 (room : Nat), .slice ao an cap]] W _ from all_any w.heap.size room _ L W (HT.out.next h.below) h.set);
        have CCount := Lib.hid (fun W (h : SetIn w w1.heap.size room (.slice ao an cap) L W) => show Calls Tryd.prog 17 #[.agg #[.int .i64 (room : Nat), .slice ao an cap]] W _ from count_any w.heap.size room _ L W h.set);
        have CRoom := Lib.hid (fun W  => show Calls Tryd.prog 20 #[.agg #[.int .i64 (room : Nat), .slice ao an cap]] W (fun e w' => e = .returned (.int .i64 9) ∧ Below W.heap.size W w') from (room_any room _ W).mono (by rintro e w' ⟨rfl, h⟩; exact ⟨by rw [R9.out]; rfl, h⟩));
        have CAdd3 := Lib.hid (fun W (h : SetIn w w1.heap.size room (.slice ao an cap) L W) => show Calls Tryd.prog 10 #[.agg #[.int .i64 (room : Nat), .slice ao an cap], .int .i64 3] W _ from add_val (n := 3) false h (val_in 3 ((nums_nat L 3).1 (by show (3 : Int) ∈ allX (fromL 0 L); rw [NM.out]; decide)) rfl));
        clear hs hb hal hm)
    | (go_at_call 16; (with_reducible refine (CAll.out _ E1.out).mono ?_); rintro e w2 ⟨v', rfl, ho, hb2⟩; obtain ⟨a2, c2, rfl⟩ := own_slice ho;
        have E2 := Lib.hid (E1.out.next hb2); have I2 := Lib.hid (ints_of_row ho); obtain ⟨x2, x3⟩ := E2.out.box.cells; have l2 := E2.out.box.lt; clear ho hb2)
    | (go_at_call 15; (with_reducible refine (same_any _ _ _ [1, 3] _ (I2.out.next ((Below.refl _ _).alloc (Nat.le_refl _) _)) (slice_two _ 1 3)).mono ?_); rintro e w3 ⟨rfl, hb3⟩; rw [NM.out];
        have E3 := Lib.hid ((E2.out.next ((Below.refl _ _).alloc (Nat.le_refl _) _)).next hb3); obtain ⟨x4, x5⟩ := E3.out.box.cells; clear hb3)
    | (go_at_call 17; (with_reducible refine (CCount.out _ E3.out).mono ?_); rintro e w4 ⟨rfl, hb4⟩; rw [NC.out];
        have E4 := Lib.hid (E3.out.next hb4); obtain ⟨x6, x7⟩ := E4.out.box.cells; clear hb4)
    | (go_at_call 20; (with_reducible refine (CRoom.out _).mono ?_); rintro e w5 ⟨rfl, hb5⟩;
        have E5 := Lib.hid (E4.out.next hb5); obtain ⟨x8, x9⟩ := E5.out.box.cells; clear hb5)
    | (go_at_call 10; first
        | ((with_reducible refine (CAdd3.out _ E5.out).mono ?_); rintro e w6 ⟨L6, rfl, k6, m6, _⟩; have E6 := Lib.hid k6; have M6 := Lib.hid m6; obtain ⟨y0, y1⟩ := E6.out.box.cells; clear k6 m6;
            have CAdd8 := Lib.hid (show Calls Tryd.prog 10 #[.agg #[.int .i64 (room : Nat), .slice ao an cap], .int .i64 8] w6 _ from add_val (n := 8) true E6.out (val_out 8 (by have := R9.out; omega) (by rw [M6.out, HM.out, show ofB 9 [3, 1, 12] 8 = false by decide]; simp) rfl)))
        | ((with_reducible refine CAdd8.out.mono ?_); rintro e w7 ⟨L7, rfl, k7, m7, _⟩; have E7 := Lib.hid k7; have M7 := Lib.hid m7; obtain ⟨y2, y3⟩ := E7.out.box.cells; clear k7 m7;
            have CDrop := Lib.hid (show Calls Tryd.prog 12 #[.agg #[.int .i64 (room : Nat), .slice ao an cap], .int .i64 1] w7 _ from drop_val (n := 1) true E7.out (has_in 1 (by rw [M7.out, M6.out, HM.out, show ofB 9 [3, 1, 12] 1 = true by decide]; rfl) rfl))))
    | (go_at_call 12; (with_reducible refine CDrop.out.mono ?_); rintro e w8 ⟨L8, rfl, k8, m8, _⟩; have E8 := Lib.hid k8; clear k8 m8))
  go_ret
  exact ⟨rfl, E8.out.below⟩

end Go.Proofs.YtcjpelmcofeknaaDoor.Bt

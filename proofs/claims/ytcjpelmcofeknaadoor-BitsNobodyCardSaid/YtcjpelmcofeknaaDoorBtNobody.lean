/- The third law: a set that nobody made. -/
import Derived.Test.YtcjpelmcofeknaaDoorBtAlive
import Derived.Deep.RegionHeld3
namespace Go.Proofs.YtcjpelmcofeknaaDoor.Bt
open Go Go.RowKit Go.Proofs.YtcjpelmcofeknaaDoor.Ut

/-- the set that nobody made lies in its box -/
abbrev NS (w W : World) : Prop := W.cell? ⟨w.heap.size, 0, none⟩ = some (.int .i64 0) ∧ W.cell? ⟨w.heap.size, 1, none⟩ = some (.slice none 0 0) ∧ Below w.heap.size w W
theorem NS.next {w W W' : World} (h : NS w W) (hb : Below W.heap.size W W') : NS w W' :=
  ⟨cell_next h.1 hb, cell_next h.2.1 hb, h.2.2.trans (hb.mono h.2.2.size)⟩
theorem nb_has (n : Int) : hasI [] n = false := by unfold hasI; rw [memL_nil]; simp
theorem nb_fit (n : Int) : fitB 0 n = false := by unfold fitB; simp
theorem nb_add (n : Int) (W : World) : Calls Tryd.prog 10 #[.agg #[.int .i64 0, .slice none 0 0], .int .i64 n] W fun e W' => e = .returned (.bool false) ∧ Below W.heap.size W W' := by
  refine (add_any 0 0 (.slice none 0 0) [] n W (set_nil W 0)).mono ?_
  rintro e W' ⟨L', rfl, _, _, hg⟩
  exact ⟨by rw [nb_fit]; rfl, ⟨hg.os, hg.tape, hg.output, hg.size, fun k hk => hg.block k hk (by simp [Value.ownBlock])⟩⟩
theorem nb_drop (n : Int) (W : World) : Calls Tryd.prog 12 #[.agg #[.int .i64 0, .slice none 0 0], .int .i64 n] W fun e W' => e = .returned (.bool false) ∧ Below W.heap.size W W' := by
  refine (drop_any 0 0 (.slice none 0 0) [] n W (set_nil W 0)).mono ?_
  rintro e W' ⟨L', rfl, _, _, hg⟩
  exact ⟨by rw [nb_has], ⟨hg.os, hg.tape, hg.output, hg.size, fun k hk => hg.block k hk (by simp [Value.ownBlock])⟩⟩
theorem nb_same {W : World} {B room : Nat} {v : Value} {L : List Nat} (h : SetAt W B room v L) (hL : ∀ m, memL L m = false) : Calls Tryd.prog 21 #[.agg #[.int .i64 0, .slice none 0 0], setV room v] W fun e W' => e = .returned (.bool true) ∧ Below W.heap.size W W' := by
  refine (same_sets 0 0 B room (.slice none 0 0) v [] L W (set_nil W 0) h).mono ?_
  rintro e W' ⟨rfl, hb⟩
  refine ⟨?_, hb⟩
  rw [same_nums [] L (fun i => by simp) h.word]
  have : nums [] = nums L := nums_eq fun m => by rw [memL_nil, hL]
  simp [this]
theorem nb_join {W : World} {B room : Nat} {v : Value} {L : List Nat} (h : SetAt W B room v L) : Calls Tryd.prog 13 #[.agg #[.int .i64 0, .slice none 0 0], setV room v] W fun e W' => e = .returned (.bool false) ∧ Below W.heap.size W W' := by
  refine (join_any 0 0 B room (.slice none 0 0) v [] L W (set_nil W 0) h (by
    rcases h.row.2 with ⟨rfl, _⟩ | ⟨g, cap, cur, rfl, _⟩
    · exact .inl (by simp [Value.ownBlock])
    · exact .inr (by simp [Value.ownBlock]))).mono ?_
  rintro e W' ⟨Lc, more, rfl, hs, hj, hg⟩
  refine ⟨?_, ⟨hg.os, hg.tape, hg.output, hg.size, fun k hk => hg.block k hk (by simp [Value.ownBlock])⟩⟩
  have : more = false := by
    rw [Bool.eq_false_iff]
    intro hm
    obtain ⟨n, hn, _⟩ := hj.2.1 hm
    have := hs.inn n hn
    omega
  rw [this]

theorem one_ints (W : World) (y : Int) : IntsAt (W.alloc (.cells #[.int .i64 y] 3)) (.slice (some ⟨W.heap.size, 0, none⟩) 1 1) [y] := by
  refine .inr ⟨_, 1, rfl, by unfold maxLen; simp, fun i hi => ?_⟩
  obtain rfl : i = 0 := by simpa using hi
  rw [show (⟨W.heap.size, 0, none⟩ : Addr).add 0 = ⟨W.heap.size, 0, none⟩ from rfl, World.cell?_alloc_new]; rfl
set_option maxRecDepth 100000 in
set_option maxHeartbeats 8000000 in
theorem law_nobody (n : Int) (w : World) (hT : Tab w) : Calls Tryd.prog 5 #[.int .i64 n] w fun e w' => e = .returned (.bool true) ∧ Below w.heap.size w w' := by
  have HT := Lib.hid hT
  clear hT
  have CAdd := Lib.hid (fun W (h : NS w W) => show Calls Tryd.prog 10 #[.agg #[.int .i64 0, .slice none 0 0], .int .i64 n] W (fun e W' => e = .returned (.bool false) ∧ NS w W') from (nb_add n W).mono (by rintro e W' ⟨rfl, hb⟩; exact ⟨rfl, h.next hb⟩))
  have CDrop := Lib.hid (fun W (h : NS w W) => show Calls Tryd.prog 12 #[.agg #[.int .i64 0, .slice none 0 0], .int .i64 n] W (fun e W' => e = .returned (.bool false) ∧ NS w W') from (nb_drop n W).mono (by rintro e W' ⟨rfl, hb⟩; exact ⟨rfl, h.next hb⟩))
  have CHas := Lib.hid (fun W (h : NS w W) => show Calls Tryd.prog 18 #[.agg #[.int .i64 0, .slice none 0 0], .int .i64 n] W (fun e W' => e = .returned (.bool false) ∧ NS w W') from (has_any 0 0 (.slice none 0 0) [] n W (set_nil W 0)).mono (by rintro e W' ⟨rfl, hb⟩; exact ⟨by rw [nb_has], h.next hb⟩))
  have CCount := Lib.hid (fun W (h : NS w W) => show Calls Tryd.prog 17 #[.agg #[.int .i64 0, .slice none 0 0]] W (fun e W' => e = .returned (.int .i64 0) ∧ NS w W') from (count_any 0 0 (.slice none 0 0) [] W (set_nil W 0)).mono (by rintro e W' ⟨rfl, hb⟩; exact ⟨rfl, h.next hb⟩))
  have CAll := Lib.hid (fun W (h : NS w W) => show Calls Tryd.prog 16 #[.agg #[.int .i64 0, .slice none 0 0]] W (fun e W' => (∃ a c, e = .returned (.slice a 0 c)) ∧ NS w W') from (all_any 0 0 (.slice none 0 0) [] W (HT.out.next h.2.2) (set_nil W 0)).mono (by rintro e W' ⟨v', rfl, ho, hb⟩; obtain ⟨a, c, rfl⟩ := own_slice ho; exact ⟨⟨a, c, rfl⟩, h.next hb⟩))
  have CRoom := Lib.hid (fun W (h : NS w W) => show Calls Tryd.prog 20 #[.agg #[.int .i64 0, .slice none 0 0]] W (fun e W' => e = .returned (.int .i64 0) ∧ NS w W') from (room_any 0 (.slice none 0 0) W).mono (by rintro e W' ⟨rfl, hb⟩; exact ⟨rfl, h.next hb⟩))
  have CNew := Lib.hid (fun W (h : NS w W) => show Calls Tryd.prog 7 #[.int .i64 5] W (fun e W' => (∃ v L, e = .returned (setV 5 v) ∧ SetAt W' W.heap.size 5 v L ∧ ∀ m, memL L m = false) ∧ NS w W') from (new_any 5 W).mono (by rintro e W' ⟨v, rfl, hs, hb⟩; exact ⟨⟨v, _, rfl, hs, zeros_mem _⟩, h.next hb⟩))
  have COf := Lib.hid (fun W a c (ha : IntsAt W (.slice a 1 c) [3]) (h : NS w W) => show Calls Tryd.prog 14 #[.int .i64 9, .slice a 1 c] W (fun e W' => (∃ v L, e = .returned (setV 9 v) ∧ SetAt W' W.heap.size 9 v L) ∧ NS w W') from (of_any 9 _ [3] W ha).mono (by rintro e W' ⟨v, L, rfl, hs, _, hb⟩; exact ⟨⟨v, L, rfl, hs⟩, h.next hb⟩))
  have CCopy := Lib.hid (fun W (h : NS w W) => show Calls Tryd.prog 23 #[.agg #[.int .i64 0, .slice none 0 0]] W (fun e W' => (∃ a b c, e = .returned (.agg #[.int .i64 0, .slice a b c])) ∧ NS w W') from (copy_any 0 0 (.slice none 0 0) [] W (set_nil W 0)).mono (by rintro e W' ⟨v, rfl, hs, hb⟩; obtain ⟨a, b, c, rfl⟩ := hs.val; exact ⟨⟨a, b, c, rfl⟩, h.next hb⟩))
  have CRoom2 := Lib.hid (fun W a b c (h : NS w W) => show Calls Tryd.prog 20 #[.agg #[.int .i64 0, .slice a b c]] W (fun e W' => e = .returned (.int .i64 0) ∧ NS w W') from (room_any 0 (.slice a b c) W).mono (by rintro e W' ⟨rfl, hb⟩; exact ⟨rfl, h.next hb⟩))
  have CSame := Lib.hid (fun W B a b c L (hs : SetAt W B 5 (.slice a b c) L) (hm : ∀ m, memL L m = false) (h : NS w W) => show Calls Tryd.prog 21 #[.agg #[.int .i64 0, .slice none 0 0], .agg #[.int .i64 5, .slice a b c]] W (fun e W' => e = .returned (.bool true) ∧ NS w W') from (nb_same hs hm).mono (by rintro e W' ⟨rfl, hb⟩; exact ⟨rfl, h.next hb⟩))
  have CJoin := Lib.hid (fun W B a b c L (hs : SetAt W B 9 (.slice a b c) L) (h : NS w W) => show Calls Tryd.prog 13 #[.agg #[.int .i64 0, .slice none 0 0], .agg #[.int .i64 9, .slice a b c]] W (fun e W' => e = .returned (.bool false) ∧ NS w W') from (nb_join hs).mono (by rintro e W' ⟨rfl, hb⟩; exact ⟨rfl, h.next hb⟩))
  have CAlive := Lib.hid (fun W (h : NS w W) => show Calls Tryd.prog 6 #[] W (fun e W' => e = .returned (.bool true) ∧ NS w W') from (alive_any W (HT.out.next h.2.2)).mono (by rintro e W' ⟨rfl, hb⟩; exact ⟨rfl, h.next hb⟩))
  have N0 := Lib.hid (show NS w (w.alloc (.cells #[.int .i64 0, .slice none 0 0] 26)) from ⟨by rw [World.cell?_alloc_new]; rfl, by rw [World.cell?_alloc_new]; rfl, (Below.refl _ w).alloc (Nat.le_refl _) _⟩)
  go_enter Tryd.func5, Tryd.ntmps5
  go_wp2
  go_region_held3 (fun W => W.cell? ⟨w.heap.size, 0, none⟩ = some (.int .i64 0) ∧ W.cell? ⟨w.heap.size, 1, none⟩ = some (.slice none 0 0) ∧ Below w.heap.size w W) (first | assumption | exact NS.next N0.out ((Below.refl _ _).drew) | exact NS.next (by assumption) ((Below.refl _ _).alloc (Nat.le_refl _) _) | go_keep)
    (first
      | (go_at_call 10; (with_reducible refine (CAdd.out _ (by assumption)).mono ?_); rintro e w' ⟨rfl, hS'⟩)
      | (go_at_call 12; (with_reducible refine (CDrop.out _ (by assumption)).mono ?_); rintro e w' ⟨rfl, hS'⟩)
      | (go_at_call 18; (with_reducible refine (CHas.out _ (by assumption)).mono ?_); rintro e w' ⟨rfl, hS'⟩)
      | (go_at_call 17; (with_reducible refine (CCount.out _ (by assumption)).mono ?_); rintro e w' ⟨rfl, hS'⟩)
      | (go_at_call 16; (with_reducible refine (CAll.out _ (by assumption)).mono ?_); rintro e w' ⟨⟨a5, c5, rfl⟩, hS'⟩)
      | (go_at_call 20; first
          | ((with_reducible refine (CRoom.out _ (by assumption)).mono ?_); rintro e w' ⟨rfl, hS'⟩)
          | ((with_reducible refine (CRoom2.out _ _ _ _ (by assumption)).mono ?_); rintro e w' ⟨rfl, hS'⟩))
      | (go_at_call 7; (with_reducible refine (CNew.out _ (by assumption)).mono ?_); rintro e w' ⟨⟨v7, L7, rfl, hs7, hm7⟩, hS'⟩; obtain ⟨a7, b7, c7, rfl⟩ := hs7.val; have HS7 := Lib.hid (And.intro hs7 hm7); clear hs7 hm7; unfold setV)
      | (go_at_call 21; (with_reducible refine (CSame.out _ _ _ _ _ _ HS7.out.1 HS7.out.2 (by assumption)).mono ?_); rintro e w' ⟨rfl, hS'⟩)
      | (go_at_call 14; (with_reducible refine (COf.out _ _ _ (one_ints _ 3) (by assumption)).mono ?_); rintro e w' ⟨⟨v8, L8, rfl, hs8⟩, hS'⟩; obtain ⟨a8, b8, c8, rfl⟩ := hs8.val; have HS8 := Lib.hid hs8; clear hs8; unfold setV)
      | (go_at_call 13; (with_reducible refine (CJoin.out _ _ _ _ _ _ HS8.out (by assumption)).mono ?_); rintro e w' ⟨rfl, hS'⟩)
      | (go_at_call 23; (with_reducible refine (CCopy.out _ (by assumption)).mono ?_); rintro e w' ⟨⟨a9, b9, c9, rfl⟩, hS'⟩)
      | (go_at_call 6; (with_reducible refine (CAlive.out _ (by assumption)).mono ?_); rintro e w' ⟨rfl, hS'⟩))
  go_wp2
  go_ret
  exact ⟨rfl, hS'.2.2⟩

end Go.Proofs.YtcjpelmcofeknaaDoor.Bt

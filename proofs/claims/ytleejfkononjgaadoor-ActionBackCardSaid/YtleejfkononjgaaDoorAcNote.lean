/- What a name's word notes in an action, and a mode's. -/
import Derived.Test.YtleejfkononjgaaDoorAcStep
namespace Go.Proofs.YtleejfkononjgaaDoor.Ac
open Go Go.RowKit Go.Shelf Go.Proofs.YtleejfkononjgaaDoor.Wd

theorem clone_any (s : ByteArray) (w : World) (h : s.size ≤ 281474976710656) : Calls Tryd.prog 31 #[.string s] w fun e w' => e = .returned (.string s) ∧ Below w.heap.size w w' := by
  have C := Lib.hid (Tryd.stringslite_Clone s w h)
  go_enter Tryd.func31, Tryd.ntmps31
  go_wp2_with (go_at_call 39; refine C.out.mono ?_; rintro e w' ⟨rfl, hb⟩)
  go_ret
  exact ⟨rfl, hb⟩

set_option maxHeartbeats 800000 in
theorem note_emit (A : Nat) (em text : ByteArray) (g : Int) (v : Value) (w : World) (hs : text.size ≤ 1000000) (hn : nameL text.data.toList = true) (hbx : w.heap[A]? = some (.cells #[.string em, .int .i64 g] 26 (0, 0))) :
    Calls Tryd.prog 22 #[.pointer (some ⟨A, 0, none⟩), .agg #[.int .i64 2, .string ⟨#[]⟩, .int .i64 3], .string text, v] w fun e w' => e = .returned (.int .i64 0) ∧ w'.heap[A]? = some (.cells #[.string text, .int .i64 g] 26 (0, 0)) ∧ Nx A w w' := by
  have hA := (Array.getElem?_eq_some_iff.1 hbx).1
  have C := Lib.hid (fun W => (name_both text (by unfold maxLen; omega) W).1)
  have D := Lib.hid (fun W => clone_any text W (by omega))
  rw [hn] at C
  have BX := Lib.hid hbx
  clear hn hs hbx
  go_enter Tryd.func22, Tryd.ntmps22
  go_upto_region 1 with fail
  have hb1 := (Below.refl w.heap.size w).alloc (Nat.le_refl _) (.cells #[.int .i64 2, .string ⟨#[]⟩, .int .i64 3] 50)
  have hr1 : (w.alloc (.cells #[.int .i64 2, .string ⟨#[]⟩, .int .i64 3] 50)).heap[w.heap.size]? = some (.cells #[.int .i64 2, .string ⟨#[]⟩, .int .i64 3] 50 (0, 0)) := World.alloc_heap_new w _
  generalize w.alloc (.cells #[.int .i64 2, .string ⟨#[]⟩, .int .i64 3] 50) = w1 at *
  obtain ⟨m0, m1, m2⟩ := cells_three hr1
  have hn1 := (Array.getElem?_eq_some_iff.1 hr1).1
  have B1 := Lib.hid hb1
  clear hb1 hr1
  go_upto_region 8 with (first
    | (go_at_call 19; (with_reducible refine (C.out _).mono ?_); rintro e w' ⟨rfl, rfl⟩)
    | (go_at_call 31; ((with_reducible refine (D.out _).mono ?_); rintro e w2 ⟨rfl, hb⟩); go_must (have hb2 : Below w.heap.size w w2 := B1.out.trans (hb.mono B1.out.size); have bx2 := (hb2.block A hA).trans BX.out; have k0 := (cells_two bx2).1; have f0 := frozen_of_row w2 A 0 _ _ bx2; have hA2 := (Array.getElem?_eq_some_iff.1 bx2).1; have hn2 := Nat.lt_of_lt_of_le hn1 hb.size; have e0 := cell_next m0 hb; have ne : w.heap.size ≠ A := (by omega); have B2 := Lib.hid hb2; have X2 := Lib.hid bx2; clear hb hb2 bx2))
    | fail)
  have S := Lib.hid (set_two X2.out (.string text)).1
  have N := Lib.hid ((Nx.of_below (A := A) B2.out (by omega)).trans (Nx.set w2 0 (.string text)))
  have e0' := set_cell e0 ne (o := 0) (u := .string text)
  generalize w2.setCell ⟨A, 0, none⟩ (.string text) = w3 at *
  have hn3 := cell_lt e0'
  clear k0 f0 hA2 e0
  go_wp2
  go_ret
  exact ⟨rfl, S.out, N.out⟩

set_option maxHeartbeats 800000 in
theorem note_mode (A : Nat) (em text : ByteArray) (g : Int) (l : List ByteArray) (v : Value) (w : World) (hv : StrsAt w v l) (hs : text.size ≤ 1000000) (hn : nameL text.data.toList = true) (hbx : w.heap[A]? = some (.cells #[.string em, .int .i64 g] 26 (0, 0))) :
    Calls Tryd.prog 22 #[.pointer (some ⟨A, 0, none⟩), .agg #[.int .i64 4, .string ⟨#[]⟩, .int .i64 5], .string text, v] w fun e w' => e = .returned (.int .i64 (if numL l text = -1 then 11 else 0)) ∧ w'.heap[A]? = some (.cells #[.string em, .int .i64 (numL l text)] 26 (0, 0)) ∧ Nx A w w' := by
  have hA := (Array.getElem?_eq_some_iff.1 hbx).1
  have C := Lib.hid (fun W => (name_both text (by unfold maxLen; omega) W).1)
  have D := Lib.hid (fun W (h : Below w.heap.size w W) => number_any l v text W (hv.next h))
  rw [hn] at C
  have BX := Lib.hid hbx
  clear hn hs hbx hv
  go_enter Tryd.func22, Tryd.ntmps22
  go_upto_region 1 with fail
  have hb1 := (Below.refl w.heap.size w).alloc (Nat.le_refl _) (.cells #[.int .i64 4, .string ⟨#[]⟩, .int .i64 5] 50)
  have hr1 : (w.alloc (.cells #[.int .i64 4, .string ⟨#[]⟩, .int .i64 5] 50)).heap[w.heap.size]? = some (.cells #[.int .i64 4, .string ⟨#[]⟩, .int .i64 5] 50 (0, 0)) := World.alloc_heap_new w _
  generalize w.alloc (.cells #[.int .i64 4, .string ⟨#[]⟩, .int .i64 5] 50) = w1 at *
  obtain ⟨m0, m1, m2⟩ := cells_three hr1
  have hn1 := (Array.getElem?_eq_some_iff.1 hr1).1
  have bx2 := (hb1.block A hA).trans BX.out
  have k0 := (cells_two bx2).2
  have f0 := frozen_of_row w1 A 1 _ _ bx2
  have hA2 := (Array.getElem?_eq_some_iff.1 bx2).1
  have B1 := Lib.hid hb1
  have X1 := Lib.hid bx2
  clear hb1 hr1 bx2
  have S := Lib.hid (set_two X1.out (.int .i64 (numL l text))).2
  have N := Lib.hid ((Nx.of_below (A := A) B1.out (by omega)).trans (Nx.set w1 1 (.int .i64 (numL l text))))
  by_cases hq : numL l text = -1
  · rw [hq] at D S N
    have HQ := Lib.hid hq
    clear hq
    go_upto_region 10 with (first
      | (go_at_call 19; (with_reducible refine (C.out _).mono ?_); rintro e w' ⟨rfl, rfl⟩)
      | (go_at_call 20; ((with_reducible refine (D.out _ B1.out).mono ?_); rintro e w' ⟨rfl, rfl⟩))
      | fail)
    generalize w1.setCell ⟨A, 1, none⟩ (.int .i64 (-1)) = w3 at *
    have k1 := (cells_two S.out).2
    go_wp2
    go_ret
    exact ⟨by first | rfl | exact retNum (if_pos HQ.out).symm, by first | exact S.out | (rw [HQ.out]; exact S.out), N.out⟩
  · obtain ⟨q, hz⟩ : ∃ q, numL l text = q := ⟨_, rfl⟩
    rw [hz] at D S N hq
    have d0 : (q == -1) = false := by simpa using hq
    have HQ := Lib.hid hz
    have HR := Lib.hid hq
    have d1 : decide (q = -1) = false := by simpa using hq
    clear hz
    go_upto_region 10 with (first
      | (go_at_call 19; (with_reducible refine (C.out _).mono ?_); rintro e w' ⟨rfl, rfl⟩)
      | (go_at_call 20; ((with_reducible refine (D.out _ B1.out).mono ?_); rintro e w' ⟨rfl, rfl⟩))
      | fail)
    generalize w1.setCell ⟨A, 1, none⟩ (.int .i64 q) = w3 at *
    have k1 := (cells_two S.out).2
    go_wp2
    · exact absurd (HQ.out.symm.trans (by assumption)) HR.out
    go_ret
    exact ⟨by first | rfl | exact retNum (by rw [HQ.out, if_neg HR.out]), by first | exact S.out | (rw [HQ.out]; exact S.out), N.out⟩

end Go.Proofs.YtleejfkononjgaaDoor.Ac

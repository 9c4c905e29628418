/- The laws of place, walked: PlaceOf, PlaceLines. -/
import Derived.Test.YteimahbfjgcpiaaDoorPlLaws
namespace Go.Proofs.YteimahbfjgcpiaaDoor.Pl
open Go.RowKit

theorem isAt_ex (l : List UInt8) (line col : Int) : ∃ o, IsAt l line col o := by
  by_cases h : ∃ i, i ≤ l.length ∧ (((ofL (l.take i)).1 : Nat) : Int) = line ∧ (((ofL (l.take i)).2 : Nat) : Int) = col
  · obtain ⟨i, hi⟩ := h
    exact ⟨some i, hi⟩
  · exact ⟨none, fun i h1 h2 => h ⟨i, h1, h2⟩⟩
def on (o : Option Nat) : Int := (o.getD 0 : Nat)
theorem vAt_eq (o : Option Nat) : vAt o = .tuple #[.int .i64 (on o), .bool o.isSome] := by cases o <;> rfl
theorem at_m {w0 : World} {b : Nat} {p q : Int} (s : ByteArray) (hs : s.size ≤ 1000000) {line col : Int} (w : World) (a0 : -9223372036854775808 ≤ line) (a1 : line ≤ 9223372036854775807) (b0 : -9223372036854775808 ≤ col) (b1 : col ≤ 9223372036854775807) {v : Value} (hv : ∃ o, IsAt s.data.toList line col o ∧ vAt o = v) (g : Mid2 w0 b p q w) :
    Calls Tryd.prog 9 #[.string s, .int .i64 line, .int .i64 col] w fun e W' => e = .returned v ∧ Mid2 w0 b p q W' := by
  obtain ⟨o, ho, hv⟩ := hv
  exact (at_any s hs line col w a0 a1 b0 b1).mono fun _ _ ⟨p, he, hp, hb⟩ => ⟨by rw [he, isAt_one hp ho, hv], g.on hb⟩
theorem rat_m {w0 : World} {b : Nat} {p q : Int} (s : ByteArray) (hs : s.size ≤ 1000000) {line col : Int} (w : World) {v : Value} (hv : ∃ o, IsAt s.data.toList line col o ∧ vAt o = v) (g : Mid2 w0 b p q w) :
    Calls Tryd.prog 10 #[.string s, .int .i64 line, .int .i64 col] w fun e W' => e = .returned v ∧ Mid2 w0 b p q W' := by
  obtain ⟨o, ho, hv⟩ := hv
  exact (rat_any s hs line col w).mono fun _ _ ⟨p, he, hp, hw⟩ => ⟨by rw [he, isAt_one hp ho, hv], by rw [← hw]; exact g⟩

set_option maxRecDepth 100000 in
set_option maxHeartbeats 1000000 in
theorem law_of (s : ByteArray) (at_ line col : Int) (w : World) (hs : s.size ≤ maxLen) (a0 : -9223372036854775808 ≤ at_) (a1 : at_ ≤ 9223372036854775807) (b0 : -9223372036854775808 ≤ line) (b1 : line ≤ 9223372036854775807) (c0 : -9223372036854775808 ≤ col) (c1 : col ≤ 9223372036854775807) (hT : St w) :
    Calls Tryd.prog 3 #[.string s, .int .i64 at_, .agg #[.int .i64 line, .int .i64 col]] w fun r w' => r = .returned (.bool true) ∧ Below w.heap.size w w' := by
  have g0 : Mid2 w w.heap.size line col (w.alloc (.cells #[.int .i64 line, .int .i64 col] 22)) := ⟨World.cell?_alloc_new _ _ _ 0, World.cell?_alloc_new _ _ _ 1, (Gr.start hT).on ((Below.refl _ w).alloc (Nat.le_refl _) _)⟩
  have HA := Lib.hid (fun W (g : Mid2 w w.heap.size line col W) => alive_m W g)
  clear hT
  by_cases hm : 200 < s.size
  · unfold maxLen at hs
    go_enter Tryd.func3, Tryd.ntmps3
    go_wp2_with (go_at_call 6; refine (HA.out _ (by assumption)).mono ?_; rintro e w' ⟨rfl, g1⟩)
    go_ret
    exact ⟨rfl, g1.2.2.b⟩
  · have hs2 : s.size ≤ 1000000 := by omega
    have o1 := fun w => of_any s at_ w hs2 a0 a1
    have o2 := fun w => rof_any s at_ w hs2 a0 a1
    obtain ⟨o, ho⟩ := isAt_ex s.data.toList line col
    have x1 := Lib.hid (fun W (g : Mid2 w w.heap.size line col W) => at_m s hs2 W b0 b1 c0 c1 (v := .tuple #[.int .i64 (on o), .bool o.isSome]) ⟨o, ho, vAt_eq o⟩ g)
    have x2 := Lib.hid (fun W (g : Mid2 w w.heap.size line col W) => rat_m s hs2 W (v := .tuple #[.int .i64 (on o), .bool o.isSome]) ⟨o, ho, vAt_eq o⟩ g)
    clear ho
    generalize on o = X at *
    generalize o.isSome = B at *
    have hb1 := ofL_line_le (s.data.toList.take (cl at_ s.size))
    have hb2 := ofL_col_le (s.data.toList.take (cl at_ s.size))
    have hl : (s.data.toList.take (cl at_ s.size)).length ≤ 1000000 := by rw [List.length_take]; have := cl_le at_ s.size; omega
    unfold vOf at o1 o2
    by_cases hin : 0 ≤ at_ ∧ at_ ≤ s.size
    · obtain ⟨h0, h1⟩ := hin
      have hc := cl_in h0 h1
      have hb : IsAt s.data.toList ((ofL (s.data.toList.take (cl at_ s.size))).1 : Nat) ((ofL (s.data.toList.take (cl at_ s.size))).2 : Nat) (some (cl at_ s.size)) := ⟨by rw [len_size]; exact cl_le _ _, rfl, rfl⟩
      have hv : vAt (some (cl at_ s.size)) = .tuple #[.int .i64 at_, .bool true] := by unfold vAt; simp only; rw [hc]
      generalize (ofL (s.data.toList.take (cl at_ s.size))).1 = L at *
      generalize (ofL (s.data.toList.take (cl at_ s.size))).2 = C at *
      have x3 := Lib.hid (fun W (g : Mid2 w w.heap.size line col W) => at_m s hs2 W (by omega) (by omega) (by omega) (by omega) ⟨_, hb, hv⟩ g)
      have O1 := Lib.hid o1
      have O2 := Lib.hid o2
      clear hb hv hc hl hb1 hb2 o1 o2
      unfold maxLen at hs
      go_enter Tryd.func3, Tryd.ntmps3
      go_wp2_with (first
        | (go_at_call 7; refine (O1.out _).mono ?_; rintro e w' ⟨rfl, rfl⟩)
        | (go_at_call 8; refine (O2.out _).mono ?_; rintro e w' ⟨rfl, rfl⟩)
        | (go_at_call 9; (with_reducible refine (x1.out _ (by assumption)).mono ?_); rintro e w1 ⟨rfl, g1⟩; have p1 := g1.1; have q1 := g1.2.1)
        | (go_at_call 10; (with_reducible refine (x2.out _ (by assumption)).mono ?_); rintro e w2 ⟨rfl, g2⟩; have p2 := g2.1; have q2 := g2.2.1)
        | (go_at_call 9; (with_reducible refine (x3.out _ (by assumption)).mono ?_); rintro e w3 ⟨rfl, g3⟩; have p3 := g3.1; have q3 := g3.2.1)
        | (go_at_call 6; refine (HA.out _ (by assumption)).mono ?_; rintro e w4 ⟨rfl, g4⟩; have p4 := g4.1; have q4 := g4.2.1))
      go_ret
      exact ⟨rfl, g4.2.2.b⟩
    · generalize (ofL (s.data.toList.take (cl at_ s.size))).1 = L at *
      generalize (ofL (s.data.toList.take (cl at_ s.size))).2 = C at *
      have O1 := Lib.hid o1
      have O2 := Lib.hid o2
      clear hl hb1 hb2 o1 o2
      unfold maxLen at hs
      by_cases hn : 0 ≤ at_
      · have d1 : decide (0 ≤ at_) = true := by simpa using hn
        have d2 : decide (at_ ≤ (s.size : Int)) = false := by simp; omega
        go_enter Tryd.func3, Tryd.ntmps3
        go_wp2_with (first
          | (go_at_call 7; refine (O1.out _).mono ?_; rintro e w' ⟨rfl, rfl⟩)
          | (go_at_call 8; refine (O2.out _).mono ?_; rintro e w' ⟨rfl, rfl⟩)
          | (go_at_call 9; (with_reducible refine (x1.out _ (by assumption)).mono ?_); rintro e w1 ⟨rfl, g1⟩; have p1 := g1.1; have q1 := g1.2.1)
          | (go_at_call 10; (with_reducible refine (x2.out _ (by assumption)).mono ?_); rintro e w2 ⟨rfl, g2⟩; have p2 := g2.1; have q2 := g2.2.1)
          | (go_at_call 6; refine (HA.out _ (by assumption)).mono ?_; rintro e w4 ⟨rfl, g4⟩; have p4 := g4.1; have q4 := g4.2.1))
        go_ret
        exact ⟨rfl, g4.2.2.b⟩
      · have d1 : decide (0 ≤ at_) = false := by simp; omega
        go_enter Tryd.func3, Tryd.ntmps3
        go_wp2_with (first
          | (go_at_call 7; refine (O1.out _).mono ?_; rintro e w' ⟨rfl, rfl⟩)
          | (go_at_call 8; refine (O2.out _).mono ?_; rintro e w' ⟨rfl, rfl⟩)
          | (go_at_call 9; (with_reducible refine (x1.out _ (by assumption)).mono ?_); rintro e w1 ⟨rfl, g1⟩; have p1 := g1.1; have q1 := g1.2.1)
          | (go_at_call 10; (with_reducible refine (x2.out _ (by assumption)).mono ?_); rintro e w2 ⟨rfl, g2⟩; have p2 := g2.1; have q2 := g2.2.1)
          | (go_at_call 6; refine (HA.out _ (by assumption)).mono ?_; rintro e w4 ⟨rfl, g4⟩; have p4 := g4.1; have q4 := g4.2.1))
        go_ret
        exact ⟨rfl, g4.2.2.b⟩

end Go.Proofs.YteimahbfjgcpiaaDoor.Pl

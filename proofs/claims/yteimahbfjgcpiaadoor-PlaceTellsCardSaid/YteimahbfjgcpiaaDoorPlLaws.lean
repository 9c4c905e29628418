/- The laws of place, walked. -/
import Derived.Test.YteimahbfjgcpiaaDoorPlTell
namespace Go.Proofs.YteimahbfjgcpiaaDoor.Pl
open Go.RowKit

set_option maxRecDepth 100000 in
set_option maxHeartbeats 800000 in
theorem alive_any (w : World) (hT : St w) : Calls Tryd.prog 6 #[] w fun e w' => e = .returned (.bool true) ∧ Below w.heap.size w w' := by
  have c1 := Lib.hid (fun w => of_any ⟨#[97, 98, 10, 99]⟩ 3 w (by decide) (by omega) (by omega))
  have c2 := Lib.hid (fun w (h : St w) => tell_any ⟨#[97, 98, 10, 99]⟩ (by decide) 3 3 w (by omega) (by omega) (by omega) (by omega) h)
  have e1 : vOf ((⟨#[97, 98, 10, 99]⟩ : ByteArray).data.toList.take (cl 3 (⟨#[97, 98, 10, 99]⟩ : ByteArray).size)) = .tuple #[.int .i64 2, .int .i64 1] := by kernel_rfl
  have e2 : vTell ((⟨#[97, 98, 10, 99]⟩ : ByteArray).data.toList.take (cl 3 (⟨#[97, 98, 10, 99]⟩ : ByteArray).size)) 3 = .string ⟨#[50, 58, 49, 58, 32, 102, 111, 114, 109]⟩ := by kernel_rfl
  rw [e1] at c1
  rw [e2] at c2
  clear e1 e2
  go_enter Tryd.func6, Tryd.ntmps6
  go_wp2_with (first
    | (go_at_call 7; refine (c1.out _).mono ?_; rintro e w' ⟨rfl, rfl⟩)
    | (go_at_call 13; refine (c2.out _ hT).mono ?_; rintro e w' ⟨rfl, hb⟩))
  go_ret
  exact ⟨rfl, hb⟩
theorem alive_g {w0 : World} (w : World) (g : Gr w0 w) : Calls Tryd.prog 6 #[] w fun e w' => e = .returned (.bool true) ∧ Gr w0 w' :=
  (alive_any w g.here).mono fun _ _ ⟨he, hw⟩ => ⟨he, g.on hw⟩

/-- between the calls of a statement: the fault's box, and the tables -/
def Mid2 (w0 : World) (b : Nat) (e a : Int) (W : World) : Prop := W.cell? ⟨b, 0, none⟩ = some (.int .i64 e) ∧ W.cell? ⟨b, 1, none⟩ = some (.int .i64 a) ∧ Gr w0 W
theorem Mid2.on {w0 W W' : World} {b : Nat} {e a : Int} (h : Mid2 w0 b e a W) (hb : Below W.heap.size W W') : Mid2 w0 b e a W' := ⟨cell_next h.1 hb, cell_next h.2.1 hb, h.2.2.on hb⟩
theorem tell_m {w0 : World} {b : Nat} {e a : Int} {v : Value} (s : ByteArray) (hs : s.size ≤ 1000000) (W : World) (a0 : -9223372036854775808 ≤ e) (a1 : e ≤ 9223372036854775807) (b0 : -9223372036854775808 ≤ a) (b1 : a ≤ 9223372036854775807)
    (hv : vTell (s.data.toList.take (cl a s.size)) e = v) (h : Mid2 w0 b e a W) :
    Calls Tryd.prog 13 #[.string s, .agg #[.int .i64 e, .int .i64 a]] W fun r w' => r = .returned v ∧ Mid2 w0 b e a w' :=
  (tell_any s hs e a W a0 a1 b0 b1 h.2.2.here).mono fun _ _ ⟨p, hb⟩ => ⟨by rw [p, hv], h.on hb⟩
theorem rtell_m {w0 : World} {b : Nat} {e a : Int} {v : Value} (s : ByteArray) (hs : s.size ≤ 1000000) (W : World) (b0 : -9223372036854775808 ≤ a) (b1 : a ≤ 9223372036854775807)
    (hv : vTell (s.data.toList.take (cl a s.size)) e = v) (h : Mid2 w0 b e a W) :
    Calls Tryd.prog 14 #[.string s, .agg #[.int .i64 e, .int .i64 a]] W fun r w' => r = .returned v ∧ Mid2 w0 b e a w' :=
  (rtell_any s hs e a W b0 b1).mono fun _ _ ⟨p, hb⟩ => ⟨by rw [p, hv], h.on hb⟩
theorem word_m2 {w0 : World} {b : Nat} {e a : Int} {v : Value} (W : World) (a0 : -9223372036854775808 ≤ e) (a1 : e ≤ 9223372036854775807) (hv : Value.string ⟨(wordOf e).toArray⟩ = v) (h : Mid2 w0 b e a W) :
    Calls Tryd.prog 15 #[.int .i64 e] W fun r w' => r = .returned v ∧ Mid2 w0 b e a w' :=
  (word_any e W a0 a1 h.2.2.here).mono fun _ _ ⟨p, hw⟩ => ⟨by rw [p, hv], by rw [← hw]; exact h⟩
theorem rword_m2 {w0 : World} {b : Nat} {e a : Int} {v : Value} (W : World) (hv : Value.string ⟨(wordOf e).toArray⟩ = v) (h : Mid2 w0 b e a W) :
    Calls Tryd.prog 16 #[.int .i64 e] W fun r w' => r = .returned v ∧ Mid2 w0 b e a w' :=
  (rword_any e W).mono fun _ _ ⟨p, hw⟩ => ⟨by rw [p, hv], by rw [← hw]; exact h⟩
theorem alive_m {w0 : World} {b : Nat} {e a : Int} (W : World) (h : Mid2 w0 b e a W) :
    Calls Tryd.prog 6 #[] W fun r w' => r = .returned (.bool true) ∧ Mid2 w0 b e a w' :=
  (alive_any W h.2.2.here).mono fun _ _ ⟨p, hb⟩ => ⟨p, h.on hb⟩

set_option maxRecDepth 100000 in
set_option maxHeartbeats 800000 in
theorem law_tells (s : ByteArray) (e at_ : Int) (w : World) (hs : s.size ≤ maxLen) (a0 : -9223372036854775808 ≤ e) (a1 : e ≤ 9223372036854775807) (b0 : -9223372036854775808 ≤ at_) (b1 : at_ ≤ 9223372036854775807) (hT : St w) :
    Calls Tryd.prog 5 #[.string s, .agg #[.int .i64 e, .int .i64 at_]] w fun r w' => r = .returned (.bool true) ∧ Below w.heap.size w w' := by
  have HM : Mid2 w w.heap.size e at_ (w.alloc (.cells #[.int .i64 e, .int .i64 at_] 34)) := ⟨World.cell?_alloc_new _ _ _ 0, World.cell?_alloc_new _ _ _ 1, (Gr.start hT).on ((Below.refl _ w).alloc (Nat.le_refl _) _)⟩
  by_cases hm : 1000 < s.size
  · unfold maxLen at hs
    go_enter Tryd.func5, Tryd.ntmps5
    go_wp2_with (go_at_call 6; refine (alive_m _ HM).mono ?_; rintro e w' ⟨rfl, hm⟩)
    go_ret
    exact ⟨rfl, hm.2.2.b⟩
  · obtain ⟨x, hx⟩ : ∃ x, vTell (s.data.toList.take (cl at_ s.size)) e = .string x := ⟨_, rfl⟩
    obtain ⟨y, hy⟩ : ∃ y, Value.string ⟨(wordOf e).toArray⟩ = .string y := ⟨_, rfl⟩
    have HX := Lib.hid hx
    have HY := Lib.hid hy
    have hs2 : s.size ≤ 1000000 := by omega
    clear hx hy hT
    unfold maxLen at hs
    go_enter Tryd.func5, Tryd.ntmps5
    go_wp2_with fail
    generalize w.alloc (.cells #[.int .i64 e, .int .i64 at_] 34) = W at *
    have hm1 := HM.1
    have HD : Mid2 w w.heap.size e at_ W.drew := HM.on ((Below.refl _ W).drew)
    have hm2 := HD.1
    go_region_held3 (fun W' => W'.cell? ⟨w.heap.size, 0, none⟩ = some (.int .i64 e) ∧ W'.cell? ⟨w.heap.size, 1, none⟩ = some (.int .i64 at_) ∧ Gr w W') (first | exact HD | exact ⟨by assumption, by assumption, by assumption⟩)
      (first
      | (go_at_call 13; refine (tell_m s hs2 _ a0 a1 b0 b1 HX.out ‹_›).mono ?_; rintro e w' ⟨rfl, m1, m2, m3⟩)
      | (go_at_call 14; refine (rtell_m s hs2 _ b0 b1 HX.out ‹_›).mono ?_; rintro e w' ⟨rfl, m1, m2, m3⟩)
      | (go_at_call 15; refine (word_m2 _ a0 a1 HY.out ‹_›).mono ?_; rintro e w' ⟨rfl, m1, m2, m3⟩)
      | (go_at_call 16; refine (rword_m2 _ HY.out ‹_›).mono ?_; rintro e w' ⟨rfl, m1, m2, m3⟩)
      | (go_at_call 6; refine (alive_m _ ‹_›).mono ?_; rintro e w' ⟨rfl, m1, m2, m3⟩))
    all_goals
      go_wp2
      go_ret
      exact ⟨rfl, m3.b⟩

end Go.Proofs.YteimahbfjgcpiaaDoor.Pl

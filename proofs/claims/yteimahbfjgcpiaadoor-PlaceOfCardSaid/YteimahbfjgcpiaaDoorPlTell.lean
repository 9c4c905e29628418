/- Word and Tell, the program's and the document's. -/
import Derived.Test.YteimahbfjgcpiaaDoorPlAt
import Derived.Test.YteimahbfjgcpiaaDoorDgRText
import Derived.Deep.RegionHeld3
import Derived.Deep.QuietTactic
import Derived.BigQuiet
namespace Go.Proofs.YteimahbfjgcpiaaDoor.Pl
open Go.RowKit Go.Shelf

/-- the errors' words, in order -/
def wordTab : List (List UInt8) := [[111, 107], [97, 114, 103, 117, 109, 101, 110, 116], [114, 97, 110, 103, 101], [102, 111, 114, 109], [110, 97, 109, 101], [116, 119, 105, 99, 101], [98, 105, 103], [100, 101, 101, 112], [101, 109, 112, 116, 121], [117, 110, 115, 117, 112, 112, 111, 114, 116, 101, 100], [110, 111, 110, 101], [109, 111, 100, 101], [109, 97, 114, 107], [116, 114, 97, 105, 108], [102, 117, 108, 108], [115, 116, 97, 114, 118, 101, 100], [99, 108, 111, 115, 101, 100], [98, 117, 115, 121], [115, 116, 97, 116, 101]]
def wordOf (e : Int) : List UInt8 := if 0 ≤ e ∧ e < 19 then wordTab.getD e.toNat [] else [117, 110, 107, 110, 111, 119, 110]
theorem tab_le : ∀ l ∈ wordTab, l.length ≤ 20 := by decide +kernel
theorem wordOf_len (e : Int) : (wordOf e).length ≤ 20 := by
  unfold wordOf
  split
  · rw [List.getD_eq_getElem?_getD]
    cases h : wordTab[e.toNat]? with
    | none => simp
    | some l => simpa using tab_le l (List.mem_of_getElem? h)
  · simp
theorem wordOf_not {e : Int} (h : e < 0 ∨ 19 ≤ e) : wordOf e = [117, 110, 107, 110, 111, 119, 110] := by
  unfold wordOf; rw [if_neg (by omega)]

/-- the tables as the program's text lays them -/
structure St (w : World) : Prop where
  words : ∀ k, k < 19 → w.cell? ⟨0, k, none⟩ = some (.string ⟨(wordTab.getD k []).toArray⟩)
  pow : Lib.TabIs Tryd.prog w "internal/strconv.uint64pow10" .u64 Lib.pow10Tab
theorem St.next {w w' : World} (h : St w) (hb : Below w.heap.size w w') : St w' :=
  ⟨fun k hk => cell_next (h.words k hk) hb, by
    have hp := h.pow
    unfold Lib.TabIs World.var? at *
    cases hg : Tryd.prog.globalNamed "internal/strconv.uint64pow10" with
    | none => simp [hg] at hp
    | some g =>
      simp only [hg, Option.bind_some] at hp ⊢
      have hlt : g < w.heap.size := by
        rcases Nat.lt_or_ge g w.heap.size with h' | h'
        · exact h'
        · rw [Array.getElem?_eq_none h'] at hp; simp at hp
      rw [hb.block g hlt]
      exact hp⟩

theorem below_drewN (w : World) (k : Nat) : Below w.heap.size w (w.drewN k) := ⟨rfl, rfl, rfl, Nat.le_refl _, fun _ _ => rfl⟩
theorem below_grow (w : World) (k : Nat) (os : Array Obj) : Below w.heap.size w (Go.Sort.grow (w.drewN k) os) :=
  ⟨rfl, rfl, rfl, by simp [Go.Sort.grow], fun j hj => by
    show ((w.drewN k).heap ++ os)[j]? = _
    rw [Array.getElem?_append_left (by simpa using hj)]; rfl⟩

set_option maxRecDepth 100000 in
set_option maxHeartbeats 400000 in
theorem text_any (n : Nat) (w : World) (h1 : (n : Int) ≤ 9223372036854775807) (hs : St w) :
    Calls Tryd.prog 20 #[.int .i64 (n : Nat)] w fun e w' => e = .returned (.string ⟨(Lib.decDigits n).toArray⟩) ∧ Below w.heap.size w w' := by
  have hi := Lib.hid (Tryd.strconv_Itoa n (by omega) h1 w hs.pow)
  have he : Lib.itoa (n : Int) = Lib.decDigits n := by rw [Dg.itoa_pos (by omega)]; rfl
  rw [he] at hi
  clear hs he
  go_enter Tryd.func20, Tryd.ntmps20
  go_wp2_with (go_at_call 28; refine hi.out.mono ?_; rintro e w' ⟨rfl, k, os, rfl⟩)
  go_ret
  exact ⟨rfl, below_grow _ _ _⟩

theorem retW {e : Int} {l : List UInt8} (h : wordOf e = l) : Ending.returned (.string ⟨l.toArray⟩) = .returned (.string ⟨(wordOf e).toArray⟩) := by rw [h]
theorem retS {a b : ByteArray} (h : a = b) : Ending.returned (.string a) = .returned (.string b) := by rw [h]

set_option maxRecDepth 100000 in
set_option maxHeartbeats 400000 in
theorem word_any (e : Int) (w : World) (h0 : -9223372036854775808 ≤ e) (h1 : e ≤ 9223372036854775807) (hs : St w) :
    Calls Tryd.prog 15 #[.int .i64 e] w fun r w' => r = .returned (.string ⟨(wordOf e).toArray⟩) ∧ w = w' := by
  by_cases h : e < 0 ∨ 19 ≤ e
  · have hw := Lib.hid (wordOf_not h)
    clear hs
    go_enter Tryd.func15, Tryd.ntmps15
    rcases h with h | h
    · have d1 : decide (e < 0) = true := by simpa using h
      go_wp2
      go_ret
      exact ⟨retW hw.out, rfl⟩
    · have d1 : decide (e < 0) = false := by simp; omega
      have d2 : decide (19 ≤ e) = true := by simpa using h
      go_wp2
      go_ret
      exact ⟨retW hw.out, rfl⟩
  · have hc := hs.words e.toNat (by omega)
    have hw : wordOf e = wordTab.getD e.toNat [] := by unfold wordOf; rw [if_pos (by omega)]
    have HW := Lib.hid hw
    have d1 : decide (e < 0) = false := by simp; omega
    have d2 : decide (19 ≤ e) = false := by simp; omega
    have h2 : 0 ≤ e := by omega
    have h3 : e < 19 := by omega
    clear hs hw h
    go_enter Tryd.func15, Tryd.ntmps15
    go_wp2
    go_ret
    exact ⟨retW HW.out, rfl⟩

set_option maxRecDepth 100000 in
set_option maxHeartbeats 4000000 in
theorem rword_any (e : Int) (w : World) :
    Calls Tryd.prog 16 #[.int .i64 e] w fun r w' => r = .returned (.string ⟨(wordOf e).toArray⟩) ∧ w = w' := by
  by_cases h : e < 0 ∨ 19 ≤ e
  · have hw := Lib.hid (wordOf_not h)
    have q : ∀ k : Int, 0 ≤ k → k < 19 → (e == k) = false := fun k _ _ => beq_eq_false_iff_ne.2 (by omega)
    have q0 := q 0 (by omega) (by omega)
    have q1 := q 1 (by omega) (by omega)
    have q2 := q 2 (by omega) (by omega)
    have q3 := q 3 (by omega) (by omega)
    have q4 := q 4 (by omega) (by omega)
    have q5 := q 5 (by omega) (by omega)
    have q6 := q 6 (by omega) (by omega)
    have q7 := q 7 (by omega) (by omega)
    have q8 := q 8 (by omega) (by omega)
    have q9 := q 9 (by omega) (by omega)
    have q10 := q 10 (by omega) (by omega)
    have q11 := q 11 (by omega) (by omega)
    have q12 := q 12 (by omega) (by omega)
    have q13 := q 13 (by omega) (by omega)
    have q14 := q 14 (by omega) (by omega)
    have q15 := q 15 (by omega) (by omega)
    have q16 := q 16 (by omega) (by omega)
    have q17 := q 17 (by omega) (by omega)
    have q18 := q 18 (by omega) (by omega)
    clear h q
    go_enter Tryd.func16, Tryd.ntmps16
    go_wp2
    go_ret
    exact ⟨retW hw.out, rfl⟩
  · have hk : e = 0 ∨ e = 1 ∨ e = 2 ∨ e = 3 ∨ e = 4 ∨ e = 5 ∨ e = 6 ∨ e = 7 ∨ e = 8 ∨ e = 9 ∨ e = 10 ∨ e = 11 ∨ e = 12 ∨ e = 13 ∨ e = 14 ∨ e = 15 ∨ e = 16 ∨ e = 17 ∨ e = 18 := by omega
    clear h
    rcases hk with rfl | rfl | rfl | rfl | rfl | rfl | rfl | rfl | rfl | rfl | rfl | rfl | rfl | rfl | rfl | rfl | rfl | rfl | rfl
    all_goals
      go_enter Tryd.func16, Tryd.ntmps16
      go_wp2
      go_ret
      exact ⟨retW (by decide +kernel), rfl⟩


def tellL (L C : Nat) (e : Int) : List UInt8 := Lib.decDigits L ++ [58] ++ Lib.decDigits C ++ [58, 32] ++ wordOf e
/-- a fault told -/
def vTell (l : List UInt8) (e : Int) : Value := .string ⟨(tellL (ofL l).1 (ofL l).2 e).toArray⟩

theorem rtext_q (n : Nat) (w : World) (h : (n : Int) ≤ 1000001) : Calls Tryd.prog 21 #[.int .i64 (n : Nat)] w fun r w' => r = .returned (.string ⟨(Lib.decDigits n).toArray⟩) ∧ w' = w :=
  (Dg.rtext (n : Int) w (by omega) (by omega)).mono fun _ _ ⟨a, b⟩ => ⟨by rw [a, Int.toNat_natCast], b.symm⟩
theorem rword_q (e : Int) (w : World) : Calls Tryd.prog 16 #[.int .i64 e] w fun r w' => r = .returned (.string ⟨(wordOf e).toArray⟩) ∧ w' = w :=
  (rword_any e w).mono fun _ _ ⟨a, b⟩ => ⟨a, b.symm⟩

structure Gr (w0 w : World) : Prop where
  st : St w0
  b : Below w0.heap.size w0 w
theorem Gr.start {w : World} (h : St w) : Gr w w := ⟨h, Below.refl _ _⟩
theorem Gr.here {w0 w : World} (h : Gr w0 w) : St w := h.st.next h.b
theorem Gr.on {w0 w w' : World} (h : Gr w0 w) (hb : Below w.heap.size w w') : Gr w0 w' := ⟨h.st, h.b.trans (hb.mono h.b.size)⟩

set_option maxRecDepth 100000 in
set_option maxHeartbeats 1000000 in
theorem rtell_any (s : ByteArray) (hs : s.size ≤ 1000000) (e at_ : Int) (w : World) (b0 : -9223372036854775808 ≤ at_) (b1 : at_ ≤ 9223372036854775807) :
    Calls Tryd.prog 14 #[.string s, .agg #[.int .i64 e, .int .i64 at_]] w fun r w' => r = .returned (vTell (s.data.toList.take (cl at_ s.size)) e) ∧ Below w.heap.size w w' := by
  have hcl := cl_le at_ s.size
  have c1 := Lib.hid (fun w => rof_any s at_ w hs b0 b1)
  unfold vOf at c1
  unfold vTell
  have hb1 := ofL_line_le (s.data.toList.take (cl at_ s.size))
  have hb2 := ofL_col_le (s.data.toList.take (cl at_ s.size))
  have hl : (s.data.toList.take (cl at_ s.size)).length ≤ 1000000 := by rw [List.length_take]; omega
  generalize (ofL (s.data.toList.take (cl at_ s.size))).1 = L at *
  generalize (ofL (s.data.toList.take (cl at_ s.size))).2 = C at *
  have hL : (L : Int) ≤ 1000001 := by omega
  have hC : (C : Int) ≤ 1000001 := by omega
  have l1 : (Lib.decDigits L).length ≤ 20 := Dg.dec_len20 (by omega)
  have l2 : (Lib.decDigits C).length ≤ 20 := Dg.dec_len20 (by omega)
  have l3 := wordOf_len e
  have hR : tellL L C e = Lib.decDigits L ++ [58] ++ Lib.decDigits C ++ [58, 32] ++ wordOf e := rfl
  have HR := Lib.hid hR
  clear hl hcl hs hR
  generalize tellL L C e = R at *
  go_enter Tryd.func14, Tryd.ntmps14
  go_wp2_with (go_at_call 8; refine (c1.out _).mono ?_; rintro e w' ⟨rfl, rfl⟩)
  go_quiet (first
    | (go_at_call 21; exact Calls.quiet_of_same (rtext_q _ _ (by omega)))
    | (go_at_call 16; exact Calls.quiet_of_same (rword_q _ _)))
  go_wp2
  go_ret
  exact ⟨retS (by rw [HR.out]; simp [ByteArray.ext_iff]), ((Below.refl _ w).alloc (Nat.le_refl _) _).trans ((below_drewN _ _).mono (by simp))⟩

/-- two texts one behind the other, as a statement's operation -/
theorem run_join (a b : ByteArray) (h : a.size + b.size ≤ 1000) : ∃ x : ByteArray, x = a ++ b ∧ x.size = a.size + b.size ∧ ∀ w : World, (Op.stringOp .add a b).run Tryd.prog w = .ok (.string x) w :=
  ⟨a ++ b, rfl, by simp [ByteArray.size_append], fun w => run_string_add_sum w a b (by omega)⟩
theorem size_mk (l : List UInt8) : (⟨l.toArray⟩ : ByteArray).size = l.length := rfl

/-- between the calls of a statement: the fault's box, and the tables -/
def Mid (w0 : World) (b : Nat) (e : Int) (W : World) : Prop := W.cell? ⟨b, 0, none⟩ = some (.int .i64 e) ∧ Gr w0 W
theorem Mid.on {w0 W W' : World} {b : Nat} {e : Int} (h : Mid w0 b e W) (hb : Below W.heap.size W W') : Mid w0 b e W' := ⟨cell_next h.1 hb, h.2.on hb⟩
theorem text_m {w0 : World} {b : Nat} {e : Int} (n : Nat) (W : World) (h1 : (n : Int) ≤ 1000001) (h : Mid w0 b e W) :
    Calls Tryd.prog 20 #[.int .i64 (n : Nat)] W fun r w' => r = .returned (.string ⟨(Lib.decDigits n).toArray⟩) ∧ Mid w0 b e w' :=
  (text_any n W (by omega) h.2.here).mono fun _ _ ⟨a, hb⟩ => ⟨a, h.on hb⟩
theorem word_m {w0 : World} {b : Nat} {e : Int} (W : World) (h0 : -9223372036854775808 ≤ e) (h1 : e ≤ 9223372036854775807) (h : Mid w0 b e W) :
    Calls Tryd.prog 15 #[.int .i64 e] W fun r w' => r = .returned (.string ⟨(wordOf e).toArray⟩) ∧ Mid w0 b e w' :=
  (word_any e W h0 h1 h.2.here).mono fun _ _ ⟨a, hw⟩ => ⟨a, by rw [← hw]; exact h⟩

set_option maxRecDepth 100000 in
set_option maxHeartbeats 1000000 in
theorem tell_any (s : ByteArray) (hs : s.size ≤ 1000000) (e at_ : Int) (w : World) (a0 : -9223372036854775808 ≤ e) (a1 : e ≤ 9223372036854775807) (b0 : -9223372036854775808 ≤ at_) (b1 : at_ ≤ 9223372036854775807) (hst : St w) :
    Calls Tryd.prog 13 #[.string s, .agg #[.int .i64 e, .int .i64 at_]] w fun r w' => r = .returned (vTell (s.data.toList.take (cl at_ s.size)) e) ∧ Below w.heap.size w w' := by
  have hcl := cl_le at_ s.size
  have c1 := Lib.hid (fun w => of_any s at_ w hs b0 b1)
  unfold vOf at c1
  unfold vTell
  have hb1 := ofL_line_le (s.data.toList.take (cl at_ s.size))
  have hb2 := ofL_col_le (s.data.toList.take (cl at_ s.size))
  have hl : (s.data.toList.take (cl at_ s.size)).length ≤ 1000000 := by rw [List.length_take]; omega
  generalize (ofL (s.data.toList.take (cl at_ s.size))).1 = L at *
  generalize (ofL (s.data.toList.take (cl at_ s.size))).2 = C at *
  have hL : (L : Int) ≤ 1000001 := by omega
  have hC : (C : Int) ≤ 1000001 := by omega
  have l1 : (Lib.decDigits L).length ≤ 20 := Dg.dec_len20 (by omega)
  have l2 : (Lib.decDigits C).length ≤ 20 := Dg.dec_len20 (by omega)
  have l3 := wordOf_len e
  have hR : tellL L C e = Lib.decDigits L ++ [58] ++ Lib.decDigits C ++ [58, 32] ++ wordOf e := rfl
  have HR := Lib.hid hR
  have HM : Mid w w.heap.size e (w.alloc (.cells #[.int .i64 e, .int .i64 at_] 34)) := ⟨World.cell?_alloc_new _ _ _ 0, (Gr.start hst).on ((Below.refl _ w).alloc (Nat.le_refl _) _)⟩
  clear hl hcl hs hR hst
  generalize tellL L C e = R at *
  have j1 := run_join ⟨(Lib.decDigits L).toArray⟩ ⟨#[58]⟩ (by rw [size_mk]; show _ + 1 ≤ _; omega)
  obtain ⟨x1, e1, z1, r1⟩ := j1
  have y1 : x1.size = (Lib.decDigits L).length + 1 := z1
  obtain ⟨x2, e2, z2, r2⟩ := run_join x1 ⟨(Lib.decDigits C).toArray⟩ (by show x1.size + (Lib.decDigits C).length ≤ _; omega)
  have y2 : x2.size = x1.size + (Lib.decDigits C).length := z2
  obtain ⟨x3, e3, z3, r3⟩ := run_join x2 ⟨#[58, 32]⟩ (by show x2.size + 2 ≤ _; omega)
  have y3 : x3.size = x2.size + 2 := z3
  obtain ⟨x4, e4, z4, r4⟩ := run_join x3 ⟨(wordOf e).toArray⟩ (by show x3.size + (wordOf e).length ≤ _; omega)
  have hX : x4 = ⟨R.toArray⟩ := by
    rw [e4, e3, e2, e1, HR.out]; simp [ByteArray.ext_iff]
  have HX := Lib.hid hX
  clear e1 e2 e3 e4 z1 z2 z3 z4 y1 y2 y3 hX HR l1 l2 l3
  go_enter Tryd.func13, Tryd.ntmps13
  go_wp2_with (go_at_call 7; refine (c1.out _).mono ?_; rintro e w' ⟨rfl, rfl⟩)
  generalize w.alloc (.cells #[.int .i64 e, .int .i64 at_] 34) = W at *
  have hm1 := HM.1
  have HD : Mid w w.heap.size e W.drew := HM.on ((Below.refl _ W).drew)
  have hm2 := HD.1
  go_region_held3 (fun W' => W'.cell? ⟨w.heap.size, 0, none⟩ = some (.int .i64 e) ∧ Gr w W') (first | exact HD | exact ⟨by assumption, by assumption⟩)
    (first
    | (go_at_call 20; refine (text_m _ _ (by omega) ‹_›).mono ?_; rintro e w' ⟨rfl, m1, m2⟩)
    | (go_at_call 15; refine (word_m _ a0 a1 ‹_›).mono ?_; rintro e w' ⟨rfl, m1, m2⟩))
  go_wp2
  go_ret
  exact ⟨retS HX.out, m2.b⟩

end Go.Proofs.YteimahbfjgcpiaaDoor.Pl

/- The laws of utf, walked. -/
import Derived.Test.YtmcgfcnjeinbaaaDoorUtSame
namespace Go.Proofs.YtmcgfcnjeinbaaaDoor.Ut
open Go.RowKit

/-- the tables as they lay, and nothing below turned -/
structure Gr (w0 w : World) : Prop where
  tab : Tabs w
  bel : Below w0.heap.size w0 w
theorem Gr.next {w0 w w' : World} (h : Gr w0 w) (hb : Below w.heap.size w w') : Gr w0 w' :=
  ⟨tabs_next h.tab hb, h.bel.trans (hb.mono h.bel.size)⟩
theorem Gr.start {w : World} (h : Tabs w) : Gr w w := ⟨h, Below.refl _ _⟩
theorem Gr.alloc {w0 w : World} (h : Gr w0 w) (o : Obj) : Gr w0 (w.alloc o) := h.next ((Below.refl _ w).alloc (Nat.le_refl _) _)

section
variable {w0 : World}
theorem gGet (s : ByteArray) {l : List UInt8} {c : Int} {n : Nat} (hl : s.data.toList = l) (hg : getL l = (c, n)) : ∀ w, Gr w0 w → Calls Tryd.prog 12 #[.string s] w fun e w' => e = .returned (.tuple #[.int .i64 c, .int .i64 (n : Nat)]) ∧ Gr w0 w' :=
  fun w h => (get_any s w h.tab).mono fun _ _ ⟨he, hb⟩ => ⟨by rw [he, hl, vGet, hg], h.next hb⟩
theorem gPut (c : Int) {p : List UInt8} (hp : putL c = p) : ∀ w, Gr w0 w → Calls Tryd.prog 7 #[.int .i64 c] w fun e w' => e = .returned (.string ⟨p.toArray⟩) ∧ Gr w0 w' :=
  fun w h => (put_any c w).mono fun _ _ ⟨he, hb⟩ => ⟨by rw [he, hp], h.next hb⟩
theorem gRput (c : Int) {p : List UInt8} (hp : putL c = p) : ∀ w, Gr w0 w → Calls Tryd.prog 8 #[.int .i64 c] w fun e w' => e = .returned (.string ⟨p.toArray⟩) ∧ Gr w0 w' :=
  fun w h => (rput_any c w).mono fun _ _ ⟨he, hb⟩ => ⟨by rw [he, hp], h.next hb⟩
theorem gLen (c : Int) {n : Nat} (hp : (putL c).length = n) : ∀ w, Gr w0 w → Calls Tryd.prog 11 #[.int .i64 c] w fun e w' => e = .returned (.int .i64 (n : Nat)) ∧ Gr w0 w' :=
  fun w h => (length_any c w).mono fun _ _ ⟨he, hw⟩ => ⟨by rw [he, hp], by rw [← hw]; exact h⟩
theorem gScalar (c : Int) {b : Bool} (hp : scalar c = b) : ∀ w, Gr w0 w → Calls Tryd.prog 9 #[.int .i64 c] w fun e w' => e = .returned (.bool b) ∧ Gr w0 w' :=
  fun w h => (scalar_any c w).mono fun _ _ ⟨he, hw⟩ => ⟨by rw [he, hp], by rw [← hw]; exact h⟩
theorem gRscalar (c : Int) {b : Bool} (hp : scalar c = b) : ∀ w, Gr w0 w → Calls Tryd.prog 10 #[.int .i64 c] w fun e w' => e = .returned (.bool b) ∧ Gr w0 w' :=
  fun w h => (rscalar_any c w).mono fun _ _ ⟨he, hw⟩ => ⟨by rw [he, hp], by rw [← hw]; exact h⟩
theorem gValid (s : ByteArray) (hs : s.size ≤ maxLen) {b : Bool} (hp : validL s.data.toList = b) : ∀ w, Gr w0 w → Calls Tryd.prog 17 #[.string s] w fun e w' => e = .returned (.bool b) ∧ Gr w0 w' :=
  fun w h => (valid_any s w hs h.tab).mono fun _ _ ⟨he, hb⟩ => ⟨by rw [he, hp], h.next hb⟩
theorem gRvalid (s : ByteArray) (hs : s.size ≤ 17592186044000) {b : Bool} (hp : validL s.data.toList = b) : ∀ w, Gr w0 w → Calls Tryd.prog 18 #[.string s] w fun e w' => e = .returned (.bool b) ∧ Gr w0 w' :=
  fun w h => (rvalid_any s w hs).mono fun _ _ ⟨he, hb⟩ => ⟨by rw [he, hp], h.next hb⟩
theorem gRget (s : ByteArray) (hs : s.size ≤ maxLen) {c : Int} {n : Nat} (hg : getL s.data.toList = (c, n)) : ∀ w, Gr w0 w → Calls Tryd.prog 13 #[.string s] w fun e w' => e = .returned (.tuple #[.int .i64 c, .int .i64 (n : Nat)]) ∧ Gr w0 w' :=
  fun w h => (rget_any s w hs).mono fun _ _ ⟨he, hb⟩ => ⟨by rw [he, vGet, hg], h.next hb⟩
end

set_option maxRecDepth 100000 in
set_option maxHeartbeats 800000 in
theorem alive_any (w : World) (hT : Tabs w) : Calls Tryd.prog 6 #[] w fun e w' => e = .returned (.bool true) ∧ Below w.heap.size w w' := by
  have c1 := Lib.hid (gGet (w0 := w) ⟨#[192, 128]⟩ (l := [192, 128]) (c := -1) (n := 1) rfl (by decide +kernel))
  have c2 := Lib.hid (gPut (w0 := w) 233 (p := [195, 169]) (by decide +kernel))
  have c3 := Lib.hid (gLen (w0 := w) 233 (n := 2) (by decide +kernel))
  have hv : validL [195, 169] = true := by
    have := valid_join [233]
    rw [show joinL [233] = [195, 169] by decide +kernel] at this
    exact this
  have c4 := Lib.hid (gValid (w0 := w) ⟨#[195, 169]⟩ (by decide) hv)
  have c5 : ∀ W, Gr w W → Calls Tryd.prog 19 #[.slice (some ⟨W.heap.size, 0, none⟩) 2 2] (W.alloc (.cells #[.int .i64 97, .int .i64 98] 3)) fun e w' => e = .returned (.string ⟨#[97, 98]⟩) ∧ Gr w w' := fun W h =>
    (join_any _ [97, 98] _ (slice_two W 97 98) (by simp)).mono fun _ _ ⟨he, hb⟩ => ⟨by rw [he, show joinL [97, 98] = [97, 98] by decide +kernel], (h.alloc _).next hb⟩
  have c6 := Lib.hid c5
  have g0 := Gr.start hT
  clear c5 hv hT
  go_enter Tryd.func6, Tryd.ntmps6
  go_wp2_with (first
    | (go_at_call 12; refine (c1.out _ (by assumption)).mono ?_; rintro e w' ⟨rfl, g1⟩)
    | (go_at_call 7; refine (c2.out _ (by assumption)).mono ?_; rintro e w' ⟨rfl, g2⟩)
    | (go_at_call 11; refine (c3.out _ (by assumption)).mono ?_; rintro e w' ⟨rfl, g3⟩)
    | (go_at_call 17; refine (c4.out _ (by assumption)).mono ?_; rintro e w' ⟨rfl, g4⟩)
    | (go_at_call 19; refine (c6.out _ (by assumption)).mono ?_; rintro e w' ⟨rfl, g5⟩))
  go_ret
  exact ⟨rfl, g5.bel⟩

theorem gAlive {w0 : World} : ∀ w, Gr w0 w → Calls Tryd.prog 6 #[] w fun e w' => e = .returned (.bool true) ∧ Gr w0 w' :=
  fun w h => (alive_any w h.tab).mono fun _ _ ⟨he, hb⟩ => ⟨he, h.next hb⟩

theorem append_str (p : List UInt8) (s : ByteArray) : ((⟨p.toArray⟩ : ByteArray) ++ s).data.toList = p ++ s.data.toList := by simp

set_option maxRecDepth 100000 in
set_option maxHeartbeats 800000 in
theorem law_puts (c : Int) (more : ByteArray) (w : World) (_h0 : -9223372036854775808 ≤ c) (_h1 : c ≤ 9223372036854775807) (hs : more.size ≤ maxLen) (hT : Tabs w) :
    Calls Tryd.prog 3 #[.int .i64 c, .string more] w fun e w' => e = .returned (.bool true) ∧ Below w.heap.size w w' := by
  unfold maxLen at hs
  have g0 := Gr.start hT
  have al := Lib.hid (gAlive (w0 := w))
  clear hT _h0 _h1
  by_cases hm : 100 < more.size
  · go_enter Tryd.func3, Tryd.ntmps3
    go_wp2_with (go_at_call 6; refine (al.out _ (by assumption)).mono ?_; rintro e w' ⟨rfl, g1⟩)
    go_ret
    exact ⟨rfl, g1.bel⟩
  · have hpl := put_len c
    cases hsc : scalar c with
    | false =>
      rw [put_bad hsc] at hpl
      have s1 := Lib.hid (gScalar (w0 := w) c hsc)
      have s2 := Lib.hid (gRscalar (w0 := w) c hsc)
      have p1 := Lib.hid (gPut (w0 := w) c (put_bad hsc))
      have p2 := Lib.hid (gRput (w0 := w) c (put_bad hsc))
      have l1 := Lib.hid (gLen (w0 := w) c (n := 0) (by rw [put_bad hsc]; rfl))
      go_enter Tryd.func3, Tryd.ntmps3
      go_wp2_with (first
        | (go_at_call 9; refine (s1.out _ (by assumption)).mono ?_; rintro e w' ⟨rfl, g1⟩)
        | (go_at_call 10; refine (s2.out _ (by assumption)).mono ?_; rintro e w' ⟨rfl, g2⟩)
        | (go_at_call 7; refine (p1.out _ (by assumption)).mono ?_; rintro e w' ⟨rfl, g3⟩)
        | (go_at_call 8; refine (p2.out _ (by assumption)).mono ?_; rintro e w' ⟨rfl, g4⟩)
        | (go_at_call 11; refine (l1.out _ (by assumption)).mono ?_; rintro e w' ⟨rfl, g5⟩)
        | (go_at_call 6; refine (al.out _ (by assumption)).mono ?_; rintro e w' ⟨rfl, g6⟩))
      go_ret
      exact ⟨rfl, g6.bel⟩
    | true =>
      obtain ⟨p, hp⟩ : ∃ p, putL c = p := ⟨_, rfl⟩
      have hgp : getL (p ++ more.data.toList) = (c, p.length) := by rw [← hp]; exact getL_put _ hsc
      rw [hp] at hpl
      have s1 := Lib.hid (gScalar (w0 := w) c hsc)
      have s2 := Lib.hid (gRscalar (w0 := w) c hsc)
      have p1 := Lib.hid (gPut (w0 := w) c hp)
      have p2 := Lib.hid (gRput (w0 := w) c hp)
      have l1 := Lib.hid (gLen (w0 := w) c (n := p.length) (by rw [hp]))
      have ge := Lib.hid (gGet (w0 := w) (⟨p.toArray⟩ ++ more) (append_str p more) hgp)
      clear hp hgp
      go_enter Tryd.func3, Tryd.ntmps3
      go_wp2_with (first
        | (go_at_call 9; refine (s1.out _ (by assumption)).mono ?_; rintro e w' ⟨rfl, g1⟩)
        | (go_at_call 10; refine (s2.out _ (by assumption)).mono ?_; rintro e w' ⟨rfl, g2⟩)
        | (go_at_call 7; refine (p1.out _ (by assumption)).mono ?_; rintro e w' ⟨rfl, g3⟩)
        | (go_at_call 8; refine (p2.out _ (by assumption)).mono ?_; rintro e w' ⟨rfl, g4⟩)
        | (go_at_call 11; refine (l1.out _ (by assumption)).mono ?_; rintro e w' ⟨rfl, g5⟩)
        | (go_at_call 12; refine (ge.out _ (by assumption)).mono ?_; rintro e w' ⟨rfl, g7⟩)
        | (go_at_call 6; refine (al.out _ (by assumption)).mono ?_; rintro e w' ⟨rfl, g6⟩))
      go_ret
      exact ⟨rfl, g6.bel⟩

set_option maxRecDepth 100000 in
set_option maxHeartbeats 800000 in
theorem law_gets (s : ByteArray) (w : World) (hs : s.size ≤ maxLen) (hT : Tabs w) :
    Calls Tryd.prog 4 #[.string s] w fun e w' => e = .returned (.bool true) ∧ Below w.heap.size w w' := by
  have g0 := Gr.start hT
  have al := Lib.hid (gAlive (w0 := w))
  clear hT
  by_cases hm : 300 < s.size
  · unfold maxLen at hs
    go_enter Tryd.func4, Tryd.ntmps4
    go_wp2_with (go_at_call 6; refine (al.out _ (by assumption)).mono ?_; rintro e w' ⟨rfl, g1⟩)
    go_ret
    exact ⟨rfl, g1.bel⟩
  · have hs2 : s.size ≤ 17592186044000 := by omega
    obtain ⟨c, n, hg⟩ : ∃ c n, getL s.data.toList = (c, n) := ⟨_, _, rfl⟩
    have e1 := Lib.hid (gGet (w0 := w) s rfl hg)
    have e2 := Lib.hid (gRget (w0 := w) s hs hg)
    have v1 := Lib.hid (gValid (w0 := w) s hs rfl)
    have v2 := Lib.hid (gRvalid (w0 := w) s hs2 rfl)
    have a1 := Lib.hid (fun W (h : Gr w W) => all_any s W hs2 h.tab)
    have a2 := Lib.hid (fun W => rall_any s W hs2)
    have sm := Lib.hid (fun a b xs W => same_any a b xs xs W)
    generalize allL s.data.toList = l at *
    generalize validL s.data.toList = V at *
    clear hg hs2
    unfold maxLen at hs
    go_enter Tryd.func4, Tryd.ntmps4
    go_wp2_with (first
      | (go_at_call 12; refine (e1.out _ (by assumption)).mono ?_; rintro e w' ⟨rfl, g1⟩)
      | (go_at_call 13; refine (e2.out _ (by assumption)).mono ?_; rintro e w' ⟨rfl, g2⟩)
      | (go_at_call 15; refine (a1.out _ (by assumption)).mono ?_; rintro e w3 ⟨x1, rfl, hx1, hb3⟩; have g3 := g2.next hb3)
      | (go_at_call 16; refine (a2.out _).mono ?_; rintro e w4 ⟨x2, rfl, hx2, hb4⟩; have g4 := g3.next hb4; have hx3 := hx1.next hb4)
      | (go_at_call 14; refine (sm.out _ _ l _ hx3 hx2).mono ?_; rintro e w5 ⟨rfl, hb5⟩; have g5 := g4.next hb5)
      | (go_at_call 17; refine (v1.out _ (by assumption)).mono ?_; rintro e w' ⟨rfl, g6⟩)
      | (go_at_call 18; refine (v2.out _ (by assumption)).mono ?_; rintro e w' ⟨rfl, g7⟩)
      | (go_at_call 6; refine (al.out _ (by assumption)).mono ?_; rintro e w' ⟨rfl, g8⟩))
    go_ret
    exact ⟨rfl, g8.bel⟩

theorem back_str (s : ByteArray) : (⟨s.data.toList.toArray⟩ : ByteArray) = s := by
  apply ByteArray.ext; simp

set_option maxRecDepth 100000 in
set_option maxHeartbeats 800000 in
theorem law_back (s : ByteArray) (v : Value) (l : List Int) (w : World) (hs : s.size ≤ maxLen) (hv : IntsAt w v l) (hT : Tabs w) :
    Calls Tryd.prog 5 #[.string s, v] w fun e w' => e = .returned (.bool true) ∧ Below w.heap.size w w' := by
  have g0 := Gr.start hT
  have al := Lib.hid (gAlive (w0 := w))
  clear hT
  obtain ⟨ao, cap, rfl, hm, _⟩ := hv.shape
  by_cases hbig : 300 < s.size ∨ 100 < l.length
  · unfold maxLen at hs
    go_enter Tryd.func5, Tryd.ntmps5
    go_wp2_with (go_at_call 6; refine (al.out _ (by assumption)).mono ?_; rintro e w' ⟨rfl, g1⟩)
    all_goals (go_ret; exact ⟨rfl, g1.bel⟩)
  · have hs2 : s.size ≤ 17592186044000 := by omega
    have hl2 : l.length ≤ 35184372088000 := by omega
    have j1 := Lib.hid (fun W (h : Gr w W) => (join_any _ l W (hv.next h.bel) hl2).mono fun _ _ h => h)
    have j2 := Lib.hid (fun W (h : Gr w W) => (rjoin_any _ l W (hv.next h.bel) hl2).mono fun _ _ h => h)
    have hjl := join_len l
    obtain ⟨t, ht⟩ : ∃ t, joinL l = t := ⟨_, rfl⟩
    have hvt : validL t = true := by rw [← ht]; exact valid_join l
    rw [ht] at hjl j1 j2
    have v2 := Lib.hid (gValid (w0 := w) ⟨t.toArray⟩ (by unfold maxLen; rw [Lib.size_eq]; simp; omega) (b := true) (by simpa using hvt))
    cases hV : validL s.data.toList with
    | false =>
      have v1 := Lib.hid (gValid (w0 := w) s hs hV)
      clear hvt ht hv
      unfold maxLen at hs
      go_enter Tryd.func5, Tryd.ntmps5
      go_wp2_with (first
        | (go_at_call 17; with_reducible refine (v1.out _ (by assumption)).mono ?_; rintro e w' ⟨rfl, g1⟩)
        | (go_at_call 19; with_reducible refine (j1.out _ (by assumption)).mono ?_; rintro e w4 ⟨rfl, hb4⟩; have g4 := g1.next hb4)
        | (go_at_call 20; with_reducible refine (j2.out _ (by assumption)).mono ?_; rintro e w5 ⟨rfl, hb5⟩; have g5 := g4.next hb5)
        | (go_at_call 17; with_reducible refine (v2.out _ (by assumption)).mono ?_; rintro e w' ⟨rfl, g6⟩)
        | (go_at_call 6; refine (al.out _ (by assumption)).mono ?_; rintro e w' ⟨rfl, g7⟩))
      go_ret
      exact ⟨rfl, g7.bel⟩
    | true =>
      have v1 := Lib.hid (gValid (w0 := w) s hs hV)
      have hjs : joinL (allL s.data.toList) = s.data.toList := join_all s.data.toList.length s.data.toList (Nat.le_refl _) hV
      have hla : (allL s.data.toList).length ≤ 35184372088000 := by
        have := allL_le s.data.toList
        rw [← Lib.size_eq] at this
        omega
      have a1 := Lib.hid (fun W (h : Gr w W) => all_any s W hs2 h.tab)
      have j0 := Lib.hid (fun x W (h : IntsAt W x (allL s.data.toList)) => join_any x _ W h hla)
      rw [hjs, back_str] at j0
      clear hvt ht hv hjs hla
      unfold maxLen at hs
      go_enter Tryd.func5, Tryd.ntmps5
      go_wp2_with (first
        | (go_at_call 17; with_reducible refine (v1.out _ (by assumption)).mono ?_; rintro e w' ⟨rfl, g1⟩)
        | (go_at_call 15; refine (a1.out _ (by assumption)).mono ?_; rintro e w2 ⟨x1, rfl, hx1, hb2⟩; have g2 := g1.next hb2)
        | (go_at_call 19; with_reducible refine (j0.out x1 _ hx1).mono ?_; rintro e w3 ⟨rfl, hb3⟩; have g3 := g2.next hb3)
        | (go_at_call 19; with_reducible refine (j1.out _ (by assumption)).mono ?_; rintro e w4 ⟨rfl, hb4⟩; have g4 := g3.next hb4)
        | (go_at_call 20; with_reducible refine (j2.out _ (by assumption)).mono ?_; rintro e w5 ⟨rfl, hb5⟩; have g5 := g4.next hb5)
        | (go_at_call 17; with_reducible refine (v2.out _ (by assumption)).mono ?_; rintro e w' ⟨rfl, g6⟩)
        | (go_at_call 6; refine (al.out _ (by assumption)).mono ?_; rintro e w' ⟨rfl, g7⟩))
      go_ret
      exact ⟨rfl, g7.bel⟩

end Go.Proofs.YtmcgfcnjeinbaaaDoor.Ut

/- follow: what a row of states that wait comes to. -/
import Derived.Test.YtfbphiamelongaaDoorClWalk2
import Derived.Shelf.Abstract
namespace Go.Proofs.YtfbphiamelongaaDoor.Cl
open Go Go.RowKit Go.Shelf
open Go.Proofs.YtfbphiamelongaaDoor.Bt (SetAt setV memL iV own_slice grown_trans grown_cell two_stores BoxS)

theorem rowI_shrink {W : World} {B g cap : Nat} {r : List Int} {x : Int} (h : W.ownsRow B 3 1 (.slice (some ⟨g, 0, none⟩) (r.length + 1) cap) (r.length + 1) (iV (r ++ [x]))) :
    W.ownsRow B 3 1 (.slice (some ⟨g, 0, none⟩) r.length cap) r.length (iV r) := by
  refine ⟨by simp [iV], ?_⟩
  rcases h.2 with ⟨h', _⟩ | ⟨g', cap', cur, h', hb, hg, hn, hm, hcs, ht⟩
  · simp at h'
  · simp only [Value.slice.injEq, Option.some.injEq, Addr.mk.injEq, and_true, true_and] at h'
    obtain ⟨rfl, rfl⟩ := h'
    refine .inr ⟨g, cap, cur, rfl, hb, hg, by omega, hm, hcs, ?_⟩
    have hk := congrArg (List.take r.length) ht
    rw [List.take_take] at hk
    have e : (iV (r ++ [x])).take r.length = iV r := by simp [iV]
    rw [e] at hk
    rwa [Nat.min_eq_left (by omega), ← Nat.mul_one r.length] at hk
theorem row_last {W : World} {B g cap : Nat} {r : List Int} {x : Int} (h : W.ownsRow B 3 1 (.slice (some ⟨g, 0, none⟩) (r.length + 1) cap) (r.length + 1) (iV (r ++ [x]))) : W.cell? ⟨g, r.length, none⟩ = some (.int .i64 x) ∧ r.length + 1 ≤ cap := by
  constructor
  · have := h.cellAt r.length (by omega)
    rw [this]
    simp [iV]
  · rcases h.2 with ⟨h', _⟩ | ⟨g', cap', cur, h', hb, hg, hn, hm, hcs, ht⟩
    · simp at h'
    · simp only [Value.slice.injEq, Option.some.injEq, Addr.mk.injEq, and_true, true_and] at h'
      obtain ⟨rfl, rfl⟩ := h'
      exact hn
/-- the last one waits no more -/
theorem WqAt.popped {W : World} {B b : Nat} {X : Nat → Prop} {a : Int} {sv : Value} {n : Nat} {v : Value} {Q r : List Int} {x : Int} {g cap : Nat} (h : WqAt W B X b a sv n v Q (r ++ [x])) (hbox : W.heap[b]? = some (.cells #[.int .i64 a, sv, .int .i64 (n : Nat), v, .slice (some ⟨g, 0, none⟩) (r.length + 1) cap] 75 (0, 0)))
    (hrow : W.ownsRow B 3 1 (.slice (some ⟨g, 0, none⟩) (r.length + 1) cap) (r.length + 1) (iV (r ++ [x]))) (hX : ¬ X g) :
    WqAt (W.setCell ⟨b, 4, none⟩ (.slice (some ⟨g, 0, none⟩) r.length cap)) B X b a sv n v Q r ∧ Kw B X W (W.setCell ⟨b, 4, none⟩ (.slice (some ⟨g, 0, none⟩) r.length cap)) := by
  obtain ⟨L, hset, hL⟩ := h.set
  have hs := grown_cell W b 4 (.slice (some ⟨g, 0, none⟩) r.length cap)
  have hr2 := rowI_shrink hrow
  refine ⟨⟨⟨_, heap_setCell_same W b 4 _ _ _ hbox, hr2.kept hs (ne_row hr2 hbox (by decide)), fun k e => by cases e; exact hX⟩, ⟨L, hset.kept hs (ne_row hset.row hbox (by decide)), hL⟩, h.le, h.ok.pop, fun k hk => Nat.lt_of_lt_of_le (h.low k hk) hs.size, h.free⟩, Kw.of_grown hs (fun k e => by cases e; exact ⟨h.le, h.free.1, _, _, _, hbox, .inl rfl⟩)⟩

theorem Kw.on {B : Nat} {X : Nat → Prop} {w A C : World} {row : Option Nat} (h : Kw B X w A) (k : A.grownBy C row) (hr : ∀ j, row = some j → w.heap.size ≤ j) : Kw B X w C :=
  ⟨k.os.trans h.os, k.tape.trans h.tape, k.output.trans h.output, Nat.le_trans h.size k.size, fun j hj h1 => (k.block j (Nat.lt_of_lt_of_le hj h.size) (fun e => by have := hr j e.symm; omega)).trans (h.block j hj h1)⟩
theorem row_slice {W : World} {B : Nat} {rv : Value} {r : List Int} {x : Int} (h : W.ownsRow B 3 1 rv (r ++ [x]).length (iV (r ++ [x]))) : ∃ g cap, rv = .slice (some ⟨g, 0, none⟩) (r.length + 1) cap ∧ W.ownsRow B 3 1 (.slice (some ⟨g, 0, none⟩) (r.length + 1) cap) (r.length + 1) (iV (r ++ [x])) := by
  have e : (r ++ [x]).length = r.length + 1 := by simp
  rw [e] at h
  have h2 := h
  rcases h.2 with ⟨rfl, h0⟩ | ⟨g, cap, cur, rfl, _⟩
  · omega
  · exact ⟨g, cap, rfl, h2⟩

/-- what 'follow' tells -/
def FolOut (W : World) (B : Nat) (X : Nat → Prop) (n : Nat) (v : Value) (P : Nat → Prop) (e : Ending) (W' : World) : Prop := e = .returned (setV n v) ∧ (∃ L, SetAt W' B n v L ∧ ∀ m, memL L m = true ↔ P m) ∧ Kw B X W W'

set_option maxRecDepth 100000 in
set_option maxHeartbeats 4000000 in
theorem follow_any (K : FuncId) (hE : Enters Tryd.prog K) (f : St → List Int) (l : List St) (S : Nat → Prop) (B : Nat) (X : Nat → Prop) (b : Nat) (a : Int) (sv v : Value) (Q r : List Int) (hn : l.length ≤ 4096) (hK : DoAt K B X b a sv l.length v f) (W : World) (hB : B ≤ W.heap.size)
    (w0 : World) (h0 : StsAt w0 sv l) (hw0 : w0.heap.size ≤ B) (hW0 : Below w0.heap.size w0 W) (h : WqAt W B X b a sv l.length v Q r) (hI : Inv f l S Q r) :
    Calls Tryd.prog 33 #[.pointer (some ⟨b, 0, none⟩), .func (.func K) #[.pointer (some ⟨b, 0, none⟩)] #[]] W fun e W' => FolOut W B X l.length v (Re f l S) e W' := by
  have hE' : ∀ (args : Array Value) (w : World), (callFunc K args).run Tryd.prog w = .ok (.enter K args) w := hE
  have HK := Lib.hid hK
  have HW0 := Lib.hid hW0
  have h1 := h.next ((Below.refl _ W).alloc (Nat.le_refl _) (.cells #[.int .i64 0, .slice none 0 0] 30))
  have k1 : Kw B X W (W.alloc (.cells #[.int .i64 0, .slice none 0 0] 30)) := Kw.of_below ((Below.refl _ W).alloc (Nat.le_refl _) _)
  have bx := at_new W (.cells #[.int .i64 0, .slice none 0 0] 30)
  have hW1s : (W.alloc (.cells #[.int .i64 0, .slice none 0 0] 30)).heap.size = W.heap.size + 1 := World.size_alloc _ _
  have R0 := Lib.hid (And.intro h1 (And.intro k1 (And.intro bx hI)))
  obtain ⟨ao, cap, rfl, _, hst⟩ := h0.shape
  have HST := Lib.hid hst
  clear hK h0 hst hW0 h1 k1 bx hI h hE
  go_enter Tryd.func33, Tryd.ntmps33
  go_wp2
  generalize W.alloc (.cells #[.int .i64 0, .slice none 0 0] 30) = W1 at *
  go_loopg [] (todo l.length Q r) (fun g wr => ∃ Q r : List Int, WqAt wr B X b a (.slice ao l.length cap) l.length v Q r ∧ Inv f l S Q r ∧ todo l.length Q r ≤ g ∧ Kw B X W1 wr)
  case atStart => exact ⟨Q, r, R0.out.1, R0.out.2.2.2, Nat.le_refl _, Kw.refl _ _ _⟩
  case round =>
    obtain ⟨Q, r, hv, hi, hg, hk⟩ := hrel
    have V := Lib.hid (And.intro hv (And.intro hi (And.intro hg hk)))
    obtain ⟨rv, hbox, hrow, hX⟩ := hv.box
    have hlt := hv.lt
    have hsz := hk.size
    clear hg hk hi
    rcases List.eq_nil_or_concat r with rfl | ⟨r0, x, rfl⟩
    · have c2 := at_cell hbox 2
      have c3 := at_cell hbox 3
      have c4 := at_cell hbox 4
      obtain ⟨L, hset, hL⟩ := hv.set
      have X := Lib.hid (And.intro hset hL)
      obtain ⟨vo, vn, vc, rfl⟩ := hset.val
      obtain ⟨ro, rc, rfl⟩ := own_slice hrow
      have bx := V.out.2.2.2.at_ R0.out.2.2.1 nwtB
      have d0 := at_cell bx 0
      have d1 := at_cell bx 1
      have f0 := at_froz bx 0
      have f1 := at_froz bx 1
      obtain ⟨m1, m2⟩ := two_stores (x := .int .i64 (l.length : Nat)) (y := .slice vo vn vc) bx
      have Z := Lib.hid (And.intro m1 m2)
      clear hset hL hbox hrow bx hv m1 m2
      go_wp2
      refine bodyPost_ret (results_cell_row rfl _ _ W.heap.size 30 #[.int .i64 (l.length : Nat), .slice vo vn vc] (0, 0) _ rfl Z.out.1 Tryd.underlying30 rfl (by kernel_rfl)) rfl ?_
      refine ⟨rfl, ?_, ?_⟩
      · exact ⟨L, X.out.1.kept Z.out.2 (ne_row X.out.1.row (V.out.2.2.2.at_ R0.out.2.2.1 nwtB) (by decide)), fun m => by rw [X.out.2, V.out.2.1.last]⟩
      · exact (R0.out.2.1.trans V.out.2.2.2).on Z.out.2 (fun j e => by cases e; exact Nat.le_refl _)
    · rw [List.concat_eq_append] at *
      obtain ⟨g, rc, rfl, hown⟩ := row_slice hrow
      have hx := hv.ok.bound x (hv.ok.sub x (by simp))
      obtain ⟨xn, rfl⟩ : ∃ xn : Nat, x = (xn : Int) := ⟨x.toNat, by omega⟩
      obtain ⟨cx, hrc⟩ := row_last hown
      have c1 := at_cell hbox 1
      have c4 := at_cell hbox 4
      have hr0 : r0.length ≤ 4096 := by have := hv.ok.rlen; simp at this; omega
      have hbW : Below B W wr := (R0.out.2.1.trans V.out.2.2.2).below hB
      have hb0 : Below w0.heap.size w0 wr := HW0.out.trans (hbW.mono hw0)
      obtain ⟨ad, rfl, eo, ec, hin0⟩ := HST.out xn (by omega)
      have hin := hin0.next hb0
      obtain ⟨d0, d1, d2, d3, d4, de⟩ := hin
      have NX := Lib.hid (Inv.next V.out.2.1)
      have h0x : (0 : Int) ≤ xn := by omega
      have h1x : (xn : Int) < (l.length : Int) := by omega
      have hlx : g < wr.heap.size := cell_lt cx
      have hla : (ad.add (xn * 5)).block < wr.heap.size := cell_lt d0
      generalize st l xn = s at *
      have b3 : Below wr.heap.size wr (wr.alloc (.cells #[.int .i64 s.lo, .int .i64 s.hi, .int .i64 s.to, .slice eo s.eps.length ec, .int .i64 s.tag] 56)).drew := ((Below.refl _ wr).alloc (Nat.le_refl _) _).drew
      have x3 : (wr.alloc (.cells #[.int .i64 s.lo, .int .i64 s.hi, .int .i64 s.to, .slice eo s.eps.length ec, .int .i64 s.tag] 56)).drew.heap[wr.heap.size]? = some (.cells #[.int .i64 s.lo, .int .i64 s.hi, .int .i64 s.to, .slice eo s.eps.length ec, .int .i64 s.tag] 56 (0, 0)) := at_next (at_new wr _) ((Below.refl _ _).drew)
      have v3 := V.out.1.next b3
      have o3 := row_next hown b3
      have e3 := at_next hbox b3
      have n3 : EpsAt B (wr.alloc (.cells #[.int .i64 s.lo, .int .i64 s.hi, .int .i64 s.to, .slice eo s.eps.length ec, .int .i64 s.tag] 56)).drew s eo ec := fun W' hW' => (hin0.next (hb0.trans (((b3.mono (Nat.le_trans hB hbW.size)).trans hW').mono hw0))).ep
      have P := Lib.hid (WqAt.popped v3 e3 o3 (hX g rfl))
      have F := Lib.hid (And.intro x3 (And.intro e3 n3))
      clear hbox hrow hown de hv b3 x3 v3 o3 e3 n3 hin0
      go_wp2
      go_region
      have hW3 : wr.heap.size ≤ (wr.alloc (.cells #[.int .i64 s.lo, .int .i64 s.hi, .int .i64 s.to, .slice eo s.eps.length ec, .int .i64 s.tag] 56)).drew.heap.size := by show wr.heap.size ≤ (wr.alloc _).heap.size; rw [World.size_alloc]; omega
      have KW3 : Kw B X wr (wr.alloc (.cells #[.int .i64 s.lo, .int .i64 s.hi, .int .i64 s.to, .slice eo s.eps.length ec, .int .i64 s.tag] 56)).drew := Kw.of_below (((Below.refl _ wr).alloc (Nat.le_refl _) _).drew)
      clear c1 c4 d0 d1 d2 d3 d4 cx hlx hla
      generalize (wr.alloc (.cells #[.int .i64 s.lo, .int .i64 s.hi, .int .i64 s.to, .slice eo s.eps.length ec, .int .i64 s.tag] 56)).drew = W3 at *
      have c4 := at_cell F.out.2.1 4
      have f4 := at_froz F.out.2.1 4
      have hl3 := cell_lt c4
      have hrc2 : r0.length ≤ rc := by omega
      go_upto_region 5 with fail
      have x4 := P.out.2.at_ F.out.1 nwtS
      have hW4 := P.out.2.size
      have n4 := Lib.hid (F.out.2.2.next (P.out.2.below (by have := hbW.size; omega)))
      generalize W3.setCell ⟨b, 4, none⟩ (.slice (some ⟨g, 0, none⟩) r0.length rc) = W4 at *
      have e0 := at_cell x4 0
      have e1 := at_cell x4 1
      have e2 := at_cell x4 2
      have e3 := at_cell x4 3
      have e4 := at_cell x4 4
      have hl4 := cell_lt e0
      have KC := Lib.hid (HK.out Q r0 s eo ec W4 (by have := hbW.size; omega) P.out.1 n4.out)
      have KK := Lib.hid ((V.out.2.2.2.trans KW3).trans P.out.2)
      clear c4 f4 x4 KW3
      unfold stV at KC
      generalize meets l.length (f s) (Q, r0) = q at *
      go_wp2_with (go_at_fn K; (with_reducible refine KC.out.mono ?_); rintro e w5 ⟨rfl, h1, h2⟩)
      go_roundg (todo l.length q.1 q.2)
      case measure => exact Nat.lt_of_lt_of_le NX.out.2 V.out.2.2.1
      case rel => exact ⟨q.1, q.2, h1, NX.out.1, Nat.le_refl _, KK.out.trans h2⟩

end Go.Proofs.YtfbphiamelongaaDoor.Cl

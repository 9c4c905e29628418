/- each: something is done with each state of a set; what step and best do with one. -/
import Derived.Test.YtfbphiamelongaaDoorClFol
import Derived.Test.YtfbphiamelongaaDoorBtFacts0
namespace Go.Proofs.YtfbphiamelongaaDoor.Cl
open Go Go.RowKit Go.Shelf
open Go.Proofs.YtfbphiamelongaaDoor.Bt (SetAt setV memL hasI iV own_slice grown_trans grown_cell two_stores Tab allX fromL nums mem_nums nums_rise nums_nat)

/-- a row of numbers that was made from N on -/
def RowL (w : World) (N : Nat) (v : Value) (l : List Int) : Prop := ∃ (ao : Option Addr) (cap : Nat), v = .slice ao l.length cap ∧ l.length ≤ 9223372036854775807 ∧ ∀ i, i < l.length → ∃ g, ao = some ⟨g, 0, none⟩ ∧ N ≤ g ∧ w.cell? ⟨g, i, none⟩ = some (.int .i64 (l.getD i 0))
theorem rowL_of {w : World} {N : Nat} {v : Value} {l : List Int} (h : w.ownsRow N 3 1 v l.length (iV l)) : RowL w N v l := by
  rcases h.2 with ⟨rfl, h0⟩ | ⟨g, cap, cur, rfl, hb, hg, hn, hm, hcs, ht⟩
  · obtain rfl := List.eq_nil_of_length_eq_zero h0
    exact ⟨none, 0, rfl, by simp, fun i hi => by simp at hi⟩
  · refine ⟨_, cap, rfl, by unfold maxLen at hm; omega, fun i hi => ⟨g, rfl, hb, ?_⟩⟩
    rw [h.cellAt i (by omega)]
    simp [iV, List.getD, hi]
/-- what a set's numbers come to in a row -/
theorem all_row (B room : Nat) (v : Value) (L : List Nat) (w : World) (hT : Tab w) (h : SetAt w B room v L) : Calls Tryd.prog 19 #[setV room v] w fun e w' => ∃ v', e = .returned v' ∧ w'.ownsRow w.heap.size 3 1 v' (nums L).length (iV (nums L)) ∧ Below w.heap.size w w' :=
  Bt.all_any B room v L w hT h

/-- blocks of which X speaks stay -/
structure Fr (X : Nat → Prop) (w w' : World) : Prop where
  os : w'.os = w.os
  tape : w'.tape = w.tape
  output : w'.output = w.output
  size : w.heap.size ≤ w'.heap.size
  block : ∀ k, k < w.heap.size → X k → w'.heap[k]? = w.heap[k]?
theorem Fr.refl (X : Nat → Prop) (w : World) : Fr X w w := ⟨rfl, rfl, rfl, Nat.le_refl _, fun _ _ _ => rfl⟩
theorem Fr.trans {X : Nat → Prop} {a b c : World} (h : Fr X a b) (k : Fr X b c) : Fr X a c :=
  ⟨k.os.trans h.os, k.tape.trans h.tape, k.output.trans h.output, Nat.le_trans h.size k.size, fun i hi h1 => (k.block i (Nat.lt_of_lt_of_le hi h.size) h1).trans (h.block i hi h1)⟩
theorem Fr.of_below {X : Nat → Prop} {w w' : World} (h : Below w.heap.size w w') : Fr X w w' := ⟨h.os, h.tape, h.output, h.size, fun k hk _ => h.block k hk⟩
theorem Fr.of_grown {X : Nat → Prop} {o : Option Nat} {w w' : World} (h : w.grownBy w' o) (ho : ∀ k, o = some k → ¬ X k) : Fr X w w' :=
  ⟨h.os, h.tape, h.output, h.size, fun k hk h1 => h.block k hk fun e => ho k e.symm h1⟩
theorem Fr.of_kw {B : Nat} {X : Nat → Prop} {w w' : World} (h : Kw B X w w') : Fr (fun k => k < B ∨ X k) w w' := ⟨h.os, h.tape, h.output, h.size, fun k hk h1 => h.block k hk (h1.elim .inl (fun h => .inr (.inl h)))⟩
theorem Fr.mono {X Y : Nat → Prop} {w w' : World} (h : Fr X w w') (hY : ∀ k, Y k → X k) : Fr Y w w' := ⟨h.os, h.tape, h.output, h.size, fun k hk h1 => h.block k hk (hY k h1)⟩
theorem Fr.below {X : Nat → Prop} {B : Nat} {w w' : World} (h : Fr X w w') (hB : B ≤ w.heap.size) (hX : ∀ k, k < B → X k) : Below B w w' := ⟨h.os, h.tape, h.output, h.size, fun k hk => h.block k (by omega) (hX k hk)⟩
theorem Fr.cell {X : Nat → Prop} {w w' : World} {a : Addr} {v : Value} (h : Fr X w w') (hc : w.cell? a = some v) (hX : X a.block) : w'.cell? a = some v :=
  (World.cell?_of_block (h.block _ (cell_lt hc) hX)).trans hc

/-- blocks below B, and those from C to D -/
def Yx (B C D : Nat) (k : Nat) : Prop := k < B ∨ C ≤ k ∧ k < D
/-- the states' numbers among some numbers -/
def ownL (n : Nat) (l : List Int) : List Int := l.filter fun x => decide (x < n)
theorem ownL_take {n : Nat} {l : List Int} {k : Nat} (h : k < l.length) : ownL n (l.take (k + 1)) = if l.getD k 0 < n then ownL n (l.take k) ++ [l.getD k 0] else ownL n (l.take k) := by
  have e : l.getD k 0 = l[k] := by simp [List.getD, h]
  rw [List.take_succ_eq_append_getElem h, e]
  unfold ownL
  rw [List.filter_append]
  by_cases hc : l[k] < (n : Int) <;> simp [hc]

set_option maxRecDepth 100000 in
set_option maxHeartbeats 4000000 in
theorem each_any (K : FuncId) (hE : Enters Tryd.prog K) (cp : Array Value) (l : List St) (a : Int) (sv : Value) (B B0 room : Nat) (v0 : Value) (L0 : List Nat) (W : World) (hT : Tab W) (hset : SetAt W B0 room v0 L0)
    (w0 : World) (h0 : StsAt w0 sv l) (hw0 : w0.heap.size ≤ B) (hB : B ≤ W.heap.size) (hW0 : Below w0.heap.size w0 W) (J : Nat → List Int → World → Prop)
    (hJ0 : ∀ W', Below W.heap.size W W' → J W'.heap.size [] W')
    (hK : ∀ (D : Nat) (pre : List Int) (i : Nat) (eo : Option Addr) (ec : Nat) (W' : World), i < l.length → J D pre W' → D ≤ W'.heap.size → Calls Tryd.prog K (#[stV (st l i) eo ec] ++ cp) W' fun e W2 => e = .returned (.tuple #[]) ∧ J D (pre ++ [(i : Int)]) W2 ∧ Fr (Yx B W.heap.size D) W' W2) :
    Calls Tryd.prog 50 #[nfaV a sv, setV room v0, .func (.func K) #[] cp] W fun e W' => e = .returned (.tuple #[]) ∧ ∃ D, W.heap.size ≤ D ∧ J D (ownL l.length (nums L0)) W' := by
  have hE' : ∀ (args : Array Value) (w : World), (callFunc K args).run Tryd.prog w = .ok (.enter K args) w := hE
  obtain ⟨ao, cap, rfl, _, hst⟩ := h0.shape
  have HST := Lib.hid hst
  have HK := Lib.hid hK
  have HJ := Lib.hid hJ0
  have HW0 := Lib.hid hW0
  have AL := Lib.hid (fun W' (hW : Below W.heap.size W W') => all_row B0 room v0 L0 W' (hT.next hW) (hset.next hW))
  have NN : Hid (∀ k, k < (nums L0).length → 0 ≤ (nums L0).getD k 0) := Lib.hid (fun k hk => by
    have := (mem_nums L0 ((nums L0).getD k 0)).1 (by simp [List.getD, hk])
    simp only [hasI, Bool.and_eq_true, decide_eq_true_eq] at this
    exact this.1)
  have TK := Lib.hid (fun k (hk : k < (nums L0).length) => ownL_take (n := l.length) hk)
  have TA : Hid (ownL l.length (nums L0) = ownL l.length ((nums L0).take (nums L0).length)) := Lib.hid (by rw [List.take_length])
  have b1 := (Below.refl W.heap.size W).alloc (Nat.le_refl _) (.cells #[.int .i64 a, .slice ao l.length cap] 24)
  obtain ⟨vo, vn, vc, rfl⟩ := hset.val
  have b2 := b1.alloc b1.size (.cells #[.int .i64 (room : Nat), .slice vo vn vc] 30)
  have x1 := at_next (at_new W (.cells #[.int .i64 a, .slice ao l.length cap] 24)) ((Below.refl _ _).alloc (Nat.le_refl _) (.cells #[.int .i64 (room : Nat), .slice vo vn vc] 30))
  have x2 := at_new (W.alloc (.cells #[.int .i64 a, .slice ao l.length cap] 24)) (.cells #[.int .i64 (room : Nat), .slice vo vn vc] 30)
  rw [World.size_alloc] at x2
  have R0 := Lib.hid (And.intro b2 (And.intro x1 x2))
  clear hst h0 hK hJ0 hW0 hT hset hE b1 b2 x1 x2
  unfold nfaV setV at *
  generalize nums L0 = N at *
  generalize hF : ownL l.length N = F at *
  have HF := Lib.hid hF
  clear hF
  go_enter Tryd.func50, Tryd.ntmps50
  go_upto_region 1 with fail
  generalize (W.alloc (.cells #[.int .i64 a, .slice ao l.length cap] 24)).alloc (.cells #[.int .i64 (room : Nat), .slice vo vn vc] 30) = W1 at *
  have c0 := at_cell R0.out.2.2 0
  have c1 := at_cell R0.out.2.2 1
  have hl := cell_lt c0
  go_wp2_with (go_at_call 19; (with_reducible refine (AL.out W1 R0.out.1).mono ?_); rintro e w2 ⟨lv, rfl, h1, h2⟩; obtain ⟨lo, lc, rfl, hlm, hlc⟩ := rowL_of h1)
  have HL := Lib.hid hlc
  have B2 := Lib.hid (R0.out.1.trans (h2.mono R0.out.1.size))
  have X1 := Lib.hid (at_next R0.out.2.1 h2)
  have J0 := Lib.hid (HJ.out w2 B2.out)
  clear c0 c1 hl h1 h2 hlc
  go_loopw [11] (fun i wr => ∃ k : Nat, k ≤ N.length ∧ i = .int .i64 k ∧ J w2.heap.size (ownL l.length (N.take k)) wr ∧ Fr (Yx B W.heap.size w2.heap.size) w2 wr) (fun i _ => N.length - (intOf i).toNat)
  case atStart => exact ⟨0, by omega, rfl, J0.out, Fr.refl _ _⟩
  case round =>
    obtain ⟨k, hk, rfl, hj, hf⟩ := hrel
    have HJ1 := Lib.hid hj
    have HF1 := Lib.hid hf
    have hsz := hf.size
    clear hj
    by_cases hlt : k < N.length
    · obtain ⟨g, rfl, hg, hcell0⟩ := HL.out k hlt
      have hg2 : g < w2.heap.size := cell_lt hcell0
      have hs1 := R0.out.1.size
      have hcell := hf.cell hcell0 (.inr ⟨by show W.heap.size ≤ g; omega, hg2⟩)
      have hbx := (hf.block W.heap.size (by have := B2.out.size; omega) (.inr ⟨Nat.le_refl _, by omega⟩)).trans X1.out
      have n0 := at_cell hbx 0
      have n1 := at_cell hbx 1
      have hl := cell_lt n0
      have hb0 : Below w0.heap.size w0 wr := HW0.out.trans ((B2.out.mono (by omega)).trans (hf.below (by omega) (fun j hj => .inl (by omega))))
      have h0k := NN.out k hlt
      have T := Lib.hid (TK.out k hlt)
      clear hf hcell0 hbx
      generalize N.getD k 0 = x at *
      obtain ⟨xn, rfl⟩ : ∃ xn : Nat, x = (xn : Int) := ⟨x.toNat, by omega⟩
      by_cases hx : (xn : Int) < l.length
      · rw [if_pos hx] at T
        obtain ⟨ad, rfl, eo, ec, hin0⟩ := HST.out xn (by omega)
        obtain ⟨d0, d1, d2, d3, d4, _⟩ := hin0.next hb0
        have KC := Lib.hid (HK.out w2.heap.size _ xn eo ec wr (by omega) HJ1.out hsz)
        clear hin0
        unfold stV at KC
        generalize st l xn = s at *
        go_wp2_with (go_at_fn K; (with_reducible refine KC.out.mono ?_); rintro e w5 ⟨rfl, h1, h2⟩)
        go_roundw
        case rel => exact ⟨k + 1, by omega, by go_num, by rw [T.out]; exact h1, HF1.out.trans h2⟩
        case measure => simp [intOf]; omega
      · rw [if_neg hx] at T
        go_wp2
        go_roundw
        case rel => exact ⟨k + 1, by omega, by go_num, by rw [T.out]; exact HJ1.out, HF1.out⟩
        case measure => simp [intOf]; omega
    · obtain rfl : k = N.length := by omega
      have HZ := Lib.hid (TA.out)
      go_wp2
      go_end0
      exact ⟨rfl, w2.heap.size, B2.out.size, by rw [HZ.out]; exact HJ1.out⟩

end Go.Proofs.YtfbphiamelongaaDoor.Cl

/- The document's example. -/
import Derived.Test.YtdgpanofehfjdaaArSame2
import Derived.Test.YtdgpanofehfjdaaArMeth
import Derived.Test.YtdgpanofehfjdaaArDs
namespace Go.Proofs.Ytdgpanofehfjdaa.Ar
open Go Go.RowKit Go.Shelf
open Go.Proofs.Ytdgpanofehfjdaa.Rg (R RngsAt RowsAt nthL add_zero own_next RowsOwn flatR rightB rightB_iff setFrom hasB inB)

/-- what Same tells -/
noncomputable def SB (p q : Tr) : Bool := if checkE p = 0 ∧ checkE q = 0 then sameT p q p.root.toNat q.root.toNat else false
theorem same_any (p q : Tr) (v u : Value) (w : World) (hv : TreeAt w v p) (hu : TreeAt w u q) :
    Calls Try.prog 12 #[v, u] w fun e w' => e = .returned (.bool (SB p q)) ∧ Below w.heap.size w w' := by
  unfold SB
  by_cases hp : checkE p = 0
  · by_cases hq : checkE q = 0
    · rw [if_pos ⟨hp, hq⟩]; exact same_yes p q v u w hv hu hp hq
    · rw [if_neg (fun h => hq h.2)]; exact same_no2 p q v u w hv hu hp hq
  · rw [if_neg (fun h => hp h.1)]; exact same_no1 p q v u w hv hu hp

theorem rng_one (w : World) (N : Nat) (hN : w.heap.size = N) (a b : Int) : RngsAt (w.alloc (.cells #[.int .i64 a, .int .i64 b] 55)) (.slice (some ⟨N, 0, none⟩) 1 1) [(a, b)] := by
  subst hN
  refine .inr ⟨⟨w.heap.size, 0, none⟩, 1, rfl, by unfold maxLen; simp, fun i hi => ?_⟩
  obtain rfl : i = 0 := by simp at hi; omega
  constructor
  · show World.cell? _ ⟨w.heap.size, 0, none⟩ = _
    rw [World.cell?_alloc_new]; rfl
  · show World.cell? _ ⟨w.heap.size, 1, none⟩ = _
    rw [World.cell?_alloc_new]; rfl
/-- the example's tree -/
def exT (L : List R) : Tr := ⟨[setN 0, ⟨5, 0, 0, 0, -1, 0⟩], [L], 1⟩
theorem exT_ok {L : List R} (h : setFrom 0 L) : Ok (exT L) where
  root0 := by simp [exT]
  root1 := by simp [exT]
  sets := fun s hs => by
    simp only [exT, List.mem_singleton] at hs
    subst hs; exact (rightB_iff _).2 h
  node := fun i hi => by
    have : i = 0 ∨ i = 1 := by simp [exT] at hi; omega
    rcases this with rfl | rfl
    · exact setN_ok 0 0
    · simp [exT, nd, nodeB, timesB]
theorem exT_check {L : List R} (h : setFrom 0 L) : checkE (exT L) = 0 := ok_check (exT_ok h) (by simp [exT]) (by simp [exT])
theorem exT_reck (g : List Int → Int) (L : List R) : reck g (exT L).ns 1 = g [g []] := by
  rw [reck_one (by simp [exT, nd]) (by simp [exT, nd])]
  have : (nd (exT L).ns 1).a.toNat = 0 := by simp [exT, nd]
  rw [this, reck_none (by simp [exT, nd, setN]) (by simp [exT, nd, setN])]
theorem exT_same {L : List R} (h : setFrom 0 L) : SB (exT L) (exT L) = true := by
  unfold SB
  rw [if_pos ⟨exT_check h, exT_check h⟩]
  have h0 : sameT (exT L) (exT L) 0 0 = true := by rw [sameT]; simp [exT, nd, setN]
  show sameT (exT L) (exT L) 1 1 = true
  rw [sameT]
  simp only [exT, nd] at h0 ⊢
  simp [h0]

theorem rep_ex {B bb : Nat} {w w' : World} {L : List R} {nv sv : Value} {e : Ending} (h : AddOut B w bb ([] ++ [setN ([] : List (List R)).length]) ([] ++ [L]) nv sv ⟨5, 0, 0, 0, -1, 0⟩ e w') :
    ∃ nv' sv' xs', Bd B w' bb (exT L).ns (exT L).sets nv' sv' xs' ∧ Kx (UB bb nv sv) w w' ∧ e = .returned (.int .i64 1) := by
  rcases h with ⟨_, he, nv', sv', xs', h1, h2, _⟩ | ⟨hf, _⟩
  · exact ⟨nv', sv', xs', h1, h2, he⟩
  · simp [nodeB, timesB] at hf
set_option maxRecDepth 100000 in
set_option maxHeartbeats 16000000 in
theorem alive_any (w : World) : Calls Try.prog 7 #[] w fun e w' => e = .returned (.bool true) ∧ Below w.heap.size w w' := by
  have CN := Lib.hid (new_any w)
  go_enter Try.func7, Try.ntmps7
  go_wp2_with (first
    | (go_at_call 16; (with_reducible refine CN.out.mono ?_); rintro e w1 ⟨rfl, hbd, hb1⟩; go_must (have B1 := Lib.hid hb1; have HBD := Lib.hid (hbd.next ((Below.refl _ _).alloc (Nat.le_refl _) (.cells #[.int .i64 97, .int .i64 97] 55))); have CS := Lib.hid (setm_any [(97, 97)] (.slice (some ⟨w1.heap.size, 0, none⟩) 1 1) _ HBD.out (rng_one w1 _ rfl 97 97) (by simp) (by simp) (by simp)); clear hbd hb1))
    | (go_at_call 18; (with_reducible refine CS.out.mono ?_); rintro e w2 ⟨rfl, L, hL, _, hL2, nv, sv, xs, hbd2, hk2, _, _⟩; go_must (have HL := Lib.hid hL; have hb2 := (B1.out.alloc B1.out.size (.cells #[.int .i64 97, .int .i64 97] 55)).trans (hk2.below (show w.heap.size ≤ _ by have := B1.out.size; simp; omega) (fun k hk hu => by rcases hu with h | h | h; omega; cases h; cases h)); have B2 := Lib.hid hb2; have HL2 := Lib.hid hL2; have HBD2 := Lib.hid hbd2; have CR := Lib.hid (rep_any 0 0 (-1) w2 hbd2 (by simp) (by simp)); clear hbd2 hk2 hL hL2 hb2))
    | (go_at_call 22; (with_reducible refine CR.out.mono ?_); rintro e w3 hq; go_must (obtain ⟨nv3, sv3, xs3, hbd3, hk3, he3⟩ := rep_ex hq; have hb3 : Below w.heap.size w w3 := B2.out.trans (Kx.below hk3 B2.out.size (fun k hk hu => by rcases hu with h | h | h; omega; (have := (HBD2.out.nodes.lt k h).1; omega); (have := (HBD2.out.sets.own.lt k h).1; omega))); have B3 := Lib.hid hb3; have CT := Lib.hid (show Calls Try.prog 25 #[.pointer (some ⟨w.heap.size, 0, none⟩), .int .i64 1] w3 (TreeOut w3 (exT L).ns (exT L).sets 1) from tree_any 1 w3 hbd3 (by simp [exT]) (by simp [exT]) (by simp [exT]) (fun s hs => by simp [exT] at hs; subst hs; have := HL2.out; simp at this; omega)); clear hbd3 hk3 hb3 hq); subst he3)
    | (go_at_call 25; (with_reducible refine CT.out.mono ?_); rintro e w4 ⟨vn, vs, xs4, rfl, hn4, hs4, hb4⟩; go_must (obtain ⟨no, ncap, rfl, _, _⟩ := (nodes_of_row hn4).shape; obtain ⟨so, scap, rfl, _, _⟩ := (hs4.at').shape; have HT := Lib.hid (show TreeAt w4 (.agg #[.slice no (exT L).ns.length ncap, .slice so (exT L).sets.length scap, .int .i64 1]) (exT L) from ⟨_, _, rfl, nodes_of_row hn4, hs4.at'⟩); have B4 := Lib.hid (B3.out.trans (hb4.mono B3.out.size)); clear hn4 hs4 hb4))
    | fail)
  have hk : checkE (exT L) = 0 := exT_check HL.out
  have HBX := Lib.hid ((Below.refl w4.heap.size w4).alloc (Nat.le_refl _) (.cells #[.slice no (exT L).ns.length ncap, .slice so (exT L).sets.length scap, .int .i64 1] 25))
  have HTB := Lib.hid (TBox.new w4 (.slice no (exT L).ns.length ncap) (.slice so (exT L).sets.length scap) 1)
  have B5 := Lib.hid (B4.out.trans (HBX.out.mono B4.out.size))
  have CD := Lib.hid (fun W (hb : Below w4.heap.size w4 W) => show Calls Try.prog 10 #[.agg #[.slice no (exT L).ns.length ncap, .slice so (exT L).sets.length scap, .int .i64 1]] W (fun e w' => e = .returned (.int .i64 2) ∧ Below W.heap.size W w') by
    have := depth_any (exT L) _ W (HT.out.next hb)
    rw [if_pos hk, show (exT L).root.toNat = 1 from rfl, exT_reck gD L] at this; exact this)
  have CZ := Lib.hid (fun W (hb : Below w4.heap.size w4 W) => show Calls Try.prog 11 #[.agg #[.slice no (exT L).ns.length ncap, .slice so (exT L).sets.length scap, .int .i64 1]] W (fun e w' => e = .returned (.int .i64 2) ∧ Below W.heap.size W w') by
    have := size_any (exT L) _ W (HT.out.next hb)
    rw [if_pos hk, show (exT L).root.toNat = 1 from rfl, exT_reck gS L] at this; exact this)
  have CK := Lib.hid (fun W (hb : Below w4.heap.size w4 W) => show Calls Try.prog 9 #[.agg #[.slice no (exT L).ns.length ncap, .slice so (exT L).sets.length scap, .int .i64 1]] W (fun e w' => e = .returned (.int .i64 0) ∧ Below W.heap.size W w') by
    have := check_any (exT L) _ W (HT.out.next hb)
    rw [hk] at this; exact this)
  have CM := Lib.hid (fun W (hb : Below w4.heap.size w4 W) => show Calls Try.prog 12 #[.agg #[.slice no (exT L).ns.length ncap, .slice so (exT L).sets.length scap, .int .i64 1], .agg #[.slice no (exT L).ns.length ncap, .slice so (exT L).sets.length scap, .int .i64 1]] W (fun e w' => e = .returned (.bool true) ∧ Below W.heap.size W w') by
    have := same_any (exT L) (exT L) _ _ W (HT.out.next hb) (HT.out.next hb)
    rw [exT_same HL.out] at this; exact this)
  generalize (exT L).ns.length = nn at *
  generalize (exT L).sets.length = nss at *
  generalize w4.alloc (.cells #[.slice no nn ncap, .slice so nss scap, .int .i64 1] 25) = W5 at *
  obtain ⟨r0, r1, r2⟩ := HTB.out
  clear hk
  go_wp2_with (first
    | (go_at_call 10; (with_reducible refine (CD.out _ HBX.out).mono ?_); rintro e w6 ⟨rfl, hb6⟩; go_must (have a0 := cell_next r0 hb6; have a1 := cell_next r1 hb6; have a2 := cell_next r2 hb6; have B6 := Lib.hid hb6; clear hb6))
    | (go_at_call 11; (with_reducible refine (CZ.out _ (HBX.out.trans (B6.out.mono HBX.out.size))).mono ?_); rintro e w7 ⟨rfl, hb7⟩; go_must (have b0 := cell_next a0 hb7; have b1 := cell_next a1 hb7; have b2 := cell_next a2 hb7; have B7 := Lib.hid (B6.out.trans (hb7.mono B6.out.size)); clear hb7))
    | (go_at_call 9; (with_reducible refine (CK.out _ (HBX.out.trans (B7.out.mono HBX.out.size))).mono ?_); rintro e w8 ⟨rfl, hb8⟩; go_must (have c0 := cell_next b0 hb8; have c1 := cell_next b1 hb8; have c2 := cell_next b2 hb8; have B8 := Lib.hid (B7.out.trans (hb8.mono B7.out.size)); clear hb8))
    | (go_at_call 12; (with_reducible refine (CM.out _ (HBX.out.trans (B8.out.mono HBX.out.size))).mono ?_); rintro e w9 ⟨rfl, hb9⟩; go_must (have B9 := Lib.hid (B8.out.trans (hb9.mono B8.out.size)); clear hb9))
    | fail)
  go_ret
  exact ⟨rfl, B5.out.trans (B9.out.mono B5.out.size)⟩

end Go.Proofs.Ytdgpanofehfjdaa.Ar

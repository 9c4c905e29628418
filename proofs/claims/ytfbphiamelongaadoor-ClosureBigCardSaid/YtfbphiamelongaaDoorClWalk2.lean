/- walkOf, follow. -/
import Derived.Test.YtfbphiamelongaaDoorClWalk
import Derived.Deep.RegionHeld3
import Derived.Deep.LoopGhost
namespace Go.Proofs.YtfbphiamelongaaDoor.Cl
open Go Go.RowKit
open Go.Proofs.YtfbphiamelongaaDoor.Bt (SetAt setV memL NewOut new_any roomF zeros_mem iV own_slice grown_trans grown_cell)

set_option maxRecDepth 100000 in
set_option maxHeartbeats 2000000 in
theorem walkOf_any (a : Int) (ao : Option Addr) (n cap : Nat) (hn : n ≤ 4096) (lv : Value) (l : List Int) (w : World) (hl : IntsAt w lv l) :
    Calls Tryd.prog 31 #[.agg #[.int .i64 a, .slice ao n cap], lv] w fun e w' => ∃ b v, e = .returned (.pointer (some ⟨b, 0, none⟩)) ∧ WqAt w' w.heap.size (fun _ => False) b a (.slice ao n cap) n v (meets n l ([], [])).1 (meets n l ([], [])).2 ∧ Below w.heap.size w w' := by
  have NW := Lib.hid (fun W => (show Calls _ _ _ _ (fun e w' => NewOut W n e w') from by
    have := new_any (n : Int) W
    rwa [show roomF (n : Int) = n by unfold roomF; rw [if_neg (by omega), if_neg (by omega)]; rfl] at this))
  have b1 := (Below.refl w.heap.size w).alloc (Nat.le_refl _) (.cells #[.int .i64 a, .slice ao n cap] 24)
  have bx := at_new w (.cells #[.int .i64 a, .slice ao n cap] 24)
  have HL := Lib.hid hl
  have R0 := Lib.hid (And.intro b1 bx)
  have hW1s : (w.alloc (.cells #[.int .i64 a, .slice ao n cap] 24)).heap.size = w.heap.size + 1 := World.size_alloc _ _
  have TA : Hid (meets n l ([], []) = meets n (l.take l.length) ([], [])) := Lib.hid (by rw [List.take_length])
  generalize meets n l ([], []) = q1 at *
  obtain ⟨lo, lc, rfl, hlm, _⟩ := hl.shape
  clear hl b1 bx
  go_enter Tryd.func31, Tryd.ntmps31
  go_upto_region 1 with fail
  generalize w.alloc (.cells #[.int .i64 a, .slice ao n cap] 24) = W1 at *
  have c0 := at_cell R0.out.2 0
  have c1 := at_cell R0.out.2 1
  have hlt := cell_lt c0
  go_region_held3 (fun W => W.cell? ⟨w.heap.size, 0, none⟩ = some (.int .i64 a) ∧ W.cell? ⟨w.heap.size, 1, none⟩ = some (.slice ao n cap)) (first | exact ⟨by assumption, by assumption⟩ | go_keep)
      (first
      | (go_at_call 28; (with_reducible refine (NW.out _).mono ?_); rintro e w2 ⟨v, rfl, h1, h2⟩; obtain ⟨vo, vn, vc, rfl⟩ := h1.val; unfold setV; go_must (have hbx := at_next (R0.out.2) (Below.trans ((Below.refl _ W1).drew) h2); have d0 : w2.cell? ⟨w.heap.size, 0, none⟩ = some (.int .i64 a) := at_cell hbx 0; have d1 : w2.cell? ⟨w.heap.size, 1, none⟩ = some (.slice ao n cap) := at_cell hbx 1; have H := Lib.hid (And.intro h1 (Below.trans ((Below.refl _ W1).drew) h2)); clear h1 hbx h2))
      | fail)
  have hsz1 := H.out.2.size
  have V0 := Lib.hid (show WqAt (w2.alloc (.cells #[.int .i64 a, .slice ao n cap, .int .i64 (n : Nat), .slice vo vn vc, .slice none 0 0] 75)) w.heap.size (fun _ => False) w2.heap.size a (.slice ao n cap) n (.slice vo vn vc) [] [] from
    ⟨⟨_, at_new _ _, World.ownsRow_nil _ _ _ _, fun _ _ h => h⟩, ⟨_, (H.out.1.base (by show w.heap.size ≤ W1.heap.size; omega)).next ((Below.refl _ _).alloc (Nat.le_refl _) _), fun m => by rw [zeros_mem]; simp⟩, by omega, QOk.nil n, fun _ h => h.elim, fun h => h, fun _ _ h => h⟩)
  have B2 := Lib.hid ((R0.out.1.trans (H.out.2.mono R0.out.1.size)).alloc (R0.out.1.trans (H.out.2.mono R0.out.1.size)).size (.cells #[.int .i64 a, .slice ao n cap, .int .i64 (n : Nat), .slice vo vn vc, .slice none 0 0] 75))
  have MT := Lib.hid (fun q x W' (h' : WqAt W' w.heap.size (fun _ => False) w2.heap.size a (.slice ao n cap) n (.slice vo vn vc) q.1 q.2) => (show Calls _ _ _ _ (fun e W2 => WqOut W' w.heap.size (fun _ => False) w2.heap.size a (.slice ao n cap) n (.slice vo vn vc) (meetQ n x q) e W2) from meet_any w.heap.size (fun _ => False) w2.heap.size a _ n _ q.1 q.2 x hn W' h'))
  have TK := Lib.hid (fun j (hj : j < l.length) => meets_take (n := n) (xs := l) (q := ([], [])) hj)
  generalize hWE : w2.alloc (.cells #[.int .i64 a, .slice ao n cap, .int .i64 (n : Nat), .slice vo vn vc, .slice none 0 0] 75) = W2 at *
  generalize hbE : w2.heap.size = b at *
  have hw2 := B2.out.size
  clear hWE hbE c0 c1 d0 d1
  go_wp2
  go_loopw [17] (fun i wr => ∃ j : Nat, j ≤ l.length ∧ i = .int .i64 j ∧ WqAt wr w.heap.size (fun _ => False) b a (.slice ao n cap) n (.slice vo vn vc) (meets n (l.take j) ([], [])).1 (meets n (l.take j) ([], [])).2 ∧ Kw w.heap.size (fun _ => False) W2 wr) (fun i _ => l.length - (intOf i).toNat)
  case atStart => exact ⟨0, by omega, rfl, V0.out, Kw.refl _ _ _⟩
  case round =>
    obtain ⟨j, hj, rfl, hv, hk⟩ := hrel
    have HK := Lib.hid hk
    have HBW := Lib.hid (B2.out.trans (hk.below hw2))
    by_cases hlt : j < l.length
    · obtain ⟨lo2, lc2, e2, he2, hc2⟩ := (HL.out.next HBW.out).shape
      simp only [Value.slice.injEq] at e2
      obtain ⟨rfl, _, rfl⟩ := e2
      obtain ⟨ad, rfl, hcell⟩ := hc2 j hlt
      have T := Lib.hid (TK.out j hlt)
      have M := Lib.hid (fun x => MT.out _ x wr hv)
      clear hv hk hc2
      generalize l.getD j 0 = x at *
      generalize meets n (l.take j) ([], []) = q at *
      go_wp2_with (go_at_call 47; (with_reducible refine (M.out _).mono ?_); rintro e w3 ⟨rfl, h1, h2⟩)
      go_roundw
      case rel => exact ⟨j + 1, by omega, by go_num, by rw [T.out]; exact h1, HK.out.trans h2⟩
      case measure => simp [intOf]; omega
    · obtain rfl : j = l.length := by omega
      rw [← TA.out] at hv
      have HV := Lib.hid hv
      clear hv hk
      go_wp2
      go_ret
      exact ⟨b, _, rfl, HV.out, HBW.out⟩

/-- what is done with a state that was met -/
def DoAt (K : FuncId) (B : Nat) (X : Nat → Prop) (b : Nat) (a : Int) (sv : Value) (n : Nat) (v : Value) (f : St → List Int) : Prop :=
  ∀ (Q r : List Int) (s : St) (eo : Option Addr) (ec : Nat) (W : World), B ≤ W.heap.size → WqAt W B X b a sv n v Q r → EpsAt B W s eo ec →
    Calls Tryd.prog K #[.pointer (some ⟨b, 0, none⟩), stV s eo ec] W fun e W' => WqOut W B X b a sv n v (meets n (f s) (Q, r)) e W'
theorem do_nothing (B : Nat) (X : Nat → Prop) (b : Nat) (a : Int) (sv : Value) (n : Nat) (v : Value) (hn : n ≤ 4096) : DoAt 34 B X b a sv n v nilF := fun Q r s eo ec W hB h he => nothing_any B X b a sv n v Q r s eo ec hn W hB h he
theorem do_all (B : Nat) (X : Nat → Prop) (b : Nat) (a : Int) (sv : Value) (n : Nat) (v : Value) (hn : n ≤ 4096) : DoAt 41 B X b a sv n v allF := fun Q r s eo ec W hB h he => all_any B X b a sv n v Q r s eo ec hn W hB h he

end Go.Proofs.YtfbphiamelongaaDoor.Cl

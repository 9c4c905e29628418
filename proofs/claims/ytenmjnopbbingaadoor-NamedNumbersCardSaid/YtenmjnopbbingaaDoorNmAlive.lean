/- The example of names. -/
import Derived.Test.YtenmjnopbbingaaDoorNmShort
namespace Go.Proofs.YtenmjnopbbingaaDoor.Nm
open Go.RowKit Go.Shelf Go.Proofs.YtenmjnopbbingaaDoor.Rg

theorem hexL : eachN ⟨#[72, 101, 120]⟩ = [(48, 57), (65, 70), (97, 102)] := by kernel_rfl
theorem hex_set : setFrom 0 [((48 : Int), (57 : Int)), (65, 70), (97, 102)] := ⟨by decide, by decide, by decide, by decide, by decide, by decide, by decide, by decide, by decide, trivial⟩
theorem hex_is (L : List R) (h : setFrom 0 L) (k : ∀ c, hasB L c = hasN ⟨#[72, 101, 120]⟩ c) : L = [(48, 57), (65, 70), (97, 102)] :=
  uniq h hex_set fun c => by rw [k, ← hasN_eq, hexL]
theorem noth_set : setFrom 0 [((0 : Int), (47 : Int)), (58, 64), (71, 96), (103, 1114111)] := ⟨by decide, by decide, by decide, by decide, by decide, by decide, by decide, by decide, by decide, by decide, by decide, by decide, trivial⟩
theorem noth_is (L : List R) (h : setFrom 0 L) (k : ∀ c, hasB L c = shortB (4, true) c) : L = [(0, 47), (58, 64), (71, 96), (103, 1114111)] :=
  uniq h noth_set fun c => by
    rw [k]
    show (isC c && !hasN ⟨#[72, 101, 120]⟩ c) = _
    rw [← hasN_eq, hexL, Bool.eq_iff_iff]
    simp only [hasB, isC, List.any_cons, List.any_nil, Bool.or_false, Bool.and_eq_true, Bool.or_eq_true, Bool.not_eq_true', ← Bool.not_eq_true, decide_eq_true_eq]
    omega
theorem of95 : (ofL 95).length = 4 := by decide +kernel
theorem short72 {w w' : World} {e : Ending} (h : ShortOut w 72 e w') : ∃ v L, e = .returned (.tuple #[v, .bool true]) ∧ MadeAt w w' v L (shortB (4, true)) 100000 := h
theorem isHex : decide (0 < (eachN ⟨#[72, 101, 120]⟩).length) = true := by rw [hexL]; rfl

set_option maxRecDepth 100000 in
set_option maxHeartbeats 4000000 in
theorem alive_any (w : World) (hT : Tab w) (hL : Lets w) : Calls Tryd.prog 6 #[] w fun e w' => e = .returned (.bool true) ∧ Below w.heap.size w w' := by
  have c1 := Lib.hid (of_name ⟨#[72, 101, 120]⟩ w hT)
  have c2 := Lib.hid (fun W (h : Below w.heap.size w W) => short_any 72 W (hT.next h) (hL.next h))
  have c3 := Lib.hid (fun W (h : Below w.heap.size w W) => of2_any 95 W (hT.next h))
  clear hT hL
  go_enter Tryd.func6, Tryd.ntmps6
  go_wp2_with (first
    | (go_at_call 7; (with_reducible refine c1.out.mono ?_); rintro e w1 ⟨v1, L1, rfl, hr, h1, h2, h3, h4⟩; go_must (obtain rfl := hex_is L1 h1 h2; obtain ⟨g, cap, rfl⟩ := ownsRow_succ (k := 2) hr; have e1 : w1.cell? ⟨g, 4, none⟩ = some (.int .i64 97) := (hr.cellAt 4 (by decide)).trans rfl; have e2 : w1.cell? ⟨g, 5, none⟩ = some (.int .i64 102) := (hr.cellAt 5 (by decide)).trans rfl; have pt := isHex; have B1 := Lib.hid h4; clear hr h1 h2 h3 h4))
    | (go_at_call 8; (with_reducible refine (c2.out w1 B1.out).mono ?_); intro e w2 ho; go_must (obtain ⟨v2, L2, rfl, m2⟩ := short72 ho; obtain rfl := noth_is L2 m2.set m2.has; obtain ⟨ao, cap2, rfl, _, _⟩ := m2.at'.shape; have d1 := cell_next e1 m2.below; have d2 := cell_next e2 m2.below; have B2 := Lib.hid (B1.out.trans (m2.below.mono B1.out.size)); clear m2 ho))
    | (go_at_call 13; (with_reducible refine (c3.out w2 B2.out).mono ?_); rintro e w3 ⟨v3, rfl, hs, hb⟩; go_must (obtain ⟨ao3, cap3, rfl, _, _⟩ := hs.shape; rw [of95]; have B3 := Lib.hid (B2.out.trans (hb.mono B2.out.size)); clear hs hb)))
  go_ret
  exact ⟨rfl, B3.out⟩

end Go.Proofs.YtenmjnopbbingaaDoor.Nm

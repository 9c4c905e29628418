/- All names; the names of whose sets a number is. -/
import Derived.Test.YtenmjnopbbingaaDoorNmHas
import Derived.Deep.AppendLies
import Derived.Deep.RegionHeld3
import Derived.Maps.AppendAt
namespace Go.Proofs.YtenmjnopbbingaaDoor.Nm
open Go.RowKit Go.Shelf Go.Proofs.YtenmjnopbbingaaDoor.Rg

theorem infoS : (Tryd.prog.info? 9).map (fun i => (i.zero, i.size, i.bytes)) = some (some (.string ⟨#[]⟩), 1, 16) := by kernel_rfl
theorem strs_of_row {w : World} {B : Nat} {v : Value} {l : List ByteArray} (h : w.ownsRow B 9 1 v l.length (l.map Value.string)) : StrsAt w v l := by
  rcases h.2 with ⟨rfl, h0⟩ | ⟨g, cap, cur, rfl, _, hg, hn, hm, hcs, ht⟩
  · exact .inl ⟨rfl, List.eq_nil_of_length_eq_zero h0⟩
  · refine .inr ⟨⟨g, 0, none⟩, cap, rfl, by omega, fun i hi => ?_⟩
    rw [add_zero]
    have hx : (cur.toList.take (l.length * 1))[i]? = some (.string (l.getD i ⟨#[]⟩)) := by
      rw [ht]; simp [List.getD, hi]
    rw [List.getElem?_take] at hx
    simp [World.cell?, hg]
    rw [if_pos (by omega)] at hx
    simpa using hx
theorem rowS_next {w w' : World} {B : Nat} {v : Value} {n : Nat} {xs : List Value} (h : w.ownsRow B 9 1 v n xs) (hb : Below w.heap.size w w') : w'.ownsRow B 9 1 v n xs := by
  refine h.kept (grown_below hb) ?_
  rcases h.2 with ⟨rfl, _⟩ | ⟨g, cap, cur, rfl, _⟩
  · exact .inl rfl
  · exact .inr (by simp [Value.ownBlock])

/-- the table's cells, as the two slices of each row lie -/
def tabCells (po : Nat → Option Addr) (pc : Nat → Nat) (no : Nat → Option Addr) (nc : Nat → Nat) : List Value :=
  (List.range 16).flatMap fun k => [.string (nthW k).1, .slice (po k) (nthW k).2.1.length (pc k), .slice (no k) (nthW k).2.2.length (nc k)]
theorem tab_cells {w : World} (hT : Tab w) : ∃ po pc no nc, w.rangeAt 1 0 (tabCells po pc no nc) := by
  have h : ∀ k : Nat, ∃ x : (Option Addr × Nat) × (Option Addr × Nat), k < 16 → RowAt w k (.slice x.1.1 (nthW k).2.1.length x.1.2) (.slice x.2.1 (nthW k).2.2.length x.2.2) := fun k => by
    by_cases hk : k < 16
    · obtain ⟨pv, nv, hr⟩ := hT k hk
      obtain ⟨ao, ac, rfl, _, _⟩ := hr.strs.shape
      obtain ⟨bo, bc, rfl, _, _⟩ := hr.ints.shape
      exact ⟨((ao, ac), (bo, bc)), fun _ => hr⟩
    · exact ⟨((none, 0), (none, 0)), fun h => absurd h hk⟩
  let f := fun k => Classical.choose (h k)
  have hf : ∀ k, k < 16 → RowAt w k (.slice (f k).1.1 (nthW k).2.1.length (f k).1.2) (.slice (f k).2.1 (nthW k).2.2.length (f k).2.2) := fun k => Classical.choose_spec (h k)
  clear_value f
  refine ⟨fun k => (f k).1.1, fun k => (f k).1.2, fun k => (f k).2.1, fun k => (f k).2.2, fun j v hj => ?_⟩
  rw [Nat.zero_add]
  have hl : j < 48 := (List.getElem?_eq_some_iff.1 hj).1
  have hk : j / 3 < 16 := by omega
  have hr := hf (j / 3) hk
  have h3 : j = j / 3 * 3 ∨ j = j / 3 * 3 + 1 ∨ j = j / 3 * 3 + 2 := by omega
  generalize hq : j / 3 = q at *
  rcases is_k hk with rfl | rfl | rfl | rfl | rfl | rfl | rfl | rfl | rfl | rfl | rfl | rfl | rfl | rfl | rfl | rfl <;> rcases h3 with rfl | rfl | rfl <;> cases hj <;> first | exact hr.name | exact hr.part | exact hr.num

theorem index_tab (po : Nat → Option Addr) (pc : Nat → Nat) (no : Nat → Option Addr) (nc : Nat → Nat) (k : Nat) (hk : k < 16) (w : World) : (Instr.index 53 (.agg (tabCells po pc no nc).toArray) (.int .i64 (k : Nat))).run Tryd.prog w = .ok (.agg #[.string (nthW k).1, .slice (po k) (nthW k).2.1.length (pc k), .slice (no k) (nthW k).2.2.length (nc k)]) w := by
  rcases is_k hk with rfl | rfl | rfl | rfl | rfl | rfl | rfl | rfl | rfl | rfl | rfl | rfl | rfl | rfl | rfl | rfl
  all_goals kernel_rfl

/-- all names -/
def namesL : List ByteArray := tab.map (·.1)
theorem names_get {k : Nat} (hk : k < 16) : namesL[k]? = some (nthW k).1 := by
  have h : k < tab.length := hk
  unfold namesL nthW
  rw [List.getElem?_map, List.getD_eq_getElem?_getD, List.getElem?_eq_getElem h]; rfl
theorem take_names {k : Nat} (hk : k < 16) : namesL.take (k + 1) = namesL.take k ++ [(nthW k).1] := by
  rw [List.take_add_one, names_get hk]; rfl

theorem one_new (W : World) (x : Value) (t : TypeId) (N : Nat) (h : N = W.heap.size) : ∀ (j : Nat) (u : Value), [x][j]? = some u → (W.alloc (.cells #[x] t)).cell? ((⟨N, 0, none⟩ : Addr).add j) = some u := by
  subst h; exact cell_one_new _ _ _
/-- a row of texts of the call's own, to which a text has been appended -/
theorem appS_row {W w3 : World} {B : Nat} {v v' : Value} {G : List ByteArray} {r : ByteArray} (hown : w3.ownsRow B 9 1 v' (G.length + 1) (G.map Value.string ++ [.string r])) (hgr : W.grownBy w3 v.ownBlock) (hrow : W.ownsRow B 9 1 v G.length (G.map Value.string)) {w1 : World} (hb : Below B w1 W) (hB : B ≤ W.heap.size) :
    w3.ownsRow B 9 1 v' (G ++ [r]).length ((G ++ [r]).map Value.string) ∧ Below B w1 w3 := by
  refine ⟨by simpa using hown, hb.grown hgr hB fun k hk => (hrow.lt k hk).1⟩

def NamesRel (L : Nat → List ByteArray) (w : World) (s i : Value) (wr : World) : Prop :=
  ∃ k : Nat, i = .int .i64 k ∧ k ≤ 16 ∧ wr.ownsRow w.heap.size 9 1 s (L k).length ((L k).map Value.string) ∧ Below w.heap.size w wr

set_option maxRecDepth 100000 in
set_option maxHeartbeats 4000000 in
theorem names_any (w : World) (hT : Tab w) : Calls Tryd.prog 16 #[] w fun e w' => ∃ v, e = .returned v ∧ StrsAt w' v namesL ∧ Below w.heap.size w w' := by
  obtain ⟨i0, hi, hz0, hz1, hz2⟩ := info_parts infoS
  obtain ⟨po, pc, no, nc, ht⟩ := tab_cells hT
  have HT := Lib.hid ht
  clear ht hT
  go_enter Tryd.func16, Tryd.ntmps16
  go_wp2_with (refine wpList_load_mid rfl 53 (.global 1) rfl 1 0 rfl (tabCells po pc no nc) _ HT.out Tryd.underlying53 rfl (by kernel_rfl) ?_)
  go_loopw [1, 5] (fun s i wr => NamesRel (fun k => namesL.take k) w s i wr) (fun _ i _ => 16 - (intOf i).toNat)
  case atStart => exact ⟨0, rfl, Nat.zero_le _, World.ownsRow_nil _ _ _ _, Below.refl _ _⟩
  case round =>
    obtain ⟨k, rfl, hk, hrow, hbw⟩ := hrel
    have hsz := hbw.size
    by_cases hlt : k < 16
    · have IX := index_tab po pc no nc k hlt
      have hG : (namesL.take k).length ≤ 16 := by rw [List.length_take]; omega
      have HROW := Lib.hid hrow
      have HBW := Lib.hid hbw
      clear hrow hbw
      have n1 : (k : Int) < 16 := by omega
      go_wp2_with (at_builtin; go_must (refine wpList_append_own _ rfl _ _ 31 rfl w.heap.size 9 i0 (.string ⟨#[]⟩) 1 16 Tryd.underlying31 hi hz0 hz1 hz2 rfl (by decide) _ (namesL.take k).length ((namesL.take k).map Value.string) rfl (rowS_next HROW.out (((Below.refl _ _).alloc (Nat.le_refl _) _).alloc (by simp) _)) ⟨wr.heap.size + 1, 0, none⟩ 1 1 [.string (nthW k).1] rfl rfl (one_new _ _ _ _ (by simp)) (by simp [Value.oneCell']) (by unfold maxLen; omega) (by omega) (by simp; omega) ?_); intro v' w4 hown hgrow _; go_must (have Z := Lib.hid (appS_row hown hgrow (rowS_next HROW.out (((Below.refl _ _).alloc (Nat.le_refl _) _).alloc (by simp) _)) (HBW.out.trans ((((Below.refl _ _).alloc (Nat.le_refl _) _).alloc (by simp) _).mono hsz)) (by simp; omega)); clear hown hgrow))
      go_roundw
      case rel => exact ⟨k + 1, by go_num, by omega, by simp only [take_names hlt]; exact Z.out.1, Z.out.2⟩
      case measure => simp [intOf]; omega
    · obtain rfl : k = 16 := by omega
      have hfull : namesL.take 16 = namesL := rfl
      simp only [hfull] at hrow
      have HROW := Lib.hid (strs_of_row hrow)
      clear hrow hfull
      go_wp2
      go_ret
      exact ⟨_, rfl, HROW.out, hbw⟩

/-- the names of whose sets c is -/
def ofL (c : Int) : List ByteArray := namesL.filter fun nm => hasN nm c
def ofK (c : Int) (k : Nat) : List ByteArray := (namesL.take k).filter fun nm => hasN nm c
theorem ofK_succ (c : Int) {k : Nat} (hk : k < 16) : ofK c (k + 1) = if hasN (nthW k).1 c then ofK c k ++ [(nthW k).1] else ofK c k := by
  unfold ofK
  rw [take_names hk, List.filter_append]
  cases h : hasN (nthW k).1 c <;> simp [h]
theorem ofK_len (c : Int) {k : Nat} (hk : k ≤ 16) : (ofK c k).length ≤ 16 := by
  unfold ofK
  refine Nat.le_trans (List.length_filter_le _ _) ?_
  rw [List.length_take]; omega

set_option maxRecDepth 100000 in
set_option maxHeartbeats 4000000 in
theorem of2_any (c : Int) (w : World) (hT : Tab w) : Calls Tryd.prog 13 #[.int .i64 c] w fun e w' => ∃ v, e = .returned v ∧ StrsAt w' v (ofL c) ∧ Below w.heap.size w w' := by
  obtain ⟨i0, hi, hz0, hz1, hz2⟩ := info_parts infoS
  obtain ⟨po, pc, no, nc, ht⟩ := tab_cells hT
  have HT := Lib.hid ht
  have HTT := Lib.hid hT
  clear ht hT
  go_enter Tryd.func13, Tryd.ntmps13
  go_wp2_with (refine wpList_load_mid rfl 53 (.global 1) rfl 1 0 rfl (tabCells po pc no nc) _ HT.out Tryd.underlying53 rfl (by kernel_rfl) ?_)
  go_loopw [3, 7] (fun s i wr => NamesRel (ofK c) w s i wr) (fun _ i _ => 16 - (intOf i).toNat)
  case atStart => exact ⟨0, rfl, Nat.zero_le _, World.ownsRow_nil _ _ _ _, Below.refl _ _⟩
  case round =>
    obtain ⟨k, rfl, hk, hrow, hbw⟩ := hrel
    have hsz := hbw.size
    by_cases hlt : k < 16
    · have IX := index_tab po pc no nc k hlt
      have hG := ofK_len c hk
      have hst := ofK_succ c hlt
      have HROW := Lib.hid hrow
      have HBW := Lib.hid hbw
      have n1 : (k : Int) < 16 := by omega
      have hal : ∀ o, Below wr.heap.size wr (wr.alloc o) := fun o => (Below.refl _ _).alloc (Nat.le_refl _) o
      have cH := Lib.hid (fun o => has_any (nthW k).1 c (wr.alloc o) ((HTT.out.next hbw).next (hal o)))
      have HAL := Lib.hid hal
      clear hrow hbw hal
      cases hh : hasN (nthW k).1 c with
      | true =>
        rw [hh] at cH hst
        rw [if_pos rfl] at hst
        have HST := Lib.hid hst
        clear hst hh
        go_wp2_with (first
          | (go_at_call 23; (with_reducible refine (cH.out _).mono ?_); rintro e w2 ⟨rfl, hb⟩; go_must (have cN : w2.cell? ⟨wr.heap.size, 0, none⟩ = some (.string (nthW k).1) := (hb.cell (p := ⟨wr.heap.size, 0, none⟩) (by simp)).trans (by simp); have B2 := Lib.hid ((HAL.out _).trans (hb.mono (HAL.out _).size)); clear hb))
          | (at_builtin; go_must (refine wpList_append_own _ rfl _ _ 31 rfl w.heap.size 9 i0 (.string ⟨#[]⟩) 1 16 Tryd.underlying31 hi hz0 hz1 hz2 rfl (by decide) _ (ofK c k).length ((ofK c k).map Value.string) rfl (rowS_next HROW.out (B2.out.alloc B2.out.size _)) ⟨w2.heap.size, 0, none⟩ 1 1 [.string (nthW k).1] rfl rfl (one_new _ _ _ _ rfl) (by simp [Value.oneCell']) (by unfold maxLen; omega) (by omega) (by have := B2.out.size; simp; omega) ?_); intro v' w4 hown hgrow _; go_must (have Z := Lib.hid (appS_row hown hgrow (rowS_next HROW.out (B2.out.alloc B2.out.size _)) (HBW.out.trans ((B2.out.alloc B2.out.size _).mono hsz)) (by have := B2.out.size; simp; omega)); clear hown hgrow)))
        go_roundw
        case rel => exact ⟨k + 1, by go_num, by omega, by rw [HST.out]; exact Z.out.1, Z.out.2⟩
        case measure => simp [intOf]; omega
      | false =>
        rw [hh] at cH hst
        rw [if_neg (by simp)] at hst
        have HST := Lib.hid hst
        clear hst hh
        go_wp2_with (go_at_call 23; (with_reducible refine (cH.out _).mono ?_); rintro e w2 ⟨rfl, hb⟩; go_must (have B2 := Lib.hid ((HAL.out _).trans (hb.mono (HAL.out _).size)); clear hb))
        go_roundw
        case rel => exact ⟨k + 1, by go_num, by omega, by rw [HST.out]; exact rowS_next HROW.out B2.out, HBW.out.trans (B2.out.mono hsz)⟩
        case measure => simp [intOf]; omega
    · obtain rfl : k = 16 := by omega
      have hfull : ofK c 16 = ofL c := rfl
      simp only [hfull] at hrow
      have HROW := Lib.hid (strs_of_row hrow)
      clear hrow hfull
      go_wp2
      go_ret
      exact ⟨_, rfl, HROW.out, hbw⟩

end Go.Proofs.YtenmjnopbbingaaDoor.Nm

/- All numbers stand anew. -/
import Derived.Test.YtemmaoapicaloaaDoorSbStand
namespace Go.Proofs.YtemmaoapicaloaaDoor.Sb
open Go Go.RowKit Go.Proofs.YtemmaoapicaloaaDoor.At
open Go.Proofs.YtemmaoapicaloaaDoor.Bt (SetAt setV memL nums roomF)

/-- the table with other places -/
def Tb.at (T : Tb) (P : List Nat) (pv : Value) : Tb := { T with P := P, pv := pv }

/-- places are made anew -/
theorem TbIn.newP {W W' : World} {B tb : Nat} {T : Tb} {P : List Nat} {pv : Value} (h : TbIn W B tb T) (h1 : W'.ownsRow B 3 1 pv P.length (pV P)) (hg : W.grownBy W' none) (hnew : ∀ k, pv.ownBlock = some k → W.heap.size ≤ k) :
    TbIn (W'.setCell ⟨tb, 3, none⟩ pv) B tb (T.at P pv) ∧ Step tb T W (T.at P pv) (W'.setCell ⟨tb, 3, none⟩ pv) := by
  have hb : ∀ k, k < W.heap.size → k ≠ tb → (W'.setCell ⟨tb, 3, none⟩ pv).heap[k]? = W.heap[k]? := fun k hk hne => (set_block W' tb 3 pv k hne).trans (hg.block k hk (by simp))
  have hst : Step tb T W (T.at P pv) (W'.setCell ⟨tb, 3, none⟩ pv) := ⟨hg.os, hg.tape, hg.output, by have := hg.size; simpa using this, fun k hk hc => hb k hk hc.1, .refl _ _, .inr hnew⟩
  have hbox : W'.heap[tb]? = some (.cells (tbC T) 47 (0, 0)) := (hg.block tb h.lt (by simp)).trans h.box
  refine ⟨⟨h.base, set_at hbox 3 pv, row_same h.sets fun k e => hb k (h.sets.lt k e).2 (fun e2 => ?_), fun i hi => hst.set h (h.each i hi), row_same h1 fun k e => set_block W' tb 3 pv k (fun e2 => ?_)⟩, hst⟩
  · exact at_not_row h.box h.sets (by decide) (by rw [← e2]; exact e.symm)
  · have := hnew k e
    have := h.lt
    omega

/-- what spread tells -/
def SpreadOut (W : World) (B tb m : Nat) (T : Tb) (e : Ending) (W' : World) : Prop :=
  ∃ P' pv', e = .returned (.tuple #[]) ∧ TbIn W' B tb (T.at P' pv') ∧ P'.length = m ∧ Stood P' T.E T.E.length ∧ Step tb T W (T.at P' pv') W'

theorem infoI2 : (Tryd.prog.info? 3).map (fun i => (i.zero, i.size, i.bytes)) = some (some (.int .i64 0), 1, 8) := by kernel_rfl
theorem make_places (m : Nat) (hm : m ≤ 1000000) {w : World} {B tb : Nat} {T : Tb} (h : TbIn w B tb T) : ∃ w', (Instr.makeSlice 27 (.int .i64 (m : Nat)) (.int .i64 (m : Nat))).run Tryd.prog w = .ok (.slice (some ⟨w.heap.size, 0, none⟩) m m) w' ∧
    w'.cell? ⟨tb, 3, none⟩ = some T.pv ∧ w'.frozen? ⟨tb, 3, none⟩ = false ∧ tb < w'.heap.size ∧
    TbIn (w'.setCell ⟨tb, 3, none⟩ (.slice (some ⟨w.heap.size, 0, none⟩) m m)) B tb (T.at (List.replicate m 0) (.slice (some ⟨w.heap.size, 0, none⟩) m m)) ∧ Step tb T w (T.at (List.replicate m 0) (.slice (some ⟨w.heap.size, 0, none⟩) m m)) (w'.setCell ⟨tb, 3, none⟩ (.slice (some ⟨w.heap.size, 0, none⟩) m m)) := by
  obtain ⟨i0, hi, hz0, hz1, hz2⟩ := info_parts infoI2
  obtain ⟨w', h1, h2, h3⟩ := run_makeSlice_full (P := Tryd.prog) w B 27 3 i0 (.int .i64 0) 1 Tryd.underlying27 hi hz0 hz1 .i64 .i64 m (by omega) (by rw [hz2]; omega) (by unfold maxLen; omega) h.size
  have e : (madeCells (Value.int .i64 0).cells (m * 1)).toList = pV (List.replicate m 0) := by
    rw [show (Value.int .i64 0).cells = #[.int .i64 0] from rfl, toList_madeCells_one]
    simp [pV]
  rw [e] at h2
  have hbox : w'.heap[tb]? = some (.cells (tbC T) 47 (0, 0)) := (h3.block tb h.lt (by simp)).trans h.box
  obtain ⟨z1, z2⟩ := h.newP (P := List.replicate m 0) (by rw [List.length_replicate]; exact h2) h3 (fun k e => by simp [Value.ownBlock] at e; omega)
  exact ⟨w', h1, by simp [at_cell hbox, tbC], at_froz hbox 3, at_lt hbox, z1, z2⟩

set_option maxRecDepth 100000 in
set_option maxHeartbeats 2000000 in
theorem spread_any {B tb m : Nat} {T : Tb} (w : World) (ht : TbIn w B tb T) (hu : Uniq T.E) (hnm : T.E.length < m) (hm : m ≤ 1000000) (h64 : ∀ i, i < T.E.length → (ent T.E i).h < 18446744073709551616) :
    Calls Tryd.prog 39 #[ptr tb, .int .i64 (m : Nat)] w fun e w' => SpreadOut w B tb m T e w' := by
  obtain ⟨w1, h1, c3, f3, hl1, ht1, hst1⟩ := make_places m hm ht
  have ST := Lib.hid (fun W (P : List Nat) k (hW : TbIn W B tb (T.at P (.slice (some ⟨w.heap.size, 0, none⟩) m m))) (hP : P.length = m) (hs : Stood P T.E k) (hk : k < T.E.length) => stand_any (T := T.at P (.slice (some ⟨w.heap.size, 0, none⟩) m m)) W hW hu hs hk (by show k < P.length; omega) (by show P.length ≤ 1000000; omega) (h64 k hk))
  obtain ⟨so, sc, hsv, hsm, hsc⟩ := own_shape ht.sets
  have hn : T.E.length ≤ 1000000 := by omega
  have CC := Lib.hid (fun W (P : List Nat) (hW : TbIn W B tb (T.at P (.slice (some ⟨w.heap.size, 0, none⟩) m m))) => show W.cell? ⟨tb, 2, none⟩ = some (.slice so T.E.length sc) by rw [← hsv]; exact hW.cells.2.2.1)
  have c2 := CC.out _ _ ht1
  have hl := ht.lt
  have hl2 := ht1.lt
  have H0 := Lib.hid (show ∃ P, TbIn _ B tb (T.at P (.slice (some ⟨w.heap.size, 0, none⟩) m m)) ∧ P.length = m ∧ Stood P T.E 0 ∧ Step tb T w (T.at P (.slice (some ⟨w.heap.size, 0, none⟩) m m)) _ from ⟨_, ht1, by rw [List.length_replicate], stood_new m T.E, hst1⟩)
  have RR := Lib.hid h1
  clear ht ht1 hst1 hu h64 hsv hsc hsm h1
  unfold ptr at *
  go_enter Tryd.func39, Tryd.ntmps39
  go_wp2
  rw [RR.out]
  go_wp2
  generalize w1.setCell ⟨tb, 3, none⟩ (.slice (some ⟨w.heap.size, 0, none⟩) m m) = w2 at *
  go_loopw [15] (fun i wr => ∃ k : Nat, k ≤ T.E.length ∧ i = .int .i64 k ∧ ∃ P, TbIn wr B tb (T.at P (.slice (some ⟨w.heap.size, 0, none⟩) m m)) ∧ P.length = m ∧ Stood P T.E k ∧ Step tb T w (T.at P (.slice (some ⟨w.heap.size, 0, none⟩) m m)) wr) (fun i _ => T.E.length - (intOf i).toNat)
  case atStart => exact ⟨0, by omega, rfl, H0.out⟩
  case round =>
    obtain ⟨k, hk, rfl, P, hw, hP, hs, hst⟩ := hrel
    by_cases hlt : k < T.E.length
    · have C := Lib.hid (ST.out wr P k hw hP hs hlt)
      have HS := Lib.hid (And.intro hst hP)
      clear hw hP hs hst
      go_wp2_with (go_at_call 40; (with_reducible refine C.out.mono ?_); rintro e w3 ⟨P', rfl, z1, z2, z3, z4⟩; have Z := Lib.hid (show _ ∧ _ ∧ _ ∧ _ from ⟨z1, z2, z3, z4⟩); clear z1 z2 z3 z4)
      go_roundw
      case rel => exact ⟨k + 1, by omega, by go_num, P', Z.out.1, Z.out.2.1.trans HS.out.2, Z.out.2.2.1, HS.out.1.trans Z.out.2.2.2⟩
      case measure => simp [intOf]; omega
    · obtain rfl : k = T.E.length := by omega
      go_wp2
      go_end0
      exact ⟨P, _, rfl, hw, hP, hs, hst⟩

end Go.Proofs.YtemmaoapicaloaaDoor.Sb

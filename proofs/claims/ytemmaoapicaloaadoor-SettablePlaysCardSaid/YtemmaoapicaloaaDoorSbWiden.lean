/- Hashes are reckoned with more room. -/
import Derived.Test.YtemmaoapicaloaaDoorSbSpread
namespace Go.Proofs.YtemmaoapicaloaaDoor.Sb
open Go Go.RowKit Go.Proofs.YtemmaoapicaloaaDoor.At
open Go.Proofs.YtemmaoapicaloaaDoor.Bt (SetAt setV memL nums roomF)

def Tb.wid (T : Tb) (wd : Nat) : Tb := { T with wide := wd }
def Tb.ens (T : Tb) (E : List En) : Tb := { T with E := E }

theorem TbIn.setW {W : World} {B tb : Nat} {T : Tb} (h : TbIn W B tb T) (wd : Nat) :
    TbIn (W.setCell ⟨tb, 1, none⟩ (.int .i64 (wd : Nat))) B tb (T.wid wd) ∧ Step tb T W (T.wid wd) (W.setCell ⟨tb, 1, none⟩ (.int .i64 (wd : Nat))) := by
  have hb : ∀ k, k ≠ tb → (W.setCell ⟨tb, 1, none⟩ (.int .i64 (wd : Nat))).heap[k]? = W.heap[k]? := set_block W tb 1 _
  have hst : Step tb T W (T.wid wd) (W.setCell ⟨tb, 1, none⟩ (.int .i64 (wd : Nat))) := ⟨rfl, rfl, rfl, by simp, fun k _ hc => hb k hc.1, .refl _ _, .refl _ _⟩
  refine ⟨⟨h.base, set_at h.box 1 _, row_same h.sets fun k e => hb k (fun e2 => ?_), fun i hi => hst.set h (h.each i hi), row_same h.plcs fun k e => hb k (fun e2 => ?_)⟩, hst⟩
  · exact at_not_row h.box h.sets (by decide) (by rw [← e2]; exact e.symm)
  · exact at_not_row h.box h.plcs (by decide) (by rw [← e2]; exact e.symm)

theorem ent_set {E : List En} {k i : Nat} {x : En} (hk : k < E.length) : ent (List.set E k x) i = if i = k then x else ent E i := by
  unfold ent
  simp only [List.getD_eq_getElem?_getD, List.getElem?_set]
  by_cases h : k = i
  · subst h; simp [hk]
  · have : ¬ i = k := fun e => h e.symm
    simp [h, this]
/-- one entry's hash is turned -/
theorem TbIn.setE {W : World} {B tb g c k h' : Nat} {T : Tb} (h : TbIn W B tb T) (hp : T.sv = .slice (some ⟨g, 0, none⟩) T.E.length c) (hk : k < T.E.length) :
    TbIn (((W.setCell ⟨g, k * 3, none⟩ (.int .i64 ((ent T.E k).room : Nat))).setCell ⟨g, k * 3 + 1, none⟩ (ent T.E k).v).setCell ⟨g, k * 3 + 2, none⟩ (.int .u64 (h' : Nat))) B tb (T.ens (List.set T.E k { ent T.E k with h := h' })) ∧
    Step tb T W (T.ens (List.set T.E k { ent T.E k with h := h' })) (((W.setCell ⟨g, k * 3, none⟩ (.int .i64 ((ent T.E k).room : Nat))).setCell ⟨g, k * 3 + 1, none⟩ (ent T.E k).v).setCell ⟨g, k * 3 + 2, none⟩ (.int .u64 (h' : Nat))) := by
  have hpl := h.sets
  rw [hp] at hpl
  obtain ⟨h1, g1⟩ := hpl.stored (k * 3) (.int .i64 ((ent T.E k).room : Nat))
  obtain ⟨h2, g2⟩ := h1.stored (k * 3 + 1) (ent T.E k).v
  obtain ⟨h3, g3⟩ := h2.stored (k * 3 + 2) (.int .u64 (h' : Nat))
  have e := flatE_set T.E k { ent T.E k with h := h' } hk
  dsimp only at e
  rw [e] at h3
  have g4 := Bt.grown_trans (Bt.grown_trans g1 g2) g3
  generalize (((W.setCell ⟨g, k * 3, none⟩ (.int .i64 ((ent T.E k).room : Nat))).setCell ⟨g, k * 3 + 1, none⟩ (ent T.E k).v).setCell ⟨g, k * 3 + 2, none⟩ (.int .u64 (h' : Nat))) = W' at *
  have hst : Step tb T W (T.ens (List.set T.E k { ent T.E k with h := h' })) W' :=
    ⟨g4.os, g4.tape, g4.output, g4.size, fun j hj hc => g4.block j hj (fun e => hc.2.1 (by rw [e, hp]; rfl)), .refl _ _, .refl _ _⟩
  have hob : T.sv.ownBlock = some g := by rw [hp]; rfl
  refine ⟨⟨h.base, (g4.block tb h.lt (fun e => ?_)).trans h.box, ?_, fun i hi => ?_, h.plcs.kept g4 ?_⟩, hst⟩
  · exact at_not_row h.box h.sets (by decide) (by rw [hob]; exact e)
  · show World.ownsRow _ B 57 3 T.sv (List.set T.E k { ent T.E k with h := h' }).length (flatE (List.set T.E k { ent T.E k with h := h' }))
    rw [List.length_set, hp]; exact h3
  · have hi' : i < T.E.length := by
      have : i < (List.set T.E k { ent T.E k with h := h' }).length := hi
      rwa [List.length_set] at this
    show SetAt W' T.bw (ent (List.set T.E k { ent T.E k with h := h' }) i).room (ent (List.set T.E k { ent T.E k with h := h' }) i).v (ent (List.set T.E k { ent T.E k with h := h' }) i).L
    rw [ent_set hk]
    split
    · exact hst.set h (h.each k hk)
    · exact hst.set h (h.each i hi')
  · rcases hsv : T.pv.ownBlock with _ | j
    · exact .inl rfl
    · refine .inr fun e => ?_
      exact row_not_row h.plcs h.sets (by decide) j hsv (by rw [hob]; exact e)

/-- entries that are as they were but for their hashes -/
def Alike (E F : List En) : Prop := F.length = E.length ∧ ∀ i, (ent F i).room = (ent E i).room ∧ (ent F i).v = (ent E i).v ∧ (ent F i).L = (ent E i).L
theorem Alike.refl (E : List En) : Alike E E := ⟨rfl, fun _ => ⟨rfl, rfl, rfl⟩⟩
theorem Alike.set {E F : List En} (h : Alike E F) (k h' : Nat) (hk : k < F.length) : Alike E (List.set F k { ent F k with h := h' }) :=
  ⟨by rw [List.length_set]; exact h.1, fun i => by
    rw [ent_set hk]
    split
    · rename_i e; subst e; exact h.2 i
    · exact h.2 i⟩
theorem Alike.keys {E F : List En} (h : Alike E F) : keys F = keys E := by
  apply List.ext_getElem (by rw [keys_len, keys_len]; exact h.1)
  intro i h1 h2
  rw [keys_len] at h1 h2
  have e1 := ent_get F i h1
  have e2 := ent_get E i h2
  simp only [Sb.keys, List.getElem_map]
  rw [← e1, ← e2, (h.2 i).2.2]
theorem Alike.uniq {E F : List En} (h : Alike E F) (hu : Uniq E) : Uniq F := fun i j hi hj e => by
  rw [(h.2 i).2.2, (h.2 j).2.2] at e
  exact hu i j (by rw [← h.1]; exact hi) (by rw [← h.1]; exact hj) e

/-- what widen tells -/
def WidenOut (W : World) (B tb : Nat) (T : Tb) (e : Ending) (W' : World) : Prop :=
  ∃ wd E' P' pv', e = .returned (.tuple #[]) ∧ 1 ≤ wd ∧ wd ≤ 131072 ∧ Alike T.E E' ∧ Hashed wd E' ∧ TbIn W' B tb (((T.wid wd).ens E').at P' pv') ∧ P'.length = T.P.length ∧ Stood P' E' E'.length ∧ Step tb T W (((T.wid wd).ens E').at P' pv') W'

/-- an entry's cells -/
theorem TbIn.ent {W : World} {B tb k : Nat} {T : Tb} (h : TbIn W B tb T) (hk : k < T.E.length) : ∃ g c, T.sv = .slice (some ⟨g, 0, none⟩) T.E.length c ∧ g ≠ tb ∧ W.cell? ⟨g, k * 3, none⟩ = some (.int .i64 ((ent T.E k).room : Nat)) ∧ W.cell? ⟨g, k * 3 + 1, none⟩ = some (ent T.E k).v ∧ W.cell? ⟨g, k * 3 + 2, none⟩ = some (.int .u64 ((ent T.E k).h : Nat)) ∧ (∀ j, W.frozen? ⟨g, j, none⟩ = false) ∧ SetAt W T.bw (ent T.E k).room (ent T.E k).v (ent T.E k).L := by
  obtain ⟨so, sc, hsv, hsm, hsc⟩ := own_shape h.sets
  obtain ⟨f0, f1, f2⟩ := flatE_at T.E k hk
  obtain ⟨g, hso, s0⟩ := hsc _ _ f0
  subst hso
  obtain ⟨_, e1, s1⟩ := hsc _ _ f1
  cases e1
  obtain ⟨_, e2, s2⟩ := hsc _ _ f2
  cases e2
  have hs := h.sets
  rw [hsv] at hs
  refine ⟨g, sc, hsv, fun e => ?_, s0, s1, s2, hs.frozenAt, h.each k hk⟩
  exact at_not_row h.box h.sets (by decide) (by rw [hsv, ← e]; rfl)

theorem TbIn.setF {W : World} {B tb g c k r h2 h' : Nat} {T : Tb} {F : List En} {v : Value} {L : List Nat} (h : TbIn W B tb (T.ens F)) (hp : T.sv = .slice (some ⟨g, 0, none⟩) F.length c) (hk : k < F.length) (hen : Sb.ent F k = ⟨r, v, L, h2⟩) :
    TbIn (((W.setCell ⟨g, k * 3, none⟩ (.int .i64 (r : Nat))).setCell ⟨g, k * 3 + 1, none⟩ v).setCell ⟨g, k * 3 + 2, none⟩ (.int .u64 (h' : Nat))) B tb (T.ens (List.set F k ⟨r, v, L, h'⟩)) ∧
    Step tb (T.ens F) W (T.ens (List.set F k ⟨r, v, L, h'⟩)) (((W.setCell ⟨g, k * 3, none⟩ (.int .i64 (r : Nat))).setCell ⟨g, k * 3 + 1, none⟩ v).setCell ⟨g, k * 3 + 2, none⟩ (.int .u64 (h' : Nat))) := by
  have z := h.setE (h' := h') hp hk
  have e : Sb.ent (T.ens F).E k = ⟨r, v, L, h2⟩ := hen
  rw [e] at z
  exact z
theorem hash_step {F : List En} {wd k r h' : Nat} {v : Value} {L : List Nat} (hh : ∀ i, i < k → HashIs (roomF (wd : Nat)) (Sb.ent F i).L (Sb.ent F i).h) (hk : k < F.length) (hn : HashIs (roomF (wd : Nat)) L h') :
    ∀ i, i < k + 1 → HashIs (roomF (wd : Nat)) (Sb.ent (List.set F k ⟨r, v, L, h'⟩) i).L (Sb.ent (List.set F k ⟨r, v, L, h'⟩) i).h := fun i hi => by
  rw [ent_set hk]
  split
  · exact hn
  · exact hh i (by omega)

def WRel2 (W : World) (B tb : Nat) (T : Tb) (wd k : Nat) (wr : World) : Prop :=
  ∃ F, TbIn wr B tb ((T.wid wd).ens F) ∧ Alike T.E F ∧ (∀ i, i < k → HashIs (roomF (wd : Nat)) (Sb.ent F i).L (Sb.ent F i).h) ∧ Step tb T W ((T.wid wd).ens F) wr

def WRel1 (W : World) (B tb : Nat) (T : Tb) (g : Nat) (wr : World) : Prop :=
  ∃ wd : Nat, wd + g = 131072 ∧ 1 ≤ wd ∧ TbIn wr B tb (T.wid wd) ∧ Step tb T W (T.wid wd) wr

set_option maxRecDepth 100000 in
set_option maxHeartbeats 2000000 in
theorem widen_any {B tb room : Nat} {T : Tb} (w : World) (ht : TbIn w B tb T) (hu : Uniq T.E) (hw1 : 1 ≤ T.wide) (hw2 : T.wide ≤ 131072) (hr : room ≤ 65536) (hnm : T.E.length < T.P.length) (hm : T.P.length ≤ 1000000) :
    Calls Tryd.prog 37 #[ptr tb, .int .i64 (room : Nat)] w fun e w' => WidenOut w B tb T e w' := by
  have hl := ht.lt
  have R0 := Lib.hid (show WRel1 w B tb T (131072 - T.wide) w from ⟨T.wide, by omega, hw1, ht, .refl⟩)
  clear ht
  unfold ptr
  go_enter Tryd.func37, Tryd.ntmps37
  go_wp2
  go_loopg [] (131072 - T.wide) (fun g wr => WRel1 w B tb T g wr)
  case atStart => exact R0.out
  case round =>
    obtain ⟨wd, hg, h1, hw, hst⟩ := hrel
    have c1 : wr.cell? ⟨tb, 1, none⟩ = some (.int .i64 (wd : Nat)) := hw.cells.2.1
    have f1 := at_froz hw.box 1
    have hlr := hw.lt
    by_cases hlt : wd < room
    · have t1 : (wd : Int) < (room : Int) := by omega
      have t2 : IntKind.i64.wrap ((wd : Int) * 2) = ((wd * 2 : Nat) : Int) := by rw [IntKind.wrap_i64]; omega
      have Z := Lib.hid (hw.setW (wd * 2))
      have HS := Lib.hid hst
      clear hw hst
      go_wp2
      go_roundg (gk - wd)
      case rel => exact ⟨wd * 2, by omega, by omega, Z.out.1, HS.out.trans Z.out.2⟩
      case measure => omega
    · have t1 : ¬ (wd : Int) < (room : Int) := by omega
      have hwd : wd ≤ 131072 := by omega
      obtain ⟨so, sc, hsv, hsm, hsc⟩ := own_shape hw.sets
      have hsv' : T.sv = .slice so T.E.length sc := hsv
      have hn : T.E.length ≤ 1000000 := by omega
      have c2 : wr.cell? ⟨tb, 2, none⟩ = some (.slice so T.E.length sc) := by rw [← hsv']; exact hw.cells.2.2.1
      have R2 := Lib.hid (show WRel2 w B tb T wd 0 wr from ⟨T.E, hw, .refl _, fun i hi => by omega, hst⟩)
      clear hsv hsc hsm hw hst f1
      go_wp2
      clear c2 c1
      go_loopw [24] (fun i wr => ∃ k : Nat, k ≤ T.E.length ∧ i = .int .i64 k ∧ WRel2 w B tb T wd k wr) (fun i _ => T.E.length - (intOf i).toNat)
      case atStart => exact ⟨0, by omega, rfl, R2.out⟩
      case round =>
        obtain ⟨k, hk, rfl, F, hw, hal, hhs, hst⟩ := hrel
        by_cases hlt : k < T.E.length
        · have hkF : k < F.length := by rw [hal.1]; exact hlt
          obtain ⟨g, c, hsv2, hne, s0, s1, s2, fz, hse⟩ := hw.ent hkF
          have hsv3 : T.sv = .slice (some ⟨g, 0, none⟩) F.length c := hsv2
          rw [hsv', hal.1] at hsv3
          cases hsv3
          obtain ⟨r2, v2, L2, h2, hen⟩ : ∃ r v L h, Sb.ent F k = ⟨r, v, L, h⟩ := ⟨_, _, _, _, rfl⟩
          replace s0 : wr.cell? ⟨g, k * 3, none⟩ = some (.int .i64 ((Sb.ent F k).room : Nat)) := s0
          replace s1 : wr.cell? ⟨g, k * 3 + 1, none⟩ = some (Sb.ent F k).v := s1
          replace s2 : wr.cell? ⟨g, k * 3 + 2, none⟩ = some (.int .u64 ((Sb.ent F k).h : Nat)) := s2
          replace hse : SetAt wr T.bw (Sb.ent F k).room (Sb.ent F k).v (Sb.ent F k).L := hse
          rw [hen] at s0 s1 s2 hse
          dsimp only at s0 s1 s2 hse
          obtain ⟨bo, bn, bc, rfl⟩ := hse.val
          have EN := Lib.hid (fun W (hW : Below wr.heap.size wr W) => entryOf_any tb wd T.bw r2 _ L2 W (hw.next hW).cells.2.1 (hse.next hW))
          have FZ := Lib.hid (fun W (hW : Below wr.heap.size wr W) j => show W.frozen? ⟨g, j, none⟩ = false by
            rw [World.frozen?_of_block (w := wr) (hW.block g (cell_lt s0))]; exact fz j)
          have q2 : wr.cell? ⟨tb, 2, none⟩ = some (.slice (some ⟨g, 0, none⟩) T.E.length sc) := by rw [← hsv']; exact hw.cells.2.2.1
          have ZZ := Lib.hid (fun W h' (hW : Below wr.heap.size wr W) => (hw.next hW).setF (T := T.wid wd) (h' := h') (c := sc) (by rw [hal.1]; exact hsv') hkF hen)
          have HA := Lib.hid (fun h' (hn : HashIs (roomF (wd : Nat)) L2 h') => show Alike T.E (List.set F k ⟨r2, .slice bo bn bc, L2, h'⟩) ∧ _ from ⟨by have := hal.set k h' hkF; rw [hen] at this; exact this, hash_step (r := r2) (v := .slice bo bn bc) hhs hkF hn⟩)
          have HST := Lib.hid hst
          have hgl : g < wr.heap.size := cell_lt s0
          have hl3 := hw.lt
          have n1 : tb ≠ g := fun e => hne e.symm
          have n2 : wr.heap.size ≠ g := by omega
          have k0 : (0 : Int) ≤ (k : Int) := by omega
          have k1 : (k : Int) < (T.E.length : Int) := by omega
          have A1 := (Below.refl wr.heap.size wr).alloc (Nat.le_refl _) (.cells #[.int .i64 (r2 : Nat), .slice bo bn bc, .int .u64 (h2 : Nat)] 57)
          obtain ⟨x0, x1, x2, x3⟩ := at3 (at_new wr (.cells #[.int .i64 (r2 : Nat), .slice bo bn bc, .int .u64 (h2 : Nat)] 57))
          have q2' := cell_next q2 A1
          have HA1 := Lib.hid A1
          clear hw hal hhs hst hse hsv2 hen hne fz hlt hkF A1
          unfold enV ptr setV at *
          go_wp2
          go_region_held3 (fun W => W.cell? ⟨tb, 2, none⟩ = some (.slice (some ⟨g, 0, none⟩) T.E.length sc) ∧ W.cell? ⟨wr.heap.size, 0, none⟩ = some (.int .i64 (r2 : Nat)) ∧ W.cell? ⟨wr.heap.size, 1, none⟩ = some (.slice bo bn bc)) (first | exact ⟨by assumption, by assumption, by assumption⟩ | assumption | go_keep)
            (first
              | (go_at_call 35; (with_reducible refine (EN.out _ HA1.out.drew).mono ?_); rintro e w3 ⟨h', rfl, hh, hb⟩; unfold enV; dsimp only; go_must (have b3 := HA1.out.drew.trans (hb.mono HA1.out.drew.size); have bw := ((Below.refl (wr.alloc (.cells #[.int .i64 (r2 : Nat), .slice bo bn bc, .int .u64 (h2 : Nat)] 57)).heap.size _).drew).trans (hb.mono (Nat.le_refl _)); have d0 := cell_next q2 b3; have d1 := cell_next x0 bw; have d2 := cell_next x1 bw; have e0 := cell_next s0 b3; have e1 := cell_next s1 b3; have e2 := cell_next s2 b3; have fz := FZ.out w3 b3; have SN := And.intro d0 (And.intro d1 d2); have SN3 := And.intro (set_keep (g := g) (a := k * 3 + 2) (u := .int .u64 (h' : Nat)) n1 (set_keep (g := g) (a := k * 3 + 1) (u := .slice bo bn bc) n1 (set_keep (g := g) (a := k * 3) (u := .int .i64 (r2 : Nat)) n1 (d0)))) (And.intro (set_keep (g := g) (a := k * 3 + 2) (u := .int .u64 (h' : Nat)) n2 (set_keep (g := g) (a := k * 3 + 1) (u := .slice bo bn bc) n2 (set_keep (g := g) (a := k * 3) (u := .int .i64 (r2 : Nat)) n2 (d1)))) (set_keep (g := g) (a := k * 3 + 2) (u := .int .u64 (h' : Nat)) n2 (set_keep (g := g) (a := k * 3 + 1) (u := .slice bo bn bc) n2 (set_keep (g := g) (a := k * 3) (u := .int .i64 (r2 : Nat)) n2 (d2))))); have Z := Lib.hid (And.intro (ZZ.out w3 h' b3) (And.intro (HA.out h' hh) b3)); clear hb hh b3 bw))
              | fail)
          go_wp2
          go_roundw
          case rel => exact ⟨k + 1, by omega, by go_num, _, Z.out.1.1, Z.out.2.1.1, Z.out.2.1.2, HST.out.trans ((Step.below Z.out.2.2).trans Z.out.1.2)⟩
          case measure => simp [intOf]; omega
        · obtain rfl : k = T.E.length := by omega
          have SP := Lib.hid (spread_any (m := T.P.length) wr hw (hal.uniq hu) (by show F.length < _; rw [hal.1]; exact hnm) hm (fun i hi => (hhs i (by rw [← hal.1]; exact hi)).lt))
          obtain ⟨po, pc, hpv, hpm, hpc⟩ := own_shape hw.plcs
          have hpv' : T.pv = .slice po T.P.length pc := hpv
          have q3 : wr.cell? ⟨tb, 3, none⟩ = some (.slice po T.P.length pc) := by rw [← hpv']; exact hw.cells.2.2.2.1
          have hl3 := hw.lt
          have HH := Lib.hid (show _ ∧ _ ∧ _ from ⟨hal, (fun i hi => hhs i (by rw [← hal.1]; exact hi) : Hashed wd F), hst⟩)
          clear hw hal hhs hst hpv hpv' hpm hpc
          unfold ptr at *
          go_wp2_with (go_at_call 39; (with_reducible refine SP.out.mono ?_); rintro e w3 ⟨P', pv', rfl, z1, z2, z3, z4⟩)
          go_end0
          exact ⟨wd, F, P', pv', rfl, h1, hwd, HH.out.1, HH.out.2.1, z1, z2, z3, HH.out.2.2.trans z4⟩

end Go.Proofs.YtemmaoapicaloaaDoor.Sb

/- A set's number is put at its place. -/
import Derived.Test.YtemmaoapicaloaaDoorSbNum
namespace Go.Proofs.YtemmaoapicaloaaDoor.Sb
open Go Go.RowKit Go.Proofs.YtemmaoapicaloaaDoor.At
open Go.Proofs.YtemmaoapicaloaaDoor.Bt (SetAt setV memL nums roomF)

/-- one place is turned -/
theorem TbIn.setP {W : World} {B tb g c : Nat} {T : Tb} (h : TbIn W B tb T) (hp : T.pv = .slice (some ⟨g, 0, none⟩) T.P.length c) (a x : Nat) :
    TbIn (W.setCell ⟨g, a, none⟩ (.int .i64 (x : Nat))) B tb { T with P := T.P.set a x } ∧ Step tb T W { T with P := T.P.set a x } (W.setCell ⟨g, a, none⟩ (.int .i64 (x : Nat))) := by
  have hpl := h.plcs
  rw [hp] at hpl
  obtain ⟨h1, h2⟩ := hpl.stored a (.int .i64 (x : Nat))
  rw [pV_set] at h1
  have hst : Step tb T W { T with P := T.P.set a x } (W.setCell ⟨g, a, none⟩ (.int .i64 (x : Nat))) :=
    ⟨h2.os, h2.tape, h2.output, h2.size, fun k hk hc => h2.block k hk (fun e => hc.2.2 (by rw [e, hp]; rfl)), .refl _ _, .refl _ _⟩
  have hob : T.pv.ownBlock = some g := by rw [hp]; rfl
  refine ⟨⟨h.base, (h2.block tb h.lt (fun e => ?_)).trans h.box, h.sets.kept h2 ?_, fun i hi => hst.set h (h.each i hi), ?_⟩, hst⟩
  · exact at_not_row h.box h.plcs (by decide) (by rw [hob]; exact e)
  · rcases hsv : T.sv.ownBlock with _ | k
    · exact .inl rfl
    · refine .inr fun e => ?_
      exact row_not_row h.sets h.plcs (by decide) k hsv (by rw [hob]; exact e)
  · show World.ownsRow _ B 3 1 T.pv (T.P.set a x).length (pV (T.P.set a x))
    rw [List.length_set, hp]; exact h1

theorem froz_at {w : World} {B tb g c : Nat} {T : Tb} (ht : TbIn w B tb T) (hpv : T.pv = .slice (some ⟨g, 0, none⟩) T.P.length c) (W : World) (hW : Below w.heap.size w W) (a : Nat) : W.frozen? ⟨g, a, none⟩ = false := by
  have h := (ht.next hW).plcs
  rw [hpv] at h
  exact h.frozenAt a

/-- what stand tells -/
def StandOut (W : World) (B tb k : Nat) (T : Tb) (e : Ending) (W' : World) : Prop :=
  ∃ P', e = .returned (.tuple #[]) ∧ TbIn W' B tb { T with P := P' } ∧ P'.length = T.P.length ∧ Stood P' T.E (k + 1) ∧ Step tb T W { T with P := P' } W'

theorem place_free {B tb k : Nat} {T : Tb} (w : World) (ht : TbIn w B tb T) (hu : Uniq T.E) (hs : Stood T.P T.E k) (hk : k < T.E.length) (hkm : k < T.P.length) (hm : T.P.length ≤ 1000000) (h64 : (ent T.E k).h < 18446744073709551616) :
    Calls Tryd.prog 34 #[ptr tb, enV (ent T.E k)] w fun e w' => (∃ a : Nat, e = .returned (.int .i64 (a : Nat)) ∧ a < T.P.length ∧ Stood (T.P.set a (k + 1)) T.E (k + 1)) ∧ Below w.heap.size w w' := by
  obtain ⟨d0, hd, hst⟩ := stood_ahead hs hkm (ent T.E k)
  refine (place_any (ent T.E k) T.bw w ht (ht.each k hk) h64 (by omega) hm (fun a ha => Nat.le_trans (hs.vals a ha) (by omega)) d0 hd hst).mono ?_
  rintro e w' ⟨a, rfl, hp, hb⟩
  exact ⟨⟨a, rfl, hp.1, stood_set hs hp (stand_free hu hs hk hp)⟩, hb⟩

set_option maxRecDepth 100000 in
set_option maxHeartbeats 2000000 in
theorem stand_any {B tb k : Nat} {T : Tb} (w : World) (ht : TbIn w B tb T) (hu : Uniq T.E) (hs : Stood T.P T.E k) (hk : k < T.E.length) (hkm : k < T.P.length) (hm : T.P.length ≤ 1000000) (h64 : (ent T.E k).h < 18446744073709551616) :
    Calls Tryd.prog 40 #[ptr tb, .int .i64 (k : Nat)] w fun e w' => StandOut w B tb k T e w' := by
  have PL := Lib.hid (fun W (hW : Below w.heap.size w W) => place_free W (ht.next hW) hu hs hk hkm hm h64)
  have HT := Lib.hid ht
  obtain ⟨po, pc, hpv, hpm, hpc⟩ := own_shape ht.plcs
  obtain ⟨so, sc, hsv, hsm, hsc⟩ := own_shape ht.sets
  obtain ⟨q0, q1, q2, q3, q4⟩ := ht.cells
  rw [hpv] at q3
  rw [hsv] at q2
  obtain ⟨f0, f1, f2⟩ := flatE_at T.E k hk
  obtain ⟨g2, hso, s0⟩ := hsc _ _ f0
  subst hso
  obtain ⟨_, e1, s1⟩ := hsc _ _ f1
  cases e1
  obtain ⟨_, e2, s2⟩ := hsc _ _ f2
  cases e2
  obtain ⟨g, hpo, _⟩ := hpc 0 _ (pV_get (by omega))
  subst hpo
  have FZ := Lib.hid (froz_at ht hpv)
  have CL := Lib.hid (cells_at hpc)
  have HPV := Lib.hid hpv
  have n1 : tb ≠ g := fun e => at_not_row ht.box ht.plcs (by decide) (by rw [hpv, e]; rfl)
  have n2 : g2 ≠ g := fun e => row_not_row ht.sets ht.plcs (by decide) g2 (by rw [hsv]; rfl) (by rw [hpv, e]; rfl)
  have t4 : IntKind.i64.wrap ((k : Int) + 1) = ((k + 1 : Nat) : Int) := by rw [IntKind.wrap_i64]; omega
  have hl := ht.lt
  unfold maxLen at hsm
  have hv := (ht.each k hk).val
  clear f0 f1 f2 hpc hsc q0 q1 q4 hpv hsv hpm ht hu hs h64
  generalize ent T.E k = en at *
  obtain ⟨room, v, L, h⟩ := en
  dsimp only at hv s0 s1 s2
  obtain ⟨ao, an, ac, rfl⟩ := hv
  unfold ptr enV at *
  dsimp only at PL
  have k0 : (0 : Int) ≤ (k : Int) := by omega
  have k1 : (k : Int) < (T.E.length : Int) := by omega
  generalize hmm : T.P.length = m at *
  generalize hnn : T.E.length = n at *
  have HM := Lib.hid (And.intro hmm hnn)
  clear hmm hnn hk
  go_enter Tryd.func40, Tryd.ntmps40
  go_wp2
  go_region_held3 (fun W => W.cell? ⟨tb, 2, none⟩ = some (.slice (some ⟨g2, 0, none⟩) n sc) ∧ W.cell? ⟨tb, 3, none⟩ = some (.slice (some ⟨g, 0, none⟩) m pc) ∧ W.cell? ⟨g2, k * 3, none⟩ = some (.int .i64 (room : Nat)) ∧ W.cell? ⟨g2, k * 3 + 1, none⟩ = some (.slice ao an ac) ∧ W.cell? ⟨g2, k * 3 + 2, none⟩ = some (.int .u64 (h : Nat))) (first | exact ⟨by assumption, by assumption, by assumption, by assumption, by assumption⟩ | assumption | go_keep)
    (first
      | (go_at_call 34; (with_reducible refine (PL.out _ ((Below.refl _ w).drew)).mono ?_); rintro e w2 ⟨⟨a, rfl, hal, hn⟩, h2⟩; go_must (have b2 := (Below.refl w.heap.size w).drew.trans (h2.mono (Nat.le_refl _)); have SN := And.intro (cell_next q2 b2) (And.intro (cell_next q3 b2) (And.intro (cell_next s0 b2) (And.intro (cell_next s1 b2) (cell_next s2 b2)))); have SN3 := And.intro (set_keep (a := a) (u := .int .i64 ((k : Int) + 1)) n1 (cell_next q2 b2)) (And.intro (set_keep (a := a) (u := .int .i64 ((k : Int) + 1)) n1 (cell_next q3 b2)) (And.intro (set_keep (a := a) (u := .int .i64 ((k : Int) + 1)) n2 (cell_next s0 b2)) (And.intro (set_keep (a := a) (u := .int .i64 ((k : Int) + 1)) n2 (cell_next s1 b2)) (set_keep (a := a) (u := .int .i64 ((k : Int) + 1)) n2 (cell_next s2 b2))))); have cp := cell_next (CL.out a hal) b2; have fz := FZ.out w2 b2 a; have H2 := Lib.hid (And.intro b2 hn); clear h2 b2 hn))
      | fail)
  go_wp2
  go_end0
  obtain ⟨z1, z2⟩ := (HT.out.next H2.out.1).setP (by rw [HPV.out, HM.out.1]) a (k + 1)
  exact ⟨T.P.set a (k + 1), rfl, z1, by rw [List.length_set], H2.out.2, (Step.below H2.out.1).trans z2⟩

end Go.Proofs.YtemmaoapicaloaaDoor.Sb

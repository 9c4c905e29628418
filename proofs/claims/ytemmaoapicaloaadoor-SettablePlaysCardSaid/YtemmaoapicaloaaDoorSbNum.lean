/- A set's number. -/
import Derived.Test.YtemmaoapicaloaaDoorSbPlace
namespace Go.Proofs.YtemmaoapicaloaaDoor.Sb
open Go Go.RowKit Go.Proofs.YtemmaoapicaloaaDoor.At
open Go.Proofs.YtemmaoapicaloaaDoor.Bt (SetAt setV memL nums roomF)

/-- the place of a set that is asked for -/
theorem place_num {B tb : Nat} {T : Tb} (room Bs h : Nat) (v : Value) (L : List Nat) (w : World) (ht : TbIn w B tb T) (hg : Good T) (hs : SetAt w Bs room v L) (hh : HashIs (roomF (T.wide : Nat)) L h) :
    Calls Tryd.prog 34 #[ptr tb, enV ⟨room, v, L, h⟩] w fun e w' => (∃ a : Nat, e = .returned (.int .i64 (a : Nat)) ∧ a < T.P.length ∧ numF T L (T.P.getD a 0)) ∧ Below w.heap.size w w' := by
  have h1 := hg.ld
  have h2 := hg.pl
  obtain ⟨d0, hd, hst⟩ := stood_ahead hg.st (by omega) ⟨room, v, L, h⟩
  refine (place_any ⟨room, v, L, h⟩ Bs w ht hs hh.lt (by omega) (by omega) hg.st.vals d0 hd hst).mono ?_
  rintro e w' ⟨a, rfl, hp, hb⟩
  exact ⟨⟨a, rfl, hp.1, num_at (x := ⟨room, v, L, h⟩) hg.hs hg.uq hg.st hh hp⟩, hb⟩

theorem cells_at {w : World} {P : List Nat} {g : Nat} (hpc : ∀ i u, (pV P)[i]? = some u → ∃ g1, some (⟨g, 0, none⟩ : Addr) = some ⟨g1, 0, none⟩ ∧ w.cell? ⟨g1, i, none⟩ = some u) (a : Nat) (ha : a < P.length) : w.cell? ⟨g, a, none⟩ = some (.int .i64 (P.getD a 0 : Nat)) := by
  obtain ⟨_, e, hc⟩ := hpc a _ (pV_get ha)
  cases e
  exact hc

set_option maxRecDepth 100000 in
set_option maxHeartbeats 2000000 in
theorem number_any {B tb : Nat} {T : Tb} (room Bs : Nat) (v : Value) (L : List Nat) (w : World) (ht : TbIn w B tb T) (hg : Good T) (hs : SetAt w Bs room v L) :
    Calls Tryd.prog 24 #[ptr tb, setV room v] w fun e w' => (∃ n : Nat, e = .returned (.int .i64 ((n : Int) - 1)) ∧ numF T L n) ∧ Below w.heap.size w w' := by
  have PL := Lib.hid (fun W h (hW : Below w.heap.size w W) (hh : HashIs (roomF (T.wide : Nat)) L h) => place_num room Bs h v L W (ht.next hW) hg (hs.next hW) hh)
  have EN := Lib.hid (fun W (hW : Below w.heap.size w W) => entryOf_any tb T.wide Bs room v L W (ht.next hW).cells.2.1 (hs.next hW))
  obtain ⟨ao, an, ac, rfl⟩ := hs.val
  obtain ⟨po, pc, hpv, hpm, hpc⟩ := own_shape ht.plcs
  obtain ⟨q0, q1, q2, q3, q4⟩ := ht.cells
  rw [hpv] at q3
  have hm0 : 0 < T.P.length := by have := hg.ld; omega
  obtain ⟨g, hpo, _⟩ := hpc 0 _ (pV_get hm0)
  subst hpo
  have CL := Lib.hid (cells_at hpc)
  have hl := ht.lt
  have h2 := hg.pl
  have hvl := Lib.hid hg.st.vals
  have HE := Lib.hid (show T.E.length ≤ 200000 by have := hg.ld; omega)
  clear hm0 hpv hpc q0 q1 q2 q4 ht hg hs hpm
  have HL := Lib.hid (fun W (hW : Below w.heap.size w W) a (ha : a < T.P.length) => cell_next (CL.out a ha) hW)
  unfold ptr setV at *
  have A1 := (Below.refl w.heap.size w).alloc (Nat.le_refl _) (.cells #[.int .i64 (room : Nat), .slice ao an ac] 34)
  have b3 := at_new w (.cells #[.int .i64 (room : Nat), .slice ao an ac] 34)
  have HA := Lib.hid (And.intro A1 b3)
  have cl := HL.out _ A1
  have q3' := cell_next q3 A1
  obtain ⟨x0, x1, x2⟩ := at2 b3
  clear A1 b3
  generalize hm : T.P.length = m at *
  clear hm
  unfold enV at PL
  dsimp only at PL
  go_enter Tryd.func24, Tryd.ntmps24
  go_wp2
  go_region_held3 (fun W => W.cell? ⟨tb, 3, none⟩ = some (.slice (some ⟨g, 0, none⟩) m pc) ∧ W.cell? ⟨w.heap.size, 0, none⟩ = some (.int .i64 (room : Nat)) ∧ W.cell? ⟨w.heap.size, 1, none⟩ = some (.slice ao an ac) ∧ ∀ a, a < m → W.cell? ⟨g, a, none⟩ = some (.int .i64 (T.P.getD a 0 : Nat))) (first | exact ⟨by assumption, by assumption, by assumption, by assumption⟩ | assumption | go_keep)
    (first
      | (go_at_call 35; (with_reducible refine (EN.out _ HA.out.1.drew).mono ?_); rintro e w1 ⟨h, rfl, hh, h1⟩; (unfold enV; dsimp only); go_must (have b1 := HA.out.1.drew.trans (h1.mono HA.out.1.size); have bw := (Below.refl _ _).drew.trans (h1.mono (Nat.le_refl _)); have SN := And.intro (cell_next q3' bw) (And.intro (cell_next x0 bw) (And.intro (cell_next x1 bw) (HL.out _ b1))); have H1 := Lib.hid (And.intro b1 hh); clear h1 bw b1 hh))
      | (go_at_call 34; (with_reducible refine (PL.out _ _ H1.out.1 H1.out.2).mono ?_); rintro e w2 ⟨⟨a, rfl, hal, hn⟩, h2⟩; go_must (have SN2 := And.intro (cell_next SN.1 h2) (And.intro (cell_next SN.2.1 h2) (And.intro (cell_next SN.2.2.1 h2) (HL.out _ (H1.out.1.trans (h2.mono H1.out.1.size))))); have b2 := H1.out.1.trans (h2.mono H1.out.1.size); have H2 := Lib.hid (And.intro b2 hn); clear h2 b2 hn))
      | fail)
  go_wp2
  go_ret
  refine ⟨⟨T.P.getD a 0, retI ?_, H2.out.2⟩, H2.out.1⟩
  have h3 := hvl.out a hal
  have h4 := HE.out
  have e : T.P.getD a 0 = T.P[a]?.getD 0 := rfl
  rw [← e, IntKind.wrap_i64]
  omega

end Go.Proofs.YtemmaoapicaloaaDoor.Sb

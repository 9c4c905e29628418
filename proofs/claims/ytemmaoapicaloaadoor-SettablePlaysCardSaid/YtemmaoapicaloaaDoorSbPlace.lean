/- The place of an entry. -/
import Derived.Test.YtemmaoapicaloaaDoorSbEnt
import Derived.WalkMore
import Derived.Deep.RegionHeld3
import Derived.Deep.LoopGhost
namespace Go.Proofs.YtemmaoapicaloaaDoor.Sb
open Go Go.RowKit Go.Proofs.YtemmaoapicaloaaDoor.At
open Go.Proofs.YtemmaoapicaloaaDoor.Bt (SetAt setV memL nums)

theorem no_stop {k : Nat} {x y : En} (h : k + 1 = 0 ∨ sameE y x = true) (hs : sameE y x = false) : False := by
  rcases h with h | h
  · omega
  · rw [hs] at h; cases h
def PlRel (P : List Nat) (E : List En) (x : En) (d0 : Nat) (w : World) (b : Nat) (cs : Array Value) (g : Nat) (i : Value) (wr : World) : Prop :=
  ∃ d : Nat, i = .int .i64 (((x.h % P.length + d) % P.length : Nat)) ∧ d + g = d0 ∧ (∀ j, j < d → ¬ Stop P E x ((x.h % P.length + j) % P.length)) ∧ wr.heap[b]? = some (.cells cs 57 (0, 0)) ∧ Below w.heap.size w wr

set_option maxRecDepth 100000 in
set_option maxHeartbeats 2000000 in
theorem place_any {B tb : Nat} {T : Tb} (x : En) (Bx : Nat) (w : World) (h : TbIn w B tb T) (hx : SetAt w Bx x.room x.v x.L) (h64 : x.h < 18446744073709551616) (hm0 : 0 < T.P.length) (hm1 : T.P.length ≤ 1000000)
    (hv : ∀ a, a < T.P.length → T.P.getD a 0 ≤ T.E.length) (d0 : Nat) (hd0 : d0 < T.P.length) (hst : Stop T.P T.E x ((x.h % T.P.length + d0) % T.P.length)) :
    Calls Tryd.prog 34 #[ptr tb, enV x] w fun e w' => ∃ a : Nat, e = .returned (.int .i64 (a : Nat)) ∧ PlaceAt T.P T.E x a ∧ Below w.heap.size w w' := by
  have HT := Lib.hid h
  have HX := Lib.hid hx
  have HV := Lib.hid hv
  have HST := Lib.hid hst
  have HD := Lib.hid hd0
  obtain ⟨po, pc, hpv, hpm, hpc⟩ := own_shape h.plcs
  obtain ⟨so, sc, hsv, hsm, hsc⟩ := own_shape h.sets
  obtain ⟨q0, q1, q2, q3, q4⟩ := h.cells
  have hl := h.lt
  rw [hpv] at q3
  rw [hsv] at q2
  have HPC := Lib.hid hpc
  have HSC := Lib.hid hsc
  unfold maxLen at hsm
  have HQ := Lib.hid (And.intro q2 q3)
  clear h hx hv hst hd0 hpv hsv hpc hsc q0 q1 q4 hpm
  obtain ⟨room, v, L, hh⟩ := x
  unfold ptr enV
  simp only at *
  obtain ⟨ao, an, ac, rfl⟩ := HX.out.val
  have e0 : wrap64 ((hh : Int) % (T.P.length : Int)) = (((hh % T.P.length : Nat)) : Int) := by
    have := Nat.mod_lt hh hm0
    rw [show (hh : Int) % (T.P.length : Int) = ((hh % T.P.length : Nat) : Int) by simp]
    unfold wrap64; omega
  have E0 := Lib.hid e0
  have R0 := Lib.hid (show PlRel T.P T.E ⟨room, .slice ao an ac, L, hh⟩ d0 w w.heap.size #[.int .i64 (room : Nat), .slice ao an ac, .int .u64 (hh : Nat)] d0 (.int .i64 ((hh % T.P.length : Nat))) (w.alloc (.cells #[.int .i64 (room : Nat), .slice ao an ac, .int .u64 (hh : Nat)] 57)).drew from
    ⟨0, by simp, by omega, fun j hj => by omega, at_next (at_new w _) (Below.refl _ _).drew, ((Below.refl _ w).alloc (Nat.le_refl _) _).drew⟩)
  clear e0
  generalize hm : T.P.length = m at *
  generalize hn : T.E.length = n at *
  have HM := Lib.hid (And.intro hm hn)
  clear hm hn
  go_enter Tryd.func34, Tryd.ntmps34
  go_wp2
  go_step3
  go_wp2
  go_region
  go_wp2
  simp only [E0.out]
  go_step3
  go_wp2
  go_loopg [5] d0 (fun g i wr => PlRel T.P T.E ⟨room, .slice ao an ac, L, hh⟩ d0 w w.heap.size #[.int .i64 (room : Nat), .slice ao an ac, .int .u64 (hh : Nat)] g i wr)
  case atStart => exact R0.out
  case round =>
    obtain ⟨d, rfl, hd, hj, hb, hbl⟩ := hrel
    rw [HM.out.1] at hj ⊢
    dsimp only at hj ⊢
    obtain ⟨a, ha⟩ : ∃ a, a = (hh % m + d) % m := ⟨_, rfl⟩
    have hal : a < m := by rw [ha]; exact Nat.mod_lt _ hm0
    rw [← ha]
    have HA := Lib.hid (And.intro ha (And.intro hd hj))
    clear ha hd hj
    obtain ⟨g, rfl, cp⟩ := HPC.out a _ (pV_get (by rw [HM.out.1]; exact hal))
    have c3 := cell_next HQ.out.2 hbl
    have c2 := cell_next HQ.out.1 hbl
    replace cp := cell_next cp hbl
    have hvl := HV.out a hal
    obtain ⟨b0, b1, b2, b3⟩ := at3 hb
    have hsz := hbl.size
    have HB := Lib.hid (And.intro hb hbl)
    clear hb hbl
    have OUT := Lib.hid (fun (hs : Stop T.P T.E ⟨room, .slice ao an ac, L, hh⟩ a) => show PlaceAt T.P T.E ⟨room, .slice ao an ac, L, hh⟩ a from ⟨by rw [HM.out.1]; exact hal, hs, d, by rw [HM.out.1]; have := HD.out; have := HA.out.2.1; omega, by rw [HM.out.1]; exact HA.out.1, by rw [HM.out.1]; exact HA.out.2.2⟩)
    have STP := Lib.hid (show Stop T.P T.E ⟨room, .slice ao an ac, L, hh⟩ a ↔ (T.P.getD a 0 = 0 ∨ sameE (ent T.E (T.P.getD a 0 - 1)) ⟨room, .slice ao an ac, L, hh⟩ = true) from Iff.rfl)
    generalize hp : T.P.getD a 0 = p at *
    clear hp
    by_cases h0 : p = 0
    · subst h0
      have HO := Lib.hid (OUT.out (STP.out.2 (.inl rfl)))
      clear hvl
      go_wp2
      go_ret
      exact ⟨a, rfl, HO.out, HB.out.2⟩
    · obtain ⟨k, hpk⟩ : ∃ k, p = k + 1 := ⟨p - 1, by omega⟩
      have t0 : ((p : Int) == 0) = false := by simp; omega
      have t1 : ((p : Int) - 1).toNat = k := by omega
      have t2 : (0 : Int) ≤ (p : Int) - 1 := by omega
      have t3 : (p : Int) - 1 < (n : Int) := by omega
      have t5 : (1 : Int) ≤ (p : Int) := by omega
      have t4 : IntKind.i64.wrap ((p : Int) - 1) = (p : Int) - 1 := by rw [IntKind.wrap_i64]; omega
      clear h0
      have hk : k < n := by omega
      rw [hpk] at STP
      clear hpk
      have hkE : k < T.E.length := by rw [HM.out.2]; exact hk
      obtain ⟨f0, f1, f2⟩ := flatE_at T.E k hkE
      obtain ⟨g2, hso, s0⟩ := HSC.out _ _ f0
      subst hso
      obtain ⟨_, e1, s1⟩ := HSC.out _ _ f1
      cases e1
      obtain ⟨_, e2, s2⟩ := HSC.out _ _ f2
      cases e2
      have hse := HT.out.each k hkE
      rw [show k + 1 - 1 = k from rfl] at STP
      replace s0 := cell_next s0 HB.out.2
      replace s1 := cell_next s1 HB.out.2
      replace s2 := cell_next s2 HB.out.2
      clear f0 f1 f2 hkE hvl
      have hgl : g2 < wr.heap.size := cell_lt s0
      generalize ent T.E k = en at *
      obtain ⟨r2, v2, L2, h2⟩ := en
      dsimp only at hse s0 s1 s2
      obtain ⟨bo, bn, bc, rfl⟩ := hse.val
      have HSE := Lib.hid hse
      have C := Lib.hid (fun W (hW : Below w.heap.size w W) => same_any ⟨r2, .slice bo bn bc, L2, h2⟩ ⟨room, .slice ao an ac, L, hh⟩ T.bw Bx W (HSE.out.next hW) (HX.out.next hW))
      unfold enV at C
      dsimp only at C
      clear hse
      have DR := HB.out.2.drew
      cases hsm : sameE ⟨r2, .slice bo bn bc, L2, h2⟩ ⟨room, .slice ao an ac, L, hh⟩
      · rw [hsm] at C
        have NS := Lib.hid (show ¬ Stop T.P T.E ⟨room, .slice ao an ac, L, hh⟩ a from fun h => no_stop (STP.out.1 h) hsm)
        clear hsm
        go_wp2
        go_region_held3 (fun W => W.cell? ⟨tb, 2, none⟩ = some (.slice (some ⟨g2, 0, none⟩) n sc) ∧ W.cell? ⟨g2, k * 3, none⟩ = some (.int .i64 (r2 : Nat)) ∧ W.cell? ⟨g2, k * 3 + 1, none⟩ = some (.slice bo bn bc) ∧ W.cell? ⟨g2, k * 3 + 2, none⟩ = some (.int .u64 (h2 : Nat)) ∧ W.cell? ⟨w.heap.size, 0, none⟩ = some (.int .i64 (room : Nat)) ∧ W.cell? ⟨w.heap.size, 1, none⟩ = some (.slice ao an ac) ∧ W.cell? ⟨w.heap.size, 2, none⟩ = some (.int .u64 (hh : Nat))) (first | exact ⟨by assumption, by assumption, by assumption, by assumption, by assumption, by assumption, by assumption⟩ | assumption | go_keep)
          (first
            | (go_at_call 41; (with_reducible refine (C.out _ DR).mono ?_); rintro e w1 ⟨rfl, h1⟩; go_must (have bw := (Below.refl wr.heap.size wr).drew.trans (h1.mono (Nat.le_refl _)); have SN := And.intro (cell_next c2 bw) (And.intro (cell_next s0 bw) (And.intro (cell_next s1 bw) (And.intro (cell_next s2 bw) (And.intro (cell_next b0 bw) (And.intro (cell_next b1 bw) (cell_next b2 bw)))))); have d3 := cell_next c3 bw; have dl := cell_lt d3; have HB2 := Lib.hid (And.intro (at_next HB.out.1 bw) (HB.out.2.trans (bw.mono HB.out.2.size))); clear h1 bw))
            | fail)
        clear SN
        obtain ⟨g0, rfl⟩ : ∃ g0, gk = g0 + 1 := ⟨gk - 1, by
          have := HA.out.2.1
          have : ¬ d = d0 := fun e => NS.out (by rw [HA.out.1, e]; exact HST.out)
          omega⟩
        go_wp2
        go_roundg g0
        case rel =>
          refine ⟨d + 1, ?_, by have := HA.out.2.1; omega, fun j hj => ?_, HB2.out.1, HB2.out.2⟩
          · rw [HM.out.1, ← wrap_next, ← HA.out.1]
            simp
          · rw [HM.out.1]
            by_cases hjd : j = d
            · rw [hjd, ← HA.out.1]; exact NS.out
            · exact HA.out.2.2 j (by omega)
        case measure => omega
      · rw [hsm] at C
        have HO := Lib.hid (OUT.out (STP.out.2 (.inr hsm)))
        clear hsm
        go_wp2
        go_region_held3 (fun W => W.cell? ⟨tb, 2, none⟩ = some (.slice (some ⟨g2, 0, none⟩) n sc) ∧ W.cell? ⟨g2, k * 3, none⟩ = some (.int .i64 (r2 : Nat)) ∧ W.cell? ⟨g2, k * 3 + 1, none⟩ = some (.slice bo bn bc) ∧ W.cell? ⟨g2, k * 3 + 2, none⟩ = some (.int .u64 (h2 : Nat)) ∧ W.cell? ⟨w.heap.size, 0, none⟩ = some (.int .i64 (room : Nat)) ∧ W.cell? ⟨w.heap.size, 1, none⟩ = some (.slice ao an ac) ∧ W.cell? ⟨w.heap.size, 2, none⟩ = some (.int .u64 (hh : Nat))) (first | exact ⟨by assumption, by assumption, by assumption, by assumption, by assumption, by assumption, by assumption⟩ | assumption | go_keep)
          (first
            | (go_at_call 41; (with_reducible refine (C.out _ DR).mono ?_); rintro e w1 ⟨rfl, h1⟩; go_must (have bw := (Below.refl wr.heap.size wr).drew.trans (h1.mono (Nat.le_refl _)); have SN := And.intro (cell_next c2 bw) (And.intro (cell_next s0 bw) (And.intro (cell_next s1 bw) (And.intro (cell_next s2 bw) (And.intro (cell_next b0 bw) (And.intro (cell_next b1 bw) (cell_next b2 bw)))))); have d3 := cell_next c3 bw; have dl := cell_lt d3; have HB2 := Lib.hid (And.intro (at_next HB.out.1 bw) (HB.out.2.trans (bw.mono HB.out.2.size))); clear h1 bw))
            | fail)
        clear SN
        go_wp2
        rw [Exit.noGoto_ret]
        go_ret
        exact ⟨a, rfl, HO.out, HB2.out.2⟩

end Go.Proofs.YtemmaoapicaloaaDoor.Sb

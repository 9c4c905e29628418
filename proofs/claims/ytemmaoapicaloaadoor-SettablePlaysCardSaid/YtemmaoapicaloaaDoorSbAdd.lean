/- A set is added. -/
import Derived.Test.YtemmaoapicaloaaDoorSbApp
import Derived.Test.YtemmaoapicaloaaDoorBtRoom
import Derived.Deep.AppendLies
import Derived.Deep.RegionLaw
import Derived.Deep.DeepCutAuto
import Derived.Deep.CutRange
import Derived.Deep.Cut
import Derived.Deep.CutBlock
namespace Go.Proofs.YtemmaoapicaloaaDoor.Sb
open Go Go.RowKit Go.Proofs.YtemmaoapicaloaaDoor.At
open Go.Proofs.YtemmaoapicaloaaDoor.Bt (SetAt setV memL nums roomF room_any)

/-- what add tells -/
def AddOut (W : World) (B tb : Nat) (T : Tb) (L : List Nat) (e : Ending) (W' : World) : Prop :=
  ∃ T', e = .returned (.int .i64 (T.E.length : Nat)) ∧ TbIn W' B tb T' ∧ Good T' ∧ keys T'.E = keys T.E ++ [nums L] ∧ T'.most = T.most ∧ T'.bw = T.bw ∧ Step tb T W T' W'

theorem crowd_any {B tb : Nat} {T : Tb} (w : World) (h : TbIn w B tb T) (k : Nat) (hk : k ≤ 1000000) (hP : T.P.length ≤ 1000000) (b : Bool) (hb : b = decide (3 * ((T.P.length : Int) - k - 1) < T.P.length)) : Calls Tryd.prog 38 #[ptr tb, .int .i64 ((k : Nat) : Int)] w fun e w' => e = .returned (.bool b) ∧ w' = w := by
  rw [hb]; exact crowded_any w h k hk hP

theorem own_as {W : World} {B s n : Nat} {e : TypeId} {v u : Value} {xs : List Value} (h : W.ownsRow B e s v n xs) (hv : v = u) : W.ownsRow B e s u n xs := by rw [← hv]; exact h
theorem added {W W1 : World} {B tb g c room h : Nat} {T : Tb} {v u : Value} {L : List Nat} (hin : TbIn W B tb T) (hsv : T.sv = u) (hown : W1.ownsRow B 57 3 (.slice (some ⟨g, 0, none⟩) (T.E.length + 1) c) (T.E.length + 1) (flatE T.E ++ [.int .i64 (room : Nat), v, .int .u64 (h : Nat)])) (hg : W.grownBy W1 u.ownBlock) (hat : u.ownBlock = some g ∨ g = W.heap.size) (he : SetAt W T.bw room v L) :
    W1.heap[tb]? = some (.cells (tbC T) 47 (0, 0)) ∧ TbIn (W1.setCell ⟨tb, 2, none⟩ (.slice (some ⟨g, 0, none⟩) (T.E.length + 1) c)) B tb (T.app ⟨room, v, L, h⟩ (.slice (some ⟨g, 0, none⟩) (T.E.length + 1) c)) ∧
    Step tb T W (T.app ⟨room, v, L, h⟩ (.slice (some ⟨g, 0, none⟩) (T.E.length + 1) c)) (W1.setCell ⟨tb, 2, none⟩ (.slice (some ⟨g, 0, none⟩) (T.E.length + 1) c)) := by
  subst hsv
  obtain ⟨z1, z2⟩ := hin.app (e := ⟨room, v, L, h⟩) hown hg hat he
  exact ⟨(hg.block tb hin.lt (at_not_row hin.box hin.sets (by decide))).trans hin.box, z1, z2⟩

set_option maxRecDepth 100000 in
set_option maxHeartbeats 2000000 in
theorem add_any {B tb room : Nat} {T : Tb} {v : Value} {L : List Nat} (w : World) (ht : TbIn w B tb T) (hg : Good T) (hs : SetAt w T.bw room v L) (hn : T.E.length < T.most) (hno : ∀ i, i < T.E.length → nums (ent T.E i).L ≠ nums L) :
    Calls Tryd.prog 26 #[ptr tb, setV room v] w fun e w' => AddOut w B tb T L e w' := by
  have A1 := (Below.refl w.heap.size w).alloc (Nat.le_refl _) (.cells #[.int .i64 (room : Nat), v] 34)
  have M0 : Mid w B tb w.heap.size T room v L (w.alloc (.cells #[.int .i64 (room : Nat), v] 34)) T := ⟨ht.next A1, hg, rfl, rfl, .below A1, at_new w _, hs.next A1, rfl⟩
  obtain ⟨so, sc, hsv, hsm, hsc⟩ := own_shape ht.sets
  obtain ⟨ao, an, ac, rfl⟩ := hs.val
  obtain ⟨q0, q1, q2, q3, q4⟩ := ht.cells
  rw [hsv] at q2
  have hl := ht.lt
  have h200 : T.E.length ≤ 200000 := by have := hg.ld; have := hg.pl; omega
  have hn1 : (T.E.length : Int) ≤ 200000 := by omega
  have HNO := Lib.hid hno
  have HN := Lib.hid hn
  have hrl := hs.lim
  clear ht hg hs hno hn hsv hsm hsc q0 q3 q4 A1
  unfold ptr setV at *
  go_enter Tryd.func26, Tryd.ntmps26
  go_upto_region 2 with fail
  generalize w.alloc (.cells #[.int .i64 (room : Nat), .slice ao an ac] 34) = W1 at *
  obtain ⟨x0, x1, x2⟩ := at2 M0.box
  have c1 : W1.cell? ⟨tb, 1, none⟩ = some (.int .i64 (T.wide : Nat)) := M0.inn.cells.2.1
  have hl1 := M0.inn.lt
  have RM := Lib.hid (fun W => room_any room (.slice ao an ac) W)
  unfold setV at RM
  have HM0 := Lib.hid M0
  clear M0 q1 q2
  go_region_held3 (fun W => W.cell? ⟨tb, 1, none⟩ = some (.int .i64 (T.wide : Nat)) ∧ W.cell? ⟨w.heap.size, 0, none⟩ = some (.int .i64 (room : Nat)) ∧ W.cell? ⟨w.heap.size, 1, none⟩ = some (.slice ao an ac)) (first | exact ⟨by assumption, by assumption, by assumption⟩ | assumption | go_keep)
    (first
      | (go_at_call 36; (with_reducible refine (RM.out _).mono ?_); rintro e w2 ⟨rfl, hb⟩; go_must (have bw := (Below.refl W1.heap.size W1).drew.trans (hb.mono (Nat.le_refl _)); have SN := And.intro (cell_next c1 bw) (And.intro (cell_next x0 bw) (cell_next x1 bw)); have HM1 := Lib.hid (HM0.out.next bw); clear hb bw))
      | fail)
  clear SN
  go_upto_if 17 with fail
  go_cut [] from 6 (fun wx => ∃ T1, Mid w B tb w.heap.size T room (.slice ao an ac) L wx T1)
  case first =>
    by_cases hr : T.wide < room
    · obtain ⟨x0, x1, x2⟩ := at2 HM1.out.box
      have WD := Lib.hid (fun W (hW : Below w2.heap.size w2 W) => widen_any (room := room) W (HM1.out.next hW).inn HM1.out.good.uq HM1.out.good.w1 HM1.out.good.w2 hrl (by have := HM1.out.good.ld; omega) (by have := HM1.out.good.pl; omega))
      unfold ptr at WD
      go_wp2_with (first
        | (go_at_call 36; (with_reducible refine (RM.out _).mono ?_); rintro e w3 ⟨rfl, hb3⟩; have B3 := Lib.hid hb3; clear hb3)
        | (go_at_call 37; (with_reducible refine (WD.out _ B3.out).mono ?_); rintro e w4 ho; obtain ⟨rfl, hM4⟩ := (HM1.out.next B3.out).widen ho)
        | fail)
      go_meet
      case rel => exact hM4
    · go_wp2_with fail
      go_meet
      case rel => exact ⟨T, HM1.out⟩
  case rest =>
    obtain ⟨T1, hM⟩ := hcut
    clear HM1 HM0 x0 x1 x2 c1 hl1
    have hlen := hM.len
    have hmm := hM.most
    have hpl := hM.good.pl
    obtain ⟨b, hb⟩ : ∃ b, b = decide (3 * ((T1.P.length : Int) - (T.E.length + 1 : Nat) - 1) < T1.P.length) := ⟨_, rfl⟩
    have CR := crowd_any wc hM.inn (T.E.length + 1) (by omega) (by omega) b hb
    rw [show ((T.E.length + 1 : Nat) : Int) = (T.E.length : Int) + 1 by omega] at CR
    have HM := Lib.hid hM
    have HB := Lib.hid hb
    have HL := Lib.hid (And.intro hlen hmm)
    obtain ⟨po, pc, hpv, hpm, hpc⟩ := own_shape hM.inn.plcs
    have c3 : wc.cell? ⟨tb, 3, none⟩ = some (.slice po T1.P.length pc) := by rw [← hpv]; exact hM.inn.cells.2.2.2.1
    have SD := Lib.hid (spread_any (m := 2 * T1.P.length) wc hM.inn hM.good.uq (by have := hM.good.ld; omega) (by omega) (fun i hi => (hM.good.hs i hi).lt))
    rw [show ((2 * T1.P.length : Nat) : Int) = 2 * (T1.P.length : Int) by omega] at SD
    have hl2 := hM.inn.lt
    unfold ptr at CR SD
    clear hM hb hlen hmm hpv hpm hpc
    go_upto_if 25 with (go_at_call 38; (with_reducible refine CR.mono ?_); rintro e w3 ⟨rfl, hw3⟩; subst hw3)
    go_cut [] from 6 (fun wx => ∃ T2, Mid w B tb w.heap.size T room (.slice ao an ac) L wx T2 ∧ 3 * (T2.E.length + 2) ≤ 2 * T2.P.length)
    case first =>
      cases b
      · go_wp2_with fail
        go_meet
        case rel =>
          refine ⟨T1, HM.out, ?_⟩
          have h1 := of_decide_eq_false HB.out.symm
          have h2 := HL.out.1
          omega
      · go_wp2_with (go_at_call 39; (with_reducible refine SD.out.mono ?_); rintro e w4 ho; obtain ⟨rfl, hM4⟩ := HM.out.spread (by have := HL.out; have := HN.out; omega) (by have h1 := of_decide_eq_true HB.out.symm; rw [HL.out.1]; exact h1) ho)
        go_meet
        case rel => exact hM4
    case rest =>
      obtain ⟨T2, hM2, hld2⟩ := hcut
      clear CR SD HM HB HL c3 hl2 hpl
      clear T1 b po pc
      obtain ⟨i0, hi, hz0, hz1, hz2⟩ := info_parts infoEn
      have hlen := hM2.len
      rw [← hlen]
      obtain ⟨x0, x1, x2⟩ := at2 hM2.box
      obtain ⟨s2, c2, hsv2, hsm2, hsc2⟩ := own_shape hM2.inn.sets
      have d2 : wc.cell? ⟨tb, 2, none⟩ = some (.slice s2 T2.E.length c2) := by rw [← hsv2]; exact hM2.inn.cells.2.2.1
      have hl2 := hM2.inn.lt
      have EN := Lib.hid (fun W (hW : Below wc.heap.size wc W) => entryOf_any tb T2.wide T2.bw room _ L W (hM2.inn.next hW).cells.2.1 (hM2.set.next hW))
      unfold ptr setV at EN
      have h202 : T2.E.length ≤ 200000 := by omega
      have HM2 := Lib.hid hM2
      have HSV := Lib.hid hsv2
      have HLN := Lib.hid (And.intro hlen hld2)
      clear hM2 hsv2 hlen hld2 hsm2 hsc2
      have FLAG : True := trivial
      go_upto_region 6 with fail
      go_region_law (first
        | (refine step_append_lies _ rfl (.tmp 38) (.tmp 42) 44 rfl B 57 i0 (.agg #[.int .i64 0, .slice none 0 0, .int .u64 0]) 3 40 Tryd.underlying44 hi hz0 hz1 hz2 rfl (by decide) (.slice s2 T2.E.length c2) T2.E.length (flatE T2.E) (by rfl) OW.out.1 ⟨w3.heap.size, 0, none⟩ 1 1 [.int .i64 (room : Nat), .slice ao an ac, .int .u64 (h : Nat)] (by rfl) rfl (World.news_of_block (World.alloc_heap_new w3 _)) (by simp [Value.oneCell']) (by decide) (by unfold maxLen; omega) (by omega) OW.out.2 _ rfl ?_; intro g2 cap2 w4 hown hgr hat hlt; go_must (obtain ⟨z0, z1, z2⟩ := added HI4.out HSV.out hown hgr hat HSE.out; have f4 := at_froz z0; have d5 : w4.cell? ⟨tb, 2, none⟩ = some (.slice s2 T2.E.length c2) := (at_cell z0 2).trans (congrArg some HSV.out); have hl5 := at_lt z0; have Z := Lib.hid (And.intro z1 z2); clear z0 z1 z2 hown hgr hat hlt))
        | ((have hg := FLAG); clear hg; go_simp; go_wp2_with (go_at_call 35; (with_reducible refine (EN.out _ (Below.refl _ wc).drew).mono ?_); rintro e w3 ⟨h, rfl, hh, hb⟩; unfold enV; dsimp only; go_must (have b3 := (Below.refl wc.heap.size wc).drew.trans (hb.mono (Nat.le_refl _)); have A3 := b3.alloc b3.size (.cells #[.int .i64 (room : Nat), .slice ao an ac, .int .u64 (h : Nat)] 57); have d3 := cell_next d2 b3; have hl3 := cell_lt d3; have d4 := cell_next d2 A3; have M3 := HM2.out.next A3; have HSE := Lib.hid M3.set; have HI4 := Lib.hid M3.inn; have OW := Lib.hid (show _ ∧ _ from ⟨own_as M3.inn.sets HSV.out, M3.inn.size⟩); have HH3 := Lib.hid (And.intro hh M3); clear FLAG hb hh b3 A3 M3)))
        | fail)
      all_goals (
        have ST := Lib.hid (stand_app _ Z.out.1 HH3.out.2.good (by have := HLN.out.1; have := HN.out; have := HH3.out.2.most; omega) (no_keys HH3.out.2.keys HNO.out) HH3.out.1 HLN.out.2)
        unfold ptr at ST
        have HST := Lib.hid (HH3.out.2.step.trans Z.out.2)
        go_wp2_with (go_at_call 40; (with_reducible refine ST.out.mono ?_); rintro e w5 ⟨T', rfl, y1, y2, y3, y4, y6, y5⟩; have Y := Lib.hid (show _ ∧ _ ∧ _ ∧ _ ∧ _ ∧ _ from ⟨y1, y2, y3, y4, y6, y5⟩); clear y1 y2 y3 y4 y5 y6)
        go_ret
        exact ⟨T', retI (by rw [HLN.out.1]), Y.out.1, Y.out.2.1, by rw [Y.out.2.2.1, HH3.out.2.keys], by rw [Y.out.2.2.2.1, HH3.out.2.most], by rw [Y.out.2.2.2.2.1, HH3.out.2.bw], HST.out.trans Y.out.2.2.2.2.2⟩)

end Go.Proofs.YtemmaoapicaloaaDoor.Sb

/- A tree's nodes handed on one by one. -/
import Derived.Test.YtdgpanofehfjdaaArKx
import Derived.Test.YtdgpanofehfjdaaArOne
import Derived.Laws.MakeOwn
import Derived.OwnWalk
import Derived.BigRegion
import Derived.RegionTactic
namespace Go.Proofs.Ytdgpanofehfjdaa.Ar
open Go Go.RowKit Go.Shelf
open Go.Proofs.Ytdgpanofehfjdaa.Rg (R RngsAt RowsAt nthL add_zero own_next)

theorem mapN_1 {sx l : List Int} {n : Nd} (h : n.op = 1) : mapN sx l n = n := by unfold mapN; rw [if_neg (by omega), if_neg (by omega), if_neg (by omega)]
theorem mapN_2 {sx l : List Int} {n : Nd} (h : n.op = 2) : mapN sx l n = { n with set := sx.getD n.set.toNat 0 } := by unfold mapN; rw [if_pos h]
theorem mapN_3 {sx l : List Int} {n : Nd} (h : n.op = 3 ∨ n.op = 4) : mapN sx l n = { n with a := l.getD n.a.toNat 0, b := l.getD n.b.toNat 0 } := by unfold mapN; rw [if_neg (by omega), if_pos h]
theorem mapN_5 {sx l : List Int} {n : Nd} (h : n.op = 5) : mapN sx l n = { n with a := l.getD n.a.toNat 0 } := by unfold mapN; rw [if_neg (by omega), if_neg (by omega), if_pos h]

theorem below_drew {B : Nat} (w : World) : Below B w w.drew := ⟨rfl, rfl, rfl, Nat.le_refl _, fun _ _ => rfl⟩
/-- what a call of the taker tells -/
def TookOut (J : List Int → World → Prop) (U : Nat → Prop) (l : List Int) (W : World) (e : Ending) (W' : World) : Prop := ∃ x : Int, e = .returned (.int .i64 x) ∧ J (l ++ [x]) W' ∧ Kx U W W'
/-- what all calls together tell -/
def ThrOut (J : List Int → World → Prop) (U : Nat → Prop) (t : Tr) (w : World) (e : Ending) (w' : World) : Prop := ∃ l : List Int, l.length = t.ns.length ∧ e = .returned (.int .i64 (l.getD t.root.toNat 0)) ∧ J l w' ∧ Kx U w w'

set_option maxRecDepth 100000 in
set_option maxHeartbeats 16000000 in
theorem through_any (t : Tr) (ht : Ok t) (v vset : Value) (sx : List Int) (hsx : sx.length = t.sets.length) (hsz : t.ns.length ≤ 4096) (K : FuncId) (rc : Value) (hE : Enters Try.prog K) (w : World) (U : Nat → Prop) (J : List Int → World → Prop)
    (hU : ∀ b, U b → b < w.heap.size) (HV : ∀ W, Kx U w W → TreeAt W v t) (HS : ∀ W, Kx U w W → IntsAt W vset sx)
    (hJ : ∀ l W W', J l W → Kx (fun b => b = w.heap.size ∨ b = w.heap.size + 1) W W' → J l W')
    (hK : ∀ l W, l.length < t.ns.length → J l W → Kx U w W → w.heap.size + 2 ≤ W.heap.size → Calls Try.prog K #[rc, aggN (mapN sx l (nd t.ns l.length))] W (TookOut J (fun b => U b ∨ w.heap.size + 2 ≤ b) l W))
    (h0 : J [] w) :
    Calls Try.prog 38 #[v, vset, .func (.func K) #[rc] #[]] w (ThrOut J U t w) := by
  obtain ⟨i0, hi, hz0, hz1, hz2⟩ := info_parts infoI
  obtain ⟨ao, cap, so, scap, rfl, hm, hm2, _, _⟩ := (HV w (Kx.refl _ _)).shape
  obtain ⟨xo, xcap, rfl, hxm, _⟩ := (HS w (Kx.refl _ _)).shape
  have HN := Lib.hid (fun W (h : Kx U w W) i (hi : i < t.ns.length) => show ∃ g, ao = some g ∧ NodeAt W (g.add (i * 6)) (nd t.ns i) by
    obtain ⟨ao', cap', so', scap', he, _, _, hn, _⟩ := (HV W h).shape
    simp only [Value.agg.injEq, Array.mk.injEq, List.cons.injEq, Value.slice.injEq] at he
    rw [he.1.1]; exact hn i hi)
  have HX := Lib.hid (fun W (h : Kx U w W) i (hi : i < sx.length) => show ∃ g, xo = some g ∧ W.cell? (g.add i) = some (.int .i64 (sx.getD i 0)) by
    obtain ⟨xo', xcap', he, _, hc⟩ := (HS W h).shape
    simp only [Value.slice.injEq] at he
    rw [he.1]; exact hc i hi)
  have hE' : ∀ (args : Array Value) (w : World), (callFunc K args).run Try.prog w = .ok (.enter K args) w := hE
  have HJ := Lib.hid hJ
  have HK := Lib.hid hK
  have HU := Lib.hid hU
  have OK := Lib.hid ht
  have hr0 := ht.root0
  have hr1 := ht.root1
  obtain ⟨q, hq, hq2⟩ : ∃ q : Nat, t.root = q ∧ q < t.ns.length := by
    obtain ⟨q, hq⟩ := Int.eq_ofNat_of_zero_le hr0
    exact ⟨q, hq, by omega⟩
  have HO := Lib.hid (fun (l : List Int) W (h1 : l.length = t.ns.length) (h2 : J l W) (h3 : Kx U w W) => show ThrOut J U t w (.returned (.int .i64 (l.getD q 0))) W from ⟨l, h1, by rw [hq, Int.toNat_natCast], h2, h3⟩)
  have HJ0 := Lib.hid h0
  have T0 := Lib.hid (TBox.new w (.slice ao t.ns.length cap) (.slice so t.sets.length scap) t.root)
  have B1 := Lib.hid (fun o => (Below.refl w.heap.size w).alloc (Nat.le_refl _) o)
  rw [hq] at T0 ⊢
  clear HV HS hJ hK hU ht hr0 hr1 hq h0
  generalize hOUT : ThrOut J U t w = OUT at *
  clear hOUT
  go_enter Try.func38, Try.ntmps38
  go_wp2_with (at_make; refine wpList_make_full _ rfl _ _ 53 rfl (w.heap.size + 1) 3 i0 (.int .i64 0) 1 Try.underlying53 hi hz0 hz1 .i64 .i64 t.ns.length t.ns.length t.ns.length rfl rfl rfl rfl (by rw [hz2]; omega) (by unfold maxLen; omega) (by simp) ?_; intro w2 hown2 hgrow2; go_must (rw [cellsL_start] at hown2; have BB := Lib.hid ((B1.out (.cells #[.slice ao t.ns.length cap, .slice so t.sets.length scap, .int .i64 (q : Int)] 25)).grown hgrow2 (by simp) (fun k hk => by cases hk)); have BT := Lib.hid ((Below.refl _ _).grown hgrow2 (Nat.le_refl _) (fun k hk => by cases hk)); obtain ⟨r0, r1, r2⟩ := T0.out.next BT.out; have hs2 := (hown2.lt _ rfl).2; have ROW := Lib.hid hown2; clear hown2 hgrow2))
  have hLe : (w.alloc (.cells #[.slice ao t.ns.length cap, .slice so t.sets.length scap, .int .i64 (q : Int)] 25)).heap.size = w.heap.size + 1 := by simp
  rw [hLe] at ROW hs2
  obtain ⟨L, hL⟩ : ∃ L, L = w.heap.size + 1 := ⟨_, rfl⟩
  rw [← hL] at ROW hs2 ⊢
  have HL := Lib.hid hL
  have hL1 : w.heap.size < L := by have := HL.out; omega
  have hL2 : L ≤ w.heap.size + 1 := by have := HL.out; omega
  have TB := Lib.hid (TBox.mk r0 r1 r2)
  have HJ1 := Lib.hid (HJ.out [] w w2 HJ0.out (Kx.of_below BB.out))
  have KX0 := Lib.hid (show Kx U w w2 from Kx.of_below BB.out)
  have HUN := Lib.hid (show ¬ U w.heap.size from fun h => by have := HU.out _ h; omega)
  have HUL := Lib.hid (show ¬ U L from fun h => by have := HU.out _ h; omega)
  clear hLe hL r0 r1 r2 HJ0 T0 BT BB
  go_loopw [17] (fun i wr => ∃ l : List Int, i = .int .i64 l.length ∧ l.length ≤ t.ns.length ∧ wr.ownsRow L 3 1 (.slice (some ⟨L, 0, none⟩) t.ns.length t.ns.length) t.ns.length (cellsL l t.ns.length) ∧ J l wr ∧ TBox wr w.heap.size (.slice ao t.ns.length cap) (.slice so t.sets.length scap) (q : Int) ∧ Kx U w wr) (fun i _ => t.ns.length - (intOf i).toNat)
  case atStart => exact ⟨[], rfl, Nat.zero_le _, ROW.out, HJ1.out, TB.out, KX0.out⟩
  case round =>
    clear hs2 HJ1 TB KX0 ROW
    obtain ⟨l, rfl, hk, hrow, hj, htb, hkx⟩ := hrel
    obtain ⟨wo, rfl⟩ : ∃ x, x = wr := ⟨_, rfl⟩
    obtain ⟨r0, r1, r2⟩ := htb
    have hls : L < wo.heap.size := (hrow.lt _ rfl).2
    by_cases hlt : l.length < t.ns.length
    · have HROW := Lib.hid hrow
      have HJW := Lib.hid hj
      have HTB := Lib.hid (TBox.mk r0 r1 r2)
      have HKX := Lib.hid hkx
      obtain ⟨g, rfl, hnode⟩ := HN.out wo hkx l.length hlt
      obtain ⟨c0, c1, c2, c3, c4, c5⟩ := hnode
      have hl0 := cell_lt c0
      have ways := nodeB_ways (OK.out.node _ hlt)
      have fz : wo.frozen? ⟨L, l.length, none⟩ = false := hrow.frozenAt _
      have e0 : wo.cell? ⟨L, l.length, none⟩ = some (.int .i64 0) := by rw [hrow.cellAt _ (by omega)]; exact cellsL_next hlt
      have hat : ∀ a : Nat, a < l.length → wo.cell? ⟨L, a, none⟩ = some (.int .i64 (l.getD a 0)) := fun a ha => by rw [hrow.cellAt a (by omega)]; exact cellsL_at ha
      have HAT := Lib.hid hat
      have CK := Lib.hid (fun W (hb : Below wo.heap.size wo W) => HK.out l W hlt (HJ.out l wo W hj (Kx.of_below hb)) (hkx.trans (Kx.of_below hb)) (by have := hb.size; omega))
      have BW := Lib.hid (fun o => (Below.refl wo.heap.size wo).alloc (Nat.le_refl _) o)
      have HSS := Lib.hid (fun (u : Nat) (hu : u < t.sets.length) => HX.out wo hkx u (by omega))
      have hend : ∀ (x : Int) (W W' : World), Below wo.heap.size wo W → J (l ++ [x]) W' → Kx (fun b => U b ∨ w.heap.size + 2 ≤ b) W W' →
          W'.cell? ⟨L, l.length, none⟩ = some (.int .i64 0) ∧ W'.frozen? ⟨L, l.length, none⟩ = false ∧
          (W'.setCell ⟨L, l.length, none⟩ (.int .i64 x)).ownsRow L 3 1 (.slice (some ⟨L, 0, none⟩) t.ns.length t.ns.length) t.ns.length (cellsL (l ++ [x]) t.ns.length) ∧
          J (l ++ [x]) (W'.setCell ⟨L, l.length, none⟩ (.int .i64 x)) ∧ TBox (W'.setCell ⟨L, l.length, none⟩ (.int .i64 x)) w.heap.size (.slice (some g) t.ns.length cap) (.slice so t.sets.length scap) (q : Int) ∧ Kx U w (W'.setCell ⟨L, l.length, none⟩ (.int .i64 x)) := fun x W W' hb hj2 hk2 => by
        have hw0 := HKX.out.size
        have hr1 : W.ownsRow L 3 1 (.slice (some ⟨L, 0, none⟩) t.ns.length t.ns.length) t.ns.length (cellsL l t.ns.length) := own_next HROW.out hb
        have hr2 := hk2.own hr1 (fun k hk => by
          simp only [Value.ownBlock, Option.some.injEq] at hk
          subst hk
          rintro (h | h)
          · exact HUL.out h
          · omega)
        have hs := hr2.stored l.length (.int .i64 x)
        rw [cellsL_set x hlt] at hs
        have hks : ∀ V : Nat → Prop, V L → Kx V W' (W'.setCell ⟨L, l.length, none⟩ (.int .i64 x)) := fun V hV => Kx.of_set hV
        refine ⟨by rw [hr2.cellAt _ (by omega)]; exact cellsL_next hlt, hr2.frozenAt _, hs.1, HJ.out _ _ _ hj2 (hks _ (.inr HL.out)), ?_, ?_⟩
        · have t1 : TBox W w.heap.size (.slice (some g) t.ns.length cap) (.slice so t.sets.length scap) (q : Int) := HTB.out.next hb
          have t2 := t1.kx hk2 (by rintro (h | h); exact HUN.out h; omega)
          exact t2.kx (hks (fun b => b = L) rfl) (by omega)
        · have k0 := HKX.out.trans (Kx.of_below (U := U) hb)
          exact ((k0.mono (V := fun b => U b ∨ w.heap.size + 1 ≤ b) (fun _ _ h => .inl h)).trans ((hk2.mono (fun k _ h => h.imp id (fun h => by omega))).trans (hks _ (.inr (by omega))))).mono (fun k hk h => h.elim id (fun h => by omega))
      have HEND := Lib.hid hend
      have fin : ∀ (x : Int) (W : World), J (l ++ [x]) W → True := fun _ _ _ => trivial
      clear hrow hj hat hkx hend fin
      generalize nd t.ns l.length = n at *
      obtain ⟨op, na, nb, lo, hi', st⟩ := n
      dsimp only at *
      rcases ways with ⟨rfl, a1⟩ | ⟨rfl, a1⟩ | ⟨a0, a1⟩ | ⟨rfl, a1⟩
      · rw [mapN_1 rfl] at CK
        unfold aggN at CK
        clear a1
        go_wp2_with (go_at_fn K; (with_reducible refine (CK.out _ (BW.out _)).mono ?_); rintro e w5 ⟨x, rfl, hj5, hk5⟩; go_must (obtain ⟨s0, s1, s2, s3, s4, s5⟩ := HEND.out x _ _ (BW.out _) hj5 hk5; have S := Lib.hid (And.intro s2 (And.intro s3 (And.intro s4 s5))); clear s2 s3 s4 s5 hj5 hk5))
        go_roundw
        case rel => exact ⟨l ++ [x], by rw [List.length_append]; go_num, by simp; omega, S.out.1, S.out.2.1, S.out.2.2.1, S.out.2.2.2⟩
        case measure => simp [intOf]; omega
      · obtain ⟨rfl, rfl, rfl, rfl, z0, z1⟩ := a1
        obtain ⟨u, rfl⟩ := Int.eq_ofNat_of_zero_le z0
        have hu : u < t.sets.length := by omega
        obtain ⟨gx, rfl, d1⟩ := HSS.out u hu
        rw [mapN_2 rfl] at CK
        unfold aggN at CK
        dsimp only at CK
        rw [Int.toNat_natCast] at CK
        generalize sx.getD u 0 = y at *
        have hgx := cell_lt d1
        have hu' : (u : Int) < (t.sets.length : Int) := by omega
        clear z0 z1
        go_wp2_with (go_at_fn K; (with_reducible refine (CK.out _ (BW.out _)).mono ?_); rintro e w5 ⟨x, rfl, hj5, hk5⟩; go_must (obtain ⟨s0, s1, s2, s3, s4, s5⟩ := HEND.out x _ _ (BW.out _) hj5 hk5; have S := Lib.hid (And.intro s2 (And.intro s3 (And.intro s4 s5))); clear s2 s3 s4 s5 hj5 hk5))
        go_roundw
        case rel => exact ⟨l ++ [x], by rw [List.length_append]; go_num, by simp; omega, S.out.1, S.out.2.1, S.out.2.2.1, S.out.2.2.2⟩
        case measure => simp [intOf]; omega
      · have a2 : 0 ≤ na ∧ na < (l.length : Int) ∧ 0 ≤ nb ∧ nb < (l.length : Int) := by omega
        clear a1
        obtain ⟨p0, p1, p2, p3⟩ := a2
        obtain ⟨a, rfl⟩ := Int.eq_ofNat_of_zero_le p0
        obtain ⟨b, rfl⟩ := Int.eq_ofNat_of_zero_le p2
        have ha : a < l.length := by omega
        have hb : b < l.length := by omega
        have d1 := HAT.out a ha
        have d2 := HAT.out b hb
        rw [mapN_3 a0] at CK
        unfold aggN at CK
        dsimp only at CK
        rw [Int.toNat_natCast, Int.toNat_natCast] at CK
        generalize l.getD a 0 = ya at *
        generalize l.getD b 0 = yb at *
        have ha' : (a : Int) < (t.ns.length : Int) := by omega
        have hb' : (b : Int) < (t.ns.length : Int) := by omega
        clear p0 p1 p2 p3
        rcases a0 with rfl | rfl
        all_goals (
        go_wp2
        go_region
        all_goals (
        go_wp2_with (go_at_fn K; (with_reducible refine (CK.out _ ((BW.out _).trans (below_drew _))).mono ?_); rintro e w5 ⟨x, rfl, hj5, hk5⟩; go_must (obtain ⟨s0, s1, s2, s3, s4, s5⟩ := HEND.out x _ _ ((BW.out _).trans (below_drew _)) hj5 hk5; have S := Lib.hid (And.intro s2 (And.intro s3 (And.intro s4 s5))); clear s2 s3 s4 s5 hj5 hk5))
        go_roundw
        case rel => exact ⟨l ++ [x], by rw [List.length_append]; go_num, by simp; omega, S.out.1, S.out.2.1, S.out.2.2.1, S.out.2.2.2⟩
        case measure => simp [intOf]; omega
        ))
      · obtain ⟨p0, p1, rfl, rfl⟩ := a1
        obtain ⟨a, rfl⟩ := Int.eq_ofNat_of_zero_le p0
        have ha : a < l.length := by omega
        have d1 := HAT.out a ha
        rw [mapN_5 rfl] at CK
        unfold aggN at CK
        dsimp only at CK
        rw [Int.toNat_natCast] at CK
        generalize l.getD a 0 = ya at *
        have ha' : (a : Int) < (t.ns.length : Int) := by omega
        clear p0 p1
        go_wp2_with (go_at_fn K; (with_reducible refine (CK.out _ (BW.out _)).mono ?_); rintro e w5 ⟨x, rfl, hj5, hk5⟩; go_must (obtain ⟨s0, s1, s2, s3, s4, s5⟩ := HEND.out x _ _ (BW.out _) hj5 hk5; have S := Lib.hid (And.intro s2 (And.intro s3 (And.intro s4 s5))); clear s2 s3 s4 s5 hj5 hk5))
        go_roundw
        case rel => exact ⟨l ++ [x], by rw [List.length_append]; go_num, by simp; omega, S.out.1, S.out.2.1, S.out.2.2.1, S.out.2.2.2⟩
        case measure => simp [intOf]; omega
    · have hl : l.length = t.ns.length := by omega
      have d2 : wo.cell? ⟨L, q, none⟩ = some (.int .i64 (l.getD q 0)) := by rw [hrow.cellAt q (by omega)]; exact cellsL_at (by omega)
      have HFIN := Lib.hid (HO.out l wo hl hj hkx)
      generalize l.getD q 0 = y at *
      have hq' : (q : Int) < (t.ns.length : Int) := by omega
      rw [hl]
      clear hrow hj hkx hl
      go_wp2
      exact HFIN.out

end Go.Proofs.Ytdgpanofehfjdaa.Ar

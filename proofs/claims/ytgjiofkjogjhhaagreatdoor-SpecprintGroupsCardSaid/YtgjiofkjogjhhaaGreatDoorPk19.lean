/- The program's Print. A rule's line. A spec's text: Print. The example of the laws of specprint. The document's text of a tree. -/
import Derived.Test.YtgjiofkjogjhhaaGreatDoorPk18
import Derived.Test.YtgjiofkjogjhhaaGreatDoorPk04
import Derived.Laws.EntriesVeiled
import Derived.Test.YtgjiofkjogjhhaaGreatDoorPk17
import Derived.Test.YtgjiofkjogjhhaaGreatDoorPk15
import Derived.Test.YtgjiofkjogjhhaaGreatDoorPk16
import Derived.Deep.RegionHeld3
import Derived.Test.YtgjiofkjogjhhaaGreatDoorPk13
import Derived.Laws.ResultCell
import Derived.Test.YtgjiofkjogjhhaaGreatDoorPk03
import Derived.Test.YtgjiofkjogjhhaaGreatDoorPk02

namespace Go.Proofs.YtgjiofkjogjhhaaGreatDoor.Rp
open Go Go.RowKit Go.Shelf
open Go.Proofs.YtgjiofkjogjhhaaGreatDoor.Bd (Wr IsB)
open Go.Proofs.YtgjiofkjogjhhaaGreatDoor.Ar (Nd nd Tr Ok TreeAt TBox checkE check_ok check_any)
open Go.Proofs.YtgjiofkjogjhhaaGreatDoor.Rg (nthL)

/-- what Print tells of a tree -/
noncomputable def prS (t : Tr) : Tx := if checkE t = 0 then (if (textL t.sets t.ns t.root.toNat).length ≤ 4096 then textL t.sets t.ns t.root.toNat else []) else []
noncomputable def prE (t : Tr) : Int := if checkE t = 0 then (if (textL t.sets t.ns t.root.toNat).length ≤ 4096 then 0 else 6) else checkE t
theorem ret_se {a b : ByteArray} {x y : Int} (h : a = b) (k : x = y) : Ending.returned (.tuple #[.string a, .int .i64 x]) = .returned (.tuple #[.string b, .int .i64 y]) := by rw [h, k]

set_option maxRecDepth 100000 in
set_option maxHeartbeats 4000000 in
theorem print_any (t : Tr) (h30 : ∀ k, k < t.sets.length → (nthL t.sets k).length ≤ 30) (v : Value) (w : World) (h : TreeAt w v t) (hst : Dg.St w) :
    Calls Tryz.prog 46 #[v] w fun e w' => e = .returned (.tuple #[.string ⟨(prS t).toArray⟩, .int .i64 (prE t)]) ∧ Below w.heap.size w w' := by
  have HV := Lib.hid h
  obtain ⟨ao, cap, so, scap, rfl, hm, hm2, _, _⟩ := h.shape
  have b1 := (Below.refl w.heap.size w).alloc (Nat.le_refl _) (.cells #[.slice ao t.ns.length cap, .slice so t.sets.length scap, .int .i64 t.root] 38)
  have B1 := Lib.hid b1
  have T0 := Lib.hid (TBox.new w (.slice ao t.ns.length cap) (.slice so t.sets.length scap) t.root)
  have CC := Lib.hid (check_any t _ _ (HV.out.next b1))
  have HST := Lib.hid hst
  clear h b1 hst
  by_cases hc : checkE t = 0
  · obtain ⟨ok, hl1, hl2⟩ := check_ok hc
    have hr0 := ok.root0
    have hr1 := ok.root1
    have hroot : ∃ q : Nat, t.root = q ∧ q < t.ns.length := by
      obtain ⟨q, hq⟩ := Int.eq_ofNat_of_zero_le hr0
      exact ⟨q, hq, by omega⟩
    obtain ⟨q, hq, hq2⟩ := hroot
    have HPS := Lib.hid (show prS t = if (textL t.sets t.ns q).length ≤ 4096 then textL t.sets t.ns q else [] by unfold prS; rw [if_pos hc, hq, Int.toNat_natCast])
    have HPE := Lib.hid (show prE t = if (textL t.sets t.ns q).length ≤ 4096 then 0 else 6 by unfold prE; rw [if_pos hc, hq, Int.toNat_natCast])
    have HND := Lib.hid (fun W0 (hW : Below w.heap.size w W0) => node_any t ok h30 W0 (.slice ao t.ns.length cap) (.slice so t.sets.length scap) (HV.out.next hW) (HST.out.next hW) W0.heap.size (Nat.le_refl _) q hq2)
    unfold NodeC at HND
    rw [hc] at CC
    generalize prS t = PS at *
    generalize prE t = PE at *
    generalize textL t.sets t.ns q = E at *
    rw [hq] at CC HV T0 B1 HND ⊢
    clear hc ok hr0 hr1 hq h30
    by_cases hl : E.length ≤ 4096
    · have E1 := Lib.hid (show PS = E by rw [HPS.out, if_pos hl])
      have E2 := Lib.hid (show PE = 0 by rw [HPE.out, if_pos hl])
      have L1 := Lib.hid (show ([] : Tx).length + E.length ≤ 4096 by simpa using hl)
      clear HPS HPE hl
      go_enter Tryz.func46, Tryz.ntmps46
      go_wp2_with (first
        | (go_at_call 61; (with_reducible refine CC.out.mono ?_); rintro e W0 ⟨rfl, hb1⟩; go_must (obtain ⟨q0, q1, q2⟩ := T0.out.next hb1; have H1 := Lib.hid (B1.out.trans (hb1.mono (by simp))); have hs1 := hb1.size; simp only [World.size_alloc] at hs1; have hs2 : w.heap.size < W0.heap.size := (by omega); have FB := Lib.hid (IsB.next (l := []) (Lib.IsBuilderF.of (Lib.fresh_isBuilder 53 5 W0)) ((Below.refl _ _).alloc (Nat.le_refl _) (.cells #[.slice ao t.ns.length cap, .slice so t.sets.length scap, .int .i64 (q : Int), .func (.func 62) #[] #[.pointer (some ⟨W0.heap.size, 0, none⟩)]] 99))); have FD := Lib.hid (((Below.refl W0.heap.size W0).alloc (Nat.le_refl _) (.cells #[.pointer none, .slice none 0 0] 53)).alloc (by simp) (.cells #[.slice ao t.ns.length cap, .slice so t.sets.length scap, .int .i64 (q : Int), .func (.func 62) #[] #[.pointer (some ⟨W0.heap.size, 0, none⟩)]] 99)); have CN := Lib.hid (HND.out W0 H1.out [] _ (by simp) FB.out FD.out); clear hb1))
        | (go_at_call 63; (with_reducible refine CN.out.mono ?_); rintro e w2 h2; go_must (obtain ⟨rfl, i2, k2⟩ := h2.yes L1.out; have I2 := Lib.hid i2; have K2 := Lib.hid (H1.out.trans ((FD.out.trans k2.below).mono H1.out.size)); have CT := Lib.hid (Tryz.Builder_String_any_f W0.heap.size W0.heap.size E w2 i2 (by have := i2.lt; omega)); clear i2 k2 h2))
        | (go_at_call 24; (with_reducible refine CT.out.mono ?_); rintro e w3 ⟨rfl, _, hb6⟩)
        | fail)
      go_ret2
      exact ⟨ret_se (by rw [E1.out]) E2.out.symm, K2.out.trans (hb6.mono H1.out.size)⟩
    · have E1 := Lib.hid (show PS = [] by rw [HPS.out, if_neg hl])
      have E2 := Lib.hid (show PE = 6 by rw [HPE.out, if_neg hl])
      have L1 := Lib.hid (show 4096 < ([] : Tx).length + E.length by simp; omega)
      clear HPS HPE hl
      go_enter Tryz.func46, Tryz.ntmps46
      go_wp2_with (first
        | (go_at_call 61; (with_reducible refine CC.out.mono ?_); rintro e W0 ⟨rfl, hb1⟩; go_must (obtain ⟨q0, q1, q2⟩ := T0.out.next hb1; have H1 := Lib.hid (B1.out.trans (hb1.mono (by simp))); have hs1 := hb1.size; simp only [World.size_alloc] at hs1; have hs2 : w.heap.size < W0.heap.size := (by omega); have FB := Lib.hid (IsB.next (l := []) (Lib.IsBuilderF.of (Lib.fresh_isBuilder 53 5 W0)) ((Below.refl _ _).alloc (Nat.le_refl _) (.cells #[.slice ao t.ns.length cap, .slice so t.sets.length scap, .int .i64 (q : Int), .func (.func 62) #[] #[.pointer (some ⟨W0.heap.size, 0, none⟩)]] 99))); have FD := Lib.hid (((Below.refl W0.heap.size W0).alloc (Nat.le_refl _) (.cells #[.pointer none, .slice none 0 0] 53)).alloc (by simp) (.cells #[.slice ao t.ns.length cap, .slice so t.sets.length scap, .int .i64 (q : Int), .func (.func 62) #[] #[.pointer (some ⟨W0.heap.size, 0, none⟩)]] 99)); have CN := Lib.hid (HND.out W0 H1.out [] _ (by simp) FB.out FD.out); clear hb1))
        | (go_at_call 63; (with_reducible refine CN.out.mono ?_); rintro e w2 h2; go_must (obtain ⟨rfl, k2⟩ := h2.no L1.out; have K2 := Lib.hid (H1.out.trans ((FD.out.trans k2.below).mono H1.out.size)); clear k2 h2))
        | fail)
      go_ret2
      exact ⟨ret_se (by rw [E1.out]) E2.out.symm, K2.out⟩
  · have E1 := Lib.hid (show prS t = [] by unfold prS; rw [if_neg hc])
    have E2 := Lib.hid (show prE t = checkE t by unfold prE; rw [if_neg hc])
    have hne : (checkE t != 0) = true := by simpa using hc
    generalize prS t = PS at *
    generalize prE t = PE at *
    generalize checkE t = C at *
    clear hc h30
    go_enter Tryz.func46, Tryz.ntmps46
    go_wp2_with (go_at_call 61; (with_reducible refine CC.out.mono ?_); rintro e w1 ⟨rfl, hb1⟩; go_must (have H1 := Lib.hid (B1.out.trans (hb1.mono (by simp))); clear hb1))
    go_ret2
    exact ⟨ret_se (by rw [E1.out]) E2.out.symm, H1.out⟩

end Go.Proofs.YtgjiofkjogjhhaaGreatDoor.Rp

namespace Go.Proofs.YtgjiofkjogjhhaaGreatDoor.Sp
open Go Go.RowKit Go.Shelf
open Go.Proofs.YtgjiofkjogjhhaaGreatDoor.Ar (Nd nd Tr Ok TreeAt checkE check_ok)
open Go.Proofs.YtgjiofkjogjhhaaGreatDoor.Rg (nthL)
open Go.Proofs.YtgjiofkjogjhhaaGreatDoor.Wd (nameL)
open Go.Proofs.YtgjiofkjogjhhaaGreatDoor.Ac (bE numL joinB actW textB text_skip text_skipGo text_emit text_emitGo)
open Go.Proofs.YtgjiofkjogjhhaaGreatDoor.Rp (textL print_any heapA heapB belA)

/-- names, all unlike -/
structure NamesOk (M : List ByteArray) : Prop where
  names : ∀ i, i < M.length → nameL (M.getD i bE).data.toList = true
  unlike : ∀ i, i < M.length → numL M (M.getD i bE) = (i : Int)
theorem OkS.names' {M : List ByteArray} {l : List Rl} (h : OkS M l) : NamesOk M := ⟨h.names, h.unlike⟩
theorem name_size {a : ByteArray} (h : nameL a.data.toList = true) : a.size ≤ 32 := by rw [Lib.size_eq]; exact name_len h
theorem act_any (em : ByteArray) (g : Int) (M : List ByteArray) (v : Value) (w : World) (hv : StrsAt w v M) (hM : NamesOk M) (he : em = bE ∨ nameL em.data.toList = true) (hg : g = -1 ∨ (0 ≤ g ∧ g < M.length)) :
    Calls Tryz.prog 47 #[.agg #[.string em, .int .i64 g], v] w fun e w' => e = .returned (.string (textB em g M)) ∧ Below w.heap.size w w' := by
  rcases he with rfl | he
  · rcases hg with rfl | ⟨h0, h1⟩
    · exact text_skip M v w hv
    · obtain ⟨q, rfl⟩ := Int.eq_ofNat_of_zero_le h0
      have hq : q < M.length := by omega
      have := text_skipGo q M v w hv hq (hM.unlike q hq) (by have := name_size (hM.names q hq); omega)
      rw [show textB bE (q : Int) M = joinB [⟨#[115, 107, 105, 112]⟩, ⟨#[103, 111, 116, 111]⟩, M.getD q bE] by unfold textB actW; rw [if_pos rfl, if_neg (by omega)]; rfl]
      exact this
  · have hne := Ac.name_ne he
    have hsz := name_size he
    rcases hg with rfl | ⟨h0, h1⟩
    · have := text_emit em M v w hv (by omega) he
      rw [show textB em (-1) M = joinB [⟨#[101, 109, 105, 116]⟩, em] by unfold textB actW; rw [if_neg hne, if_pos rfl]; rfl]
      exact this
    · obtain ⟨q, rfl⟩ := Int.eq_ofNat_of_zero_le h0
      have hq : q < M.length := by omega
      have := text_emitGo em q M v w hv (by omega) he hq (hM.unlike q hq) (by have := name_size (hM.names q hq); omega)
      rw [show textB em (q : Int) M = joinB [⟨#[101, 109, 105, 116]⟩, em, ⟨#[103, 111, 116, 111]⟩, M.getD q bE] by unfold textB actW; rw [if_neg hne, if_neg (by omega)]; rfl]
      exact this
theorem act_size {em : ByteArray} {g : Int} {M : List ByteArray} (hM : NamesOk M) (he : em = bE ∨ nameL em.data.toList = true) (hg : g = -1 ∨ (0 ≤ g ∧ g < M.length)) : (textB em g M).size ≤ 75 := by
  rw [Lib.size_eq]
  exact act_len (fun i hi => name_len (hM.names i hi)) (by rcases he with h | h; · rw [h]; decide
                                                           · exact name_len h) hg

theorem retT {a b : ByteArray} {x : Int} (h : a = b) : Ending.returned (.tuple #[.string a, .int .i64 x]) = .returned (.tuple #[.string b, .int .i64 x]) := by rw [h]
set_option maxRecDepth 100000 in
set_option maxHeartbeats 2000000 in
theorem line_any (r : Rl) (M : List ByteArray) (v vm : Value) (w : World) (hv : RuleAt w v r) (hm : StrsAt w vm M) (hM : NamesOk M) (hr : OkR M.length r) (h30 : ∀ k, k < r.t.sets.length → (nthL r.t.sets k).length ≤ 30) (hst : Dg.St w) :
    Calls Tryz.prog 22 #[v, vm] w fun e w' => e = .returned (.tuple #[.string ⟨(if (ruleT r).length ≤ 4096 then lineT M r else []).toArray⟩, .int .i64 (if (ruleT r).length ≤ 4096 then 0 else 6)]) ∧ Below w.heap.size w w' := by
  obtain ⟨no, ncap, so, scap, rfl, ht⟩ := hv
  have hm' := hm
  obtain ⟨mo, mcap, rfl, _, _⟩ := hm'.shape
  have hb := (Below.refl w.heap.size w).alloc (Nat.le_refl _) (.cells #[.int .i64 r.mode, .slice no r.t.ns.length ncap, .slice so r.t.sets.length scap, .int .i64 r.t.root, .string r.em, .int .i64 r.go] 40)
  have x0 : (w.alloc (.cells #[.int .i64 r.mode, .slice no r.t.ns.length ncap, .slice so r.t.sets.length scap, .int .i64 r.t.root, .string r.em, .int .i64 r.go] 40)).heap[w.heap.size]? = some (.cells #[.int .i64 r.mode, .slice no r.t.ns.length ncap, .slice so r.t.sets.length scap, .int .i64 r.t.root, .string r.em, .int .i64 r.go] 40 (0, 0)) := heapA rfl
  have RBX := Lib.hid (⟨x0, ht.next hb⟩ : RB w.heap.size r no ncap so scap _)
  have PR := Lib.hid (print_any r.t h30 _ _ (ht.next hb) (hst.next hb))
  have AT := Lib.hid (fun X (hX : Below w.heap.size w X) => act_any r.em r.go M _ X (hm.next hX) hM hr.em hr.go)
  have hsz := act_size hM hr.em hr.go
  have HP : Hid (Rp.prS r.t = if (ruleT r).length ≤ 4096 then ruleT r else []) := Lib.hid (by unfold Rp.prS ruleT; rw [if_pos hr.tree])
  have HE : Hid (Rp.prE r.t = if (ruleT r).length ≤ 4096 then 0 else 6) := Lib.hid (by unfold Rp.prE ruleT; rw [if_pos hr.tree])
  have HL : Hid (lineT M r = (textB r.em r.go M).data.toList ++ ([32, 58, 32] ++ (ruleT r ++ [10]))) := Lib.hid rfl
  have HB := Lib.hid hb
  rw [HP.out, HE.out] at PR
  clear HP HE ht hm hm' hM hr h30 hst hb x0
  generalize lineT M r = LT at *
  generalize ruleT r = T at *
  generalize textB r.em r.go M = A at *
  by_cases hl : T.length ≤ 4096
  · rw [if_pos hl, if_pos hl] at PR
    rw [if_pos hl, if_pos hl]
    go_enter Tryz.func22, Tryz.ntmps22
    go_upto_region 1 with fail
    generalize w.alloc (.cells #[.int .i64 r.mode, .slice no r.t.ns.length ncap, .slice so r.t.sets.length scap, .int .i64 r.t.root, .string r.em, .int .i64 r.go] 40) = W1 at *
    obtain ⟨c0, c1, c2, c3, c4, c5⟩ := RBX.out.cells
    go_wp2_with (first
      | (go_at_call 46; (with_reducible refine PR.out.mono ?_); rintro e w2 ⟨rfl, hb2⟩; go_must (obtain ⟨k0, k1, k2, k3, k4, k5⟩ := (RBX.out.next hb2).cells; have HB2 := Lib.hid (HB.out.trans (hb2.mono HB.out.size)); have AX := Lib.hid (AT.out _ HB2.out); clear hb2))
      | (go_at_call 47; (with_reducible refine AX.out.mono ?_); rintro e w3 ⟨rfl, hb3⟩; go_must (have HB3 := Lib.hid (HB2.out.trans (hb3.mono HB2.out.size)); clear hb3))
      | fail)
    go_ret2
    exact ⟨retT (by rw [HL.out]; simp [ByteArray.ext_iff]), HB3.out⟩
  · rw [if_neg hl, if_neg hl] at PR
    rw [if_neg hl, if_neg hl]
    go_enter Tryz.func22, Tryz.ntmps22
    go_upto_region 1 with fail
    generalize w.alloc (.cells #[.int .i64 r.mode, .slice no r.t.ns.length ncap, .slice so r.t.sets.length scap, .int .i64 r.t.root, .string r.em, .int .i64 r.go] 40) = W1 at *
    obtain ⟨c0, c1, c2, c3, c4, c5⟩ := RBX.out.cells
    go_wp2_with (first
      | (go_at_call 46; (with_reducible refine PR.out.mono ?_); rintro e w2 ⟨rfl, hb2⟩; go_must (have HB2 := Lib.hid (HB.out.trans (hb2.mono HB.out.size)); clear hb2))
      | fail)
    go_ret2
    exact ⟨rfl, HB2.out⟩
end Go.Proofs.YtgjiofkjogjhhaaGreatDoor.Sp

namespace Go.Proofs.YtgjiofkjogjhhaaGreatDoor.Sp
open Go Go.RowKit Go.Shelf
open Go.Proofs.YtgjiofkjogjhhaaGreatDoor.Ar (Nd nd Tr Ok TreeAt checkE check_ok)
open Go.Proofs.YtgjiofkjogjhhaaGreatDoor.Rg (nthL own_next)
open Go.Proofs.YtgjiofkjogjhhaaGreatDoor.Wd (nameL)
open Go.Proofs.YtgjiofkjogjhhaaGreatDoor.Ac (bE numL)
open Go.Proofs.YtgjiofkjogjhhaaGreatDoor.Bd (Wr IsB write_string)
open Go.Proofs.YtgjiofkjogjhhaaGreatDoor.Rp (heapA heapB belA)

theorem grpL_of {l : List Rl} {m k : Nat} (hk : k < l.length) (h0 : 0 ≤ (rl l k).mode) (h1 : (rl l k).mode < m) : k ∈ grpL l m := by
  unfold grpL
  refine List.mem_flatMap.2 ⟨(rl l k).mode.toNat, List.mem_range.2 (by omega), idxs_mem.2 ⟨hk, by omega⟩⟩
theorem own_wr {w w' : World} {B C b : Nat} {e : TypeId} {s n : Nat} {v : Value} {xs : List Value} (h : w.ownsRow B e s v n xs) (hB : b < B) (he : e ≠ 5) (k : Wr C b w w') : w'.ownsRow B e s v n xs := by
  refine ⟨h.1, ?_⟩
  rcases h.2 with h | ⟨g, cap, cur, h1, h2, h3, h4⟩
  · exact .inl h
  · exact .inr ⟨g, cap, cur, h1, h2, k.box h3 (by omega) he, h4⟩
theorem GAt.wr {w w' : World} {L m C b : Nat} {G : Nat → List Nat} {vs : Nat → Value} (h : GAt w L m G vs) (hb : b < L) (k : Wr C b w w') : GAt w' L m G vs :=
  ⟨k.box h.row (by omega) (by decide), fun j hj => own_wr (h.rows j hj) (by omega) (by decide) k, h.apart⟩
theorem write_any (b : Nat) (l : List UInt8) (x : ByteArray) (w : World) (h : IsB b b l w) (hlen : l.length + x.size ≤ 140737488355328) :
    Calls Tryz.prog 21 #[.pointer (some ⟨b, 0, none⟩), .string x] w fun e w' => e = .returned (.tuple #[.int .i64 (x.size : Int), .nilIface]) ∧ IsB b b (l ++ x.data.toList) w' ∧ Wr b b w w' := by
  have := write_string b b l x.data.toList w h (by rw [← Lib.size_eq]; exact hlen)
  rw [← Lib.size_eq] at this
  exact this

set_option maxRecDepth 100000 in
set_option maxHeartbeats 4000000 in
theorem print_bad (M : List ByteArray) (l : List Rl) (v : Value) (w : World) (hv : SpecAt w v M l) (hf : FitS M l) (hne : specE M l ≠ 0) :
    Calls Tryz.prog 8 #[v] w fun e w' => e = .returned (.tuple #[.string ⟨#[]⟩, .int .i64 (specE M l)]) ∧ Below w.heap.size w w' := by
  have HV := Lib.hid hv
  obtain ⟨mo, mcap, ro, rcap, rfl, _, _, _, _, _⟩ := hv.shape
  have b1 := (Below.refl w.heap.size w).alloc (Nat.le_refl _) (.cells #[.slice mo M.length mcap, .slice ro l.length rcap] 25)
  have C := Lib.hid (check_spec _ (HV.out.next b1) hf)
  have B1 := Lib.hid b1
  have d0 : (specE M l != 0) = true := by simpa using hne
  clear hv hf b1 hne HV
  generalize specE M l = E at *
  go_enter Tryz.func8, Tryz.ntmps8
  go_wp2_with (first
    | (go_at_call 9; (with_reducible refine C.out.mono ?_); rintro e w2 ⟨rfl, hb2⟩; go_must (have B2 := Lib.hid (B1.out.trans (hb2.mono B1.out.size)); clear hb2))
    | fail)
  go_ret2
  exact ⟨rfl, B2.out⟩

def RetP (w : World) (s : List UInt8) (x : Int) (e : Ending) (w' : World) : Prop := e = .returned (.tuple #[.string ⟨s.toArray⟩, .int .i64 x]) ∧ Below w.heap.size w w'
theorem mode_size (x : ByteArray) : ((⟨#[109, 111, 100, 101, 32]⟩ : ByteArray) ++ x ++ ⟨#[10]⟩).size = x.size + 6 := by
  rw [ByteArray.size_append, ByteArray.size_append, show (⟨#[109, 111, 100, 101, 32]⟩ : ByteArray).size = 5 from rfl, show (⟨#[10]⟩ : ByteArray).size = 1 from rfl]
  omega
theorem mode_text (x : ByteArray) (M : List ByteArray) (j : Nat) (h : M.getD j bE = x) : ((⟨#[109, 111, 100, 101, 32]⟩ : ByteArray) ++ x ++ ⟨#[10]⟩).data.toList = modeT M j := by
  unfold modeT; rw [h]; simp
set_option maxRecDepth 100000 in
set_option maxHeartbeats 8000000 in
theorem print_ok (M : List ByteArray) (l : List Rl) (v : Value) (w : World) (hv : SpecAt w v M l) (hf : FitS M l) (ok : OkS M l) (hz : specE M l = 0) (hl12 : l.length ≤ 12) (hst : Dg.St w) :
    Calls Tryz.prog 8 #[v] w (RetP w (prS M l) (prE l)) := by
  have HV := Lib.hid hv
  obtain ⟨mo, mcap, ro, rcap, rfl, _, _, hms, hr, _⟩ := hv.shape
  obtain ⟨ao, cap, e, _, hc⟩ := hr.shape
  simp only [Value.slice.injEq] at e
  obtain ⟨rfl, _, rfl⟩ := e
  obtain ⟨ao', cap', e, _, hmc⟩ := Ac.strs_at hms
  simp only [Value.slice.injEq] at e
  obtain ⟨rfl, _, rfl⟩ := e
  have HC := Lib.hid hc
  have HMC := Lib.hid hmc
  have b1 := (Below.refl w.heap.size w).alloc (Nat.le_refl _) (.cells #[.slice mo M.length mcap, .slice ro l.length rcap] 25)
  have S0 := Lib.hid (SBox.new w (.slice mo M.length mcap) (.slice ro l.length rcap))
  have C := Lib.hid (check_spec _ (HV.out.next b1) hf)
  rw [hz] at C
  have GR := Lib.hid (fun X (hX : Below w.heap.size w X) => groups_any M l _ X (HV.out.next hX) (by have := ok.m1; omega) (by omega))
  have LN := Lib.hid (fun i (hi : i < l.length) X (hX : Below w.heap.size w X) v1 (h1 : RuleAt X v1 (rl l i)) => line_any (rl l i) M v1 _ X h1 (hms.next hX) ok.names' (rule_ok (ok.rules i hi)) (hf.rules i hi).each (hst.next hX))
  have NSZ := Lib.hid (fun j (hj : j < M.length) => name_size (ok.names j hj))
  have BIG := Lib.hid (fun k (hk : k < l.length) (h : 4096 < (ruleT (rl l k)).length) => pr_big (l := l) ⟨k, hk, h⟩ M)
  have FITS := Lib.hid (fun (h : ¬ tooL l) => pr_fits ok hl12 h)
  have PROK := Lib.hid (fun (h : ¬ tooL l) => pr_ok h M)
  have ALLV := Lib.hid (fun (h : ∀ k, k ∈ grpL l M.length → (ruleT (rl l k)).length ≤ 4096) => (fun ⟨k, hk, h2⟩ => by
    have := (rule_ok (ok.rules k hk)).mode
    have := h k (grpL_of hk this.1 this.2)
    omega : ¬ tooL l))
  have LL := Lib.hid (fun k (hk : k < l.length) (h : (ruleT (rl l k)).length ≤ 4096) => line_len ok.names (rule_ok (ok.rules k hk)) h)
  have B1 := Lib.hid b1
  have hm16 := ok.m1
  clear hv hf ok hz b1 hr hc hmc hms HV
  go_enter Tryz.func8, Tryz.ntmps8
  go_upto_region 1 with fail
  generalize w.alloc (.cells #[.slice mo M.length mcap, .slice ro l.length rcap] 25) = W1 at *
  obtain ⟨s0, s1⟩ := S0.out
  go_upto_region 4 with (first
    | (go_at_call 9; (with_reducible refine C.out.mono ?_); rintro e w2 ⟨rfl, hb2⟩; go_must (have B2 := Lib.hid (B1.out.trans (hb2.mono B1.out.size)); have S2 := Lib.hid (S0.out.next hb2); clear hb2 s0 s1))
    | fail)
  have hbw : w.heap.size < w2.heap.size := by have := cell_lt S2.out.c0; exact this
  obtain ⟨b, hb'⟩ : ∃ b, b = w2.heap.size := ⟨_, rfl⟩
  have fb := IsB.next (l := []) (Lib.IsBuilderF.of (Lib.fresh_isBuilder 53 5 w2)) (Below.refl _ _)
  have hb3 : Below w.heap.size w (w2.alloc (.cells #[.pointer none, .slice none 0 0] 53)) := B2.out.alloc (by omega) _
  have S3 := Lib.hid (S2.out.next ((Below.refl _ _).alloc (Nat.le_refl _) (.cells #[.pointer none, .slice none 0 0] 53)))
  have FB := Lib.hid fb
  have B3 := Lib.hid hb3
  have hsz3 : b < (w2.alloc (.cells #[.pointer none, .slice none 0 0] 53)).heap.size := by rw [World.size_alloc]; omega
  clear fb hb3 S2 B2 B1 S0
  go_upto_region 5 with fail
  rw [← hb'] at FB hbw ⊢
  generalize w2.alloc (.cells #[.pointer none, .slice none 0 0] 53) = W3 at *
  clear hb'
  obtain ⟨s0, s1⟩ := S3.out
  have G3 := Lib.hid (GR.out _ B3.out)
  unfold GrpOut at G3
  go_wp2_with (first
    | (go_at_call 20; (with_reducible refine G3.out.mono ?_); rintro e w4 ⟨L, vs, rfl, hL, hg, hb4⟩; go_must (have GA := Lib.hid hg; have FB4 := Lib.hid (FB.out.next hb4); have B4 := Lib.hid (B3.out.trans (hb4.mono B3.out.size)); have S4 := Lib.hid (S3.out.next hb4); have hbL : b < L := (by omega); clear hg hb4 hL s0 s1))
    | fail)
  have A0 := Lib.hid (allT_zero M l)
  have P0 := Lib.hid (show grpL l 0 = [] from rfl)
  have AS := Lib.hid (allT_succ M l)
  have GS := Lib.hid (grpL_succ l)
  have GLE := Lib.hid (grpL_le l)
  have LLEN := Lib.hid (fun k (hk : k < l.length) (h : (ruleT (rl l k)).length ≤ 4096) => LL.out k hk h)
  go_loopw [20] (fun i wr => ∃ j : Nat, i = .int .i64 j ∧ j ≤ M.length ∧ IsB b b (allT M l j) wr ∧ Wr b b w4 wr ∧ (∀ k, k ∈ grpL l j → (ruleT (rl l k)).length ≤ 4096) ∧ (allT M l j).length ≤ j * 38 + (grpL l j).length * 4175) (fun i _ => M.length - (intOf i).toNat)
  case atStart => exact ⟨0, rfl, Nat.zero_le _, (by rw [A0.out]; exact FB4.out), Wr.refl _ _ _, (fun k hk => by rw [P0.out] at hk; cases hk), (by rw [A0.out]; simp)⟩
  case round =>
    obtain ⟨j, rfl, hj, hB, hW, hsm, hlen⟩ := hrel
    obtain ⟨wo, rfl⟩ : ∃ x, x = wr := ⟨_, rfl⟩
    have hWb := hW.below
    have s0 := (hWb.cell (p := ⟨w.heap.size, 0, none⟩) hbw).trans S4.out.c0
    have s1 := (hWb.cell (p := ⟨w.heap.size, 1, none⟩) hbw).trans S4.out.c1
    have HBo := Lib.hid (B4.out.trans (hWb.mono (by omega)))
    have HBd := Lib.hid hB
    have HWr := Lib.hid hW
    have HSM := Lib.hid hsm
    have HLEN := Lib.hid hlen
    by_cases hlt : j < M.length
    · have ga := GA.out.wr hbL hW
      have cj := ga.cell hlt
      obtain ⟨vg, vc, hvs, hint⟩ := ints_nat (ga.rows j hlt)
      rw [hvs] at cj
      have garow := GA.out.rows j hlt
      rw [hvs] at garow
      obtain ⟨ma, rfl, c0⟩ := HMC.out j hlt
      have c1 := cell_next c0 HBo.out
      have hnsz := NSZ.out j hlt
      have h0i : (0 : Int) ≤ j := by omega
      have h1i : (j : Int) < (M.length : Int) := by omega
      have hlj := cell_lt cj
      have hls := cell_lt s0
      have hlm := cell_lt c1
      have MEM := Lib.hid (fun k (h : k ∈ idxs l j l.length) => (idxs_mem.1 h).1)
      have ASj := Lib.hid (AS.out j)
      have GSj := Lib.hid (GS.out j)
      have GLj := Lib.hid (GLE.out (j + 1))
      have hkl : (idxs l j l.length).length ≤ 12 := by have := idxs_len l j l.length; omega
      have MT := Lib.hid (fun x (h : M.getD j bE = x) => mode_text x M j h)
      have hmt : (modeT M j).length ≤ 38 := by
        have := hnsz
        rw [Lib.size_eq] at this
        simp only [modeT, List.length_append, List.length_cons, List.length_nil]
        omega
      have hgl : (grpL l j).length ≤ 12 := by have := GLE.out j; omega
      have hA1 : (allT M l j).length ≤ 60000 := by omega
      have GAR := Lib.hid garow
      clear hint hvs ga hB hW hsm hlen hWb c0 garow
      generalize M.getD j bE = mx at *
      have MTx := Lib.hid (MT.out mx rfl)
      have WT := Lib.hid (write_any b (allT M l j) ((⟨#[109, 111, 100, 101, 32]⟩ : ByteArray) ++ mx ++ ⟨#[10]⟩) wo HBd.out (by rw [mode_size]; omega))
      rw [MTx.out] at WT
      generalize hmm : modeT M j = mt at *
      generalize idxs l j l.length = ks at *
      clear MT MTx hmm
      go_wp2_with (first
        | (go_at_call 21; (with_reducible refine WT.out.mono ?_); rintro e w5 ⟨rfl, hI5, hW5⟩; go_must (have I5 := Lib.hid hI5; have W5 := Lib.hid (HWr.out.trans hW5); clear hI5 hW5))
        | fail)
      clear s0 s1 c1 cj hlj hls hlm
      have R0 := Lib.hid (show rowT M l (ks.take 0) = [] from rfl)
      have MA : Hid (allT M l (j + 1) = allT M l j ++ mt ++ rowT M l ks) := Lib.hid (by rw [ASj.out, List.append_assoc])
      generalize allT M l j = at' at *
      go_loopw [35] (fun i wr => ∃ t : Nat, i = .int .i64 t ∧ t ≤ ks.length ∧ IsB b b (at' ++ mt ++ rowT M l (ks.take t)) wr ∧ Wr b b w4 wr ∧ (∀ k, k ∈ ks.take t → (ruleT (rl l k)).length ≤ 4096) ∧ (rowT M l (ks.take t)).length ≤ t * 4175) (fun i _ => ks.length - (intOf i).toNat)
      case atStart => exact ⟨0, rfl, Nat.zero_le _, (by rw [R0.out, List.append_nil]; exact I5.out), W5.out, (fun k hk => by simp at hk), (by rw [R0.out]; simp)⟩
      case round =>
        obtain ⟨t, rfl, ht, hB, hW, hsm, hlen⟩ := hrel
        obtain ⟨wo, rfl⟩ : ∃ x, x = wr := ⟨_, rfl⟩
        have hWb := hW.below
        have HBx := Lib.hid (B4.out.trans (hWb.mono (by omega)))
        have HBdx := Lib.hid hB
        have HWx := Lib.hid hW
        have HSMx := Lib.hid hsm
        have HLENx := Lib.hid hlen
        by_cases htl : t < ks.length
        · have s0 := (hWb.cell (p := ⟨w.heap.size, 0, none⟩) hbw).trans S4.out.c0
          have s1 := (hWb.cell (p := ⟨w.heap.size, 1, none⟩) hbw).trans S4.out.c1
          obtain ⟨ag, cg, e, hint⟩ := ints_nat (own_wr GAR.out (by omega) (by decide) hW)
          simp only [Value.slice.injEq] at e
          obtain ⟨rfl, _, rfl⟩ := e
          obtain ⟨ad, rfl, c0⟩ := hint t htl
          have hk := MEM.out ks[t] (List.getElem_mem htl)
          obtain ⟨rg, rfl, no, ncap, so, scap, hin⟩ := HC.out ks[t] hk
          have hin1 := hin.next HBx.out
          obtain ⟨d0, d1, d2, d3, d4, d5, dt⟩ := hin1
          have LK := Lib.hid (fun X (hX : Below wo.heap.size wo X) => LN.out ks[t] hk X (HBx.out.trans (hX.mono HBx.out.size)) _ ⟨no, ncap, so, scap, rfl, dt.next hX⟩)
          have BK := Lib.hid (BIG.out ks[t] hk)
          have LL1 := Lib.hid (LLEN.out ks[t] hk)
          have RS : Hid (rowT M l (ks.take (t + 1)) = rowT M l (ks.take t) ++ lineT M (rl l ks[t])) := Lib.hid (by rw [List.take_succ_eq_append_getElem htl, rowT_snoc])
          have SMN : Hid ((ruleT (rl l ks[t])).length ≤ 4096 → ∀ k, k ∈ ks.take (t + 1) → (ruleT (rl l k)).length ≤ 4096) := Lib.hid (fun h k hk => by
            rw [List.take_succ_eq_append_getElem htl, List.mem_append, List.mem_singleton] at hk
            rcases hk with hk | rfl
            · exact HSMx.out k hk
            · exact h)
          have ls := cell_lt s0
          have lc := cell_lt c0
          have ld := cell_lt d0
          have h0t : (0 : Int) ≤ t := by omega
          have h1t : (t : Int) < (ks.length : Int) := by omega
          have hk0 : (0 : Int) ≤ (ks[t] : Nat) := by omega
          have hk1 : ((ks[t] : Nat) : Int) < (l.length : Int) := by omega
          clear hint hin dt hB hW hsm hlen hWb
          have hbW : b < wo.heap.size := by have := HBdx.out.lt; exact this
          generalize hkk : ks[t] = kk at *
          generalize rl l kk = r at *
          clear hkk
          by_cases hbig : (ruleT r).length ≤ 4096
          · have SM2 := Lib.hid (SMN.out hbig)
            have hl1 := LL1.out hbig
            rw [if_pos hbig, if_pos hbig] at LK
            have hacc : (at' ++ mt ++ rowT M l (ks.take t)).length ≤ 200000 := by
              have := HLENx.out
              simp only [List.length_append]
              omega
            have WT2 := Lib.hid (fun X (hX : IsB b b (at' ++ mt ++ rowT M l (ks.take t)) X) => write_string b b (at' ++ mt ++ rowT M l (ks.take t)) (lineT M r) X hX (by omega))
            have hl2 := hl1
            clear BK LL1 SMN hbig LN HC BIG
            generalize lineT M r = lt at *
            generalize rowT M l (ks.take t) = rt at *
            go_upto_region 12 with fail
            go_region_held3 (fun W => W.cell? ⟨w.heap.size, 0, none⟩ = some (.slice (some ma) M.length mcap) ∧ W.cell? ⟨w.heap.size, 1, none⟩ = some (.slice (some rg) l.length rcap) ∧ W.cell? (rg.add (kk * 6)) = some (.int .i64 r.mode) ∧ W.cell? ⟨(rg.add (kk * 6)).block, (rg.add (kk * 6)).off + 1, none⟩ = some (.slice no r.t.ns.length ncap) ∧ W.cell? ⟨(rg.add (kk * 6)).block, (rg.add (kk * 6)).off + 2, none⟩ = some (.slice so r.t.sets.length scap) ∧ W.cell? ⟨(rg.add (kk * 6)).block, (rg.add (kk * 6)).off + 3, none⟩ = some (.int .i64 r.t.root) ∧ W.cell? ⟨(rg.add (kk * 6)).block, (rg.add (kk * 6)).off + 4, none⟩ = some (.string r.em) ∧ W.cell? ⟨(rg.add (kk * 6)).block, (rg.add (kk * 6)).off + 5, none⟩ = some (.int .i64 r.go)) (first | with_reducible exact ⟨s0, s1, d0, d1, d2, d3, d4, d5⟩ | with_reducible exact ⟨ks0, ks1, kd0, kd1, kd2, kd3, kd4, kd5⟩ | go_keep)
              (first | (go_at_call 22; (with_reducible refine (LK.out _ Ms.below_drew1).mono ?_); rintro e w6 ⟨rfl, hb6'⟩; go_must (have hb6 := Ms.drew_back hb6'; have ks0 := cell_next s0 hb6; have ks1 := cell_next s1 hb6; have kd0 := cell_next d0 hb6; have kd1 := cell_next d1 hb6; have kd2 := cell_next d2 hb6; have kd3 := cell_next d3 hb6; have kd4 := cell_next d4 hb6; have kd5 := cell_next d5 hb6; have W6 := Lib.hid (HWx.out.trans (Wr.of_below hb6 (by omega))); have WT6 := Lib.hid (WT2.out _ (HBdx.out.next hb6)); clear hb6 hb6')) | fail)
            all_goals (
              go_wp2_with (first
                | (go_at_call 21; (with_reducible refine WT6.out.mono ?_); rintro e w7 ⟨rfl, hI7, hW7⟩; go_must (have I7 := Lib.hid hI7; have W7 := Lib.hid (W6.out.trans hW7); clear hI7 hW7))
                | fail)
              go_roundw
              case rel => exact ⟨t + 1, by go_num, by omega, (by rw [RS.out, ← List.append_assoc]; exact I7.out), W7.out, SM2.out, (by rw [RS.out, List.length_append]; have := HLENx.out; omega)⟩
              case measure => simp [intOf]; omega)
          · have hbig' : 4096 < (ruleT r).length := by omega
            have BKP := Lib.hid (BK.out hbig')
            rw [if_neg hbig, if_neg hbig] at LK
            clear BK LL1 SMN hbig hbig' LN HC BIG
            go_upto_region 12 with fail
            go_region_held3 (fun W => W.cell? ⟨w.heap.size, 0, none⟩ = some (.slice (some ma) M.length mcap) ∧ W.cell? ⟨w.heap.size, 1, none⟩ = some (.slice (some rg) l.length rcap) ∧ W.cell? (rg.add (kk * 6)) = some (.int .i64 r.mode) ∧ W.cell? ⟨(rg.add (kk * 6)).block, (rg.add (kk * 6)).off + 1, none⟩ = some (.slice no r.t.ns.length ncap) ∧ W.cell? ⟨(rg.add (kk * 6)).block, (rg.add (kk * 6)).off + 2, none⟩ = some (.slice so r.t.sets.length scap) ∧ W.cell? ⟨(rg.add (kk * 6)).block, (rg.add (kk * 6)).off + 3, none⟩ = some (.int .i64 r.t.root) ∧ W.cell? ⟨(rg.add (kk * 6)).block, (rg.add (kk * 6)).off + 4, none⟩ = some (.string r.em) ∧ W.cell? ⟨(rg.add (kk * 6)).block, (rg.add (kk * 6)).off + 5, none⟩ = some (.int .i64 r.go)) (first | with_reducible exact ⟨s0, s1, d0, d1, d2, d3, d4, d5⟩ | with_reducible exact ⟨ks0, ks1, kd0, kd1, kd2, kd3, kd4, kd5⟩ | go_keep)
              (first | (go_at_call 22; (with_reducible refine (LK.out _ Ms.below_drew1).mono ?_); rintro e w6 ⟨rfl, hb6'⟩; go_must (have hb6 := Ms.drew_back hb6'; have ks0 := cell_next s0 hb6; have ks1 := cell_next s1 hb6; have kd0 := cell_next d0 hb6; have kd1 := cell_next d1 hb6; have kd2 := cell_next d2 hb6; have kd3 := cell_next d3 hb6; have kd4 := cell_next d4 hb6; have kd5 := cell_next d5 hb6; have HB6 := Lib.hid (HBx.out.trans (hb6.mono HBx.out.size)); clear hb6 hb6')) | fail)
            all_goals (
              go_wp2_with fail
              go_ret2
              exact ⟨by rw [BKP.out.1, BKP.out.2]; rfl, HB6.out⟩)
        · obtain rfl : t = ks.length := by omega
          have hI := hB
          rw [List.take_length] at hI hsm hlen
          have HI7 := Lib.hid hI
          have HW7 := Lib.hid hW
          have HS7 := Lib.hid hsm
          have HL7 := Lib.hid hlen
          clear hB hI hW hsm hlen hWb
          go_wp2_with fail
          go_roundw
          case rel => exact ⟨j + 1, by go_num, by omega, (by rw [MA.out]; exact HI7.out), HW7.out, (fun k hk => by
            rw [GSj.out, List.mem_append] at hk
            rcases hk with hk | hk
            · exact HSM.out k hk
            · exact HS7.out k hk), (by rw [MA.out, GSj.out]; simp only [List.length_append]; have := HL7.out; have := HLEN.out; omega)⟩
          case measure => simp [intOf]; omega
    · obtain rfl : j = M.length := by omega
      have hno := ALLV.out hsm
      have hfit := FITS.out hno
      have PP := Lib.hid (PROK.out hno)
      have CL := Lib.hid (Tryz.Builder_Len_f b b (Lib.byteCells (allT M l M.length)) wo hB)
      have CT := Lib.hid (Tryz.Builder_String_any_f b b (allT M l M.length) wo hB (by have := hB.lt; omega))
      have hcl := Bd.cells_length (allT M l M.length)
      have HRB := Lib.hid HBo.out
      rw [hcl] at CL
      clear hno hB hW hsm hlen hWb LN HC BIG hcl A0 P0 AS GS GLE LLEN FITS PROK ALLV LL HSM HLEN
      generalize allT M l M.length = T at *
      have hT : ¬ (65536 : Int) < (T.length : Int) := by omega
      go_wp2_with (first
        | (go_at_call 23; (with_reducible refine CL.out.mono ?_); rintro e w7 ⟨rfl, hw⟩; subst hw)
        | (go_at_call 24; (with_reducible refine CT.out.mono ?_); rintro e w8 ⟨rfl, _, hb8⟩; go_must (have B8 := Lib.hid (HRB.out.trans (hb8.mono (by omega))); clear hb8))
        | fail)
      go_ret2
      exact ⟨by rw [PP.out.1, PP.out.2]; rfl, B8.out⟩
end Go.Proofs.YtgjiofkjogjhhaaGreatDoor.Sp

namespace Go.Proofs.YtgjiofkjogjhhaaGreatDoor.Sp
open Go Go.RowKit Go.Shelf
open Go.Proofs.YtgjiofkjogjhhaaGreatDoor.Ar (Nd nd Tr Ok TreeAt checkE check_ok ok_check)
open Go.Proofs.YtgjiofkjogjhhaaGreatDoor.Rg (nthL add_zero setFrom rightB_iff)
open Go.Proofs.YtgjiofkjogjhhaaGreatDoor.Ac (bE numL)
open Go.Proofs.YtgjiofkjogjhhaaGreatDoor.Rp (heapA heapB belA rngs_one textL text_set deepL deep_set)

def exM : List ByteArray := [⟨#[109, 97, 105, 110]⟩]
def exT : Tr := ⟨[⟨2, 0, 0, 0, 0, 0⟩], [[(97, 97)]], 0⟩
def exR : Rl := ⟨0, exT, bE, -1⟩
theorem ex_ok : Ok exT where
  root0 := by decide
  root1 := by decide
  sets := fun s hs => by
    have h : s = [(97, 97)] := by simpa [exT] using hs
    rw [rightB_iff]
    subst h
    simp [setFrom]
  node := fun i hi => by
    have h : i = 0 := by simp [exT] at hi; omega
    subst h; decide
theorem ex_check : checkE exT = 0 := ok_check ex_ok (by decide) (by decide)
theorem ex_text : ruleT exR = [97] := by
  unfold ruleT; rw [show exR.t = exT from rfl, show exT.root.toNat = 0 from rfl, text_set rfl]; decide
theorem ex_deep : deepL exT.ns 0 = 0 := deep_set rfl
theorem ex_nul : nulT exT = false := by
  rw [Bool.eq_false_iff]
  intro h
  rw [nulT_iff, show exT.root.toNat = 0 from rfl, Dv.den_eq (s := 1) (ex_ok.node 0 (by decide))] at h
  obtain ⟨c, hc, _⟩ := h
  cases hc
theorem ex_rule : ruleE 1 exR = 0 := by
  unfold ruleE ruleL
  rw [show exR.t = exT from rfl, ex_check, ex_nul, show exT.root.toNat = 0 from rfl, ex_deep]
  decide
theorem ex_unlike : unlikeB exM = true := by
  rw [unlike_iff]
  intro i hi
  obtain rfl : i = 0 := by simp [exM] at hi; omega
  decide +kernel
theorem ex_names : namesB exM = true := by decide +kernel
theorem ex_spec : specE exM [exR] = 0 := by
  unfold specE specL rulesE
  rw [ex_unlike, ex_names, show exM.length = 1 from rfl, List.map_cons, ex_rule]
  decide
theorem ex_small : ¬ tooL [exR] := by
  rintro ⟨k, hk, h⟩
  obtain rfl : k = 0 := by simp at hk; omega
  rw [show rl [exR] 0 = exR from rfl, ex_text] at h
  simp at h
theorem ex_s : prS exM [exR] = [109, 111, 100, 101, 32, 109, 97, 105, 110, 10, 115, 107, 105, 112, 32, 58, 32, 97, 10] := by
  rw [(pr_ok ex_small exM).1, show exM.length = 0 + 1 from rfl, allT_succ, allT_zero, show idxs [exR] 0 [exR].length = [0] by decide]
  unfold rowT lineT
  rw [List.flatMap_cons, List.flatMap_nil, show rl [exR] 0 = exR from rfl, ex_text]
  decide +kernel
theorem ex_e : prE [exR] = 0 := (pr_ok ex_small exM).2
theorem ex_fit : FitS exM [exR] where
  names := fun j hj => by
    obtain rfl : j = 0 := by simp [exM] at hj; omega
    decide
  rules := fun i hi => by
    obtain rfl : i = 0 := by simp at hi; omega
    exact ⟨by decide, fun k hk => by
      obtain rfl : k = 0 := by simpa [rl, exR, exT] using hk
      decide⟩
theorem ex_grp : (grpL [exR] 1).length = 1 := by decide
theorem ex_fitc (i : Nat) (hi : i < [exR].length) : FitC (rl [exR] i) := by
  obtain rfl : i = 0 := by simp at hi; omega
  exact ⟨by decide, by decide, by decide, fun k hk => by
    obtain rfl : k = 0 := by simpa [rl, exR, exT] using hk
    decide⟩

theorem ex_at {W : World} {b1 b2 b3 b4 b5 : Nat} (h1 : W.heap[b1]? = some (.cells #[.string ⟨#[109, 97, 105, 110]⟩] 9 (0, 0))) (h2 : W.heap[b2]? = some (.cells #[.int .i64 2, .int .i64 0, .int .i64 0, .int .i64 0, .int .i64 0, .int .i64 0] 70 (0, 0)))
    (h3 : W.heap[b3]? = some (.cells #[.int .i64 97, .int .i64 97] 75 (0, 0))) (h4 : W.heap[b4]? = some (.cells #[.slice (some ⟨b3, 0, none⟩) 1 1] 71 (0, 0)))
    (h5 : W.heap[b5]? = some (.cells #[.int .i64 0, .slice (some ⟨b2, 0, none⟩) 1 1, .slice (some ⟨b4, 0, none⟩) 1 1, .int .i64 0, .string ⟨#[]⟩, .int .i64 (-1)] 40 (0, 0))) : SpecAt W (.agg #[.slice (some ⟨b1, 0, none⟩) 1 1, .slice (some ⟨b5, 0, none⟩) 1 1]) exM [exR] := by
  refine ⟨_, _, rfl, .inr ⟨_, 1, rfl, by unfold maxLen; decide, fun i hi => ?_⟩, .inr ⟨_, 1, rfl, by unfold maxLen; decide, fun i hi => ?_⟩, fun ao n c e => by cases e; exact Nat.le_refl _⟩
  · obtain rfl : i = 0 := by simp [exM] at hi; omega
    rw [add_zero, Lib.cell_of_heap h1]; rfl
  · obtain rfl : i = 0 := by simp at hi; omega
    rw [add_zero]
    refine ⟨some ⟨b2, 0, none⟩, 1, some ⟨b4, 0, none⟩, 1, ?_⟩
    refine ⟨?_, ?_, ?_, ?_, ?_, ?_, _, _, rfl, .inr ⟨_, 1, rfl, by unfold maxLen; decide, fun i hi => ?_⟩, .inr ⟨_, 1, rfl, by unfold maxLen; decide, fun i hi => ?_⟩⟩
    · rw [Lib.cell_of_heap h5]; rfl
    · rw [Lib.cell_of_heap h5]; rfl
    · rw [Lib.cell_of_heap h5]; rfl
    · rw [Lib.cell_of_heap h5]; rfl
    · rw [Lib.cell_of_heap h5]; rfl
    · rw [Lib.cell_of_heap h5]; rfl
    · obtain rfl : i = 0 := by simp [rl, exR, exT] at hi; omega
      rw [add_zero]
      constructor <;> (rw [Lib.cell_of_heap h2]; rfl)
    · obtain rfl : i = 0 := by simp [rl, exR, exT] at hi; omega
      rw [add_zero]
      exact ⟨_, by rw [Lib.cell_of_heap h4]; rfl, rngs_one h3⟩

def SomeOut (w : World) (e : Ending) (w' : World) : Prop := ∃ v, e = .returned v ∧ SpecAt w' v exM [exR] ∧ Below w.heap.size w w'
set_option maxRecDepth 100000 in
set_option maxHeartbeats 4000000 in
theorem some_any (w : World) : Calls Tryz.prog 16 #[] w (SomeOut w) := by
  go_enter Tryz.func16, Tryz.ntmps16
  go_wp2
  (try simp only [Exit.inBlock, Exit.then])
  refine bodyPost_ret (results_cell_row rfl _ _ w.heap.size 25 #[.slice (some ⟨w.heap.size + 1, 0, none⟩) 1 1, .slice (some ⟨w.heap.size + 1 + 1 + 1 + 1 + 1, 0, none⟩) 1 1] (0, 0) _ rfl (by repeat (first | (refine heapA ?_; simp; done) | refine heapB ?_)) Tryz.underlying25 rfl (by kernel_rfl)) rfl ?_
  refine ⟨_, rfl, ex_at (b2 := w.heap.size + 1 + 1) (b3 := w.heap.size + 1 + 1 + 1) (b4 := w.heap.size + 1 + 1 + 1 + 1) ?_ ?_ ?_ ?_ ?_, ?_⟩
  · repeat (first | (refine heapA ?_; simp; done) | refine heapB ?_)
  · repeat (first | (refine heapA ?_; simp; done) | refine heapB ?_)
  · repeat (first | (refine heapA ?_; simp; done) | refine heapB ?_)
  · repeat (first | (refine heapA ?_; simp; done) | refine heapB ?_)
  · repeat (first | (refine heapA ?_; simp; done) | refine heapB ?_)
  · exact belA (belA (belA (belA (belA (belA (Below.refl _ _))))))
theorem own_shape {w : World} {B n : Nat} {v : Value} {xs : List Value} (h : w.ownsRow B 40 6 v n xs) : ∃ ao cap, v = .slice ao n cap := by
  obtain ⟨a, c, e, _⟩ := own_slice h
  exact ⟨a, c, e⟩
set_option maxRecDepth 100000 in
set_option maxHeartbeats 4000000 in
theorem alive_any (w : World) (hst : Dg.St w) : Calls Tryz.prog 6 #[] w fun e w' => e = .returned (.bool true) ∧ Below w.heap.size w w' := by
  have CS := Lib.hid some_any
  unfold SomeOut at CS
  have CP := Lib.hid (fun v W (hW : Below w.heap.size w W) (h : SpecAt W v exM [exR]) => print_ok exM [exR] v W h ex_fit (spec_ok ex_spec) ex_spec (by decide) (hst.next hW))
  have CC := Lib.hid (fun v W (h : SpecAt W v exM [exR]) => check_spec v h ex_fit)
  have CG := Lib.hid (fun v W (h : SpecAt W v exM [exR]) => grouped_any exM [exR] v W h (by decide) (by decide) ex_fitc)
  unfold RetP at CP
  rw [ex_s, ex_e] at CP
  rw [ex_spec] at CC
  have HL : Hid (∀ cs : List Cp, cs.map (·.k) = grpL [exR] exM.length → cs.length = 1) := Lib.hid (fun cs h => by have := congrArg List.length h; rw [List.length_map] at this; rw [this]; exact ex_grp)
  unfold GrdOut at CG
  clear hst
  go_enter Tryz.func6, Tryz.ntmps6
  go_wp2_with (first
    | (go_at_call 16; (with_reducible refine (CS.out _).mono ?_); rintro e w1 ⟨v, rfl, ht, hb⟩; go_must ((first | (have B5 := Lib.hid (B4.out.trans (hb.mono B4.out.size)); have T5 := Lib.hid ht) | (have B3 := Lib.hid (B2.out.trans (hb.mono B2.out.size)); have T3 := Lib.hid ht) | (have B1 := Lib.hid hb; have T1 := Lib.hid ht)); clear ht hb))
    | (go_at_call 8; (with_reducible refine (CP.out _ _ B1.out T1.out).mono ?_); rintro e w2 ⟨rfl, hb⟩; go_must (have B2 := Lib.hid (B1.out.trans (hb.mono B1.out.size)); clear hb))
    | (go_at_call 9; (with_reducible refine (CC.out _ _ T3.out).mono ?_); rintro e w4 ⟨rfl, hb⟩; go_must (have B4 := Lib.hid (B3.out.trans (hb.mono B3.out.size)); clear hb))
    | (go_at_call 11; (with_reducible refine (CG.out _ _ T5.out).mono ?_); rintro e w6 ⟨vg, cs, rfl, hrow, hcs, hb⟩; go_must (obtain ⟨ga, gc, rfl⟩ := own_shape hrow; have hl := HL.out cs hcs; rw [hl]; have B6 := Lib.hid (B5.out.trans (hb.mono B5.out.size)); clear hb hrow hcs))
    | fail)
  go_ret
  exact ⟨rfl, B6.out⟩
end Go.Proofs.YtgjiofkjogjhhaaGreatDoor.Sp

namespace Go.Proofs.YtgjiofkjogjhhaaGreatDoor.Rp
open Go Go.RowKit Go.Shelf
open Go.Proofs.YtgjiofkjogjhhaaGreatDoor.Ar (Nd nd Tr Ok TreeAt NodeAt nodeB_ways nodeB reck gZ Near gZ_far TBox)
open Go.Proofs.YtgjiofkjogjhhaaGreatDoor.Rg (R RngsAt nth nthL rightB)

/-- no text of a tree that is near is too long -/
theorem near_len {t : Tr} (ht : Ok t) (hn : Near t) {i : Nat} (hi : i < t.ns.length) : (textL t.sets t.ns i).length ≤ 4000000 := by
  have h1 := text_len ht hn.each i hi
  have h2 := gZ_far ht i hi
  have h3 := hn.size i hi
  omega
/-- what a call tells: a text; nothing that stood has changed -/
def Tells (s : Tx) (w : World) (e : Ending) (w' : World) : Prop := e = .returned (.string ⟨s.toArray⟩) ∧ Below w.heap.size w w'

set_option maxRecDepth 100000 in
set_option maxHeartbeats 1600000 in
theorem rpart_any (t : Tr) (j : Nat) (s : Tx) (hs : s.length ≤ 4000000) (C : ∀ (v : Value) (w : World), TreeAt w v t → Calls Tryz.prog 35 #[v, .int .i64 j] w (Tells s w)) (q : Bool) (v : Value) (w : World) (hv : TreeAt w v t) :
    Calls Tryz.prog 52 #[v, .int .i64 j, .bool q] w (Tells (wrapL q s) w) := by
  unfold Tells at *
  have HV := Lib.hid hv
  have HC := Lib.hid C
  obtain ⟨ao, cap, so, scap, rfl, _, _, _, _⟩ := hv.shape
  have B1 := Lib.hid ((Below.refl w.heap.size w).alloc (Nat.le_refl _) (.cells #[.slice ao t.ns.length cap, .slice so t.sets.length scap, .int .i64 t.root] 38))
  clear hv C
  cases q
  all_goals (
    go_enter Tryz.func52, Tryz.ntmps52
    go_wp2_with (go_at_call 35; (with_reducible refine (HC.out _ _ (HV.out.next B1.out)).mono ?_); rintro e w1 ⟨rfl, hb1⟩)
    go_ret
    exact ⟨ret_t (by simp [wrapL, ByteArray.ext_iff]), B1.out.trans (hb1.mono (by simp))⟩)

theorem opB_one (l : List Nd) (x : Int) (k : Int) : opB l x [k] = ((nd l x.toNat).op == k) := by simp [opB]; rfl
theorem opB_two (l : List Nd) (x : Int) : opB l x [3, 4] = ((nd l x.toNat).op == 3 || (nd l x.toNat).op == 4) := by simp [opB]; rfl
theorem opB_three (l : List Nd) (x : Int) : opB l x [3, 4, 5] = ((nd l x.toNat).op == 3 || ((nd l x.toNat).op == 4 || (nd l x.toNat).op == 5)) := by simp [opB]; rfl

/-- two boxes: a tree's, and a node's behind it -/
structure TN (w : World) (vn vs : Value) (r : Int) (n : Nd) (W : World) : Prop where
  t0 : W.cell? ⟨w.heap.size, 0, none⟩ = some vn
  t1 : W.cell? ⟨w.heap.size, 1, none⟩ = some vs
  t2 : W.cell? ⟨w.heap.size, 2, none⟩ = some (.int .i64 r)
  n1 : W.cell? ⟨w.heap.size + 1, 1, none⟩ = some (.int .i64 n.a)
  n2 : W.cell? ⟨w.heap.size + 1, 2, none⟩ = some (.int .i64 n.b)
  n3 : W.cell? ⟨w.heap.size + 1, 3, none⟩ = some (.int .i64 n.lo)
  n4 : W.cell? ⟨w.heap.size + 1, 4, none⟩ = some (.int .i64 n.hi)
  below : Below w.heap.size w W
theorem TN.next {w W W' : World} {vn vs : Value} {r : Int} {n : Nd} (h : TN w vn vs r n W) (hb : Below W.heap.size W W') : TN w vn vs r n W' :=
  ⟨cell_next h.t0 hb, cell_next h.t1 hb, cell_next h.t2 hb, cell_next h.n1 hb, cell_next h.n2 hb, cell_next h.n3 hb, cell_next h.n4 hb, h.below.trans (hb.mono h.below.size)⟩
theorem TN.new (w : World) (vn vs : Value) (r : Int) (n : Nd) : TN w vn vs r n (((w.alloc (.cells #[vn, vs, .int .i64 r] 38)).alloc (.cells #[.int .i64 n.op, .int .i64 n.a, .int .i64 n.b, .int .i64 n.lo, .int .i64 n.hi, .int .i64 n.set] 70)).drew) := by
  refine ⟨?_, ?_, ?_, ?_, ?_, ?_, ?_, (((Below.refl w.heap.size w).alloc (Nat.le_refl _) _).alloc (by simp) _).drew⟩
  all_goals (show World.cell? (World.alloc _ _) _ = _; simp)

set_option maxRecDepth 100000 in
set_option maxHeartbeats 8000000 in
theorem rprint_any (t : Tr) (ht : Ok t) (hnr : Near t) : ∀ (i : Nat), i < t.ns.length → ∀ (v : Value) (w : World), TreeAt w v t →
    Calls Tryz.prog 35 #[v, .int .i64 i] w (Tells (textL t.sets t.ns i) w) := by
  intro i
  induction i using Nat.strongRecOn with
  | ind i ih =>
    intro hi v w hv
    have HV := Lib.hid hv
    obtain ⟨ao, cap, so, scap, rfl, hm, hm2, hn, hss⟩ := hv.shape
    obtain ⟨g, rfl, hN⟩ := hn i hi
    obtain ⟨c0, c1, c2, c3, c4, c5⟩ := hN
    have hlt := cell_lt c0
    have CP := Lib.hid (fun (j : Nat) (hj : j < i) => rpart_any t j _ (near_len ht hnr (i := j) (by omega)) (ih j hj (by omega)))
    have hop : ∀ j : Nat, j < t.ns.length → w.cell? (g.add (j * 6)) = some (.int .i64 (nd t.ns j).op) := fun j hj => by
      obtain ⟨g', e, h⟩ := hn j hj
      have e' : g = g' := Option.some.inj e
      rw [e']; exact h.c0
    have HT1 := Lib.hid (fun h => text_one (S := t.sets) (l := t.ns) (i := i) h)
    have HT2 := Lib.hid (fun h => text_set (S := t.sets) (l := t.ns) (i := i) h)
    have HT3 := Lib.hid (fun h ha hb => text_cat (S := t.sets) (l := t.ns) (i := i) h ha hb)
    have HT4 := Lib.hid (fun h ha hb => text_alt (S := t.sets) (l := t.ns) (i := i) h ha hb)
    have HT5 := Lib.hid (fun h ha => text_rep (S := t.sets) (l := t.ns) (i := i) h ha)
    have HTM := Lib.hid (fun h => times_le (rep_times (ht.node i hi) h))
    have HNW := Lib.hid (TN.new w (.slice (some g) t.ns.length cap) (.slice so t.sets.length scap) t.root (nd t.ns i))
    have HOP := Lib.hid hop
    have HLN := Lib.hid (fun j (hj : j < t.ns.length) => near_len ht hnr (i := j) hj)
    have b2 := Lib.hid (((Below.refl w.heap.size w).alloc (Nat.le_refl _) (.cells #[.slice (some g) t.ns.length cap, .slice so t.sets.length scap, .int .i64 t.root] 38)).alloc (by simp) (.cells #[.int .i64 (nd t.ns i).op, .int .i64 (nd t.ns i).a, .int .i64 (nd t.ns i).b, .int .i64 (nd t.ns i).lo, .int .i64 (nd t.ns i).hi, .int .i64 (nd t.ns i).set] 70))
    clear hop hn ih
    rcases nodeB_ways (ht.node i hi) with ⟨h1, _⟩ | ⟨h1, h2⟩ | ⟨h1 | h1, h2⟩ | ⟨h1, h2⟩
    · have HE := Lib.hid (HT1.out h1)
      clear HT1 HT2 HT3 HT4 HT5 HTM CP HOP HLN hss ht hnr
      generalize textL t.sets t.ns i = E at *
      generalize nd t.ns i = n at *
      obtain ⟨op, na, nb, lo, hi', st⟩ := n
      dsimp only at *
      subst h1
      go_enter Tryz.func35, Tryz.ntmps35
      go_wp2
      go_ret
      exact ⟨ret_t (by rw [HE.out]), ((Below.refl w.heap.size w).alloc (Nat.le_refl _) _).alloc (by simp) _⟩
    · have HE := Lib.hid (HT2.out h1)
      have hs0 : 0 ≤ (nd t.ns i).set ∧ (nd t.ns i).set < t.sets.length := ⟨h2.2.2.2.2.1, h2.2.2.2.2.2⟩
      obtain ⟨k, hk⟩ := Int.eq_ofNat_of_zero_le hs0.1
      have hks : k < t.sets.length := by omega
      obtain ⟨gs, x, rfl, x1, x2⟩ := hss k hks
      have CS := Lib.hid (fun W (hb : Below w.heap.size w W) => setr_any (nthL t.sets k) x W (x2.next hb) (ht.sets _ (by rw [Rg.nthL_eq hks]; exact List.getElem_mem hks)) (hnr.each k hks))
      have y1 := cell_next x1 b2.out
      rw [hk, Int.toNat_natCast] at HE
      clear HT1 HT2 HT3 HT4 HT5 HTM CP HOP HLN hss ht hnr hs0 x1 x2 h2
      generalize textL t.sets t.ns i = E at *
      generalize nd t.ns i = n at *
      obtain ⟨op, na, nb, lo, hi', st⟩ := n
      dsimp only at *
      subst h1 hk
      go_enter Tryz.func35, Tryz.ntmps35
      go_wp2_with (go_at_call 51; (with_reducible refine (CS.out _ b2.out).mono ?_); rintro e w1 ⟨rfl, hb1⟩)
      go_ret
      exact ⟨ret_t (by rw [HE.out]), b2.out.trans (hb1.mono (by simp; omega))⟩
    · have hab : 0 ≤ (nd t.ns i).a ∧ (nd t.ns i).a < i ∧ 0 ≤ (nd t.ns i).b ∧ (nd t.ns i).b < i := ⟨h2.1, h2.2.1, h2.2.2.1, h2.2.2.2.1⟩
      obtain ⟨ha0, ha1, hb0, hb1⟩ := hab
      have HE := Lib.hid (HT3.out h1 (by omega) (by omega))
      obtain ⟨a, ha⟩ := Int.eq_ofNat_of_zero_le ha0
      obtain ⟨b, hb⟩ := Int.eq_ofNat_of_zero_le hb0
      have hai : a < i := by omega
      have hbi : b < i := by omega
      have ca := Lib.hid (CP.out a hai)
      have cb := Lib.hid (CP.out b hbi)
      have la := HLN.out a (by omega)
      have lb := HLN.out b (by omega)
      have pa := cell_next (HOP.out a (by omega)) b2.out
      have pb := cell_next (HOP.out b (by omega)) b2.out
      simp only [opB_one, opB_two] at HE
      rw [ha, hb, Int.toNat_natCast, Int.toNat_natCast] at HE
      clear HT1 HT2 HT3 HT4 HT5 HTM CP HOP HLN hss ht hnr h2 ha0 ha1 hb0 hb1
      unfold Tells at ca cb ⊢
      generalize textL t.sets t.ns i = E at *
      generalize textL t.sets t.ns a = TA at *
      generalize textL t.sets t.ns b = TB at *
      generalize (nd t.ns a).op = oa at *
      generalize (nd t.ns b).op = ob at *
      generalize nd t.ns i = n at *
      obtain ⟨op, na, nb, lo, hi', st⟩ := n
      dsimp only at *
      subst h1 ha hb
      have w1 := wrap_len (oa == 4) TA
      obtain ⟨q, hq, hqb⟩ : ∃ q : Bool, q = (ob == 3 || ob == 4) ∧ (((ob == 3) = true ∧ q = true) ∨ ((ob == 3) = false ∧ q = (ob == 4))) := ⟨_, rfl, by cases (ob == 3) <;> simp⟩
      have w2 := wrap_len q TB
      obtain ⟨x1, q1, z1, j1⟩ := run_join ⟨(wrapL (oa == 4) TA).toArray⟩ ⟨(wrapL q TB).toArray⟩ (by rw [size_mk, size_mk]; omega)
      have HX := Lib.hid (show x1 = ⟨E.toArray⟩ by rw [q1, HE.out, ← hq]; simp [ByteArray.ext_iff])
      clear q1 z1 HE hq w1 w2
      have ca := Lib.hid (fun v W (h : TreeAt W v t) => ca.out (oa == 4) v W h)
      have cb := Lib.hid (fun v W (h : TreeAt W v t) => cb.out q v W h)
      generalize wrapL (oa == 4) TA = PA at *
      generalize wrapL q TB = PB at *
      rcases hqb with ⟨hq1, rfl⟩ | ⟨hq1, rfl⟩
      · go_enter Tryz.func35, Tryz.ntmps35
        go_wp2
        obtain ⟨f0, f1, f2, f3, f4, f5, f6, f7⟩ := HNW.out
        dsimp only at f3 f4 f5 f6
        generalize ((w.alloc (.cells #[.slice (some g) t.ns.length cap, .slice so t.sets.length scap, .int .i64 t.root] 38)).alloc (.cells #[.int .i64 3, .int .i64 (a : Int), .int .i64 (b : Int), .int .i64 lo, .int .i64 hi', .int .i64 st] 70)) = W at *
        refine wp_region_noPanic ?_
        refine wp_region_held_drew (S := (fun W => W.cell? ⟨w.heap.size, 0, none⟩ = some (.slice (some g) t.ns.length cap) ∧ W.cell? ⟨w.heap.size, 1, none⟩ = some (.slice so t.sets.length scap) ∧ W.cell? ⟨w.heap.size, 2, none⟩ = some (.int .i64 t.root) ∧ W.cell? ⟨w.heap.size + 1, 1, none⟩ = some (.int .i64 (a : Int)) ∧ W.cell? ⟨w.heap.size + 1, 2, none⟩ = some (.int .i64 (b : Int)) ∧ W.cell? ⟨w.heap.size + 1, 3, none⟩ = some (.int .i64 lo) ∧ W.cell? ⟨w.heap.size + 1, 4, none⟩ = some (.int .i64 hi') ∧ Below w.heap.size w W)) (by kernel_rfl) ⟨f0, f1, f2, f3, f4, f5, f6, f7⟩ (fun hS => ?_)
        refine wpAnyH_take (i := 0) (v := ?_) rfl (by kernel_rfl) (by kernel_rfl) (by kernel_rfl) (fun _ _ _ h => h) (Or.inl ⟨by rfl, ?_⟩) hS ?_
        rotate_left
        · (intro W hSw; (try dsimp only at hSw); go_simp <;> with_reducible rfl)
        simp only [Act.put, List.getElem_toArray, List.getElem_cons_zero, List.setIfInBounds_toArray, List.set_cons_zero, List.set_cons_succ]
        refine wpAnyH_take (i := 1) (v := ?_) rfl (by kernel_rfl) (by kernel_rfl) (by kernel_rfl) (fun _ _ _ h => h) (Or.inl ⟨by rfl, ?_⟩) hS ?_
        rotate_left
        · (intro W hSw; (try dsimp only at hSw); go_simp <;> with_reducible rfl)
        simp only [Act.put, List.getElem_toArray, List.getElem_cons_succ, List.getElem_cons_zero, List.setIfInBounds_toArray, List.set_cons_zero, List.set_cons_succ]
        refine wpAnyH_take (i := 2) (v := ?_) rfl (by kernel_rfl) (by kernel_rfl) (by kernel_rfl) (fun _ _ _ h => h) (Or.inl ⟨by rfl, ?_⟩) hS ?_
        rotate_left
        · (intro W hSw; (try dsimp only at hSw); go_simp <;> with_reducible rfl)
        simp only [Act.put, List.getElem_toArray, List.getElem_cons_succ, List.getElem_cons_zero, List.setIfInBounds_toArray, List.set_cons_zero, List.set_cons_succ]
        refine wpAnyH_take (i := 3) (v := ?_) rfl (by kernel_rfl) (by kernel_rfl) (by kernel_rfl) (fun _ _ _ h => h) (Or.inl ⟨by rfl, ?_⟩) hS ?_
        rotate_left
        · (intro W hSw; (try dsimp only at hSw); go_simp <;> with_reducible rfl)
        simp only [Act.put, List.getElem_toArray, List.getElem_cons_succ, List.getElem_cons_zero, List.setIfInBounds_toArray, List.set_cons_zero, List.set_cons_succ]
        refine wpAnyH_take (i := 4) (v := ?_) rfl (by kernel_rfl) (by kernel_rfl) (by kernel_rfl) (fun _ _ _ h => h) (Or.inl ⟨by rfl, ?_⟩) hS ?_
        rotate_left
        · (intro W hSw; (try dsimp only at hSw); go_simp <;> with_reducible rfl)
        simp only [Act.put, List.getElem_toArray, List.getElem_cons_succ, List.getElem_cons_zero, List.setIfInBounds_toArray, List.set_cons_zero, List.set_cons_succ]
        refine wpAnyH_take (i := 6) (v := ?_) rfl (by kernel_rfl) (by kernel_rfl) (by kernel_rfl) (fun _ _ _ h => h) (Or.inl ⟨by rfl, ?_⟩) hS ?_
        rotate_left
        · (intro W hSw; (try dsimp only at hSw); go_simp <;> with_reducible rfl)
        simp only [Act.put, List.getElem_toArray, List.getElem_cons_succ, List.getElem_cons_zero, List.setIfInBounds_toArray, List.set_cons_zero, List.set_cons_succ]
        refine wpAnyH_take (i := 7) (v := ?_) rfl (by kernel_rfl) (by kernel_rfl) (by kernel_rfl) (fun _ _ _ h => h) (Or.inl ⟨by rfl, ?_⟩) hS ?_
        rotate_left
        · (intro W hSw; (try dsimp only at hSw); go_simp <;> with_reducible rfl)
        simp only [Act.put, List.getElem_toArray, List.getElem_cons_succ, List.getElem_cons_zero, List.setIfInBounds_toArray, List.set_cons_zero, List.set_cons_succ]
        refine wpAnyH_take (i := 8) (v := ?_) rfl (by kernel_rfl) (by kernel_rfl) (by kernel_rfl) (fun _ _ _ h => h) (Or.inl ⟨by rfl, ?_⟩) hS ?_
        rotate_left
        · (intro W hSw; (try dsimp only at hSw); go_simp <;> with_reducible rfl)
        simp only [Act.put, List.getElem_toArray, List.getElem_cons_succ, List.getElem_cons_zero, List.setIfInBounds_toArray, List.set_cons_zero, List.set_cons_succ]
        refine wpAnyH_take (i := 9) (v := ?_) rfl (by kernel_rfl) (by kernel_rfl) (by kernel_rfl) (fun _ _ _ h => h) (Or.inl ⟨by rfl, ?_⟩) hS ?_
        rotate_left
        · (intro W hSw; (try dsimp only at hSw); go_simp <;> with_reducible rfl)
        simp only [Act.put, List.getElem_toArray, List.getElem_cons_succ, List.getElem_cons_zero, List.setIfInBounds_toArray, List.set_cons_zero, List.set_cons_succ]
        refine wpAnyH_take (i := 10) (v := ?_) rfl (by kernel_rfl) (by kernel_rfl) (by kernel_rfl) (fun _ _ _ h => h) (Or.inl ⟨by rfl, ?_⟩) hS ?_
        rotate_left
        · (intro W hSw; (try dsimp only at hSw); go_simp <;> with_reducible rfl)
        simp only [Act.put, List.getElem_toArray, List.getElem_cons_succ, List.getElem_cons_zero, List.setIfInBounds_toArray, List.set_cons_zero, List.set_cons_succ]
        refine wpAnyH_ready (rs := [5]) (by kernel_rfl) (by simp) ?_
        refine AllReadyH.cons rfl (fun K hK => ?_) AllReadyH.nil
        simp only [List.getElem_toArray, List.getElem_cons_succ, List.getElem_cons_zero]
        go_simp
        go_wp2_with (go_at_call 52; (with_reducible refine (ca.out _ _ (HV.out.next (by assumption))).mono ?_); rintro e w1 ⟨rfl, hb1⟩; go_must (obtain ⟨q0, q1, q2, q3, q4, q5, q6, q7⟩ := TN.next (w := w) (n := ⟨3, a, b, lo, hi', st⟩) ⟨by assumption, by assumption, by assumption, by assumption, by assumption, by assumption, by assumption, by assumption⟩ hb1))
        refine hK.out _ _ ⟨q0, q1, q2, q3, q4, q5, q6, q7⟩ (fun hS => ?_)
        clear hK K
        try simp only [Act.put, List.getElem_toArray, List.getElem_cons_succ, List.getElem_cons_zero, List.setIfInBounds_toArray, List.set_cons_zero, List.set_cons_succ]
        refine wpAnyH_take (i := 11) (v := ?_) rfl (by kernel_rfl) (by kernel_rfl) (by kernel_rfl) (fun _ _ _ h => h) (Or.inl ⟨by rfl, ?_⟩) hS ?_
        rotate_left
        · (intro W hSw; (try dsimp only at hSw); go_simp <;> with_reducible rfl)
        simp only [Act.put, List.getElem_toArray, List.getElem_cons_succ, List.getElem_cons_zero, List.setIfInBounds_toArray, List.set_cons_zero, List.set_cons_succ]
        refine wpAnyH_take (i := 12) (v := undef) rfl (by kernel_rfl) (by kernel_rfl) (by kernel_rfl) (fun _ _ _ h => h) (Or.inr ⟨by rfl, rfl⟩) hS ?_
        simp only [Act.put, List.getElem_toArray, List.getElem_cons_succ, List.getElem_cons_zero, List.setIfInBounds_toArray, List.set_cons_zero, List.set_cons_succ]
        refine wpAnyH_take (i := 13) (v := undef) rfl (by kernel_rfl) (by kernel_rfl) (by kernel_rfl) (fun _ _ _ h => h) (Or.inr ⟨by rfl, rfl⟩) hS ?_
        simp only [Act.put, List.getElem_toArray, List.getElem_cons_succ, List.getElem_cons_zero, List.setIfInBounds_toArray, List.set_cons_zero, List.set_cons_succ]
        refine wpAnyH_take (i := 14) (v := ?_) rfl (by kernel_rfl) (by kernel_rfl) (by kernel_rfl) (fun _ _ _ h => h) (Or.inl ⟨by rfl, ?_⟩) hS ?_
        rotate_left
        · (intro W hSw; (try dsimp only at hSw); go_simp <;> with_reducible rfl)
        simp only [Act.put, List.getElem_toArray, List.getElem_cons_succ, List.getElem_cons_zero, List.setIfInBounds_toArray, List.set_cons_zero, List.set_cons_succ]
        refine wpAnyH_ready (rs := [15]) (by kernel_rfl) (by simp) ?_
        refine AllReadyH.cons rfl (fun K hK => ?_) AllReadyH.nil
        simp only [List.getElem_toArray, List.getElem_cons_succ, List.getElem_cons_zero]
        go_simp
        go_wp2_with (go_at_call 52; (with_reducible refine (cb.out _ _ (HV.out.next (by assumption))).mono ?_); rintro e w1 ⟨rfl, hb1⟩; go_must (obtain ⟨q0, q1, q2, q3, q4, q5, q6, q7⟩ := TN.next (w := w) (n := ⟨3, a, b, lo, hi', st⟩) ⟨by assumption, by assumption, by assumption, by assumption, by assumption, by assumption, by assumption, by assumption⟩ hb1))
        refine hK.out _ _ ⟨q0, q1, q2, q3, q4, q5, q6, q7⟩ (fun hS => ?_)
        clear hK K
        try simp only [Act.put, List.getElem_toArray, List.getElem_cons_succ, List.getElem_cons_zero, List.setIfInBounds_toArray, List.set_cons_zero, List.set_cons_succ]
        refine wpAnyH_take (i := 16) (v := ?_) rfl (by kernel_rfl) (by kernel_rfl) (by kernel_rfl) (fun _ _ _ h => h) (Or.inl ⟨by rfl, ?_⟩) hS ?_
        rotate_left
        · (intro W hSw; (try dsimp only at hSw); go_simp <;> with_reducible rfl)
        simp only [Act.put, List.getElem_toArray, List.getElem_cons_succ, List.getElem_cons_zero, List.setIfInBounds_toArray, List.set_cons_zero, List.set_cons_succ]
        refine wpAnyH_take (i := 17) (v := ?_) rfl (by kernel_rfl) (by kernel_rfl) (by kernel_rfl) (fun _ _ _ h => h) (Or.inl ⟨by rfl, ?_⟩) hS ?_
        rotate_left
        · (intro W hSw; (try dsimp only at hSw); go_simp <;> with_reducible rfl)
        simp only [Act.put, List.getElem_toArray, List.getElem_cons_succ, List.getElem_cons_zero, List.setIfInBounds_toArray, List.set_cons_zero, List.set_cons_succ]
        refine wpAnyH_done (by kernel_rfl) ?_ _
        refine NoPanic.normal ?_
        go_wp2
        go_ret
        exact ⟨ret_t HX.out, by assumption⟩
      · go_enter Tryz.func35, Tryz.ntmps35
        go_wp2
        obtain ⟨f0, f1, f2, f3, f4, f5, f6, f7⟩ := HNW.out
        dsimp only at f3 f4 f5 f6
        generalize ((w.alloc (.cells #[.slice (some g) t.ns.length cap, .slice so t.sets.length scap, .int .i64 t.root] 38)).alloc (.cells #[.int .i64 3, .int .i64 (a : Int), .int .i64 (b : Int), .int .i64 lo, .int .i64 hi', .int .i64 st] 70)) = W at *
        go_region_held3 (fun W => W.cell? ⟨w.heap.size, 0, none⟩ = some (.slice (some g) t.ns.length cap) ∧ W.cell? ⟨w.heap.size, 1, none⟩ = some (.slice so t.sets.length scap) ∧ W.cell? ⟨w.heap.size, 2, none⟩ = some (.int .i64 t.root) ∧ W.cell? ⟨w.heap.size + 1, 1, none⟩ = some (.int .i64 (a : Int)) ∧ W.cell? ⟨w.heap.size + 1, 2, none⟩ = some (.int .i64 (b : Int)) ∧ W.cell? ⟨w.heap.size + 1, 3, none⟩ = some (.int .i64 lo) ∧ W.cell? ⟨w.heap.size + 1, 4, none⟩ = some (.int .i64 hi') ∧ Below w.heap.size w W) (first | exact ⟨by assumption, by assumption, by assumption, by assumption, by assumption, by assumption, by assumption, by assumption⟩ | go_keep)
          (first
            | (go_at_call 52; (first | (with_reducible refine (ca.out _ _ (HV.out.next (by assumption))).mono ?_) | (with_reducible refine (cb.out _ _ (HV.out.next (by assumption))).mono ?_)); rintro e w1 ⟨rfl, hb1⟩; go_must (obtain ⟨q0, q1, q2, q3, q4, q5, q6, q7⟩ := TN.next (w := w) (n := ⟨3, a, b, lo, hi', st⟩) ⟨by assumption, by assumption, by assumption, by assumption, by assumption, by assumption, by assumption, by assumption⟩ hb1))
            | fail)
        all_goals (
          go_wp2
          go_ret
          exact ⟨ret_t HX.out, by assumption⟩)
    · have hab : 0 ≤ (nd t.ns i).a ∧ (nd t.ns i).a < i ∧ 0 ≤ (nd t.ns i).b ∧ (nd t.ns i).b < i := ⟨h2.1, h2.2.1, h2.2.2.1, h2.2.2.2.1⟩
      obtain ⟨ha0, ha1, hb0, hb1⟩ := hab
      have HE := Lib.hid (HT4.out h1 (by omega) (by omega))
      obtain ⟨a, ha⟩ := Int.eq_ofNat_of_zero_le ha0
      obtain ⟨b, hb⟩ := Int.eq_ofNat_of_zero_le hb0
      have hai : a < i := by omega
      have hbi : b < i := by omega
      have ca := Lib.hid (CP.out a hai)
      have cb := Lib.hid (CP.out b hbi)
      have la := HLN.out a (by omega)
      have lb := HLN.out b (by omega)
      have pa := cell_next (HOP.out a (by omega)) b2.out
      have pb := cell_next (HOP.out b (by omega)) b2.out
      simp only [opB_one] at HE
      rw [ha, hb, Int.toNat_natCast, Int.toNat_natCast] at HE
      clear HT1 HT2 HT3 HT4 HT5 HTM CP HOP HLN hss ht hnr h2 ha0 ha1 hb0 hb1
      unfold Tells at ca cb ⊢
      generalize textL t.sets t.ns i = E at *
      generalize textL t.sets t.ns a = TA at *
      generalize textL t.sets t.ns b = TB at *
      generalize (nd t.ns a).op = oa at *
      generalize (nd t.ns b).op = ob at *
      generalize nd t.ns i = n at *
      obtain ⟨op, na, nb, lo, hi', st⟩ := n
      dsimp only at *
      subst h1 ha hb
      have w2 := wrap_len (ob == 4) TB
      obtain ⟨x1, q1, z1, j1⟩ := run_join ⟨TA.toArray⟩ ⟨#[124]⟩ (by rw [size_mk]; show _ + 1 ≤ _; omega)
      have y1 : x1.size = TA.length + 1 := z1
      obtain ⟨x2, q2, z2, j2⟩ := run_join x1 ⟨(wrapL (ob == 4) TB).toArray⟩ (by show x1.size + (wrapL (ob == 4) TB).length ≤ _; omega)
      have HX := Lib.hid (show x2 = ⟨E.toArray⟩ by rw [q2, q1, HE.out]; simp [ByteArray.ext_iff])
      clear q1 z1 q2 z2 y1 HE w2
      have ca := Lib.hid (fun v W (h : TreeAt W v t) => ca.out false v W h)
      have cb := Lib.hid (fun v W (h : TreeAt W v t) => cb.out (ob == 4) v W h)
      rw [show wrapL false TA = TA from rfl] at ca
      generalize wrapL (ob == 4) TB = PB at *
      go_enter Tryz.func35, Tryz.ntmps35
      go_wp2
      obtain ⟨f0, f1, f2, f3, f4, f5, f6, f7⟩ := HNW.out
      dsimp only at f3 f4 f5 f6
      generalize ((w.alloc (.cells #[.slice (some g) t.ns.length cap, .slice so t.sets.length scap, .int .i64 t.root] 38)).alloc (.cells #[.int .i64 4, .int .i64 (a : Int), .int .i64 (b : Int), .int .i64 lo, .int .i64 hi', .int .i64 st] 70)) = W at *
      go_region_held3 (fun W => W.cell? ⟨w.heap.size, 0, none⟩ = some (.slice (some g) t.ns.length cap) ∧ W.cell? ⟨w.heap.size, 1, none⟩ = some (.slice so t.sets.length scap) ∧ W.cell? ⟨w.heap.size, 2, none⟩ = some (.int .i64 t.root) ∧ W.cell? ⟨w.heap.size + 1, 1, none⟩ = some (.int .i64 (a : Int)) ∧ W.cell? ⟨w.heap.size + 1, 2, none⟩ = some (.int .i64 (b : Int)) ∧ W.cell? ⟨w.heap.size + 1, 3, none⟩ = some (.int .i64 lo) ∧ W.cell? ⟨w.heap.size + 1, 4, none⟩ = some (.int .i64 hi') ∧ Below w.heap.size w W) (first | exact ⟨by assumption, by assumption, by assumption, by assumption, by assumption, by assumption, by assumption, by assumption⟩ | go_keep)
        (first
          | (go_at_call 52; (first | (with_reducible refine (ca.out _ _ (HV.out.next (by assumption))).mono ?_) | (with_reducible refine (cb.out _ _ (HV.out.next (by assumption))).mono ?_)); rintro e w1 ⟨rfl, hb1⟩; go_must (obtain ⟨q0, q1, q2, q3, q4, q5, q6, q7⟩ := TN.next (w := w) (n := ⟨4, a, b, lo, hi', st⟩) ⟨by assumption, by assumption, by assumption, by assumption, by assumption, by assumption, by assumption, by assumption⟩ hb1))
          | fail)
      all_goals (
        go_wp2
        go_ret
        exact ⟨ret_t HX.out, by assumption⟩)
    · have ha0 := h2.1
      have ha1 := h2.2.1
      have HE := Lib.hid (HT5.out h1 (by omega))
      obtain ⟨a, ha⟩ := Int.eq_ofNat_of_zero_le ha0
      have hai : a < i := by omega
      have ca := Lib.hid (CP.out a hai)
      have la := HLN.out a (by omega)
      have pa := cell_next (HOP.out a (by omega)) b2.out
      have pb := cell_next (HOP.out 0 (by omega)) b2.out
      rw [show g.add (0 * 6) = g by simp [Addr.add]] at pb
      have htm := HTM.out h1
      have CO := Lib.hid (fun W => roften_any (nd t.ns i).lo (nd t.ns i).hi W (by omega) (by omega) (by omega) (by omega) (by omega))
      have lo' := often_len (lo := (nd t.ns i).lo) (hi := (nd t.ns i).hi) (by omega) (by omega)
      have hkd : (opB t.ns (nd t.ns i).a [3, 4, 5]) = decide (2 < (nd t.ns a).op) := by
        have h3 := ht.node a (by omega)
        rw [ha, opB_three, Int.toNat_natCast]
        rcases nodeB_ways h3 with ⟨e, _⟩ | ⟨e, _⟩ | ⟨e | e, _⟩ | ⟨e, _⟩ <;> rw [e] <;> decide
      rw [hkd] at HE
      rw [ha, Int.toNat_natCast] at HE
      have hnb : (nd t.ns i).b = 0 := h2.2.2.1
      clear HT1 HT2 HT3 HT4 HT5 HTM CP HOP HLN hss ht hnr h2 ha0 ha1 hkd htm
      unfold Tells at ca ⊢
      generalize textL t.sets t.ns i = E at *
      generalize textL t.sets t.ns a = TA at *
      generalize (nd t.ns a).op = oa at *
      generalize (nd t.ns 0).op = ob at *
      generalize nd t.ns i = n at *
      obtain ⟨op, na, nb, lo, hi', st⟩ := n
      dsimp only at *
      subst h1 ha hnb
      generalize oftenL lo hi' = OF at *
      have w2 := wrap_len (decide (2 < oa)) TA
      obtain ⟨x1, q1, z1, j1⟩ := run_join ⟨(wrapL (decide (2 < oa)) TA).toArray⟩ ⟨OF.toArray⟩ (by rw [size_mk, size_mk]; omega)
      have HX := Lib.hid (show x1 = ⟨E.toArray⟩ by rw [q1, HE.out]; simp [ByteArray.ext_iff])
      clear q1 z1 HE w2
      have ca := Lib.hid (fun v W (h : TreeAt W v t) => ca.out (decide (2 < oa)) v W h)
      generalize wrapL (decide (2 < oa)) TA = PA at *
      go_enter Tryz.func35, Tryz.ntmps35
      go_wp2
      obtain ⟨f0, f1, f2, f3, f4, f5, f6, f7⟩ := HNW.out
      dsimp only at f3 f4 f5 f6
      generalize ((w.alloc (.cells #[.slice (some g) t.ns.length cap, .slice so t.sets.length scap, .int .i64 t.root] 38)).alloc (.cells #[.int .i64 5, .int .i64 (a : Int), .int .i64 0, .int .i64 lo, .int .i64 hi', .int .i64 st] 70)) = W at *
      go_region_held3 (fun W => W.cell? ⟨w.heap.size, 0, none⟩ = some (.slice (some g) t.ns.length cap) ∧ W.cell? ⟨w.heap.size, 1, none⟩ = some (.slice so t.sets.length scap) ∧ W.cell? ⟨w.heap.size, 2, none⟩ = some (.int .i64 t.root) ∧ W.cell? ⟨w.heap.size + 1, 1, none⟩ = some (.int .i64 (a : Int)) ∧ W.cell? ⟨w.heap.size + 1, 2, none⟩ = some (.int .i64 0) ∧ W.cell? ⟨w.heap.size + 1, 3, none⟩ = some (.int .i64 lo) ∧ W.cell? ⟨w.heap.size + 1, 4, none⟩ = some (.int .i64 hi') ∧ Below w.heap.size w W) (first | exact ⟨by assumption, by assumption, by assumption, by assumption, by assumption, by assumption, by assumption, by assumption⟩ | go_keep)
        (first
          | (go_at_call 52; (first | (with_reducible refine (ca.out _ _ (HV.out.next (by assumption))).mono ?_)); rintro e w1 ⟨rfl, hb1⟩; go_must (obtain ⟨q0, q1, q2, q3, q4, q5, q6, q7⟩ := TN.next (w := w) (n := ⟨5, a, 0, lo, hi', st⟩) ⟨by assumption, by assumption, by assumption, by assumption, by assumption, by assumption, by assumption, by assumption⟩ hb1))
          | (go_at_call 53; (with_reducible refine (CO.out _).mono ?_); rintro e w1 ⟨rfl, hw⟩; subst hw)
          | fail)
      all_goals (
        go_wp2
        go_ret
        exact ⟨ret_t HX.out, by assumption⟩)

end Go.Proofs.YtgjiofkjogjhhaaGreatDoor.Rp

/- The program's Print. -/
import Derived.Test.YtdmceapbobkklaaDoorRpNode
import Derived.Test.YtdmceapbobkklaaDoorArChk
import Derived.Laws.EntriesVeiled
namespace Go.Proofs.YtdmceapbobkklaaDoor.Rp
open Go Go.RowKit Go.Shelf
open Go.Proofs.YtdmceapbobkklaaDoor.Bd (Wr IsB)
open Go.Proofs.YtdmceapbobkklaaDoor.Ar (Nd nd Tr Ok TreeAt TBox checkE check_ok check_any)
open Go.Proofs.YtdmceapbobkklaaDoor.Rg (nthL)

/-- what Print tells of a tree -/
noncomputable def prS (t : Tr) : Tx := if checkE t = 0 then (if (textL t.sets t.ns t.root.toNat).length ≤ 4096 then textL t.sets t.ns t.root.toNat else []) else []
noncomputable def prE (t : Tr) : Int := if checkE t = 0 then (if (textL t.sets t.ns t.root.toNat).length ≤ 4096 then 0 else 6) else checkE t
theorem ret_se {a b : ByteArray} {x y : Int} (h : a = b) (k : x = y) : Ending.returned (.tuple #[.string a, .int .i64 x]) = .returned (.tuple #[.string b, .int .i64 y]) := by rw [h, k]

set_option maxRecDepth 100000 in
set_option maxHeartbeats 4000000 in
theorem print_any (t : Tr) (h30 : ∀ k, k < t.sets.length → (nthL t.sets k).length ≤ 30) (v : Value) (w : World) (h : TreeAt w v t) (hst : Dg.St w) :
    Calls Tryd.prog 6 #[v] w fun e w' => e = .returned (.tuple #[.string ⟨(prS t).toArray⟩, .int .i64 (prE t)]) ∧ Below w.heap.size w w' := by
  have HV := Lib.hid h
  obtain ⟨ao, cap, so, scap, rfl, hm, hm2, _, _⟩ := h.shape
  have b1 := (Below.refl w.heap.size w).alloc (Nat.le_refl _) (.cells #[.slice ao t.ns.length cap, .slice so t.sets.length scap, .int .i64 t.root] 25)
  have B1 := Lib.hid b1
  have T0 := Lib.hid (TBox.new w (.slice ao t.ns.length cap) (.slice so t.sets.length scap) t.root)
  have CC := Lib.hid (check_any t _ _ (HV.out.next b1))
  have HST := Lib.hid hst
  clear h b1 hst
  by_cases hc : checkE t = 0
  · obtain ⟨ok, hl1, hl2⟩ := check_ok hc
    have hr0 := ok.root0
    have hr1 := ok.root1
    have hroot : ∃ q : Nat, t.root = q ∧ q < t.ns.length := by
      obtain ⟨q, hq⟩ := Int.eq_ofNat_of_zero_le hr0
      exact ⟨q, hq, by omega⟩
    obtain ⟨q, hq, hq2⟩ := hroot
    have HPS := Lib.hid (show prS t = if (textL t.sets t.ns q).length ≤ 4096 then textL t.sets t.ns q else [] by unfold prS; rw [if_pos hc, hq, Int.toNat_natCast])
    have HPE := Lib.hid (show prE t = if (textL t.sets t.ns q).length ≤ 4096 then 0 else 6 by unfold prE; rw [if_pos hc, hq, Int.toNat_natCast])
    have HND := Lib.hid (fun W0 (hW : Below w.heap.size w W0) => node_any t ok h30 W0 (.slice ao t.ns.length cap) (.slice so t.sets.length scap) (HV.out.next hW) (HST.out.next hW) W0.heap.size (Nat.le_refl _) q hq2)
    unfold NodeC at HND
    rw [hc] at CC
    generalize prS t = PS at *
    generalize prE t = PE at *
    generalize textL t.sets t.ns q = E at *
    rw [hq] at CC HV T0 B1 HND ⊢
    clear hc ok hr0 hr1 hq h30
    by_cases hl : E.length ≤ 4096
    · have E1 := Lib.hid (show PS = E by rw [HPS.out, if_pos hl])
      have E2 := Lib.hid (show PE = 0 by rw [HPE.out, if_pos hl])
      have L1 := Lib.hid (show ([] : Tx).length + E.length ≤ 4096 by simpa using hl)
      clear HPS HPE hl
      go_enter Tryd.func6, Tryd.ntmps6
      go_wp2_with (first
        | (go_at_call 14; (with_reducible refine CC.out.mono ?_); rintro e W0 ⟨rfl, hb1⟩; go_must (obtain ⟨q0, q1, q2⟩ := T0.out.next hb1; have H1 := Lib.hid (B1.out.trans (hb1.mono (by simp))); have hs1 := hb1.size; simp only [World.size_alloc] at hs1; have hs2 : w.heap.size < W0.heap.size := (by omega); have FB := Lib.hid (IsB.next (l := []) (Lib.IsBuilderF.of (Lib.fresh_isBuilder 40 5 W0)) ((Below.refl _ _).alloc (Nat.le_refl _) (.cells #[.slice ao t.ns.length cap, .slice so t.sets.length scap, .int .i64 (q : Int), .func (.func 15) #[] #[.pointer (some ⟨W0.heap.size, 0, none⟩)]] 48))); have FD := Lib.hid (((Below.refl W0.heap.size W0).alloc (Nat.le_refl _) (.cells #[.pointer none, .slice none 0 0] 40)).alloc (by simp) (.cells #[.slice ao t.ns.length cap, .slice so t.sets.length scap, .int .i64 (q : Int), .func (.func 15) #[] #[.pointer (some ⟨W0.heap.size, 0, none⟩)]] 48)); have CN := Lib.hid (HND.out W0 H1.out [] _ (by simp) FB.out FD.out); clear hb1))
        | (go_at_call 18; (with_reducible refine CN.out.mono ?_); rintro e w2 h2; go_must (obtain ⟨rfl, i2, k2⟩ := h2.yes L1.out; have I2 := Lib.hid i2; have K2 := Lib.hid (H1.out.trans ((FD.out.trans k2.below).mono H1.out.size)); have CT := Lib.hid (Tryd.Builder_String_any_f W0.heap.size W0.heap.size E w2 i2 (by have := i2.lt; omega)); clear i2 k2 h2))
        | (go_at_call 19; (with_reducible refine CT.out.mono ?_); rintro e w3 ⟨rfl, _, hb6⟩)
        | fail)
      go_ret2
      exact ⟨ret_se (by rw [E1.out]) E2.out.symm, K2.out.trans (hb6.mono H1.out.size)⟩
    · have E1 := Lib.hid (show PS = [] by rw [HPS.out, if_neg hl])
      have E2 := Lib.hid (show PE = 6 by rw [HPE.out, if_neg hl])
      have L1 := Lib.hid (show 4096 < ([] : Tx).length + E.length by simp; omega)
      clear HPS HPE hl
      go_enter Tryd.func6, Tryd.ntmps6
      go_wp2_with (first
        | (go_at_call 14; (with_reducible refine CC.out.mono ?_); rintro e W0 ⟨rfl, hb1⟩; go_must (obtain ⟨q0, q1, q2⟩ := T0.out.next hb1; have H1 := Lib.hid (B1.out.trans (hb1.mono (by simp))); have hs1 := hb1.size; simp only [World.size_alloc] at hs1; have hs2 : w.heap.size < W0.heap.size := (by omega); have FB := Lib.hid (IsB.next (l := []) (Lib.IsBuilderF.of (Lib.fresh_isBuilder 40 5 W0)) ((Below.refl _ _).alloc (Nat.le_refl _) (.cells #[.slice ao t.ns.length cap, .slice so t.sets.length scap, .int .i64 (q : Int), .func (.func 15) #[] #[.pointer (some ⟨W0.heap.size, 0, none⟩)]] 48))); have FD := Lib.hid (((Below.refl W0.heap.size W0).alloc (Nat.le_refl _) (.cells #[.pointer none, .slice none 0 0] 40)).alloc (by simp) (.cells #[.slice ao t.ns.length cap, .slice so t.sets.length scap, .int .i64 (q : Int), .func (.func 15) #[] #[.pointer (some ⟨W0.heap.size, 0, none⟩)]] 48)); have CN := Lib.hid (HND.out W0 H1.out [] _ (by simp) FB.out FD.out); clear hb1))
        | (go_at_call 18; (with_reducible refine CN.out.mono ?_); rintro e w2 h2; go_must (obtain ⟨rfl, k2⟩ := h2.no L1.out; have K2 := Lib.hid (H1.out.trans ((FD.out.trans k2.below).mono H1.out.size)); clear k2 h2))
        | fail)
      go_ret2
      exact ⟨ret_se (by rw [E1.out]) E2.out.symm, K2.out⟩
  · have E1 := Lib.hid (show prS t = [] by unfold prS; rw [if_neg hc])
    have E2 := Lib.hid (show prE t = checkE t by unfold prE; rw [if_neg hc])
    have hne : (checkE t != 0) = true := by simpa using hc
    generalize prS t = PS at *
    generalize prE t = PE at *
    generalize checkE t = C at *
    clear hc h30
    go_enter Tryd.func6, Tryd.ntmps6
    go_wp2_with (go_at_call 14; (with_reducible refine CC.out.mono ?_); rintro e w1 ⟨rfl, hb1⟩; go_must (have H1 := Lib.hid (B1.out.trans (hb1.mono (by simp))); clear hb1))
    go_ret2
    exact ⟨ret_se (by rw [E1.out]) E2.out.symm, H1.out⟩

end Go.Proofs.YtdmceapbobkklaaDoor.Rp

/- An entry is appended; what stands while a set is added. -/
import Derived.Test.YtemmaoapicaloaaDoorSbWiden
namespace Go.Proofs.YtemmaoapicaloaaDoor.Sb
open Go Go.RowKit Go.Proofs.YtemmaoapicaloaaDoor.At
open Go.Proofs.YtemmaoapicaloaaDoor.Bt (SetAt setV memL nums roomF)

def Tb.app (T : Tb) (e : En) (sv : Value) : Tb := { T with E := T.E ++ [e], sv := sv }

theorem TbIn.app {W W1 : World} {B tb g c : Nat} {T : Tb} {e : En} (h : TbIn W B tb T) (hown : W1.ownsRow B 57 3 (.slice (some ⟨g, 0, none⟩) (T.E.length + 1) c) (T.E.length + 1) (flatE T.E ++ enC e)) (hg : W.grownBy W1 T.sv.ownBlock) (hat : T.sv.ownBlock = some g ∨ g = W.heap.size) (he : SetAt W T.bw e.room e.v e.L) :
    TbIn (W1.setCell ⟨tb, 2, none⟩ (.slice (some ⟨g, 0, none⟩) (T.E.length + 1) c)) B tb (T.app e (.slice (some ⟨g, 0, none⟩) (T.E.length + 1) c)) ∧
    Step tb T W (T.app e (.slice (some ⟨g, 0, none⟩) (T.E.length + 1) c)) (W1.setCell ⟨tb, 2, none⟩ (.slice (some ⟨g, 0, none⟩) (T.E.length + 1) c)) := by
  have htb := h.lt
  have hnr := at_not_row h.box h.sets (by decide)
  have hgt : g ≠ tb := fun e2 => by
    rcases hat with h1 | h1
    · exact hnr (by rw [h1, e2])
    · omega
  have hb : ∀ k, k < W.heap.size → k ≠ tb → some k ≠ T.sv.ownBlock → (W1.setCell ⟨tb, 2, none⟩ (.slice (some ⟨g, 0, none⟩) (T.E.length + 1) c)).heap[k]? = W.heap[k]? := fun k hk hne hns => (set_block W1 tb 2 _ k hne).trans (hg.block k hk hns)
  have hst : Step tb T W (T.app e (.slice (some ⟨g, 0, none⟩) (T.E.length + 1) c)) (W1.setCell ⟨tb, 2, none⟩ (.slice (some ⟨g, 0, none⟩) (T.E.length + 1) c)) :=
    ⟨hg.os, hg.tape, hg.output, by have := hg.size; simpa using this, fun k hk hc => hb k hk hc.1 hc.2.1, by
      rcases hat with h1 | h1
      · exact .inl h1.symm
      · exact .inr fun k e2 => by
          have : g = k := by simpa [Tb.app, Value.ownBlock] using e2
          omega, .refl _ _⟩
  have hbox : W1.heap[tb]? = some (.cells (tbC T) 47 (0, 0)) := (hg.block tb htb hnr).trans h.box
  refine ⟨⟨h.base, set_at hbox 2 _, ?_, fun i hi => ?_, row_same h.plcs fun k e2 => hb k (h.plcs.lt k e2).2 (fun e3 => ?_) (fun e3 => ?_)⟩, hst⟩
  · show World.ownsRow _ B 57 3 (.slice (some ⟨g, 0, none⟩) (T.E.length + 1) c) (T.E ++ [e]).length (flatE (T.E ++ [e]))
    rw [flatE_snoc, List.length_append]
    exact row_same hown fun k e2 => set_block W1 tb 2 _ k (fun e3 => by
      have : g = k := by simpa [Value.ownBlock] using e2
      omega)
  · have hi' : i < T.E.length + 1 := by
      have : i < (T.E ++ [e]).length := hi
      simpa using this
    show SetAt _ T.bw (Sb.ent (T.E ++ [e]) i).room (Sb.ent (T.E ++ [e]) i).v (Sb.ent (T.E ++ [e]) i).L
    by_cases hin : i < T.E.length
    · rw [ent_snoc _ _ _ hin]
      exact hst.set h (h.each i hin)
    · obtain rfl : i = T.E.length := by omega
      rw [ent_last]
      exact hst.set h he
  · exact at_not_row h.box h.plcs (by decide) (by rw [← e3]; exact e2.symm)
  · exact row_not_row h.plcs h.sets (by decide) k e2 e3

/-- what stands while a set is added -/
structure Mid (w : World) (B tb bx : Nat) (T : Tb) (room : Nat) (v : Value) (L : List Nat) (W : World) (T1 : Tb) : Prop where
  inn : TbIn W B tb T1
  good : Good T1
  keys : keys T1.E = Sb.keys T.E
  most : T1.most = T.most
  step : Step tb T w T1 W
  box : W.heap[bx]? = some (.cells #[.int .i64 (room : Nat), v] 34 (0, 0))
  set : SetAt W T1.bw room v L
  bw : T1.bw = T.bw
theorem Mid.next {w W W' : World} {B tb bx room : Nat} {T T1 : Tb} {v : Value} {L : List Nat} (h : Mid w B tb bx T room v L W T1) (hb : Below W.heap.size W W') : Mid w B tb bx T room v L W' T1 :=
  ⟨h.inn.next hb, h.good, h.keys, h.most, h.step.trans (.below hb), at_next h.box hb, h.set.next hb, h.bw⟩
theorem Mid.len {w W : World} {B tb bx room : Nat} {T T1 : Tb} {v : Value} {L : List Nat} (h : Mid w B tb bx T room v L W T1) : T1.E.length = T.E.length := by
  rw [← keys_len, h.keys, keys_len]
theorem Mid.by {w W W' : World} {B tb bx room : Nat} {T T1 T2 : Tb} {v : Value} {L : List Nat} (h : Mid w B tb bx T room v L W T1) (hin : TbIn W' B tb T2) (hg : Good T2) (hk : Sb.keys T2.E = Sb.keys T1.E) (hm : T2.most = T1.most) (hw : T2.bw = T1.bw) (hs : Step tb T1 W T2 W') : Mid w B tb bx T room v L W' T2 :=
  ⟨hin, hg, hk.trans h.keys, hm.trans h.most, h.step.trans hs, hs.at h.box (h.inn.cool h.box (by decide) (by decide) (by decide)), by rw [hw]; exact hs.set h.inn h.set, hw.trans h.bw⟩
theorem Mid.widen {w W W' : World} {B tb bx room : Nat} {T T1 : Tb} {v : Value} {L : List Nat} {e : Ending} (h : Mid w B tb bx T room v L W T1) (ho : WidenOut W B tb T1 e W') : e = .returned (.tuple #[]) ∧ ∃ T2, Mid w B tb bx T room v L W' T2 := by
  obtain ⟨wd, E', P', pv', rfl, h1, h2, hal, hh, hin, hP, hst, hs⟩ := ho
  have g := h.good
  refine ⟨rfl, _, h.by hin ⟨g.m1, g.m2, h1, h2, hh, hal.uniq g.uq, hst, ?_, ?_, ?_⟩ hal.keys rfl rfl hs⟩
  · show 3 * (E'.length + 1) ≤ 2 * P'.length
    rw [hal.1, hP]; exact g.ld
  · show P'.length ≤ 200000
    rw [hP]; exact g.pl
  · show E'.length ≤ T1.most
    rw [hal.1]; exact g.le
theorem Mid.spread {w W W' : World} {B tb bx room : Nat} {T T1 : Tb} {v : Value} {L : List Nat} {e : Ending} (h : Mid w B tb bx T room v L W T1) (hn : T1.E.length < T1.most) (hc : 3 * ((T1.P.length : Int) - (T1.E.length + 1 : Nat) - 1) < T1.P.length) (ho : SpreadOut W B tb (2 * T1.P.length) T1 e W') :
    e = .returned (.tuple #[]) ∧ ∃ T2, Mid w B tb bx T room v L W' T2 ∧ 3 * (T2.E.length + 2) ≤ 2 * T2.P.length := by
  obtain ⟨P', pv', rfl, hin, hP, hst, hs⟩ := ho
  have g := h.good
  have := g.ld
  have := g.m2
  refine ⟨rfl, _, h.by hin ⟨g.m1, g.m2, g.w1, g.w2, g.hs, g.uq, hst, ?_, ?_, g.le⟩ rfl rfl rfl hs, ?_⟩
  · show 3 * (T1.E.length + 1) ≤ 2 * P'.length
    rw [hP]; omega
  · show P'.length ≤ 200000
    rw [hP]; omega
  · show 3 * (T1.E.length + 2) ≤ 2 * P'.length
    rw [hP]; omega

/-- what is good is good with one set more -/
theorem good_app {T : Tb} {e : En} {sv : Value} {P : List Nat} (g : Good T) (hn : T.E.length < T.most) (hno : ∀ i, i < T.E.length → nums (ent T.E i).L ≠ nums e.L) (hh : HashIs (roomF (T.wide : Nat)) e.L e.h) (hl : 3 * (T.E.length + 2) ≤ 2 * T.P.length) (hP : P.length = T.P.length) (hst : Stood P (T.E ++ [e]) (T.E.length + 1)) :
    Good { T.app e sv with P := P } := by
  have hlen : (T.E ++ [e]).length = T.E.length + 1 := by simp
  refine ⟨g.m1, g.m2, g.w1, g.w2, fun i hi => ?_, fun i j hi hj hij => ?_, ?_, ?_, ?_, ?_⟩
  · have hi' : i < T.E.length + 1 := by rw [← hlen]; exact hi
    show HashIs _ (ent (T.E ++ [e]) i).L (ent (T.E ++ [e]) i).h
    by_cases hin : i < T.E.length
    · rw [ent_snoc _ _ _ hin]; exact g.hs i hin
    · obtain rfl : i = T.E.length := by omega
      rw [ent_last]; exact hh
  · have hi' : i < T.E.length + 1 := by rw [← hlen]; exact hi
    have hj' : j < T.E.length + 1 := by rw [← hlen]; exact hj
    have hij' : nums (ent (T.E ++ [e]) i).L = nums (ent (T.E ++ [e]) j).L := hij
    by_cases hin : i < T.E.length
    · by_cases hjn : j < T.E.length
      · rw [ent_snoc _ _ _ hin, ent_snoc _ _ _ hjn] at hij'
        exact g.uq i j hin hjn hij'
      · obtain rfl : j = T.E.length := by omega
        rw [ent_snoc _ _ _ hin, ent_last] at hij'
        exact absurd hij' (hno i hin)
    · obtain rfl : i = T.E.length := by omega
      by_cases hjn : j < T.E.length
      · rw [ent_last, ent_snoc _ _ _ hjn] at hij'
        exact absurd hij'.symm (hno j hjn)
      · omega
  · show Stood P (T.E ++ [e]) (T.E ++ [e]).length
    rw [hlen]; exact hst
  · show 3 * ((T.E ++ [e]).length + 1) ≤ 2 * P.length
    rw [hlen, hP]; omega
  · show P.length ≤ 200000
    rw [hP]; exact g.pl
  · show (T.E ++ [e]).length ≤ T.most
    rw [hlen]; omega
theorem no_keys {E F : List En} {N : List Int} (hk : keys F = keys E) (hno : ∀ i, i < E.length → nums (ent E i).L ≠ N) (i : Nat) (hi : i < F.length) : nums (ent F i).L ≠ N := by
  have hl : F.length = E.length := by rw [← keys_len, hk, keys_len]
  rw [← keys_get F i hi, hk, keys_get E i (by omega)]
  exact hno i (by omega)
theorem uniq_app {E : List En} {e : En} (hu : Uniq E) (hno : ∀ i, i < E.length → nums (ent E i).L ≠ nums e.L) : Uniq (E ++ [e]) := by
  have hlen : (E ++ [e]).length = E.length + 1 := by simp
  intro i j hi hj hij
  rw [hlen] at hi hj
  by_cases hin : i < E.length
  · by_cases hjn : j < E.length
    · rw [ent_snoc _ _ _ hin, ent_snoc _ _ _ hjn] at hij
      exact hu i j hin hjn hij
    · obtain rfl : j = E.length := by omega
      rw [ent_snoc _ _ _ hin, ent_last] at hij
      exact absurd hij (hno i hin)
  · obtain rfl : i = E.length := by omega
    by_cases hjn : j < E.length
    · rw [ent_last, ent_snoc _ _ _ hjn] at hij
      exact absurd hij.symm (hno j hjn)
    · omega
/-- the new set's number is put at its place -/
theorem stand_app {B tb : Nat} {T : Tb} {e : En} {sv : Value} (W : World) (hin : TbIn W B tb (T.app e sv)) (g : Good T) (hn : T.E.length < T.most) (hno : ∀ i, i < T.E.length → nums (ent T.E i).L ≠ nums e.L) (hh : HashIs (roomF (T.wide : Nat)) e.L e.h) (hl : 3 * (T.E.length + 2) ≤ 2 * T.P.length) :
    Calls Tryd.prog 40 #[ptr tb, .int .i64 (T.E.length : Nat)] W fun e' W' => ∃ T', e' = .returned (.tuple #[]) ∧ TbIn W' B tb T' ∧ Good T' ∧ keys T'.E = keys T.E ++ [nums e.L] ∧ T'.most = T.most ∧ T'.bw = T.bw ∧ Step tb (T.app e sv) W T' W' := by
  have h1 := g.pl
  refine (stand_any (T := T.app e sv) W hin (uniq_app g.uq hno) (stood_congr g.st fun i hi => by show (ent (T.E ++ [e]) i).h = _; rw [ent_snoc _ _ _ hi]) (by show _ < (T.E ++ [e]).length; simp) (by show _ < T.P.length; omega) (by show T.P.length ≤ _; omega) (by show (ent (T.E ++ [e]) T.E.length).h < _; rw [ent_last]; exact hh.lt)).mono ?_
  rintro e' W' ⟨P', rfl, z1, z2, z3, z4⟩
  exact ⟨_, rfl, z1, good_app (sv := sv) g hn hno hh hl z2 z3, by show keys (T.E ++ [e]) = _; simp [keys], rfl, rfl, z4⟩
theorem keys_snoc (E : List En) (e : En) : keys (E ++ [e]) = keys E ++ [nums e.L] := by simp [keys]

end Go.Proofs.YtemmaoapicaloaaDoor.Sb

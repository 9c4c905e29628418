/- What the row's listed variables give to the walks of the laws of named. -/
import Derived.Test.YtenmjnopbbingaaDoorNmLaws2
import Derived.Test.YtenmjnopbbingaaDoorRows
import Derived.Test.YtenmjnopbbingaaDoorCardKit
import Derived.ChangeSlices
import Derived.Deep.Strs
import Derived.WideShapes
import Derived.OpenShut
import Derived.Stop.LaidErr
namespace Go.Proofs.YtenmjnopbbingaaDoor.Nm
open Go.RowKit Go.Deep Go.ChangeShapes Go.WideShapes Go.Proofs.YtenmjnopbbingaaDoor.Rg

/-- texts, numbers, a row of the table, a letter, as data -/
def strsD {H : Type} : List ByteArray → DataW H
  | [] => .nil
  | l => .slice (l.map fun s => .lit (.string s.data.toList)) []
def intsD {H : Type} : List Int → DataW H
  | [] => .nil
  | l => .slice (l.map fun n => .lit (.int .i64 n)) []
def rowD {H : Type} (r : Rw) : DataW H := .agg [.lit (.string r.1.data.toList), strsD r.2.1, intsD r.2.2]
def letL : List (Int × Int × ByteArray) := [(100, 68, ⟨#[68, 105, 103, 105, 116]⟩), (119, 87, ⟨#[87, 111, 114, 100]⟩), (115, 83, ⟨#[83, 112, 97, 99, 101]⟩), (104, 72, ⟨#[72, 101, 120]⟩)]
def letD {H : Type} (r : Int × Int × ByteArray) : DataW H := .agg [.lit (.int .u8 r.1), .lit (.int .u8 r.2.1), .lit (.string r.2.2.data.toList)]
theorem table_is {H : Type} : (Rows.laid_spool_named_table : DataW H) = .agg (tab.map rowD) := rfl
theorem letters_is {H : Type} : (Rows.laid_spool_named_letters : DataW H) = .agg (letL.map letD) := rfl

theorem gTable : Tryd.prog.globalNamed "spool/named.table" = some 1 := by kernel_rfl
theorem gTableType : (Tryd.prog.globals[1]?).map (·.type) = some 53 := by kernel_rfl
theorem gLetters : Tryd.prog.globalNamed "spool/named.letters" = some 0 := by kernel_rfl
theorem gLettersType : (Tryd.prog.globals[0]?).map (·.type) = some 48 := by kernel_rfl
theorem cellsRow : Tryd.prog.cellsOf 52 = 3 := by kernel_rfl
theorem cellsLet : Tryd.prog.cellsOf 47 = 3 := by kernel_rfl
theorem cellsStr : Tryd.prog.cellsOf 9 = 1 := by kernel_rfl
theorem cellsInt : Tryd.prog.cellsOf 3 = 1 := by kernel_rfl
theorem cellsU8 : Tryd.prog.cellsOf 5 = 1 := by kernel_rfl
theorem cellsStrs : Tryd.prog.cellsOf 31 = 1 := by kernel_rfl
theorem cellsInts : Tryd.prog.cellsOf 50 = 1 := by kernel_rfl
theorem part_one {cs : List Value} {j k o : Nat} {v : Value} (hk : o < k) (h : (((cs.drop j).take k).drop o).take 1 = [v]) : cs[j + o]? = some v := by
  have := congrArg (·[0]?) h
  simp only [List.getElem?_cons_zero] at this
  rw [List.getElem?_take, if_pos (by omega), List.getElem?_drop, List.getElem?_take, if_pos (by omega), List.getElem?_drop] at this
  simpa using this

section
variable {H : Type} {enc : TypeId × Value → H} {w : World} {base : Nat} {sp : Nat → Bool} {held : Bool} {fuel : Nat}

theorem strs_laid {cs : List Value} {l : List ByteArray} {p : List MemPlace} (h : DataW.trod enc Tryd.prog w base sp held fuel 31 cs = some (strsD l, p)) : ∃ v, cs = [v] ∧ StrsAt w v l := by
  rcases open_strs Tryd.underlying31 Tryd.underlying9 cellsStr h with ⟨rfl, hx⟩ | ⟨a, len, cap, m, Sx, rfl, _, hl, hm, hmm, hx, hc⟩
  · refine ⟨_, rfl, .inl ⟨rfl, ?_⟩⟩
    cases l with
    | nil => rfl
    | cons y t => simp [strsD] at hx
  · refine ⟨_, rfl, ?_⟩
    cases l with
    | nil => simp [strsD] at hx
    | cons y t =>
      simp only [strsD, Prod.mk.injEq, DataW.slice.injEq] at hx
      have h1 := hx.1.1
      have hlen : (y :: t).length = len := by
        have := congrArg List.length h1
        simpa using this
      have hlm : len ≤ m := by rw [hmm]; split <;> omega
      refine .inr ⟨a, cap, by rw [hlen], by omega, fun i hi => ?_⟩
      rw [(hc i (by omega)).1]
      have h2 := congrArg (·[i]?) h1
      simp only [List.getElem?_map, List.getElem?_range (show i < len by omega), Option.map_some] at h2
      rw [List.getElem?_eq_getElem hi] at h2
      simp only [Option.map_some, Option.some.injEq, DataW.lit.injEq, Lit.string.injEq] at h2
      rw [List.getD_eq_getElem?_getD, List.getElem?_eq_getElem hi, Option.getD_some]
      rw [ByteArray.ext (Array.toList_inj.1 h2)]
theorem lits_inj {H : Type} : ∀ {a b : List Int}, (a.map fun n => (.lit (.int .i64 n) : DataW H)) = (b.map fun n => .lit (.int .i64 n)) → a = b
  | [], [], _ => rfl
  | [], _ :: _, h => by simp at h
  | _ :: _, [], h => by simp at h
  | x :: a, y :: b, h => by
    simp only [List.map_cons, List.cons.injEq, DataW.lit.injEq, Lit.int.injEq, true_and] at h
    rw [h.1, lits_inj h.2]
theorem ints_laid {cs : List Value} {l : List Int} {p : List MemPlace} (h : DataW.trod enc Tryd.prog w base sp held fuel 50 cs = some (intsD l, p)) : ∃ v, cs = [v] ∧ IntsAt w v l := by
  rcases open_ints Tryd.underlying50 Tryd.underlying3 cellsInt h with ⟨rfl, hx⟩ | ⟨a, len, cap, zs, rfl, _, hl, hm, hz, hx, hc, _⟩
  · refine ⟨_, rfl, .inl ⟨rfl, ?_⟩⟩
    cases l with
    | nil => rfl
    | cons y t => simp [intsD] at hx
  · refine ⟨_, rfl, ?_⟩
    cases l with
    | nil => simp [intsD] at hx
    | cons y t =>
      simp only [intsD, lits, Prod.mk.injEq, DataW.slice.injEq] at hx
      have h1 := hx.1.1
      have hll : len ≤ zs.length := by rw [hz]; split <;> omega
      have h2 : (y :: t) = zs.take len := by
        exact lits_inj h1
      have hlen : (y :: t).length = len := by rw [h2, List.length_take]; omega
      refine .inr ⟨a, cap, by rw [hlen], by omega, fun i hi => ?_⟩
      rw [hc i (by omega), h2]
      have : i < len := by omega
      simp [List.getD, this]

theorem row_of {i : Nat} {cs : List Value} {r : Rw} {p : List MemPlace} (h : DataW.trod enc Tryd.prog w base sp held fuel 52 ((cs.drop (i * 3)).take 3) = some (rowD r, p)) :
    ∃ pv nv, cs[i * 3]? = some (.string r.1) ∧ cs[i * 3 + 1]? = some pv ∧ cs[i * 3 + 2]? = some nv ∧ StrsAt w pv r.2.1 ∧ IntsAt w nv r.2.2 := by
  obtain ⟨y0, y1, y2, n, hx, hl, h0, h1, h2⟩ := trod_struct3 Tryd.underlying52 h
  simp only [rowD, Prod.mk.injEq, DataW.agg.injEq, List.cons.injEq, and_true] at hx
  obtain ⟨⟨q0, q1, q2⟩, _⟩ := hx
  obtain ⟨y0, z0⟩ := y0
  obtain ⟨y1, z1⟩ := y1
  obtain ⟨y2, z2⟩ := y2
  simp only at q0 q1 q2
  subst q0 q1 q2
  obtain ⟨s, e0, d0, _⟩ := DataW.trod_string Tryd.underlying9 h0
  obtain ⟨pv, e1, hs⟩ := strs_laid h1
  obtain ⟨nv, e2, hi⟩ := ints_laid h2
  simp only [Prod.mk.injEq, DataW.lit.injEq, Lit.string.injEq] at d0
  obtain rfl : r.1 = s := ByteArray.ext (Array.toList_inj.1 d0.1)
  rw [cellsStr] at e0
  rw [cellsStrs] at e1
  rw [cellsInts] at e2
  exact ⟨pv, nv, by simpa using part_one (o := 0) (by omega) e0, part_one (o := 1) (by omega) e1, part_one (o := 2) (by omega) e2, hs, hi⟩
theorem let_of {i : Nat} {cs : List Value} {r : Int × Int × ByteArray} {p : List MemPlace} (h : DataW.trod enc Tryd.prog w base sp held fuel 47 ((cs.drop (i * 3)).take 3) = some (letD r, p)) :
    cs[i * 3]? = some (.int .u8 r.1) ∧ cs[i * 3 + 1]? = some (.int .u8 r.2.1) ∧ cs[i * 3 + 2]? = some (.string r.2.2) := by
  obtain ⟨y0, y1, y2, n, hx, hl, h0, h1, h2⟩ := trod_struct3 Tryd.underlying47 h
  simp only [letD, Prod.mk.injEq, DataW.agg.injEq, List.cons.injEq, and_true] at hx
  obtain ⟨⟨q0, q1, q2⟩, _⟩ := hx
  obtain ⟨y0, z0⟩ := y0
  obtain ⟨y1, z1⟩ := y1
  obtain ⟨y2, z2⟩ := y2
  simp only at q0 q1 q2
  subst q0 q1 q2
  obtain ⟨a0, e0, d0, _⟩ := DataW.trod_int Tryd.underlying5 h0
  obtain ⟨a1, e1, d1, _⟩ := DataW.trod_int Tryd.underlying5 h1
  obtain ⟨s, e2, d2, _⟩ := DataW.trod_string Tryd.underlying9 h2
  simp only [Prod.mk.injEq, DataW.lit.injEq, Lit.int.injEq, Lit.string.injEq, true_and] at d0 d1 d2
  obtain rfl : r.2.2 = s := ByteArray.ext (Array.toList_inj.1 d2.1)
  rw [cellsU8] at e0 e1
  rw [cellsStr] at e2
  rw [← d0.1] at e0
  rw [← d1.1] at e1
  exact ⟨by simpa using part_one (o := 0) (by omega) e0, part_one (o := 1) (by omega) e1, part_one (o := 2) (by omega) e2⟩
end

def St (w : World) : Prop := Tab w ∧ Lets w
theorem tab_of_laid {W : World} {rest : List (String × DataW Unit)} (h : laidMet Tryd.prog (("spool/named.table", Rows.laid_spool_named_table) :: rest) W) : Tab W := by
  rw [table_is] at h
  obtain ⟨ps, ⟨g', t', cs, fuel, p, q, hg', ht', hvar, hd, _, _⟩, _⟩ := h
  obtain rfl := Option.some.inj (gTable.symm.trans hg')
  obtain rfl := Option.some.inj (gTableType.symm.trans ht')
  obtain ⟨xs, m, _, hx, hl, hxl, hg⟩ := DataW.trod_array Tryd.underlying53 hd
  simp only [Prod.mk.injEq, DataW.agg.injEq] at hx
  rw [cellsRow] at hg
  intro k hk
  have h1 := hg k hk
  have h2 : (xs.map (·.1))[k]? = some (rowD (nthW k)) := by
    have h16 : k < tab.length := hk
    rw [← hx.1, List.getElem?_map, List.getElem?_eq_getElem h16]
    unfold nthW
    rw [List.getD_eq_getElem?_getD, List.getElem?_eq_getElem h16]; rfl
  rw [List.getElem?_map] at h2
  obtain ⟨⟨z, zp⟩, hz, hz2⟩ := Option.map_eq_some_iff.1 h2
  simp only at hz2
  subst hz2
  rw [hz] at h1
  obtain ⟨pv, nv, c0, c1, c2, hs, hi⟩ := row_of h1
  refine ⟨pv, nv, ?_, ?_, ?_, hs, hi⟩
  · rw [World.var?_cell gTable hvar]; simpa using c0
  · rw [World.var?_cell gTable hvar]; simpa using c1
  · rw [World.var?_cell gTable hvar]; simpa using c2
theorem lets_of_laid {W : World} {rest : List (String × DataW Unit)} (h : laidMet Tryd.prog (("spool/named.letters", Rows.laid_spool_named_letters) :: rest) W) : Lets W := by
  rw [letters_is] at h
  obtain ⟨ps, ⟨g', t', cs, fuel, p, q, hg', ht', hvar, hd, _, _⟩, _⟩ := h
  obtain rfl := Option.some.inj (gLetters.symm.trans hg')
  obtain rfl := Option.some.inj (gLettersType.symm.trans ht')
  obtain ⟨xs, m, _, hx, hl, hxl, hg⟩ := DataW.trod_array Tryd.underlying48 hd
  simp only [Prod.mk.injEq, DataW.agg.injEq] at hx
  rw [cellsLet] at hg
  have key : ∀ k (r : Int × Int × ByteArray), k < 4 → letL[k]? = some r → W.cell? ⟨0, k * 3, none⟩ = some (.int .u8 r.1) ∧ W.cell? ⟨0, k * 3 + 1, none⟩ = some (.int .u8 r.2.1) ∧ W.cell? ⟨0, k * 3 + 2, none⟩ = some (.string r.2.2) := fun k r hk hr => by
    have h1 := hg k hk
    have h2 : (xs.map (·.1))[k]? = some (letD r) := by rw [← hx.1, List.getElem?_map, hr]; rfl
    rw [List.getElem?_map] at h2
    obtain ⟨⟨z, zp⟩, hz, hz2⟩ := Option.map_eq_some_iff.1 h2
    simp only at hz2
    subst hz2
    rw [hz] at h1
    obtain ⟨c0, c1, c2⟩ := let_of h1
    refine ⟨?_, ?_, ?_⟩
    · rw [World.var?_cell gLetters hvar]; simpa using c0
    · rw [World.var?_cell gLetters hvar]; simpa using c1
    · rw [World.var?_cell gLetters hvar]; simpa using c2
  have k0 := key 0 _ (by omega) rfl
  have k1 := key 1 _ (by omega) rfl
  have k2 := key 2 _ (by omega) rfl
  have k3 := key 3 _ (by omega) rfl
  intro j v hj
  rw [Nat.zero_add]
  have hj12 : j < 12 := (List.getElem?_eq_some_iff.1 hj).1
  obtain rfl | rfl | rfl | rfl | rfl | rfl | rfl | rfl | rfl | rfl | rfl | rfl : j = 0 ∨ j = 1 ∨ j = 2 ∨ j = 3 ∨ j = 4 ∨ j = 5 ∨ j = 6 ∨ j = 7 ∨ j = 8 ∨ j = 9 ∨ j = 10 ∨ j = 11 := by omega
  all_goals (cases hj; first | exact k0.1 | exact k0.2.1 | exact k0.2.2 | exact k1.1 | exact k1.2.1 | exact k1.2.2 | exact k2.1 | exact k2.2.1 | exact k2.2.2 | exact k3.1 | exact k3.2.1 | exact k3.2.2)

theorem st_of_laid {W : World} (h : laidMet Tryd.prog [("spool/named.table", Rows.laid_spool_named_table), ("spool/named.letters", Rows.laid_spool_named_letters)] W) : St W := ⟨tab_of_laid h, lets_of_laid h.tail⟩

theorem walkSets (nm : ByteArray) (c : Int) (W : World) (_ : nm.size ≤ maxLen) (_ : 0 ≤ c) (_ : c ≤ 255) (h : St W) : Calls Tryd.prog 3 #[.string nm, .int .u8 c] W fun e W' => e = .returned (.bool true) ∧ Below W.heap.size W W' := lawSets_any nm c W h.1 h.2
theorem walkNumbers (c : Int) (W : World) (_ : -9223372036854775808 ≤ c) (_ : c ≤ 9223372036854775807) (h : St W) : Calls Tryd.prog 4 #[.int .i64 c] W fun e W' => e = .returned (.bool true) ∧ Below W.heap.size W W' := lawNumbers_any c W h.1 h.2
theorem walkParts (i : Int) (W : World) (h0 : 0 ≤ i) (h1 : i ≤ 255) (h : St W) : Calls Tryd.prog 5 #[.int .u8 i] W fun e W' => e = .returned (.bool true) ∧ Below W.heap.size W W' := lawParts_any i h0 h1 W h.1 h.2

end Go.Proofs.YtenmjnopbbingaaDoor.Nm

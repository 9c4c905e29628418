/- The book: a map whose keys are nodes. -/
import Derived.Test.YtdgpanofehfjdaaArKx
import Derived.Test.YtdgpanofehfjdaaChecked
import Derived.Test.YtdgpanofehfjdaaCardKit
import Derived.WalkKit
import Derived.Maps.OwnSet
import Derived.Maps.OwnOps
import Derived.DeepKeys4
import Derived.Laws.MakeOwn
import Derived.Laws.OwnMore
namespace Go.Proofs.Ytdgpanofehfjdaa.Ar
open Go Go.RowKit Go.Shelf Go.Maps
open Go.Proofs.Ytdgpanofehfjdaa.Rg (R RngsAt RowsAt nthL add_zero own_next)

theorem lawN : Keyed Try.prog 41 := Keyed.of_law (deep_law_laid laidOut (m := 2) (by omega) (of_decide_eq_true (by kernel_rfl)) (by kernel_rfl) (by rw [Try.underlying41]))
theorem zeroInt (w : World) : (zeroValue 3).run Try.prog w = .ok (.int .i64 0) w := by kernel_rfl
theorem ktypesN : ∃ n, Try.prog.types.size + 1 = n + 1 + 1 := ⟨Try.prog.types.size - 1, by have : 1 ≤ Try.prog.types.size := of_decide_eq_true (by kernel_rfl); omega⟩
theorem ktN : Try.prog.keyType 41 = true := by kernel_rfl
theorem kcN : Try.prog.cellsOf 41 = 6 := by kernel_rfl
theorem kcI : Try.prog.cellsOf 3 = 1 := by kernel_rfl
abbrev Wf (x : Int) : Prop := (Lit.int .i64 x).wf = true
/-- all numbers of a node are numbers of their kind -/
structure WfN (n : Nd) : Prop where
  op : Wf n.op
  a : Wf n.a
  b : Wf n.b
  lo : Wf n.lo
  hi : Wf n.hi
  set : Wf n.set
/-- what a node reads as, as a key -/
def kl (n : Nd) : Lit := .string (keyBytes [.int .i64 n.op, .int .i64 n.a, .int .i64 n.b, .int .i64 n.lo, .int .i64 n.hi, .int .i64 n.set])
theorem litsN (d : Nat) {n : Nd} (h : WfN n) : Try.prog.keyLits (d + 1 + 1) 41 (cellsN n) = some [.int .i64 n.op, .int .i64 n.a, .int .i64 n.b, .int .i64 n.lo, .int .i64 n.hi, .int .i64 n.set] := by
  obtain ⟨h0, h1, h2, h3, h4, h5⟩ := h
  simp [Program.keyLits, Try.underlying41, Try.underlying3, kcN, kcI, cellsN, h0, h1, h2, h3, h4, h5]
theorem key_mk {n : Nd} (h : WfN n) : keyOf Try.prog 41 (aggN n) = some (kl n) := by
  have h1 : (aggN n).formed Try.prog 41 = true := by simp [aggN, Value.formed, Try.underlying41, kcN]
  obtain ⟨m, hm⟩ := ktypesN
  have h2 := litsN m h
  unfold keyOf
  rw [Try.underlying41]
  simp only [ktN, hm, h1, Bool.and_self, if_true]
  show Option.map _ (Try.prog.keyLits (m + 1 + 1) 41 (cellsN n)) = _
  rw [h2]; rfl
theorem kl_inj {m n : Nd} (hm : WfN m) (hn : WfN n) (h : kl m = kl n) : m = n := by
  have := lawN.inj (key_mk hm) (h ▸ key_mk hn)
  rw [Nd.eq_iff]
  simpa [aggN] using this

/-- a book in which these nodes stand, each with its place -/
structure Book (M : Nat) (H : List Nd) (w : World) : Prop where
  nodup : H.Nodup
  wf : ∀ n ∈ H, WfN n
  map : ∃ D : DataW Unit, w.ownsMap Try.prog 41 (plainElem Try.prog 3) M H.length D ∧ (∀ n, WfN n → (Maps.has D (kl n) = true ↔ n ∈ H)) ∧ (∀ (i : Nat) n, H[i]? = some n → D.atKey (kl n) (.lit (.int .i64 0)) = .lit (.int .i64 (i : Int))) ∧ Maps.size D = H.length

theorem book_new (w : World) : Book w.heap.size [] (w.alloc (.map #[] 0)) :=
  ⟨List.nodup_nil, fun n h => by simp at h, .map [], World.ownsMap_made _ _ _ _, fun n _ => by simp [Maps.has], fun i n h => by simp at h, rfl⟩

/-- a node that is new -/
theorem book_put {M : Nat} {H : List Nd} {w3 : World} {D : DataW Unit} {n : Nd} (hnd : H.Nodup) (hwf : ∀ n ∈ H, WfN n) (hn : WfN n) (hT : Tidy D) (hh : Maps.has D (kl n) = false)
    (hhas : ∀ n, WfN n → (Maps.has D (kl n) = true ↔ n ∈ H)) (hat : ∀ (i : Nat) n, H[i]? = some n → D.atKey (kl n) (.lit (.int .i64 0)) = .lit (.int .i64 (i : Int))) (hsize : Maps.size D = H.length)
    (hown : w3.ownsMap Try.prog 41 (plainElem Try.prog 3) M (H.length + 1) (D.put (kl n) (.lit (.int .i64 (H.length : Int))))) : Book M (H ++ [n]) w3 := by
  have hnot : n ∉ H := fun hm => by have := (hhas n hn).2 hm; rw [hh] at this; cases this
  have hK : WideAt.IsKeyLit (kl n) := lawN.key (key_mk hn)
  refine ⟨?_, fun m hm => ?_, _, by rw [List.length_append]; exact hown, fun m hm => ?_, fun i m him => ?_, by rw [size_put hT, hh, hsize]; simp⟩
  · rw [List.nodup_append]; exact ⟨hnd, List.nodup_cons.2 ⟨by simp, List.nodup_nil⟩, fun a ha b hb => by simp at hb; subst hb; exact fun e => hnot (e ▸ ha)⟩
  · rcases List.mem_append.1 hm with h | h
    · exact hwf m h
    · simp at h; subst h; exact hn
  · by_cases hmn : m = n
    · subst hmn
      rw [has_put_same hT.isMap hK]; simp
    · rw [has_put_other (fun e => hmn (kl_inj hm hn e)), hhas m hm]; simp [hmn]
  · rcases Nat.lt_or_ge i H.length with hl | hl
    · rw [List.getElem?_append_left hl] at him
      have hmem : m ∈ H := List.mem_of_getElem? him
      rw [atKey_put_other (fun e => hnot (kl_inj (hwf m hmem) hn e ▸ hmem))]
      exact hat i m him
    · have hil : i = H.length := by
        rcases Nat.lt_or_ge i (H.length + 1) with h' | h'
        · omega
        · rw [List.getElem?_eq_none (by simp; omega)] at him; cases him
      subst hil
      simp only [List.getElem?_concat_length, Option.some.injEq] at him
      subst him
      rw [atKey_put_same hT.isMap hK]
/-- what number tells -/
def NumOut (M : Nat) (H : List Nd) (n : Nd) (w : World) (e : Ending) (w' : World) : Prop :=
  ∃ (x : Nat) (H' : List Nd), e = .returned (.int .i64 (x : Int)) ∧ Book M H' w' ∧ Kx (fun b => b = M) w w' ∧ (H' = H ∨ H' = H ++ [n]) ∧ H'[x]? = some n

theorem wf_nat {n : Nat} (h : n ≤ 1000000) : Wf (n : Int) := WalkArith.wf_i64 (by omega)
theorem lit_inj {H : Type} {x y : Int} (h : (DataW.lit (.int .i64 x) : DataW H) = .lit (.int .i64 y)) : x = y := by simpa using h

set_option maxRecDepth 100000 in
set_option maxHeartbeats 4000000 in
theorem number_any (M : Nat) (H : List Nd) (n : Nd) (w : World) (h : Book M H w) (hn : WfN n) (hH : H.length ≤ 100000) :
    Calls Try.prog 39 #[.map (some M), aggN n] w (NumOut M H n w) := by
  obtain ⟨D, hown, hhas, hat, hsize⟩ := h.map
  have hkey := key_mk hn
  have hM := hown.lt
  have HBK := Lib.hid h
  have BW := Lib.hid (fun o => (Below.refl w.heap.size w).alloc (Nat.le_refl _) o)
  cases hh : Maps.has D (kl n)
  · have hT := hown.tidy lawN
    have hput := fun w3 (h3 : w3.ownsMap Try.prog 41 (plainElem Try.prog 3) M (H.length + 1) (D.put (kl n) (.lit (.int .i64 (H.length : Int))))) => book_put (w3 := w3) h.nodup h.wf hn hT hh hhas hat hsize h3
    have HPUT := Lib.hid hput
    have hwn : Wf ((H.length : Nat) : Int) := wf_nat (by omega)
    have HL := Lib.hid (show (H ++ [n])[H.length]? = some n by simp)
    obtain ⟨m, hm⟩ : ∃ m, m = H.length := ⟨_, rfl⟩
    rw [← hm] at hown hsize hwn hH HPUT HL
    have HMM := Lib.hid hm
    unfold aggN at *
    clear h hhas hat hput hT hm
    go_enter Try.func39, Try.ntmps39
    go_wp2_with (first
      | (at_lookup; refine wpList_lookup_own_ok_int _ rfl _ _ 65 rfl 41 3 .i64 lawN Try.underlying65 Try.underlying3 (zeroInt _) M m D rfl (hown.alloc _) _ _ rfl hkey ?_; intro c hat hwc; rw [hh]; clear hat hwc)
      | (at_len; refine wpList_len_own _ rfl _ 65 rfl 41 3 Try.underlying65 _ M m D rfl (hown.alloc _) ?_; rw [hsize])
      | (at_mapUpdate; refine wpList_mapUpdate_own _ rfl _ _ _ 65 rfl 41 3 lawN Try.underlying65 _ M m D rfl (hown.alloc _) (by unfold maxLen; omega) _ _ _ rfl rfl hkey _ [] (plainElem_int Try.underlying3 hwn) ?_; intro w3 hown3 hgrow3; go_must (have B3 := Lib.hid (HPUT.out _ hown3); have K3 := Lib.hid (Kx.trans (Kx.of_below (U := fun b => b = M) (BW.out _)) (Kx.of_grown hgrow3 (fun b hb => by simpa using hb.symm))); clear hown3 hgrow3))
      | fail)
    go_ret
    exact ⟨m, H ++ [n], rfl, B3.out, K3.out, .inr rfl, HL.out⟩
  · obtain ⟨i, hi⟩ := List.getElem?_of_mem ((hhas n hn).1 hh)
    have hlk := hat i n hi
    have HI := Lib.hid hi
    have HHA := Lib.hid hhas
    have HAT := Lib.hid hat
    have HSZ := Lib.hid hsize
    unfold aggN at *
    clear h hhas hat hi hsize
    go_enter Try.func39, Try.ntmps39
    go_wp2_with (at_lookup; refine wpList_lookup_own_ok_int _ rfl _ _ 65 rfl 41 3 .i64 lawN Try.underlying65 Try.underlying3 (zeroInt _) M H.length D rfl (hown.alloc _) _ _ rfl hkey ?_; intro c hat hwc; rw [hh]; obtain rfl : c = (i : Int) := (lit_inj (hat.symm.trans hlk)))
    go_ret
    exact ⟨i, H, rfl, ⟨HBK.out.nodup, HBK.out.wf, D, hown.alloc _, HHA.out, HAT.out, HSZ.out⟩, Kx.of_below (BW.out _), .inl rfl, HI.out⟩

end Go.Proofs.Ytdgpanofehfjdaa.Ar

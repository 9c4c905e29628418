/- An action is read, word by word. -/
import Derived.Test.YtleejfkononjgaaDoorAcNote
import Derived.RegionTactic
import Derived.Laws.EntriesVeiled
namespace Go.Proofs.YtleejfkononjgaaDoor.Ac
open Go Go.RowKit Go.Shelf Go.Proofs.YtleejfkononjgaaDoor.Wd

/-- what stepOf tells, case by case -/
def bS : ByteArray := ⟨#[115, 107, 105, 112]⟩
def SO (place : Int) (T : ByteArray) (p : Int) (t : ByteArray) (n : Int) (w : World) : Prop := Calls Tryd.prog 21 #[.int .i64 place, .string T] w fun e w' => e = .returned (.agg #[.int .i64 p, .string t, .int .i64 n]) ∧ Below w.heap.size w w'
theorem so_of {place : Int} {T : ByteArray} {w : World} {r : Int × ByteArray × Int} (hT : Tab w) (h : ∀ q, StepIs place T q → q = r) : SO place T r.1 r.2.1 r.2.2 w :=
  (stepOf_any place T w hT).mono fun e w' ⟨⟨q, he, hq⟩, hb⟩ => ⟨by rw [he, h q hq]; rfl, hb⟩

/-- the boxes: the reader's, the two results', the action's -/
structure Mem (s : ByteArray) (R n : Nat) (w : World) (K : Nat) (em : ByteArray) (g : Int) (wr : World) : Prop where
  rd : wr.heap[R]? = some (.cells #[.string s, .int .i64 (K : Nat)] 37 (0, 0))
  act : wr.heap[n]? = some (.cells #[.string ⟨#[]⟩, .int .i64 0] 26 (0, 0))
  flt : wr.heap[n + 1]? = some (.cells #[.int .i64 0, .int .i64 0] 29 (0, 0))
  box : wr.heap[n + 1 + 1]? = some (.cells #[.string em, .int .i64 g] 26 (0, 0))
  below : Below R w wr
  sep : R < n
theorem lt_of_heap {w : World} {b : Nat} {o : Obj} (h : w.heap[b]? = some o) : b < w.heap.size := (Array.getElem?_eq_some_iff.1 h).1
theorem Mem.size {s : ByteArray} {R n : Nat} {w : World} {K : Nat} {em : ByteArray} {g : Int} {wr : World} (h : Mem s R n w K em g wr) : n + 1 + 1 < wr.heap.size := lt_of_heap h.box
theorem Mem.next {s : ByteArray} {R n : Nat} {w : World} {K : Nat} {em : ByteArray} {g : Int} {W W' : World} (h : Mem s R n w K em g W) (hb : Below W.heap.size W W') : Mem s R n w K em g W' where
  rd := (hb.block _ (lt_of_heap h.rd)).trans h.rd
  act := (hb.block _ (lt_of_heap h.act)).trans h.act
  flt := (hb.block _ (lt_of_heap h.flt)).trans h.flt
  box := (hb.block _ (lt_of_heap h.box)).trans h.box
  below := h.below.trans (hb.mono (by have := lt_of_heap h.rd; omega))
  sep := h.sep
theorem Mem.word {s : ByteArray} {R n : Nat} {w : World} {K b : Nat} {em : ByteArray} {g : Int} {W W' : World} (h : Mem s R n w K em g W) (hN : Nx R W W') (hx : W'.heap[R]? = some (.cells #[.string s, .int .i64 (b : Nat)] 37 (0, 0))) : Mem s R n w b em g W' where
  rd := hx
  act := hN.box h.act (by have := h.sep; omega)
  flt := hN.box h.flt (by have := h.sep; omega)
  box := hN.box h.box (by have := h.sep; omega)
  below := h.below.trans hN.below
  sep := h.sep
theorem Mem.noted {s : ByteArray} {R n : Nat} {w : World} {K : Nat} {em em' : ByteArray} {g g' : Int} {W W' : World} (h : Mem s R n w K em g W) (hN : Nx (n + 1 + 1) W W') (hx : W'.heap[n + 1 + 1]? = some (.cells #[.string em', .int .i64 g'] 26 (0, 0))) : Mem s R n w K em' g' W' where
  rd := hN.box h.rd (by have := h.sep; omega)
  act := hN.box h.act (by omega)
  flt := hN.box h.flt (by omega)
  box := hx
  below := h.below.trans (hN.below.mono (by have := h.sep; omega))
  sep := h.sep
/-- what is known of the four cells of the results -/
theorem Mem.res {s : ByteArray} {R n : Nat} {w : World} {K : Nat} {em : ByteArray} {g : Int} {W : World} (h : Mem s R n w K em g W) :
    (W.cell? ⟨n, 0, none⟩ = some (.string ⟨#[]⟩) ∧ W.cell? ⟨n, 1, none⟩ = some (.int .i64 0)) ∧ (W.cell? ⟨n + 1, 0, none⟩ = some (.int .i64 0) ∧ W.cell? ⟨n + 1, 1, none⟩ = some (.int .i64 0)) ∧
    (W.frozen? ⟨n, 0, none⟩ = false ∧ W.frozen? ⟨n, 1, none⟩ = false) ∧ (W.frozen? ⟨n + 1, 0, none⟩ = false ∧ W.frozen? ⟨n + 1, 1, none⟩ = false) :=
  ⟨cells_two h.act, cells_two h.flt, ⟨frozen_of_row _ _ _ _ _ h.act, frozen_of_row _ _ _ _ _ h.act⟩, ⟨frozen_of_row _ _ _ _ _ h.flt, frozen_of_row _ _ _ _ _ h.flt⟩⟩

/-- what stands between two rounds -/
structure Rel (s : ByteArray) (M : List ByteArray) (R n : Nat) (w : World) (pl k K : Nat) (em : ByteArray) (g : Int) (wr : World) : Prop where
  lo : 1 ≤ pl
  hi : pl ≤ 5
  le : K ≤ s.size
  left : wdL none K (s.data.toList.drop K) = (wordsL s.data.toList).drop k
  told : parseL s M = fin (txt s (wordsL s.data.toList)) (pos s (wordsL s.data.toList)) M pl k em g
  one : pl = 1 → k = 0
  bare : pl ≤ 2 → em = bE
  none_ : pl ≤ 4 → g = -1
  mem : Mem s R n w K em g wr

/-- the two results, and the four stores that lay them -/
theorem set_four {X : World} {n : Nat} {a b c d a' b' c' d' : Value} {t u : TypeId} (h1 : X.heap[n]? = some (.cells #[a, b] t (0, 0))) (h2 : X.heap[n + 1]? = some (.cells #[c, d] u (0, 0))) :
    ((((X.setCell ⟨n, 0, none⟩ a').setCell ⟨n, 1, none⟩ b').setCell ⟨n + 1, 0, none⟩ c').setCell ⟨n + 1, 1, none⟩ d').heap[n]? = some (.cells #[a', b'] t (0, 0)) ∧
    ((((X.setCell ⟨n, 0, none⟩ a').setCell ⟨n, 1, none⟩ b').setCell ⟨n + 1, 0, none⟩ c').setCell ⟨n + 1, 1, none⟩ d').heap[n + 1]? = some (.cells #[c', d'] u (0, 0)) := by
  have k1 := (set_two (set_two h1 a').1 b').2
  have k2 : ((X.setCell ⟨n, 0, none⟩ a').setCell ⟨n, 1, none⟩ b').heap[n + 1]? = some (.cells #[c, d] u (0, 0)) := by
    rw [Below.heap_setCell _ _ _ _ (by simp), Below.heap_setCell _ _ _ _ (by simp)]; exact h2
  have k3 := (set_two (set_two k2 c').1 d').2
  refine ⟨?_, k3⟩
  rw [Below.heap_setCell _ _ _ _ (by simp), Below.heap_setCell _ _ _ _ (by simp)]; exact k1
theorem set_four_d {X : World} {n : Nat} {a b c d a' b' c' d' : Value} {t u : TypeId} (h1 : X.heap[n]? = some (.cells #[a, b] t (0, 0))) (h2 : X.heap[n + 1]? = some (.cells #[c, d] u (0, 0))) :
    ((((X.setCell ⟨n, 0, none⟩ a').setCell ⟨n, 1, none⟩ b').setCell ⟨n + 1, 0, none⟩ c').setCell ⟨n + 1, 1, none⟩ d').drew.heap[n]? = some (.cells #[a', b'] t (0, 0)) ∧
    ((((X.setCell ⟨n, 0, none⟩ a').setCell ⟨n, 1, none⟩ b').setCell ⟨n + 1, 0, none⟩ c').setCell ⟨n + 1, 1, none⟩ d').drew.heap[n + 1]? = some (.cells #[c', d'] u (0, 0)) := set_four h1 h2
theorem below_four {w X : World} {R n : Nat} {a' b' c' d' : Value} (h : Below R w X) (hn : R ≤ n) : Below R w ((((X.setCell ⟨n, 0, none⟩ a').setCell ⟨n, 1, none⟩ b').setCell ⟨n + 1, 0, none⟩ c').setCell ⟨n + 1, 1, none⟩ d') :=
  (((h.setCell (p := ⟨n, 0, none⟩) hn a').setCell (p := ⟨n, 1, none⟩) hn b').setCell (p := ⟨n + 1, 0, none⟩) (Nat.le_succ_of_le hn) c').setCell (p := ⟨n + 1, 1, none⟩) (Nat.le_succ_of_le hn) d'
def vRes (r : Res) : Value := .tuple #[.agg #[.string r.emit, .int .i64 r.goto], .agg #[.int .i64 r.e, .int .i64 r.at_]]
theorem retRes {r q : Res} (h : r = q) : Ending.returned (vRes r) = .returned (vRes q) := by rw [h]

theorem isE_no {a : ByteArray} (h : a ≠ bE) : a.toList.isEmpty = false := by
  rw [List.isEmpty_eq_false_iff]
  intro e
  exact h (bytes_eq (b := bE) (by rw [e, ByteArray.toList_eq]; rfl))
theorem h_skip : (⟨#[115, 107, 105, 112]⟩ : ByteArray) = bSkip := rfl
theorem h_emit : (⟨#[101, 109, 105, 116]⟩ : ByteArray) = bEmit := rfl
theorem h_goto : (⟨#[103, 111, 116, 111]⟩ : ByteArray) = bGoto := rfl
theorem h_no : (⟨#[]⟩ : ByteArray) = bE := rfl
theorem so_skip (w : World) (h : Tab w) : SO 1 ⟨#[115, 107, 105, 112]⟩ 1 ⟨#[115, 107, 105, 112]⟩ 3 w := so_of (r := (1, bSkip, 3)) h fun _ hq => (step1 hq).trans (if_pos rfl)
theorem so_emit (w : World) (h : Tab w) : SO 1 ⟨#[101, 109, 105, 116]⟩ 1 ⟨#[101, 109, 105, 116]⟩ 2 w := so_of (r := (1, bEmit, 2)) h fun _ hq => (step1 hq).trans ((if_neg emit_skip).trans (if_pos rfl))
theorem so_1no {T : ByteArray} (w : World) (h : Tab w) (h1 : T ≠ bSkip) (h2 : T ≠ bEmit) : SO 1 T 0 ⟨#[]⟩ 0 w := so_of (r := (0, bE, 0)) h fun _ hq => (step1 hq).trans ((if_neg h1).trans (if_neg h2))
theorem so_2no (w : World) (h : Tab w) : SO 2 ⟨#[]⟩ 0 ⟨#[]⟩ 0 w := so_of (r := (0, bE, 0)) h fun _ hq => (step2 hq).trans (if_pos rfl)
theorem so_2 {T : ByteArray} (w : World) (h : Tab w) (h1 : T ≠ bE) : SO 2 T 2 ⟨#[]⟩ 3 w := so_of (r := (2, bE, 3)) h fun _ hq => (step2 hq).trans (if_neg h1)
theorem so_goto (w : World) (h : Tab w) : SO 3 ⟨#[103, 111, 116, 111]⟩ 3 ⟨#[103, 111, 116, 111]⟩ 4 w := so_of (r := (3, bGoto, 4)) h fun _ hq => (step3 hq).trans (if_pos rfl)
theorem so_3no {T : ByteArray} (w : World) (h : Tab w) (h1 : T ≠ bGoto) : SO 3 T 0 ⟨#[]⟩ 0 w := so_of (r := (0, bE, 0)) h fun _ hq => (step3 hq).trans (if_neg h1)
theorem so_4no (w : World) (h : Tab w) : SO 4 ⟨#[]⟩ 0 ⟨#[]⟩ 0 w := so_of (r := (0, bE, 0)) h fun _ hq => (step4 hq).trans (if_pos rfl)
theorem so_4 {T : ByteArray} (w : World) (h : Tab w) (h1 : T ≠ bE) : SO 4 T 4 ⟨#[]⟩ 5 w := so_of (r := (4, bE, 5)) h fun _ hq => (step4 hq).trans (if_neg h1)
theorem so_5no {T : ByteArray} (w : World) (h : Tab w) : SO 5 T 0 ⟨#[]⟩ 0 w := so_of (r := (0, bE, 0)) h fun _ hq => step5 hq

set_option maxRecDepth 100000 in
set_option maxHeartbeats 16000000 in
theorem read_any (R : Nat) (s : ByteArray) (M : List ByteArray) (v : Value) (w0 w : World) (hb0 : Below w0.heap.size w0 w) (hR : w0.heap.size ≤ R) (hT : Tab w0) (hv : StrsAt w0 v M) (hs : s.size ≤ 1000000) (hbx : w.heap[R]? = some (.cells #[.string s, .int .i64 0] 37 (0, 0))) :
    Calls Tryd.prog 13 #[.func (.func 14) #[.pointer (some ⟨R, 0, none⟩)] #[], v] w fun e w' => e = .returned (vRes (parseL s M)) ∧ Below R w w' := by
  have hlt := (Array.getElem?_eq_some_iff.1 hbx).1
  have BX := Lib.hid hbx
  have WW := Lib.hid (fun (W : World) (h : Below R w W) => hb0.trans (h.mono hR))
  have TT := Lib.hid (fun (W : World) (h : Below R w W) => hT.next (WW.out W h))
  have VV := Lib.hid (fun (W : World) (h : Below R w W) => hv.next (WW.out W h))
  clear hbx hb0 hT hv WW
  go_enter Tryd.func13, Tryd.ntmps13
  go_upto_region 2 with fail
  have b1 := Below.refl R w
  have R0 : Rel s M R w.heap.size w 1 0 0 bE (-1) (((w.alloc (.cells #[.string ⟨#[]⟩, .int .i64 0] 26)).alloc (.cells #[.int .i64 0, .int .i64 0] 29)).alloc (.cells #[.string ⟨#[]⟩, .int .i64 (-1)] 26)) := {
    lo := by omega
    hi := by omega
    le := Nat.zero_le _
    left := rfl
    told := rfl
    one := fun _ => rfl
    bare := fun _ => rfl
    none_ := fun _ => rfl
    mem := {
      rd := (heap_alloc_old _ _ (by simp; omega)).trans ((heap_alloc_old _ _ (by simp; omega)).trans ((heap_alloc_old _ _ hlt).trans BX.out))
      act := (heap_alloc_old _ _ (by simp; omega)).trans ((heap_alloc_old _ _ (by simp)).trans (heap_alloc_new _ _))
      flt := (heap_alloc_old _ _ (by simp)).trans (heap_alloc2_new _ _ _)
      box := by
        have h := heap_alloc_new ((w.alloc (.cells #[.string ⟨#[]⟩, .int .i64 0] 26)).alloc (.cells #[.int .i64 0, .int .i64 0] 29)) (.cells #[.string ⟨#[]⟩, .int .i64 (-1)] 26)
        simp only [World.size_alloc] at h
        exact h
      below := ((b1.alloc (by omega) _).alloc (by simp; omega) _).alloc (by simp; omega) _
      sep := hlt } }
  generalize ((w.alloc (.cells #[.string ⟨#[]⟩, .int .i64 0] 26)).alloc (.cells #[.int .i64 0, .int .i64 0] 29)).alloc (.cells #[.string ⟨#[]⟩, .int .i64 (-1)] 26) = w1 at *
  have HR0 := Lib.hid R0
  clear R0 b1
  obtain ⟨n, hnn⟩ : ∃ n, w.heap.size = n := ⟨_, rfl⟩
  have hRn : R < n := by omega
  rw [hnn] at HR0 ⊢
  have HNN := Lib.hid hnn
  clear hnn hlt BX
  go_wp2
  go_loopw [7] (fun p wr => ∃ (pl k K : Nat) (em : ByteArray) (g : Int), p = .int .i64 (pl : Nat) ∧ Rel s M R n w pl k K em g wr) (fun p _ => 5 - (intOf p).toNat)
  case atStart => exact ⟨1, 0, 0, bE, -1, rfl, HR0.out⟩
  case round =>
    clear HR0
    obtain ⟨pl, k, K, em, g, rfl, hrl⟩ := hrel
    have HL := Lib.hid hrl
    have hz := hrl.mem.size
    obtain ⟨a, b, hnx, hab, hbs, htx, hps, hlf⟩ := round_word hrl.le hrl.left
    have NX := Lib.hid (next_m R s K a b wr hs hrl.le hrl.mem.rd hnx hab hbs)
    have hsz : (s.extract a b).size ≤ 1000000 := by rw [ByteArray.size_extract]; omega
    obtain ⟨T, hTT⟩ : ∃ T, s.extract a b = T := ⟨_, rfl⟩
    rw [hTT] at NX hsz htx
    have HT := Lib.hid htx
    have HP := Lib.hid hps
    have HLF := Lib.hid hlf
    have HBS := Lib.hid hbs
    clear hrl hnx hab hbs htx hps hlf hTT
    go_upto_region 4 with (first
      | (go_at_call 14; ((with_reducible refine NX.out.mono ?_); rintro e w2 ⟨rfl, hrd, hnx⟩); go_must (have hz2 := hnx.size; have N2 := Lib.hid hnx; have D2 := Lib.hid hrd; clear hnx hrd))
      | fail)
    have m3 := (HL.out.mem.word N2.out D2.out).next ((Below.refl _ w2).alloc (Nat.le_refl _) (.cells #[.string T, .int .i64 (a : Nat)] 48))
    obtain ⟨p0, p1⟩ := cells_two (heap_alloc_new w2 (.cells #[.string T, .int .i64 (a : Nat)] 48))
    have hB1 : n + 1 + 1 < w2.heap.size := Nat.lt_of_lt_of_le hz hz2
    generalize w2.alloc (.cells #[.string T, .int .i64 (a : Nat)] 48) = w3 at *
    generalize w2.heap.size = B at *
    have hB2 := cell_lt p0
    dsimp only at hB2
    have M3 := Lib.hid m3
    have W3 := Lib.hid (And.intro p0 p1)
    clear m3 NX N2 D2 hz2
    have hlo := HL.out.lo
    have hhi := HL.out.hi
    obtain rfl | rfl | rfl | rfl | rfl : pl = 1 ∨ pl = 2 ∨ pl = 3 ∨ pl = 4 ∨ pl = 5 := by omega
    · obtain rfl := HL.out.one rfl
      obtain rfl := HL.out.bare (by omega)
      obtain rfl := HL.out.none_ (by omega)
      clear hlo hhi
      by_cases c1 : T = bSkip
      · have c1' : T = ⟨#[115, 107, 105, 112]⟩ := c1
        subst c1'
        clear c1
        have HX := Lib.hid (show parseL s M = fin (txt s (wordsL s.data.toList)) (pos s (wordsL s.data.toList)) M 3 (0 + 1) bE (-1) from by
          rw [HL.out.told]
          show fin1 _ _ _ = _
          unfold fin1; rw [← HT.out, if_pos h_skip]; rfl)
        have st := so_skip w3 (TT.out _ M3.out.below)
        unfold SO at st
        have ST := Lib.hid st
        clear st
        obtain ⟨p0, p1⟩ := W3.out
        go_upto_region 7 with (first
          | (go_at_call 21; ((with_reducible refine ST.out.mono ?_); rintro e w4 ⟨rfl, hb⟩); go_must (have hz4 := hb.size; have P4 := Lib.hid (And.intro (cell_next p0 hb) (cell_next p1 hb)); have M4 := Lib.hid (M3.out.next hb); clear hb p0 p1))
          | fail)
        have hb5 := (Below.refl _ w4).alloc (Nat.le_refl _) (.cells #[.int .i64 1, .string ⟨#[115, 107, 105, 112]⟩, .int .i64 3] 50)
        have h5 : (w4.alloc (.cells #[.int .i64 1, .string ⟨#[115, 107, 105, 112]⟩, .int .i64 3] 50)).heap[w4.heap.size]? = some (.cells #[.int .i64 1, .string ⟨#[115, 107, 105, 112]⟩, .int .i64 3] 50 (0, 0)) := heap_alloc_new w4 _
        generalize w4.alloc (.cells #[.int .i64 1, .string ⟨#[115, 107, 105, 112]⟩, .int .i64 3] 50) = w5 at *
        have M5 := Lib.hid (M4.out.next hb5)
        have p0 := cell_next P4.out.1 hb5
        have p1 := cell_next P4.out.2 hb5
        have hC := Nat.lt_of_lt_of_le hB1 (Nat.le_trans (Nat.le_of_lt hB2) hz4)
        generalize w4.heap.size = C at *
        obtain ⟨s0, s1, s2⟩ := cells_three h5
        have hC2 := lt_of_heap h5
        have hB3 := cell_lt p0
        dsimp only at hB3
        clear hb5 h5 ST M4 P4 M3 W3 hB2 hz4
        have NT := Lib.hid (note_0 (.pointer (some ⟨n + 1 + 1, 0, none⟩)) v ⟨#[115, 107, 105, 112]⟩ w5)
        go_upto_region 8 with (first
          | (go_at_call 22; ((with_reducible refine NT.out.mono ?_); rintro e w6 ⟨rfl, hb⟩); go_must (have q0 := cell_next p0 hb; have q1 := cell_next p1 hb; have q2 := cell_next s2 hb; have M6 := Lib.hid (M5.out.next hb); clear hb p0 p1 s0 s1 s2))
          | fail)
        clear NT M5
        go_wp2
        go_roundw
        case rel => exact ⟨3, _ + 1, b, bE, (-1), rfl, ⟨by omega, by omega, HBS.out, HLF.out, HX.out, fun h => by omega, fun h => rfl, fun h => rfl, M6.out⟩⟩
        case measure => simp [intOf]
      have n1 := Lib.hid c1
      clear c1
      by_cases c1 : T = bEmit
      · have c1' : T = ⟨#[101, 109, 105, 116]⟩ := c1
        subst c1'
        clear c1
        have HX := Lib.hid (show parseL s M = fin (txt s (wordsL s.data.toList)) (pos s (wordsL s.data.toList)) M 2 (0 + 1) bE (-1) from by
          rw [HL.out.told]
          show fin1 _ _ _ = _
          unfold fin1; rw [← HT.out, if_neg n1.out, if_pos h_emit]; rfl)
        have st := so_emit w3 (TT.out _ M3.out.below)
        unfold SO at st
        have ST := Lib.hid st
        clear st
        obtain ⟨p0, p1⟩ := W3.out
        go_upto_region 7 with (first
          | (go_at_call 21; ((with_reducible refine ST.out.mono ?_); rintro e w4 ⟨rfl, hb⟩); go_must (have hz4 := hb.size; have P4 := Lib.hid (And.intro (cell_next p0 hb) (cell_next p1 hb)); have M4 := Lib.hid (M3.out.next hb); clear hb p0 p1))
          | fail)
        have hb5 := (Below.refl _ w4).alloc (Nat.le_refl _) (.cells #[.int .i64 1, .string ⟨#[101, 109, 105, 116]⟩, .int .i64 2] 50)
        have h5 : (w4.alloc (.cells #[.int .i64 1, .string ⟨#[101, 109, 105, 116]⟩, .int .i64 2] 50)).heap[w4.heap.size]? = some (.cells #[.int .i64 1, .string ⟨#[101, 109, 105, 116]⟩, .int .i64 2] 50 (0, 0)) := heap_alloc_new w4 _
        generalize w4.alloc (.cells #[.int .i64 1, .string ⟨#[101, 109, 105, 116]⟩, .int .i64 2] 50) = w5 at *
        have M5 := Lib.hid (M4.out.next hb5)
        have p0 := cell_next P4.out.1 hb5
        have p1 := cell_next P4.out.2 hb5
        have hC := Nat.lt_of_lt_of_le hB1 (Nat.le_trans (Nat.le_of_lt hB2) hz4)
        generalize w4.heap.size = C at *
        obtain ⟨s0, s1, s2⟩ := cells_three h5
        have hC2 := lt_of_heap h5
        have hB3 := cell_lt p0
        dsimp only at hB3
        clear hb5 h5 ST M4 P4 M3 W3 hB2 hz4
        have NT := Lib.hid (note_1 (.pointer (some ⟨n + 1 + 1, 0, none⟩)) v ⟨#[101, 109, 105, 116]⟩ w5)
        go_upto_region 8 with (first
          | (go_at_call 22; ((with_reducible refine NT.out.mono ?_); rintro e w6 ⟨rfl, hb⟩); go_must (have q0 := cell_next p0 hb; have q1 := cell_next p1 hb; have q2 := cell_next s2 hb; have M6 := Lib.hid (M5.out.next hb); clear hb p0 p1 s0 s1 s2))
          | fail)
        clear NT M5
        go_wp2
        go_roundw
        case rel => exact ⟨2, _ + 1, b, bE, (-1), rfl, ⟨by omega, by omega, HBS.out, HLF.out, HX.out, fun h => by omega, fun h => rfl, fun h => rfl, M6.out⟩⟩
        case measure => simp [intOf]
      have n2 := Lib.hid c1
      clear c1
      have HX := Lib.hid (show parseL s M = bad 3 ((pos s (wordsL s.data.toList)) 0) from by
        rw [HL.out.told]
        show fin1 _ _ _ = _
        unfold fin1; rw [← HT.out, if_neg n1.out, if_neg n2.out])
      by_cases c1 : T = bE
      · have c1' : T = ⟨#[]⟩ := c1
        subst c1'
        clear c1
        have st := so_1no w3 (TT.out _ M3.out.below) n1.out n2.out
        unfold SO at st
        have ST := Lib.hid st
        clear st
        obtain ⟨p0, p1⟩ := W3.out
        go_upto_region 7 with (first
          | (go_at_call 21; ((with_reducible refine ST.out.mono ?_); rintro e w4 ⟨rfl, hb⟩); go_must (have hz4 := hb.size; have P4 := Lib.hid (And.intro (cell_next p0 hb) (cell_next p1 hb)); have M4 := Lib.hid (M3.out.next hb); clear hb p0 p1))
          | fail)
        have hb5 := (Below.refl _ w4).alloc (Nat.le_refl _) (.cells #[.int .i64 0, .string ⟨#[]⟩, .int .i64 0] 50)
        have h5 : (w4.alloc (.cells #[.int .i64 0, .string ⟨#[]⟩, .int .i64 0] 50)).heap[w4.heap.size]? = some (.cells #[.int .i64 0, .string ⟨#[]⟩, .int .i64 0] 50 (0, 0)) := heap_alloc_new w4 _
        generalize w4.alloc (.cells #[.int .i64 0, .string ⟨#[]⟩, .int .i64 0] 50) = w5 at *
        have M5 := Lib.hid (M4.out.next hb5)
        have p0 := cell_next P4.out.1 hb5
        have p1 := cell_next P4.out.2 hb5
        have hC := Nat.lt_of_lt_of_le hB1 (Nat.le_trans (Nat.le_of_lt hB2) hz4)
        generalize w4.heap.size = C at *
        obtain ⟨s0, s1, s2⟩ := cells_three h5
        have hC2 := lt_of_heap h5
        have hB3 := cell_lt p0
        dsimp only at hB3
        clear hb5 h5 ST M4 P4 M3 W3 hB2 hz4
        have NT := Lib.hid (note_zero (.pointer (some ⟨n + 1 + 1, 0, none⟩)) v ⟨#[]⟩ w5)
        go_upto_region 8 with (first
          | (go_at_call 22; ((with_reducible refine NT.out.mono ?_); rintro e w6 ⟨rfl, hb⟩); go_must (have q0 := cell_next p0 hb; have q1 := cell_next p1 hb; have q2 := cell_next s2 hb; have M6 := Lib.hid (M5.out.next hb); clear hb p0 p1 s0 s1 s2))
          | fail)
        clear NT M5
        obtain ⟨⟨r0, r1⟩, ⟨r2, r3⟩, ⟨f0, f1⟩, ⟨f2, f3⟩⟩ := M6.out.res
        have hz6 := M6.out.size
        go_wp2
        go_region
        all_goals (
          go_wp2
          (try simp only [Exit.inBlock, Exit.then])
          have S4 := set_four_d (a' := .string ⟨#[]⟩) (b' := .int .i64 0) (c' := .int .i64 3) (d' := .int .i64 (a : Nat)) M6.out.act M6.out.flt
          refine bodyPost_ret (results_rows rfl _ _ n 26 #[.string ⟨#[]⟩, .int .i64 0] (0, 0) _ rfl S4.1 Tryd.underlying26 rfl (by kernel_rfl) (n + 1) 29 #[.int .i64 3, .int .i64 (a : Nat)] (0, 0) _ rfl S4.2 Tryd.underlying29 rfl (by kernel_rfl)) rfl ?_
          exact ⟨(show _ = Ending.returned (vRes (bad 3 a)) from rfl).trans (retRes (by rw [HX.out, ← HP.out])), (below_four M6.out.below (Nat.le_of_lt hRn)).drew⟩)
      · have d1 := empty_no c1
        have d2 := isE_no c1
        clear c1
        have st := so_1no w3 (TT.out _ M3.out.below) n1.out n2.out
        unfold SO at st
        have ST := Lib.hid st
        clear st
        obtain ⟨p0, p1⟩ := W3.out
        go_upto_region 7 with (first
          | (go_at_call 21; ((with_reducible refine ST.out.mono ?_); rintro e w4 ⟨rfl, hb⟩); go_must (have hz4 := hb.size; have P4 := Lib.hid (And.intro (cell_next p0 hb) (cell_next p1 hb)); have M4 := Lib.hid (M3.out.next hb); clear hb p0 p1))
          | fail)
        have hb5 := (Below.refl _ w4).alloc (Nat.le_refl _) (.cells #[.int .i64 0, .string ⟨#[]⟩, .int .i64 0] 50)
        have h5 : (w4.alloc (.cells #[.int .i64 0, .string ⟨#[]⟩, .int .i64 0] 50)).heap[w4.heap.size]? = some (.cells #[.int .i64 0, .string ⟨#[]⟩, .int .i64 0] 50 (0, 0)) := heap_alloc_new w4 _
        generalize w4.alloc (.cells #[.int .i64 0, .string ⟨#[]⟩, .int .i64 0] 50) = w5 at *
        have M5 := Lib.hid (M4.out.next hb5)
        have p0 := cell_next P4.out.1 hb5
        have p1 := cell_next P4.out.2 hb5
        have hC := Nat.lt_of_lt_of_le hB1 (Nat.le_trans (Nat.le_of_lt hB2) hz4)
        generalize w4.heap.size = C at *
        obtain ⟨s0, s1, s2⟩ := cells_three h5
        have hC2 := lt_of_heap h5
        have hB3 := cell_lt p0
        dsimp only at hB3
        clear hb5 h5 ST M4 P4 M3 W3 hB2 hz4
        have NT := Lib.hid (note_zero (.pointer (some ⟨n + 1 + 1, 0, none⟩)) v T w5)
        go_upto_region 8 with (first
          | (go_at_call 22; ((with_reducible refine NT.out.mono ?_); rintro e w6 ⟨rfl, hb⟩); go_must (have q0 := cell_next p0 hb; have q1 := cell_next p1 hb; have q2 := cell_next s2 hb; have M6 := Lib.hid (M5.out.next hb); clear hb p0 p1 s0 s1 s2))
          | fail)
        clear NT M5
        obtain ⟨⟨r0, r1⟩, ⟨r2, r3⟩, ⟨f0, f1⟩, ⟨f2, f3⟩⟩ := M6.out.res
        have hz6 := M6.out.size
        go_wp2
        go_region
        all_goals (
          go_wp2
          (try simp only [Exit.inBlock, Exit.then])
          have S4 := set_four_d (a' := .string ⟨#[]⟩) (b' := .int .i64 0) (c' := .int .i64 3) (d' := .int .i64 (a : Nat)) M6.out.act M6.out.flt
          refine bodyPost_ret (results_rows rfl _ _ n 26 #[.string ⟨#[]⟩, .int .i64 0] (0, 0) _ rfl S4.1 Tryd.underlying26 rfl (by kernel_rfl) (n + 1) 29 #[.int .i64 3, .int .i64 (a : Nat)] (0, 0) _ rfl S4.2 Tryd.underlying29 rfl (by kernel_rfl)) rfl ?_
          exact ⟨(show _ = Ending.returned (vRes (bad 3 a)) from rfl).trans (retRes (by rw [HX.out, ← HP.out])), (below_four M6.out.below (Nat.le_of_lt hRn)).drew⟩)
    · obtain rfl := HL.out.bare (by omega)
      obtain rfl := HL.out.none_ (by omega)
      clear hlo hhi
      by_cases c1 : T = bE
      · have c1' : T = ⟨#[]⟩ := c1
        subst c1'
        clear c1
        have HX := Lib.hid (show parseL s M = bad 3 ((pos s (wordsL s.data.toList)) k) from by
          rw [HL.out.told]
          show fin2 _ _ _ _ = _
          unfold fin2; rw [← HT.out, if_pos h_no])
        have st := so_2no w3 (TT.out _ M3.out.below)
        unfold SO at st
        have ST := Lib.hid st
        clear st
        obtain ⟨p0, p1⟩ := W3.out
        go_upto_region 7 with (first
          | (go_at_call 21; ((with_reducible refine ST.out.mono ?_); rintro e w4 ⟨rfl, hb⟩); go_must (have hz4 := hb.size; have P4 := Lib.hid (And.intro (cell_next p0 hb) (cell_next p1 hb)); have M4 := Lib.hid (M3.out.next hb); clear hb p0 p1))
          | fail)
        have hb5 := (Below.refl _ w4).alloc (Nat.le_refl _) (.cells #[.int .i64 0, .string ⟨#[]⟩, .int .i64 0] 50)
        have h5 : (w4.alloc (.cells #[.int .i64 0, .string ⟨#[]⟩, .int .i64 0] 50)).heap[w4.heap.size]? = some (.cells #[.int .i64 0, .string ⟨#[]⟩, .int .i64 0] 50 (0, 0)) := heap_alloc_new w4 _
        generalize w4.alloc (.cells #[.int .i64 0, .string ⟨#[]⟩, .int .i64 0] 50) = w5 at *
        have M5 := Lib.hid (M4.out.next hb5)
        have p0 := cell_next P4.out.1 hb5
        have p1 := cell_next P4.out.2 hb5
        have hC := Nat.lt_of_lt_of_le hB1 (Nat.le_trans (Nat.le_of_lt hB2) hz4)
        generalize w4.heap.size = C at *
        obtain ⟨s0, s1, s2⟩ := cells_three h5
        have hC2 := lt_of_heap h5
        have hB3 := cell_lt p0
        dsimp only at hB3
        clear hb5 h5 ST M4 P4 M3 W3 hB2 hz4
        have NT := Lib.hid (note_zero (.pointer (some ⟨n + 1 + 1, 0, none⟩)) v ⟨#[]⟩ w5)
        go_upto_region 8 with (first
          | (go_at_call 22; ((with_reducible refine NT.out.mono ?_); rintro e w6 ⟨rfl, hb⟩); go_must (have q0 := cell_next p0 hb; have q1 := cell_next p1 hb; have q2 := cell_next s2 hb; have M6 := Lib.hid (M5.out.next hb); clear hb p0 p1 s0 s1 s2))
          | fail)
        clear NT M5
        obtain ⟨⟨r0, r1⟩, ⟨r2, r3⟩, ⟨f0, f1⟩, ⟨f2, f3⟩⟩ := M6.out.res
        have hz6 := M6.out.size
        go_wp2
        go_region
        all_goals (
          go_wp2
          (try simp only [Exit.inBlock, Exit.then])
          have S4 := set_four_d (a' := .string ⟨#[]⟩) (b' := .int .i64 0) (c' := .int .i64 3) (d' := .int .i64 (a : Nat)) M6.out.act M6.out.flt
          refine bodyPost_ret (results_rows rfl _ _ n 26 #[.string ⟨#[]⟩, .int .i64 0] (0, 0) _ rfl S4.1 Tryd.underlying26 rfl (by kernel_rfl) (n + 1) 29 #[.int .i64 3, .int .i64 (a : Nat)] (0, 0) _ rfl S4.2 Tryd.underlying29 rfl (by kernel_rfl)) rfl ?_
          exact ⟨(show _ = Ending.returned (vRes (bad 3 a)) from rfl).trans (retRes (by rw [HX.out, ← HP.out])), (below_four M6.out.below (Nat.le_of_lt hRn)).drew⟩)
      have n1 := Lib.hid c1
      have d1 := empty_no c1
      have d2 := isE_no c1
      clear c1
      cases hn : nameL T.data.toList
      · have HN := Lib.hid hn
        clear hn
        have HX := Lib.hid (show parseL s M = bad 4 ((pos s (wordsL s.data.toList)) k) from by
          rw [HL.out.told]
          show fin2 _ _ _ _ = _
          unfold fin2; rw [← HT.out, if_neg n1.out, if_pos HN.out])
        have st := so_2 w3 (TT.out _ M3.out.below) n1.out
        unfold SO at st
        have ST := Lib.hid st
        clear st
        obtain ⟨p0, p1⟩ := W3.out
        go_upto_region 7 with (first
          | (go_at_call 21; ((with_reducible refine ST.out.mono ?_); rintro e w4 ⟨rfl, hb⟩); go_must (have hz4 := hb.size; have P4 := Lib.hid (And.intro (cell_next p0 hb) (cell_next p1 hb)); have M4 := Lib.hid (M3.out.next hb); clear hb p0 p1))
          | fail)
        have hb5 := (Below.refl _ w4).alloc (Nat.le_refl _) (.cells #[.int .i64 2, .string ⟨#[]⟩, .int .i64 3] 50)
        have h5 : (w4.alloc (.cells #[.int .i64 2, .string ⟨#[]⟩, .int .i64 3] 50)).heap[w4.heap.size]? = some (.cells #[.int .i64 2, .string ⟨#[]⟩, .int .i64 3] 50 (0, 0)) := heap_alloc_new w4 _
        generalize w4.alloc (.cells #[.int .i64 2, .string ⟨#[]⟩, .int .i64 3] 50) = w5 at *
        have M5 := Lib.hid (M4.out.next hb5)
        have p0 := cell_next P4.out.1 hb5
        have p1 := cell_next P4.out.2 hb5
        have hC := Nat.lt_of_lt_of_le hB1 (Nat.le_trans (Nat.le_of_lt hB2) hz4)
        generalize w4.heap.size = C at *
        obtain ⟨s0, s1, s2⟩ := cells_three h5
        have hC2 := lt_of_heap h5
        have hB3 := cell_lt p0
        dsimp only at hB3
        clear hb5 h5 ST M4 P4 M3 W3 hB2 hz4
        have NT := Lib.hid (note_bad_a (.pointer (some ⟨n + 1 + 1, 0, none⟩)) v T w5 (by unfold maxLen; omega) HN.out)
        go_upto_region 8 with (first
          | (go_at_call 22; ((with_reducible refine NT.out.mono ?_); rintro e w6 ⟨rfl, hb⟩); go_must (have q0 := cell_next p0 hb; have q1 := cell_next p1 hb; have q2 := cell_next s2 hb; have M6 := Lib.hid (M5.out.next hb); clear hb p0 p1 s0 s1 s2))
          | fail)
        clear NT M5
        obtain ⟨⟨r0, r1⟩, ⟨r2, r3⟩, ⟨f0, f1⟩, ⟨f2, f3⟩⟩ := M6.out.res
        have hz6 := M6.out.size
        go_wp2
        go_region
        all_goals (
          go_wp2
          (try simp only [Exit.inBlock, Exit.then])
          have S4 := set_four_d (a' := .string ⟨#[]⟩) (b' := .int .i64 0) (c' := .int .i64 4) (d' := .int .i64 (a : Nat)) M6.out.act M6.out.flt
          refine bodyPost_ret (results_rows rfl _ _ n 26 #[.string ⟨#[]⟩, .int .i64 0] (0, 0) _ rfl S4.1 Tryd.underlying26 rfl (by kernel_rfl) (n + 1) 29 #[.int .i64 4, .int .i64 (a : Nat)] (0, 0) _ rfl S4.2 Tryd.underlying29 rfl (by kernel_rfl)) rfl ?_
          exact ⟨(show _ = Ending.returned (vRes (bad 4 a)) from rfl).trans (retRes (by rw [HX.out, ← HP.out])), (below_four M6.out.below (Nat.le_of_lt hRn)).drew⟩)
      · have HN := Lib.hid hn
        clear hn
        have HX := Lib.hid (show parseL s M = fin (txt s (wordsL s.data.toList)) (pos s (wordsL s.data.toList)) M 3 (k + 1) T (-1) from by
          rw [HL.out.told]
          show fin2 _ _ _ _ = _
          unfold fin2; rw [← HT.out, if_neg n1.out, if_neg (by rw [HN.out]; simp)]; rfl)
        have st := so_2 w3 (TT.out _ M3.out.below) n1.out
        unfold SO at st
        have ST := Lib.hid st
        clear st
        obtain ⟨p0, p1⟩ := W3.out
        go_upto_region 7 with (first
          | (go_at_call 21; ((with_reducible refine ST.out.mono ?_); rintro e w4 ⟨rfl, hb⟩); go_must (have hz4 := hb.size; have P4 := Lib.hid (And.intro (cell_next p0 hb) (cell_next p1 hb)); have M4 := Lib.hid (M3.out.next hb); clear hb p0 p1))
          | fail)
        have hb5 := (Below.refl _ w4).alloc (Nat.le_refl _) (.cells #[.int .i64 2, .string ⟨#[]⟩, .int .i64 3] 50)
        have h5 : (w4.alloc (.cells #[.int .i64 2, .string ⟨#[]⟩, .int .i64 3] 50)).heap[w4.heap.size]? = some (.cells #[.int .i64 2, .string ⟨#[]⟩, .int .i64 3] 50 (0, 0)) := heap_alloc_new w4 _
        generalize w4.alloc (.cells #[.int .i64 2, .string ⟨#[]⟩, .int .i64 3] 50) = w5 at *
        have M5 := Lib.hid (M4.out.next hb5)
        have p0 := cell_next P4.out.1 hb5
        have p1 := cell_next P4.out.2 hb5
        have hC := Nat.lt_of_lt_of_le hB1 (Nat.le_trans (Nat.le_of_lt hB2) hz4)
        generalize w4.heap.size = C at *
        obtain ⟨s0, s1, s2⟩ := cells_three h5
        have hC2 := lt_of_heap h5
        have hB3 := cell_lt p0
        dsimp only at hB3
        clear hb5 h5 ST M4 P4 M3 W3 hB2 hz4
        have NT := Lib.hid (note_emit (n + 1 + 1) bE T (-1) v w5 hsz HN.out M5.out.box)
        go_upto_region 8 with (first
          | (go_at_call 22; ((with_reducible refine NT.out.mono ?_); rintro e w6 ⟨rfl, hx, hN⟩); go_must (have q0 := hN.cell p0 (by omega); have q1 := hN.cell p1 (by omega); have q2 := hN.cell s2 (by omega); have M6 := Lib.hid (M5.out.noted hN hx); clear hN hx p0 p1 s0 s1 s2))
          | fail)
        clear NT M5
        go_wp2
        go_roundw
        case rel => exact ⟨3, _ + 1, b, T, (-1), rfl, ⟨by omega, by omega, HBS.out, HLF.out, HX.out, fun h => by omega, fun h => by omega, fun h => rfl, M6.out⟩⟩
        case measure => simp [intOf]
    · obtain rfl := HL.out.none_ (by omega)
      clear hlo hhi
      by_cases c1 : T = bE
      · have c1' : T = ⟨#[]⟩ := c1
        subst c1'
        clear c1
        have HX := Lib.hid (show parseL s M = ⟨em, -1, 0, 0⟩ from by
          rw [HL.out.told]
          show fin3 _ _ _ _ _ = _
          unfold fin3; rw [← HT.out, if_pos h_no])
        obtain ⟨⟨r0, r1⟩, ⟨r2, r3⟩, ⟨f0, f1⟩, ⟨f2, f3⟩⟩ := M3.out.res
        obtain ⟨p0, p1⟩ := W3.out
        obtain ⟨q0, q1⟩ := cells_two M3.out.box
        have hz6 := M3.out.size
        go_wp2
        (try simp only [Exit.inBlock, Exit.then])
        have S4 := set_four (a' := .string em) (b' := .int .i64 (-1)) (c' := .int .i64 0) (d' := .int .i64 0) M3.out.act M3.out.flt
        refine bodyPost_ret (results_rows rfl _ _ n 26 #[.string em, .int .i64 (-1)] (0, 0) _ rfl S4.1 Tryd.underlying26 rfl (by kernel_rfl) (n + 1) 29 #[.int .i64 0, .int .i64 0] (0, 0) _ rfl S4.2 Tryd.underlying29 rfl (by kernel_rfl)) rfl ?_
        exact ⟨(show _ = Ending.returned (vRes ⟨em, (-1), 0, 0⟩) from rfl).trans (retRes HX.out.symm), below_four M3.out.below (Nat.le_of_lt hRn)⟩
      have n1 := Lib.hid c1
      have d1 := empty_no c1
      have d2 := isE_no c1
      clear c1
      by_cases c1 : T = bGoto
      · have c1' : T = ⟨#[103, 111, 116, 111]⟩ := c1
        subst c1'
        clear c1
        clear d1 d2
        have HX := Lib.hid (show parseL s M = fin (txt s (wordsL s.data.toList)) (pos s (wordsL s.data.toList)) M 4 (k + 1) em (-1) from by
          rw [HL.out.told]
          show fin3 _ _ _ _ _ = _
          unfold fin3; rw [← HT.out, if_neg n1.out, if_pos h_goto]; rfl)
        have st := so_goto w3 (TT.out _ M3.out.below)
        unfold SO at st
        have ST := Lib.hid st
        clear st
        obtain ⟨p0, p1⟩ := W3.out
        go_upto_region 7 with (first
          | (go_at_call 21; ((with_reducible refine ST.out.mono ?_); rintro e w4 ⟨rfl, hb⟩); go_must (have hz4 := hb.size; have P4 := Lib.hid (And.intro (cell_next p0 hb) (cell_next p1 hb)); have M4 := Lib.hid (M3.out.next hb); clear hb p0 p1))
          | fail)
        have hb5 := (Below.refl _ w4).alloc (Nat.le_refl _) (.cells #[.int .i64 3, .string ⟨#[103, 111, 116, 111]⟩, .int .i64 4] 50)
        have h5 : (w4.alloc (.cells #[.int .i64 3, .string ⟨#[103, 111, 116, 111]⟩, .int .i64 4] 50)).heap[w4.heap.size]? = some (.cells #[.int .i64 3, .string ⟨#[103, 111, 116, 111]⟩, .int .i64 4] 50 (0, 0)) := heap_alloc_new w4 _
        generalize w4.alloc (.cells #[.int .i64 3, .string ⟨#[103, 111, 116, 111]⟩, .int .i64 4] 50) = w5 at *
        have M5 := Lib.hid (M4.out.next hb5)
        have p0 := cell_next P4.out.1 hb5
        have p1 := cell_next P4.out.2 hb5
        have hC := Nat.lt_of_lt_of_le hB1 (Nat.le_trans (Nat.le_of_lt hB2) hz4)
        generalize w4.heap.size = C at *
        obtain ⟨s0, s1, s2⟩ := cells_three h5
        have hC2 := lt_of_heap h5
        have hB3 := cell_lt p0
        dsimp only at hB3
        clear hb5 h5 ST M4 P4 M3 W3 hB2 hz4
        have NT := Lib.hid (note_2 (.pointer (some ⟨n + 1 + 1, 0, none⟩)) v ⟨#[103, 111, 116, 111]⟩ w5)
        go_upto_region 8 with (first
          | (go_at_call 22; ((with_reducible refine NT.out.mono ?_); rintro e w6 ⟨rfl, hb⟩); go_must (have q0 := cell_next p0 hb; have q1 := cell_next p1 hb; have q2 := cell_next s2 hb; have M6 := Lib.hid (M5.out.next hb); clear hb p0 p1 s0 s1 s2))
          | fail)
        clear NT M5
        go_wp2
        go_roundw
        case rel => exact ⟨4, _ + 1, b, em, (-1), rfl, ⟨by omega, by omega, HBS.out, HLF.out, HX.out, fun h => by omega, fun h => by omega, fun h => rfl, M6.out⟩⟩
        case measure => simp [intOf]
      · have n2 := Lib.hid c1
        clear c1
        have HX := Lib.hid (show parseL s M = bad 3 ((pos s (wordsL s.data.toList)) k) from by
          rw [HL.out.told]
          show fin3 _ _ _ _ _ = _
          unfold fin3; rw [← HT.out, if_neg n1.out, if_neg n2.out])
        have st := so_3no w3 (TT.out _ M3.out.below) n2.out
        unfold SO at st
        have ST := Lib.hid st
        clear st
        obtain ⟨p0, p1⟩ := W3.out
        go_upto_region 7 with (first
          | (go_at_call 21; ((with_reducible refine ST.out.mono ?_); rintro e w4 ⟨rfl, hb⟩); go_must (have hz4 := hb.size; have P4 := Lib.hid (And.intro (cell_next p0 hb) (cell_next p1 hb)); have M4 := Lib.hid (M3.out.next hb); clear hb p0 p1))
          | fail)
        have hb5 := (Below.refl _ w4).alloc (Nat.le_refl _) (.cells #[.int .i64 0, .string ⟨#[]⟩, .int .i64 0] 50)
        have h5 : (w4.alloc (.cells #[.int .i64 0, .string ⟨#[]⟩, .int .i64 0] 50)).heap[w4.heap.size]? = some (.cells #[.int .i64 0, .string ⟨#[]⟩, .int .i64 0] 50 (0, 0)) := heap_alloc_new w4 _
        generalize w4.alloc (.cells #[.int .i64 0, .string ⟨#[]⟩, .int .i64 0] 50) = w5 at *
        have M5 := Lib.hid (M4.out.next hb5)
        have p0 := cell_next P4.out.1 hb5
        have p1 := cell_next P4.out.2 hb5
        have hC := Nat.lt_of_lt_of_le hB1 (Nat.le_trans (Nat.le_of_lt hB2) hz4)
        generalize w4.heap.size = C at *
        obtain ⟨s0, s1, s2⟩ := cells_three h5
        have hC2 := lt_of_heap h5
        have hB3 := cell_lt p0
        dsimp only at hB3
        clear hb5 h5 ST M4 P4 M3 W3 hB2 hz4
        have NT := Lib.hid (note_zero (.pointer (some ⟨n + 1 + 1, 0, none⟩)) v T w5)
        go_upto_region 8 with (first
          | (go_at_call 22; ((with_reducible refine NT.out.mono ?_); rintro e w6 ⟨rfl, hb⟩); go_must (have q0 := cell_next p0 hb; have q1 := cell_next p1 hb; have q2 := cell_next s2 hb; have M6 := Lib.hid (M5.out.next hb); clear hb p0 p1 s0 s1 s2))
          | fail)
        clear NT M5
        obtain ⟨⟨r0, r1⟩, ⟨r2, r3⟩, ⟨f0, f1⟩, ⟨f2, f3⟩⟩ := M6.out.res
        have hz6 := M6.out.size
        go_wp2
        go_region
        all_goals (
          go_wp2
          (try simp only [Exit.inBlock, Exit.then])
          have S4 := set_four_d (a' := .string ⟨#[]⟩) (b' := .int .i64 0) (c' := .int .i64 3) (d' := .int .i64 (a : Nat)) M6.out.act M6.out.flt
          refine bodyPost_ret (results_rows rfl _ _ n 26 #[.string ⟨#[]⟩, .int .i64 0] (0, 0) _ rfl S4.1 Tryd.underlying26 rfl (by kernel_rfl) (n + 1) 29 #[.int .i64 3, .int .i64 (a : Nat)] (0, 0) _ rfl S4.2 Tryd.underlying29 rfl (by kernel_rfl)) rfl ?_
          exact ⟨(show _ = Ending.returned (vRes (bad 3 a)) from rfl).trans (retRes (by rw [HX.out, ← HP.out])), (below_four M6.out.below (Nat.le_of_lt hRn)).drew⟩)
    · obtain rfl := HL.out.none_ (by omega)
      clear hlo hhi
      by_cases c1 : T = bE
      · have c1' : T = ⟨#[]⟩ := c1
        subst c1'
        clear c1
        have HX := Lib.hid (show parseL s M = bad 3 ((pos s (wordsL s.data.toList)) k) from by
          rw [HL.out.told]
          show fin4 _ _ _ _ _ = _
          unfold fin4; rw [← HT.out, if_pos h_no])
        have st := so_4no w3 (TT.out _ M3.out.below)
        unfold SO at st
        have ST := Lib.hid st
        clear st
        obtain ⟨p0, p1⟩ := W3.out
        go_upto_region 7 with (first
          | (go_at_call 21; ((with_reducible refine ST.out.mono ?_); rintro e w4 ⟨rfl, hb⟩); go_must (have hz4 := hb.size; have P4 := Lib.hid (And.intro (cell_next p0 hb) (cell_next p1 hb)); have M4 := Lib.hid (M3.out.next hb); clear hb p0 p1))
          | fail)
        have hb5 := (Below.refl _ w4).alloc (Nat.le_refl _) (.cells #[.int .i64 0, .string ⟨#[]⟩, .int .i64 0] 50)
        have h5 : (w4.alloc (.cells #[.int .i64 0, .string ⟨#[]⟩, .int .i64 0] 50)).heap[w4.heap.size]? = some (.cells #[.int .i64 0, .string ⟨#[]⟩, .int .i64 0] 50 (0, 0)) := heap_alloc_new w4 _
        generalize w4.alloc (.cells #[.int .i64 0, .string ⟨#[]⟩, .int .i64 0] 50) = w5 at *
        have M5 := Lib.hid (M4.out.next hb5)
        have p0 := cell_next P4.out.1 hb5
        have p1 := cell_next P4.out.2 hb5
        have hC := Nat.lt_of_lt_of_le hB1 (Nat.le_trans (Nat.le_of_lt hB2) hz4)
        generalize w4.heap.size = C at *
        obtain ⟨s0, s1, s2⟩ := cells_three h5
        have hC2 := lt_of_heap h5
        have hB3 := cell_lt p0
        dsimp only at hB3
        clear hb5 h5 ST M4 P4 M3 W3 hB2 hz4
        have NT := Lib.hid (note_zero (.pointer (some ⟨n + 1 + 1, 0, none⟩)) v ⟨#[]⟩ w5)
        go_upto_region 8 with (first
          | (go_at_call 22; ((with_reducible refine NT.out.mono ?_); rintro e w6 ⟨rfl, hb⟩); go_must (have q0 := cell_next p0 hb; have q1 := cell_next p1 hb; have q2 := cell_next s2 hb; have M6 := Lib.hid (M5.out.next hb); clear hb p0 p1 s0 s1 s2))
          | fail)
        clear NT M5
        obtain ⟨⟨r0, r1⟩, ⟨r2, r3⟩, ⟨f0, f1⟩, ⟨f2, f3⟩⟩ := M6.out.res
        have hz6 := M6.out.size
        go_wp2
        go_region
        all_goals (
          go_wp2
          (try simp only [Exit.inBlock, Exit.then])
          have S4 := set_four_d (a' := .string ⟨#[]⟩) (b' := .int .i64 0) (c' := .int .i64 3) (d' := .int .i64 (a : Nat)) M6.out.act M6.out.flt
          refine bodyPost_ret (results_rows rfl _ _ n 26 #[.string ⟨#[]⟩, .int .i64 0] (0, 0) _ rfl S4.1 Tryd.underlying26 rfl (by kernel_rfl) (n + 1) 29 #[.int .i64 3, .int .i64 (a : Nat)] (0, 0) _ rfl S4.2 Tryd.underlying29 rfl (by kernel_rfl)) rfl ?_
          exact ⟨(show _ = Ending.returned (vRes (bad 3 a)) from rfl).trans (retRes (by rw [HX.out, ← HP.out])), (below_four M6.out.below (Nat.le_of_lt hRn)).drew⟩)
      have n1 := Lib.hid c1
      have d1 := empty_no c1
      have d2 := isE_no c1
      clear c1
      cases hn : nameL T.data.toList
      · have HN := Lib.hid hn
        clear hn
        have HX := Lib.hid (show parseL s M = bad 4 ((pos s (wordsL s.data.toList)) k) from by
          rw [HL.out.told]
          show fin4 _ _ _ _ _ = _
          unfold fin4; rw [← HT.out, if_neg n1.out, if_pos HN.out])
        have st := so_4 w3 (TT.out _ M3.out.below) n1.out
        unfold SO at st
        have ST := Lib.hid st
        clear st
        obtain ⟨p0, p1⟩ := W3.out
        go_upto_region 7 with (first
          | (go_at_call 21; ((with_reducible refine ST.out.mono ?_); rintro e w4 ⟨rfl, hb⟩); go_must (have hz4 := hb.size; have P4 := Lib.hid (And.intro (cell_next p0 hb) (cell_next p1 hb)); have M4 := Lib.hid (M3.out.next hb); clear hb p0 p1))
          | fail)
        have hb5 := (Below.refl _ w4).alloc (Nat.le_refl _) (.cells #[.int .i64 4, .string ⟨#[]⟩, .int .i64 5] 50)
        have h5 : (w4.alloc (.cells #[.int .i64 4, .string ⟨#[]⟩, .int .i64 5] 50)).heap[w4.heap.size]? = some (.cells #[.int .i64 4, .string ⟨#[]⟩, .int .i64 5] 50 (0, 0)) := heap_alloc_new w4 _
        generalize w4.alloc (.cells #[.int .i64 4, .string ⟨#[]⟩, .int .i64 5] 50) = w5 at *
        have M5 := Lib.hid (M4.out.next hb5)
        have p0 := cell_next P4.out.1 hb5
        have p1 := cell_next P4.out.2 hb5
        have hC := Nat.lt_of_lt_of_le hB1 (Nat.le_trans (Nat.le_of_lt hB2) hz4)
        generalize w4.heap.size = C at *
        obtain ⟨s0, s1, s2⟩ := cells_three h5
        have hC2 := lt_of_heap h5
        have hB3 := cell_lt p0
        dsimp only at hB3
        clear hb5 h5 ST M4 P4 M3 W3 hB2 hz4
        have NT := Lib.hid (note_bad_b (.pointer (some ⟨n + 1 + 1, 0, none⟩)) v T w5 (by unfold maxLen; omega) HN.out)
        go_upto_region 8 with (first
          | (go_at_call 22; ((with_reducible refine NT.out.mono ?_); rintro e w6 ⟨rfl, hb⟩); go_must (have q0 := cell_next p0 hb; have q1 := cell_next p1 hb; have q2 := cell_next s2 hb; have M6 := Lib.hid (M5.out.next hb); clear hb p0 p1 s0 s1 s2))
          | fail)
        clear NT M5
        obtain ⟨⟨r0, r1⟩, ⟨r2, r3⟩, ⟨f0, f1⟩, ⟨f2, f3⟩⟩ := M6.out.res
        have hz6 := M6.out.size
        go_wp2
        go_region
        all_goals (
          go_wp2
          (try simp only [Exit.inBlock, Exit.then])
          have S4 := set_four_d (a' := .string ⟨#[]⟩) (b' := .int .i64 0) (c' := .int .i64 4) (d' := .int .i64 (a : Nat)) M6.out.act M6.out.flt
          refine bodyPost_ret (results_rows rfl _ _ n 26 #[.string ⟨#[]⟩, .int .i64 0] (0, 0) _ rfl S4.1 Tryd.underlying26 rfl (by kernel_rfl) (n + 1) 29 #[.int .i64 4, .int .i64 (a : Nat)] (0, 0) _ rfl S4.2 Tryd.underlying29 rfl (by kernel_rfl)) rfl ?_
          exact ⟨(show _ = Ending.returned (vRes (bad 4 a)) from rfl).trans (retRes (by rw [HX.out, ← HP.out])), (below_four M6.out.below (Nat.le_of_lt hRn)).drew⟩)
      · have HN := Lib.hid hn
        clear hn
        by_cases c1 : numL M T = -1
        · have n2 := Lib.hid c1
          clear c1
          have HX := Lib.hid (show parseL s M = bad 11 ((pos s (wordsL s.data.toList)) k) from by
            rw [HL.out.told]
            show fin4 _ _ _ _ _ = _
            unfold fin4; rw [← HT.out, if_neg n1.out, if_neg (by rw [HN.out]; simp), if_pos n2.out])
          have st := so_4 w3 (TT.out _ M3.out.below) n1.out
          unfold SO at st
          have ST := Lib.hid st
          clear st
          obtain ⟨p0, p1⟩ := W3.out
          go_upto_region 7 with (first
            | (go_at_call 21; ((with_reducible refine ST.out.mono ?_); rintro e w4 ⟨rfl, hb⟩); go_must (have hz4 := hb.size; have P4 := Lib.hid (And.intro (cell_next p0 hb) (cell_next p1 hb)); have M4 := Lib.hid (M3.out.next hb); clear hb p0 p1))
            | fail)
          have hb5 := (Below.refl _ w4).alloc (Nat.le_refl _) (.cells #[.int .i64 4, .string ⟨#[]⟩, .int .i64 5] 50)
          have h5 : (w4.alloc (.cells #[.int .i64 4, .string ⟨#[]⟩, .int .i64 5] 50)).heap[w4.heap.size]? = some (.cells #[.int .i64 4, .string ⟨#[]⟩, .int .i64 5] 50 (0, 0)) := heap_alloc_new w4 _
          generalize w4.alloc (.cells #[.int .i64 4, .string ⟨#[]⟩, .int .i64 5] 50) = w5 at *
          have M5 := Lib.hid (M4.out.next hb5)
          have p0 := cell_next P4.out.1 hb5
          have p1 := cell_next P4.out.2 hb5
          have hC := Nat.lt_of_lt_of_le hB1 (Nat.le_trans (Nat.le_of_lt hB2) hz4)
          generalize w4.heap.size = C at *
          obtain ⟨s0, s1, s2⟩ := cells_three h5
          have hC2 := lt_of_heap h5
          have hB3 := cell_lt p0
          dsimp only at hB3
          clear hb5 h5 ST M4 P4 M3 W3 hB2 hz4
          have NT := Lib.hid (by
            have h := note_mode (n + 1 + 1) em T (-1) M v w5 (VV.out _ M5.out.below) hsz HN.out M5.out.box
            rw [if_pos n2.out] at h
            exact h)
          go_upto_region 8 with (first
            | (go_at_call 22; ((with_reducible refine NT.out.mono ?_); rintro e w6 ⟨rfl, hx, hN⟩); go_must (have q0 := hN.cell p0 (by omega); have q1 := hN.cell p1 (by omega); have q2 := hN.cell s2 (by omega); have M6 := Lib.hid (M5.out.noted hN hx); clear hN hx p0 p1 s0 s1 s2))
            | fail)
          clear NT M5
          obtain ⟨⟨r0, r1⟩, ⟨r2, r3⟩, ⟨f0, f1⟩, ⟨f2, f3⟩⟩ := M6.out.res
          have hz6 := M6.out.size
          go_wp2
          go_region
          all_goals (
            go_wp2
            (try simp only [Exit.inBlock, Exit.then])
            have S4 := set_four_d (a' := .string ⟨#[]⟩) (b' := .int .i64 0) (c' := .int .i64 11) (d' := .int .i64 (a : Nat)) M6.out.act M6.out.flt
            refine bodyPost_ret (results_rows rfl _ _ n 26 #[.string ⟨#[]⟩, .int .i64 0] (0, 0) _ rfl S4.1 Tryd.underlying26 rfl (by kernel_rfl) (n + 1) 29 #[.int .i64 11, .int .i64 (a : Nat)] (0, 0) _ rfl S4.2 Tryd.underlying29 rfl (by kernel_rfl)) rfl ?_
            exact ⟨(show _ = Ending.returned (vRes (bad 11 a)) from rfl).trans (retRes (by rw [HX.out, ← HP.out])), (below_four M6.out.below (Nat.le_of_lt hRn)).drew⟩)
        · have n2 := Lib.hid c1
          clear c1
          have HX := Lib.hid (show parseL s M = fin (txt s (wordsL s.data.toList)) (pos s (wordsL s.data.toList)) M 5 (k + 1) em (numL M T) from by
            rw [HL.out.told]
            show fin4 _ _ _ _ _ = _
            unfold fin4; rw [← HT.out, if_neg n1.out, if_neg (by rw [HN.out]; simp), if_neg n2.out]; rfl)
          have st := so_4 w3 (TT.out _ M3.out.below) n1.out
          unfold SO at st
          have ST := Lib.hid st
          clear st
          obtain ⟨p0, p1⟩ := W3.out
          go_upto_region 7 with (first
            | (go_at_call 21; ((with_reducible refine ST.out.mono ?_); rintro e w4 ⟨rfl, hb⟩); go_must (have hz4 := hb.size; have P4 := Lib.hid (And.intro (cell_next p0 hb) (cell_next p1 hb)); have M4 := Lib.hid (M3.out.next hb); clear hb p0 p1))
            | fail)
          have hb5 := (Below.refl _ w4).alloc (Nat.le_refl _) (.cells #[.int .i64 4, .string ⟨#[]⟩, .int .i64 5] 50)
          have h5 : (w4.alloc (.cells #[.int .i64 4, .string ⟨#[]⟩, .int .i64 5] 50)).heap[w4.heap.size]? = some (.cells #[.int .i64 4, .string ⟨#[]⟩, .int .i64 5] 50 (0, 0)) := heap_alloc_new w4 _
          generalize w4.alloc (.cells #[.int .i64 4, .string ⟨#[]⟩, .int .i64 5] 50) = w5 at *
          have M5 := Lib.hid (M4.out.next hb5)
          have p0 := cell_next P4.out.1 hb5
          have p1 := cell_next P4.out.2 hb5
          have hC := Nat.lt_of_lt_of_le hB1 (Nat.le_trans (Nat.le_of_lt hB2) hz4)
          generalize w4.heap.size = C at *
          obtain ⟨s0, s1, s2⟩ := cells_three h5
          have hC2 := lt_of_heap h5
          have hB3 := cell_lt p0
          dsimp only at hB3
          clear hb5 h5 ST M4 P4 M3 W3 hB2 hz4
          have NT := Lib.hid (by
            have h := note_mode (n + 1 + 1) em T (-1) M v w5 (VV.out _ M5.out.below) hsz HN.out M5.out.box
            rw [if_neg n2.out] at h
            exact h)
          go_upto_region 8 with (first
            | (go_at_call 22; ((with_reducible refine NT.out.mono ?_); rintro e w6 ⟨rfl, hx, hN⟩); go_must (have q0 := hN.cell p0 (by omega); have q1 := hN.cell p1 (by omega); have q2 := hN.cell s2 (by omega); have M6 := Lib.hid (M5.out.noted hN hx); clear hN hx p0 p1 s0 s1 s2))
            | fail)
          clear NT M5
          go_wp2
          go_roundw
          case rel => exact ⟨5, _ + 1, b, em, (numL M T), rfl, ⟨by omega, by omega, HBS.out, HLF.out, HX.out, fun h => by omega, fun h => by omega, fun h => by omega, M6.out⟩⟩
          case measure => simp [intOf]
    · clear hlo hhi
      by_cases c1 : T = bE
      · have c1' : T = ⟨#[]⟩ := c1
        subst c1'
        clear c1
        have HX := Lib.hid (show parseL s M = ⟨em, g, 0, 0⟩ from by
          rw [HL.out.told]
          show fin5 _ _ _ _ _ = _
          unfold fin5; rw [← HT.out, if_pos h_no])
        obtain ⟨⟨r0, r1⟩, ⟨r2, r3⟩, ⟨f0, f1⟩, ⟨f2, f3⟩⟩ := M3.out.res
        obtain ⟨p0, p1⟩ := W3.out
        obtain ⟨q0, q1⟩ := cells_two M3.out.box
        have hz6 := M3.out.size
        go_wp2
        (try simp only [Exit.inBlock, Exit.then])
        have S4 := set_four (a' := .string em) (b' := .int .i64 g) (c' := .int .i64 0) (d' := .int .i64 0) M3.out.act M3.out.flt
        refine bodyPost_ret (results_rows rfl _ _ n 26 #[.string em, .int .i64 g] (0, 0) _ rfl S4.1 Tryd.underlying26 rfl (by kernel_rfl) (n + 1) 29 #[.int .i64 0, .int .i64 0] (0, 0) _ rfl S4.2 Tryd.underlying29 rfl (by kernel_rfl)) rfl ?_
        exact ⟨(show _ = Ending.returned (vRes ⟨em, g, 0, 0⟩) from rfl).trans (retRes HX.out.symm), below_four M3.out.below (Nat.le_of_lt hRn)⟩
      · have n1 := Lib.hid c1
        have d1 := empty_no c1
        have d2 := isE_no c1
        clear c1
        have HX := Lib.hid (show parseL s M = bad 3 ((pos s (wordsL s.data.toList)) k) from by
          rw [HL.out.told]
          show fin5 _ _ _ _ _ = _
          unfold fin5; rw [← HT.out, if_neg n1.out])
        have st := so_5no (T := T) w3 (TT.out _ M3.out.below)
        unfold SO at st
        have ST := Lib.hid st
        clear st
        obtain ⟨p0, p1⟩ := W3.out
        go_upto_region 7 with (first
          | (go_at_call 21; ((with_reducible refine ST.out.mono ?_); rintro e w4 ⟨rfl, hb⟩); go_must (have hz4 := hb.size; have P4 := Lib.hid (And.intro (cell_next p0 hb) (cell_next p1 hb)); have M4 := Lib.hid (M3.out.next hb); clear hb p0 p1))
          | fail)
        have hb5 := (Below.refl _ w4).alloc (Nat.le_refl _) (.cells #[.int .i64 0, .string ⟨#[]⟩, .int .i64 0] 50)
        have h5 : (w4.alloc (.cells #[.int .i64 0, .string ⟨#[]⟩, .int .i64 0] 50)).heap[w4.heap.size]? = some (.cells #[.int .i64 0, .string ⟨#[]⟩, .int .i64 0] 50 (0, 0)) := heap_alloc_new w4 _
        generalize w4.alloc (.cells #[.int .i64 0, .string ⟨#[]⟩, .int .i64 0] 50) = w5 at *
        have M5 := Lib.hid (M4.out.next hb5)
        have p0 := cell_next P4.out.1 hb5
        have p1 := cell_next P4.out.2 hb5
        have hC := Nat.lt_of_lt_of_le hB1 (Nat.le_trans (Nat.le_of_lt hB2) hz4)
        generalize w4.heap.size = C at *
        obtain ⟨s0, s1, s2⟩ := cells_three h5
        have hC2 := lt_of_heap h5
        have hB3 := cell_lt p0
        dsimp only at hB3
        clear hb5 h5 ST M4 P4 M3 W3 hB2 hz4
        have NT := Lib.hid (note_zero (.pointer (some ⟨n + 1 + 1, 0, none⟩)) v T w5)
        go_upto_region 8 with (first
          | (go_at_call 22; ((with_reducible refine NT.out.mono ?_); rintro e w6 ⟨rfl, hb⟩); go_must (have q0 := cell_next p0 hb; have q1 := cell_next p1 hb; have q2 := cell_next s2 hb; have M6 := Lib.hid (M5.out.next hb); clear hb p0 p1 s0 s1 s2))
          | fail)
        clear NT M5
        obtain ⟨⟨r0, r1⟩, ⟨r2, r3⟩, ⟨f0, f1⟩, ⟨f2, f3⟩⟩ := M6.out.res
        have hz6 := M6.out.size
        go_wp2
        go_region
        all_goals (
          go_wp2
          (try simp only [Exit.inBlock, Exit.then])
          have S4 := set_four_d (a' := .string ⟨#[]⟩) (b' := .int .i64 0) (c' := .int .i64 3) (d' := .int .i64 (a : Nat)) M6.out.act M6.out.flt
          refine bodyPost_ret (results_rows rfl _ _ n 26 #[.string ⟨#[]⟩, .int .i64 0] (0, 0) _ rfl S4.1 Tryd.underlying26 rfl (by kernel_rfl) (n + 1) 29 #[.int .i64 3, .int .i64 (a : Nat)] (0, 0) _ rfl S4.2 Tryd.underlying29 rfl (by kernel_rfl)) rfl ?_
          exact ⟨(show _ = Ending.returned (vRes (bad 3 a)) from rfl).trans (retRes (by rw [HX.out, ← HP.out])), (below_four M6.out.below (Nat.le_of_lt hRn)).drew⟩)

end Go.Proofs.YtleejfkononjgaaDoor.Ac

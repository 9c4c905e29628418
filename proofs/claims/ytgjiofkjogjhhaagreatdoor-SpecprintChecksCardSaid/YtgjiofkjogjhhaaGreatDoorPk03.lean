/- A walk of the document's Text. Letters and digits; the document's escape, and how often. Expressions as texts, and how deep their brackets are: plain words. Sets of rows of numbers in plain words: one row behind the other, so many times, what is left behind a number. A book of parts in plain words: what each call tells, and which rows each part has. Code points and their bytes, in plain words: what utf tells. How long texts are, in plain words: spans of nodes; the shortest text is empty just if the tree has the empty row. -/
import Derived.Test.YtgjiofkjogjhhaaGreatDoorPk02
import Derived.Test.YtgjiofkjogjhhaaGreatDoorChecked
import Derived.Lib.Hide
import Derived.WalkLawsBesides
import Derived.WalkSpells
import Derived.Test.YtgjiofkjogjhhaaGreatDoorPk01
import Derived.Lib.RuneBytes
import Derived.Lib.TrimUEq
import Derived.Lib.DecodeNEq

namespace Go.Proofs.YtgjiofkjogjhhaaGreatDoor.Dg
open Go.RowKit

theorem rets {a b : ByteArray} (h : a = b) : Ending.returned (.string a) = .returned (.string b) := by rw [h]

set_option maxRecDepth 100000 in
set_option maxHeartbeats 400000 in
theorem rtext_any (f : Nat) : ∀ (n : Int) (w : World), 0 ≤ n → n ≤ 9223372036854775807 → n.toNat < f →
    Calls Tryz.prog 77 #[.int .i64 n] w fun e w' => e = .returned (.string ⟨(Lib.decDigits n.toNat).toArray⟩) ∧ w = w' := by
  induction f with
  | zero => intro n w h0 h1 hf; omega
  | succ f ih =>
    intro n w h0 h1 hf
    have IH := Lib.hid ih
    clear ih
    by_cases h10 : n < 10
    · obtain ⟨k, rfl⟩ := Int.eq_ofNat_of_zero_le h0
      have ht := Lib.hid (digit_text ⟨k, by omega⟩)
      go_enter Tryz.func77, Tryz.ntmps77
      go_wp2_with fail
      go_ret
      exact ⟨rets ht.out, rfl⟩
    · have hs := Lib.hid (dec_split (u := n.toNat) (by omega))
      have l1 : (Lib.decDigits (n / 10).toNat).length ≤ 20 := dec_len20 (by omega)
      have l2 : (Lib.decDigits (n % 10).toNat).length ≤ 20 := dec_len20 (by omega)
      go_enter Tryz.func77, Tryz.ntmps77
      go_wp2_with (go_at_call 77; refine (IH.out _ _ (by omega) (by omega) (by omega)).mono ?_; rintro e w' ⟨rfl, rfl⟩)
      go_ret
      exact ⟨rets (by rw [hs.out, show n.toNat / 10 = (n / 10).toNat by omega, show n.toNat % 10 = (n % 10).toNat by omega]; simp [ByteArray.ext_iff]), rfl⟩

theorem rtext (n : Int) (w : World) (h0 : 0 ≤ n) (h1 : n ≤ 9223372036854775807) :
    Calls Tryz.prog 77 #[.int .i64 n] w fun e w' => e = .returned (.string ⟨(Lib.decDigits n.toNat).toArray⟩) ∧ w = w' :=
  rtext_any (n.toNat + 1) n w h0 h1 (Nat.lt_succ_self _)

end Go.Proofs.YtgjiofkjogjhhaaGreatDoor.Dg

namespace Go.Proofs.YtgjiofkjogjhhaaGreatDoor.Rp
open Go
open Go.Proofs.YtgjiofkjogjhhaaGreatDoor.Rg (R nth)

abbrev Tx := List UInt8

def plainB (c : Int) : Bool := (decide (97 ≤ c) && decide (c ≤ 122)) || (decide (65 ≤ c) && decide (c ≤ 90)) || (decide (48 ≤ c) && decide (c ≤ 57))
/-- an escape of a number -/
def escL (c : Int) : Tx := [92, 117, 123] ++ Dg.hexText c 1 ++ [125]
def spanL (r : R) : Tx := if r.1 = r.2 then escL r.1 else escL r.1 ++ [45] ++ escL r.2
/-- a set's class -/
def brkL (l : List R) : Tx := if l.length = 0 then [91, 94] ++ spanL (0, 1114111) ++ [93] else [91] ++ l.flatMap spanL ++ [93]
/-- is it a set of just one letter or digit -/
def soleB (l : List R) : Bool := decide (l.length = 1) && (decide ((nth l 0).1 = (nth l 0).2) && plainB (nth l 0).1)
def setL (l : List R) : Tx := if soleB l = true then [UInt8.ofNat (nth l 0).1.toNat] else brkL l
/-- how often -/
def decL (n : Int) : Tx := Lib.decDigits n.toNat
def oftenL (lo hi : Int) : Tx :=
  if hi = -1 ∧ lo = 0 then [42] else if hi = -1 ∧ lo = 1 then [43] else if lo = 0 ∧ hi = 1 then [63]
  else if hi = -1 then [123] ++ decL lo ++ [44, 125] else if hi = lo then [123] ++ decL lo ++ [125] else [123] ++ decL lo ++ [44] ++ decL hi ++ [125]
/-! how long a text is -/
theorem hex_le (c : Int) : (Dg.hexText c 1).length ≤ 16 := by
  have := Dg.hexText_len 16 0 c.toNat (min 1 8) []
  simpa [Dg.hexText] using this
theorem esc_len (c : Int) : (escL c).length ≤ 20 := by have := hex_le c; simp [escL]; omega
theorem span_len (r : R) : (spanL r).length ≤ 41 := by
  have h1 := esc_len r.1; have h2 := esc_len r.2
  unfold spanL; split
  · omega
  · simp; omega
theorem spans_len : ∀ l : List R, (l.flatMap spanL).length ≤ 41 * l.length
  | [] => by simp
  | r :: t => by have h1 := span_len r; have h2 := spans_len t; rw [List.flatMap_cons, List.length_append, List.length_cons]; omega
theorem brk_len (l : List R) : (brkL l).length ≤ 44 + 41 * l.length := by
  have h1 := spans_len l; have h2 := span_len (0, 1114111)
  unfold brkL; split
  · simp only [List.length_append, List.length_cons, List.length_nil]; omega
  · simp only [List.length_append, List.length_cons, List.length_nil]; omega
theorem set_len (l : List R) : (setL l).length ≤ 44 + 41 * l.length := by
  have h1 := brk_len l
  unfold setL; split
  · simp; omega
  · exact h1
theorem dec_le {n : Int} (h : n ≤ 255) : (decL n).length ≤ 20 := Dg.dec_len20 (by omega)
theorem often_len {lo hi : Int} (h1 : lo ≤ 255) (h2 : hi ≤ 255) : (oftenL lo hi).length ≤ 43 := by
  have a := dec_le h1; have b := dec_le h2
  unfold oftenL
  split
  · simp
  · split
    · simp
    · split
      · simp
      · split
        · simp; omega
        · split
          · simp; omega
          · simp; omega
/-! brackets, byte by byte -/
/-- one byte: how many brackets are open, how many were at most, whether a class is open -/
def scan1 (st : Int × Int × Bool) (c : UInt8) : Int × Int × Bool :=
  let q := if c = 93 then false else if c = 91 then true else st.2.2
  let n := if c = 40 ∧ q = false then st.1 + 1 else if c = 41 ∧ q = false then st.1 - 1 else st.1
  (n, max st.2.1 n, q)
def scanL (s : Tx) (st : Int × Int × Bool) : Int × Int × Bool := s.foldl scan1 st
theorem scan_append (s r : Tx) (st : Int × Int × Bool) : scanL (s ++ r) st = scanL r (scanL s st) := by simp [scanL]
theorem scan_cons (c : UInt8) (r : Tx) (st : Int × Int × Bool) : scanL (c :: r) st = scanL r (scan1 st c) := rfl
theorem scan_nil (st : Int × Int × Bool) : scanL [] st = st := rfl
def quietC (c : UInt8) : Bool := c != 40 && c != 41 && c != 91 && c != 93
def quietL (s : Tx) : Prop := ∀ c ∈ s, quietC c = true
theorem scan1_quiet {c : UInt8} (h : quietC c = true) {n m : Int} (hm : n ≤ m) (q : Bool) : scan1 (n, m, q) c = (n, m, q) := by
  simp only [quietC, Bool.and_eq_true, bne_iff_ne, ne_eq] at h
  obtain ⟨⟨⟨h1, h2⟩, h3⟩, h4⟩ := h
  simp only [scan1]
  rw [if_neg h4, if_neg h3, if_neg (fun x => h1 x.1), if_neg (fun x => h2 x.1)]
  simp; omega
theorem scan_quiet : ∀ {s : Tx}, quietL s → ∀ {n m : Int}, n ≤ m → ∀ q : Bool, scanL s (n, m, q) = (n, m, q)
  | [], _, n, m, _, q => rfl
  | c :: r, h, n, m, hm, q => by
    rw [scan_cons, scan1_quiet (h c List.mem_cons_self) hm]
    exact scan_quiet (fun x hx => h x (List.mem_cons_of_mem _ hx)) hm q
theorem quiet_append {s r : Tx} (h : quietL s) (k : quietL r) : quietL (s ++ r) := fun c hc => (List.mem_append.1 hc).elim (h c) (k c)
theorem dec_quiet (n : Nat) : quietL (Lib.decDigits n) := by
  induction n using Nat.strongRecOn with
  | ind n ih =>
    have hd : ∀ k : Fin 10, quietC (UInt8.ofNat (48 + k.val)) = true := by decide +kernel
    by_cases h : n < 10
    · rw [Dg.dec_small h]; intro c hc; simp only [List.mem_singleton] at hc; subst hc; exact hd ⟨n, h⟩
    · rw [Dg.dec_big h]
      refine quiet_append (ih _ (by omega)) ?_
      intro c hc; simp only [List.mem_singleton] at hc; subst hc; exact hd ⟨n % 10, by omega⟩
theorem hexgo_quiet : ∀ (f i n : Nat) (least : Int) (acc : Tx), quietL acc → quietL (Dg.goHexText f i n least acc)
  | 0, _, _, _, acc, h => h
  | f + 1, i, n, least, acc, h => by
    have hd : ∀ k : Fin 16, quietC (Dg.tab.getD k.val 0) = true := by decide +kernel
    unfold Dg.goHexText
    split
    · exact h
    · refine hexgo_quiet f _ _ _ _ ?_
      intro c hc
      rcases List.mem_cons.1 hc with rfl | hc
      · exact hd ⟨n % 16, by omega⟩
      · exact h c hc
theorem hex_quiet (c : Int) : quietL (Dg.hexText c 1) := hexgo_quiet 16 0 _ _ [] (fun c hc => by simp at hc)
theorem lit_quiet {s : Tx} (h : s.all quietC = true) : quietL s := fun c hc => List.all_eq_true.1 h c hc
theorem esc_quiet (c : Int) : quietL (escL c) := quiet_append (quiet_append (lit_quiet (by decide)) (hex_quiet c)) (lit_quiet (by decide))
theorem span_quiet (r : R) : quietL (spanL r) := by
  unfold spanL; split
  · exact esc_quiet _
  · exact quiet_append (quiet_append (esc_quiet _) (lit_quiet (by decide))) (esc_quiet _)
theorem spans_quiet : ∀ l : List R, quietL (l.flatMap spanL)
  | [] => fun c hc => by simp at hc
  | r :: t => by rw [List.flatMap_cons]; exact quiet_append (span_quiet r) (spans_quiet t)
theorem often_quiet (lo hi : Int) : quietL (oftenL lo hi) := by
  unfold oftenL decL
  split
  · exact lit_quiet (by decide)
  · split
    · exact lit_quiet (by decide)
    · split
      · exact lit_quiet (by decide)
      · split
        · exact quiet_append (quiet_append (lit_quiet (by decide)) (dec_quiet _)) (lit_quiet (by decide))
        · split
          · exact quiet_append (quiet_append (lit_quiet (by decide)) (dec_quiet _)) (lit_quiet (by decide))
          · exact quiet_append (quiet_append (quiet_append (quiet_append (lit_quiet (by decide)) (dec_quiet _)) (lit_quiet (by decide))) (dec_quiet _)) (lit_quiet (by decide))
theorem scan_open (n m : Int) (hm : n ≤ m) : scanL [91] (n, m, false) = (n, m, true) := by simp [scanL, scan1]; omega
theorem scan_shut (n m : Int) (hm : n ≤ m) : scanL [93] (n, m, true) = (n, m, false) := by simp [scanL, scan1]; omega
theorem scan_brk (l : List R) {n m : Int} (hm : n ≤ m) : scanL (brkL l) (n, m, false) = (n, m, false) := by
  unfold brkL; split
  · rw [show ([91, 94] : Tx) = [91] ++ [94] from rfl, scan_append, scan_append, scan_append, scan_open _ _ hm, scan_quiet (lit_quiet (by decide)) hm, scan_quiet (span_quiet _) hm, scan_shut _ _ hm]
  · rw [scan_append, scan_append, scan_open _ _ hm, scan_quiet (spans_quiet _) hm, scan_shut _ _ hm]
theorem plain_quiet : ∀ k : Fin 128, plainB (k.val : Int) = true → quietC (UInt8.ofNat k.val) = true := by decide +kernel
theorem plain_lt {c : Int} (h : plainB c = true) : 0 ≤ c ∧ c < 128 := by unfold plainB at h; simp at h; omega
theorem scan_set (l : List R) {n m : Int} (hm : n ≤ m) : scanL (setL l) (n, m, false) = (n, m, false) := by
  unfold setL; split
  · rename_i h
    have hp : plainB (nth l 0).1 = true := by unfold soleB at h; simp at h; exact h.2.2
    have hl := plain_lt hp
    refine scan_quiet ?_ hm _
    intro c hc; simp only [List.mem_singleton] at hc; subst hc
    exact plain_quiet ⟨(nth l 0).1.toNat, by omega⟩ (by rw [show (((nth l 0).1.toNat : Nat) : Int) = (nth l 0).1 by omega]; exact hp)
  · exact scan_brk l hm

end Go.Proofs.YtgjiofkjogjhhaaGreatDoor.Rp

namespace Go.Proofs.YtgjiofkjogjhhaaGreatDoor.Rp
open Go Go.RowKit

theorem ret_b {a b : Bool} (h : a = b) : Ending.returned (.bool a) = .returned (.bool b) := by rw [h]
theorem ret_s {a b : Tx} (h : a = b) : Ending.returned (.string ⟨a.toArray⟩) = .returned (.string ⟨b.toArray⟩) := by rw [h]
theorem ret_t {a b : ByteArray} (h : a = b) : Ending.returned (.string a) = .returned (.string b) := by rw [h]

/-- two texts one behind the other, as a statement's operation -/
theorem run_join (a b : ByteArray) (h : a.size + b.size ≤ 100000000) : ∃ x : ByteArray, x = a ++ b ∧ x.size = a.size + b.size ∧ ∀ w : World, (Op.stringOp .add a b).run Tryz.prog w = .ok (.string x) w :=
  ⟨a ++ b, rfl, by simp [ByteArray.size_append], fun w => run_string_add_sum w a b (by omega)⟩
theorem size_mk (l : Tx) : (⟨l.toArray⟩ : ByteArray).size = l.length := rfl

set_option maxRecDepth 100000 in
set_option maxHeartbeats 400000 in
theorem plain_any (c : Int) (w : World) : Calls Tryz.prog 105 #[.int .u8 c] w fun e w' => e = .returned (.bool (plainB c)) ∧ w' = w := by
  have HP := Lib.hid (show plainB c = ((decide (97 ≤ c) && decide (c ≤ 122)) || (decide (65 ≤ c) && decide (c ≤ 90)) || (decide (48 ≤ c) && decide (c ≤ 57))) from rfl)
  go_enter Tryz.func105, Tryz.ntmps105
  go_wp2
  all_goals (
    go_ret
    refine ⟨ret_b ?_, rfl⟩
    rw [HP.out]
    first | (simp; done) | (simp; omega) | grind)

set_option maxRecDepth 100000 in
set_option maxHeartbeats 400000 in
theorem rplain_any (c : Int) (w : World) : Calls Tryz.prog 75 #[.int .u8 c] w fun e w' => e = .returned (.bool (plainB c)) ∧ w' = w := by
  have HP := Lib.hid (show plainB c = ((decide (97 ≤ c) && decide (c ≤ 122)) || (decide (65 ≤ c) && decide (c ≤ 90)) || (decide (48 ≤ c) && decide (c ≤ 57))) from rfl)
  go_enter Tryz.func75, Tryz.ntmps75
  go_wp2
  all_goals (
    go_ret
    refine ⟨ret_b ?_, rfl⟩
    rw [HP.out]
    first | (simp; done) | (simp; omega) | grind)

set_option maxRecDepth 100000 in
set_option maxHeartbeats 400000 in
theorem resc_any (c : Int) (w : World) (h0 : 0 ≤ c) (h1 : c ≤ 1114111) : Calls Tryz.prog 100 #[.int .i64 c] w fun e w' => e = .returned (.string ⟨(escL c).toArray⟩) ∧ w' = w := by
  have hl := hex_le c
  have CH := Lib.hid (fun W => Dg.rhextext_any c 1 W (by omega) (by omega) (by omega) (by omega))
  have HE := Lib.hid (show escL c = [92, 117, 123] ++ Dg.hexText c 1 ++ [125] from rfl)
  generalize escL c = E at *
  generalize Dg.hexText c 1 = H at *
  go_enter Tryz.func100, Tryz.ntmps100
  go_wp2_with (go_at_call 113; (with_reducible refine (CH.out _).mono ?_); rintro e w1 ⟨rfl, rfl⟩)
  go_ret
  exact ⟨ret_t (by rw [HE.out]; simp [ByteArray.ext_iff]), rfl⟩

set_option maxRecDepth 100000 in
set_option maxHeartbeats 400000 in
theorem roften_any (lo hi : Int) (w : World) (h0 : 0 ≤ lo) (h1 : lo ≤ 255) (h2 : -1 ≤ hi) (h3 : hi ≤ 255) (h4 : hi = -1 ∨ lo ≤ hi) : Calls Tryz.prog 53 #[.int .i64 lo, .int .i64 hi] w fun e w' => e = .returned (.string ⟨(oftenL lo hi).toArray⟩) ∧ w' = w := by
  have l1 := dec_le h1
  have l2 := dec_le h3
  have CL := Lib.hid (fun W => Dg.rtext lo W (by omega) (by omega))
  have CH := Lib.hid (fun h W => Dg.rtext hi W (h : 0 ≤ hi) (by omega))
  have HO := Lib.hid (show oftenL lo hi = if hi = -1 ∧ lo = 0 then [42] else if hi = -1 ∧ lo = 1 then [43] else if lo = 0 ∧ hi = 1 then [63]
    else if hi = -1 then [123] ++ decL lo ++ [44, 125] else if hi = lo then [123] ++ decL lo ++ [125] else [123] ++ decL lo ++ [44] ++ decL hi ++ [125] from rfl)
  generalize oftenL lo hi = O at *
  unfold decL at l1 l2 HO
  generalize Lib.decDigits lo.toNat = L at *
  by_cases c1 : hi = -1
  · subst c1
    clear CH l2
    by_cases c2 : lo = 0
    · subst c2
      have e := HO.out
      rw [if_pos ⟨rfl, rfl⟩] at e
      subst e
      clear HO CL l1
      go_enter Tryz.func53, Tryz.ntmps53
      go_wp2
      go_ret
      exact ⟨rfl, rfl⟩
    · by_cases c3 : lo = 1
      · subst c3
        have e := HO.out
        rw [if_neg (by omega), if_pos ⟨rfl, rfl⟩] at e
        subst e
        clear HO CL l1
        go_enter Tryz.func53, Tryz.ntmps53
        go_wp2
        go_ret
        exact ⟨rfl, rfl⟩
      · have e := HO.out
        rw [if_neg (by omega), if_neg (by omega), if_neg (by omega), if_pos rfl] at e
        have b2 : (lo == 0) = false := by simpa using c2
        have b3 : (lo == 1) = false := by simpa using c3
        have HE := Lib.hid e
        clear HO e c2 c3
        go_enter Tryz.func53, Tryz.ntmps53
        go_wp2_with (go_at_call 77; (with_reducible refine (CL.out _).mono ?_); rintro e w1 ⟨rfl, rfl⟩)
        go_ret
        exact ⟨ret_t (by rw [HE.out]; simp [ByteArray.ext_iff]), rfl⟩
  · have CH' := Lib.hid (fun W => CH.out (by omega) W)
    clear CH
    have g0 : lo ≤ hi := by omega
    have b1 : (hi == -1) = false := by simpa using c1
    by_cases c2 : lo = 0 ∧ hi = 1
    · obtain ⟨c2, c3⟩ := c2
      subst c2 c3
      have e := HO.out
      rw [if_neg (by omega), if_neg (by omega), if_pos ⟨rfl, rfl⟩] at e
      subst e
      clear HO CL CH'
      go_enter Tryz.func53, Tryz.ntmps53
      go_wp2
      go_ret
      exact ⟨rfl, rfl⟩
    · have b2 : (lo == 0) = false ∨ ((lo == 0) = true ∧ (hi == 1) = false) := by
        by_cases h : lo = 0
        · exact .inr ⟨by simpa using h, by simpa using fun h' => c2 ⟨h, h'⟩⟩
        · exact .inl (by simpa using h)
      by_cases c3 : hi = lo
      · have e := HO.out
        rw [if_neg (by omega), if_neg (by omega), if_neg c2, if_neg (by omega), if_pos c3] at e
        have HE := Lib.hid e
        subst c3
        clear HO e CH' c2 c1
        have b3 : (hi == hi) = true := by simp
        rcases b2 with b2 | ⟨b2, b4⟩
        all_goals (
          go_enter Tryz.func53, Tryz.ntmps53
          go_wp2_with (go_at_call 77; (with_reducible refine (CL.out _).mono ?_); rintro e w1 ⟨rfl, rfl⟩)
          go_ret
          exact ⟨ret_t (by rw [HE.out]; simp [ByteArray.ext_iff]), rfl⟩)
      · have e := HO.out
        rw [if_neg (by omega), if_neg (by omega), if_neg c2, if_neg (by omega), if_neg c3] at e
        have HE := Lib.hid e
        have b3 : (hi == lo) = false := by simpa using c3
        clear HO e c2 c1 c3
        generalize Lib.decDigits hi.toNat = H at *
        rcases b2 with b2 | ⟨b2, b4⟩
        all_goals (
          go_enter Tryz.func53, Tryz.ntmps53
          go_wp2_with (go_at_call 77; (first | (with_reducible refine (CL.out _).mono ?_) | (with_reducible refine (CH'.out _).mono ?_)); rintro e w1 ⟨rfl, rfl⟩)
          go_ret
          exact ⟨ret_t (by rw [HE.out]; simp [ByteArray.ext_iff]), rfl⟩)

end Go.Proofs.YtgjiofkjogjhhaaGreatDoor.Rp

namespace Go.Proofs.YtgjiofkjogjhhaaGreatDoor.Rp
open Go
open Go.Proofs.YtgjiofkjogjhhaaGreatDoor.Ar (Nd nd Tr Ok nodeB_ways nodeB timesB reck reck_two reck_one reck_none gZ gZ_two gZ_one gZ_none)
open Go.Proofs.YtgjiofkjogjhhaaGreatDoor.Rg (R nth nthL setFrom)

def wrapL (q : Bool) (s : Tx) : Tx := if q = true then [40] ++ s ++ [41] else s
/-- is a node one of these kinds -/
def opB (l : List Nd) (i : Int) (ks : List Int) : Bool := ks.contains (nd l i.toNat).op

/-- a node's text -/
def textL (S : List (List R)) (l : List Nd) (i : Nat) : Tx :=
  if (nd l i).op = 2 then setL (nthL S (nd l i).set.toNat)
  else if (nd l i).op = 3 then (if (nd l i).a.toNat < i ∧ (nd l i).b.toNat < i then wrapL (opB l (nd l i).a [4]) (textL S l (nd l i).a.toNat) ++ wrapL (opB l (nd l i).b [3, 4]) (textL S l (nd l i).b.toNat) else [])
  else if (nd l i).op = 4 then (if (nd l i).a.toNat < i ∧ (nd l i).b.toNat < i then textL S l (nd l i).a.toNat ++ [124] ++ wrapL (opB l (nd l i).b [4]) (textL S l (nd l i).b.toNat) else [])
  else if (nd l i).op = 5 then (if (nd l i).a.toNat < i then wrapL (opB l (nd l i).a [3, 4, 5]) (textL S l (nd l i).a.toNat) ++ oftenL (nd l i).lo (nd l i).hi else [])
  else [40, 41]
  termination_by i
  decreasing_by all_goals omega
def brk (q : Bool) : Int := if q = true then 1 else 0
/-- how deep a node's brackets are -/
def deepL (l : List Nd) (i : Nat) : Int :=
  if (nd l i).op = 3 then (if (nd l i).a.toNat < i ∧ (nd l i).b.toNat < i then max (deepL l (nd l i).a.toNat + brk (opB l (nd l i).a [4])) (deepL l (nd l i).b.toNat + brk (opB l (nd l i).b [3, 4])) else 0)
  else if (nd l i).op = 4 then (if (nd l i).a.toNat < i ∧ (nd l i).b.toNat < i then max (deepL l (nd l i).a.toNat) (deepL l (nd l i).b.toNat + brk (opB l (nd l i).b [4])) else 0)
  else if (nd l i).op = 5 then (if (nd l i).a.toNat < i then deepL l (nd l i).a.toNat + brk (opB l (nd l i).a [3, 4, 5]) else 0)
  else if (nd l i).op = 1 then 1 else 0
  termination_by i
  decreasing_by all_goals omega

section
variable {S : List (List R)} {l : List Nd} {i : Nat}
theorem text_one (h : (nd l i).op = 1) : textL S l i = [40, 41] := by rw [textL, if_neg (by omega), if_neg (by omega), if_neg (by omega), if_neg (by omega)]
theorem text_set (h : (nd l i).op = 2) : textL S l i = setL (nthL S (nd l i).set.toNat) := by rw [textL, if_pos h]
theorem text_cat (h : (nd l i).op = 3) (ha : (nd l i).a.toNat < i) (hb : (nd l i).b.toNat < i) : textL S l i = wrapL (opB l (nd l i).a [4]) (textL S l (nd l i).a.toNat) ++ wrapL (opB l (nd l i).b [3, 4]) (textL S l (nd l i).b.toNat) := by
  rw [textL, if_neg (by omega), if_pos h, if_pos ⟨ha, hb⟩]
theorem text_alt (h : (nd l i).op = 4) (ha : (nd l i).a.toNat < i) (hb : (nd l i).b.toNat < i) : textL S l i = textL S l (nd l i).a.toNat ++ [124] ++ wrapL (opB l (nd l i).b [4]) (textL S l (nd l i).b.toNat) := by
  rw [textL, if_neg (by omega), if_neg (by omega), if_pos h, if_pos ⟨ha, hb⟩]
theorem text_rep (h : (nd l i).op = 5) (ha : (nd l i).a.toNat < i) : textL S l i = wrapL (opB l (nd l i).a [3, 4, 5]) (textL S l (nd l i).a.toNat) ++ oftenL (nd l i).lo (nd l i).hi := by
  rw [textL, if_neg (by omega), if_neg (by omega), if_neg (by omega), if_pos h, if_pos ha]
theorem deep_one (h : (nd l i).op = 1) : deepL l i = 1 := by rw [deepL, if_neg (by omega), if_neg (by omega), if_neg (by omega), if_pos h]
theorem deep_set (h : (nd l i).op = 2) : deepL l i = 0 := by rw [deepL, if_neg (by omega), if_neg (by omega), if_neg (by omega), if_neg (by omega)]
theorem deep_cat (h : (nd l i).op = 3) (ha : (nd l i).a.toNat < i) (hb : (nd l i).b.toNat < i) : deepL l i = max (deepL l (nd l i).a.toNat + brk (opB l (nd l i).a [4])) (deepL l (nd l i).b.toNat + brk (opB l (nd l i).b [3, 4])) := by
  rw [deepL, if_pos h, if_pos ⟨ha, hb⟩]
theorem deep_alt (h : (nd l i).op = 4) (ha : (nd l i).a.toNat < i) (hb : (nd l i).b.toNat < i) : deepL l i = max (deepL l (nd l i).a.toNat) (deepL l (nd l i).b.toNat + brk (opB l (nd l i).b [4])) := by
  rw [deepL, if_neg (by omega), if_pos h, if_pos ⟨ha, hb⟩]
theorem deep_rep (h : (nd l i).op = 5) (ha : (nd l i).a.toNat < i) : deepL l i = deepL l (nd l i).a.toNat + brk (opB l (nd l i).a [3, 4, 5]) := by
  rw [deepL, if_neg (by omega), if_neg (by omega), if_pos h, if_pos ha]
end

theorem brk_le (q : Bool) : 0 ≤ brk q ∧ brk q ≤ 1 := by cases q <;> simp [brk]
theorem deep_le {t : Tr} (ht : Ok t) : ∀ i, i < t.ns.length → 0 ≤ deepL t.ns i ∧ deepL t.ns i ≤ (i : Int) + 1 := by
  intro i
  induction i using Nat.strongRecOn with
  | ind i ih =>
    intro hi
    rcases nodeB_ways (ht.node i hi) with ⟨h1, _⟩ | ⟨h1, _⟩ | ⟨h1 | h1, h2⟩ | ⟨h1, h2⟩
    · rw [deep_one h1]; omega
    · rw [deep_set h1]; omega
    · have e1 := ih (nd t.ns i).a.toNat (by omega) (by omega)
      have e2 := ih (nd t.ns i).b.toNat (by omega) (by omega)
      have q1 := brk_le (opB t.ns (nd t.ns i).a [4])
      have q2 := brk_le (opB t.ns (nd t.ns i).b [3, 4])
      rw [deep_cat h1 (by omega) (by omega)]; omega
    · have e1 := ih (nd t.ns i).a.toNat (by omega) (by omega)
      have e2 := ih (nd t.ns i).b.toNat (by omega) (by omega)
      have q2 := brk_le (opB t.ns (nd t.ns i).b [4])
      rw [deep_alt h1 (by omega) (by omega)]; omega
    · have e1 := ih (nd t.ns i).a.toNat (by omega) (by omega)
      have q1 := brk_le (opB t.ns (nd t.ns i).a [3, 4, 5])
      rw [deep_rep h1 (by omega)]; omega

theorem wrap_len (q : Bool) (s : Tx) : (wrapL q s).length ≤ s.length + 2 := by unfold wrapL; split <;> simp
theorem times_le {lo hi : Int} (h : timesB lo hi = true) : 0 ≤ lo ∧ lo ≤ 255 ∧ -1 ≤ hi ∧ hi ≤ 255 ∧ (hi = -1 ∨ lo ≤ hi) := by
  unfold timesB at h; simp at h; omega
theorem rep_times {n : Nd} {i s : Int} (h : nodeB n i s = true) (h5 : n.op = 5) : timesB n.lo n.hi = true := by
  unfold nodeB at h
  rw [if_neg (by omega), if_neg (by omega), if_neg (by omega), if_pos h5] at h
  simp at h; exact h.2
theorem text_len {t : Tr} (ht : Ok t) (hs : ∀ k, k < t.sets.length → (nthL t.sets k).length ≤ 30) : ∀ i, i < t.ns.length → ((textL t.sets t.ns i).length : Int) ≤ 1300 * reck gZ t.ns i ∧ 1 ≤ reck gZ t.ns i := by
  intro i
  induction i using Nat.strongRecOn with
  | ind i ih =>
    intro hi
    rcases nodeB_ways (ht.node i hi) with ⟨h1, _⟩ | ⟨h1, h2⟩ | ⟨h1 | h1, h2⟩ | ⟨h1, h2⟩
    · rw [text_one h1, reck_none (by omega) (by omega), gZ_none]; simp
    · have e := set_len (nthL t.sets (nd t.ns i).set.toNat)
      have e2 := hs (nd t.ns i).set.toNat (by omega)
      rw [text_set h1, reck_none (by omega) (by omega), gZ_none]; omega
    · have e1 := ih (nd t.ns i).a.toNat (by omega) (by omega)
      have e2 := ih (nd t.ns i).b.toNat (by omega) (by omega)
      have q1 := wrap_len (opB t.ns (nd t.ns i).a [4]) (textL t.sets t.ns (nd t.ns i).a.toNat)
      have q2 := wrap_len (opB t.ns (nd t.ns i).b [3, 4]) (textL t.sets t.ns (nd t.ns i).b.toNat)
      rw [text_cat h1 (by omega) (by omega), reck_two (.inl h1) (by omega) (by omega), gZ_two, List.length_append]; omega
    · have e1 := ih (nd t.ns i).a.toNat (by omega) (by omega)
      have e2 := ih (nd t.ns i).b.toNat (by omega) (by omega)
      have q2 := wrap_len (opB t.ns (nd t.ns i).b [4]) (textL t.sets t.ns (nd t.ns i).b.toNat)
      rw [text_alt h1 (by omega) (by omega), reck_two (.inr h1) (by omega) (by omega), gZ_two, List.length_append, List.length_append, List.length_cons, List.length_nil]; omega
    · have e1 := ih (nd t.ns i).a.toNat (by omega) (by omega)
      have q1 := wrap_len (opB t.ns (nd t.ns i).a [3, 4, 5]) (textL t.sets t.ns (nd t.ns i).a.toNat)
      have tm := times_le (rep_times (ht.node i hi) h1)
      have q2 := often_len (lo := (nd t.ns i).lo) (hi := (nd t.ns i).hi) (by omega) (by omega)
      rw [text_rep h1 (by omega), reck_one h1 (by omega), gZ_one, List.length_append]; omega

theorem scan_wrap {s : Tx} {d : Int} (hd : 0 ≤ d) (h : ∀ n m : Int, n ≤ m → scanL s (n, m, false) = (n, max m (n + d), false)) (q : Bool) {n m : Int} (hm : n ≤ m) :
    scanL (wrapL q s) (n, m, false) = (n, max m (n + (d + brk q)), false) := by
  cases q
  · show scanL s _ = _
    rw [h n m hm]; simp [brk]
  · show scanL ([40] ++ s ++ [41]) _ = _
    have e1 : scanL [40] (n, m, false) = (n + 1, max m (n + 1), false) := by simp [scanL, scan1]
    have e2 : ∀ m' : Int, n + 1 ≤ m' → scanL [41] (n + 1, m', false) = (n, m', false) := fun m' h' => by simp [scanL, scan1]; omega
    rw [scan_append, scan_append, e1, h _ _ (by omega), e2 _ (by omega)]
    simp [brk]; omega
theorem scan_text {t : Tr} (ht : Ok t) : ∀ i, i < t.ns.length → ∀ n m : Int, n ≤ m → scanL (textL t.sets t.ns i) (n, m, false) = (n, max m (n + deepL t.ns i), false) := by
  intro i
  induction i using Nat.strongRecOn with
  | ind i ih =>
    intro hi n m hm
    have hdl := deep_le ht
    rcases nodeB_ways (ht.node i hi) with ⟨h1, _⟩ | ⟨h1, h2⟩ | ⟨h1 | h1, h2⟩ | ⟨h1, h2⟩
    · rw [text_one h1, deep_one h1]; simp [scanL, scan1]; omega
    · rw [text_set h1, deep_set h1, scan_set _ hm]; simp; omega
    · have e1 := ih (nd t.ns i).a.toNat (by omega) (by omega)
      have e2 := ih (nd t.ns i).b.toNat (by omega) (by omega)
      have d1 := hdl (nd t.ns i).a.toNat (by omega)
      have d2 := hdl (nd t.ns i).b.toNat (by omega)
      have q1 := brk_le (opB t.ns (nd t.ns i).a [4])
      rw [text_cat h1 (by omega) (by omega), deep_cat h1 (by omega) (by omega), scan_append, scan_wrap d1.1 e1 _ hm, scan_wrap d2.1 e2 _ (by omega)]
      first | (simp; done) | (simp; omega)
    · have e1 := ih (nd t.ns i).a.toNat (by omega) (by omega)
      have e2 := ih (nd t.ns i).b.toNat (by omega) (by omega)
      have d1 := hdl (nd t.ns i).a.toNat (by omega)
      have d2 := hdl (nd t.ns i).b.toNat (by omega)
      have q := scan_quiet (s := [124]) (lit_quiet (by decide)) (n := n) (m := max m (n + deepL t.ns (nd t.ns i).a.toNat)) (by omega) false
      rw [text_alt h1 (by omega) (by omega), deep_alt h1 (by omega) (by omega), scan_append, scan_append, e1 _ _ hm, q, scan_wrap d2.1 e2 _ (by omega)]
      first | (simp; done) | (simp; omega)
    · have e1 := ih (nd t.ns i).a.toNat (by omega) (by omega)
      have d1 := hdl (nd t.ns i).a.toNat (by omega)
      have q1 := brk_le (opB t.ns (nd t.ns i).a [3, 4, 5])
      rw [text_rep h1 (by omega), deep_rep h1 (by omega), scan_append, scan_wrap d1.1 e1 _ hm, scan_quiet (often_quiet _ _) (by omega)]
/-- the brackets of a tree's text -/
theorem scan_tree {t : Tr} (ht : Ok t) {i : Nat} (hi : i < t.ns.length) : (scanL (textL t.sets t.ns i) (0, 0, false)).2.1 = deepL t.ns i := by
  rw [scan_text ht i hi 0 0 (Int.le_refl _)]
  have := deep_le ht i hi
  simp; omega

end Go.Proofs.YtgjiofkjogjhhaaGreatDoor.Rp

namespace Go.Proofs.YtgjiofkjogjhhaaGreatDoor.Dv

abbrev L := List Int → Prop
theorem ext {A B : L} (h : ∀ r, A r ↔ B r) : A = B := funext fun r => propext (h r)
def no : L := fun _ => False
def eps : L := fun r => r = []
def one (P : Int → Bool) : L := fun r => ∃ c, r = [c] ∧ P c = true
def alt (A B : L) : L := fun r => A r ∨ B r
def seq (A B : L) : L := fun r => ∃ u v, r = u ++ v ∧ A u ∧ B v
def pow (A : L) : Nat → L
  | 0 => eps
  | k + 1 => seq A (pow A k)
def rep (A : L) (lo hi : Int) : L := fun r => ∃ k : Nat, lo ≤ k ∧ (0 ≤ hi → (k : Int) ≤ hi) ∧ pow A k r
/-- what is left behind a number -/
def der (A : L) (c : Int) : L := fun r => A (c :: r)

theorem seq_eps (A : L) : seq A eps = A := ext fun r => ⟨fun ⟨u, v, h, hu, hv⟩ => by cases hv; simpa [h] using hu, fun h => ⟨r, [], by simp, h, rfl⟩⟩
theorem eps_seq (A : L) : seq eps A = A := ext fun r => ⟨fun ⟨u, v, h, hu, hv⟩ => by cases hu; simpa [h] using hv, fun h => ⟨[], r, rfl, rfl, h⟩⟩
theorem seq_no (A : L) : seq A no = no := ext fun _ => ⟨fun ⟨_, _, _, _, h⟩ => h, fun h => h.elim⟩
theorem no_seq (A : L) : seq no A = no := ext fun _ => ⟨fun ⟨_, _, _, h, _⟩ => h, fun h => h.elim⟩
theorem seq_assoc (A B C : L) : seq (seq A B) C = seq A (seq B C) := ext fun r => ⟨
  fun ⟨_, v, h, ⟨a, b, h1, ha, hb⟩, hv⟩ => ⟨a, b ++ v, by rw [h, h1, List.append_assoc], ha, b, v, rfl, hb, hv⟩,
  fun ⟨a, _, h, ha, b, v, h1, hb, hv⟩ => ⟨a ++ b, v, by rw [h, h1, List.append_assoc], ⟨a, b, rfl, ha, hb⟩, hv⟩⟩
theorem seq_mono {A B C D : L} (h : ∀ r, A r → C r) (k : ∀ r, B r → D r) {r : List Int} (hr : seq A B r) : seq C D r := by
  obtain ⟨u, v, e, hu, hv⟩ := hr
  exact ⟨u, v, e, h u hu, k v hv⟩
theorem seq_nil (A B : L) : seq A B [] ↔ A [] ∧ B [] :=
  ⟨fun ⟨u, v, h, hu, hv⟩ => by
    obtain ⟨rfl, rfl⟩ := List.append_eq_nil_iff.1 h.symm
    exact ⟨hu, hv⟩, fun ⟨h, k⟩ => ⟨[], [], rfl, h, k⟩⟩
theorem alt_no (A : L) : alt A no = A := ext fun _ => ⟨fun h => h.elim id False.elim, .inl⟩
theorem no_alt (A : L) : alt no A = A := ext fun _ => ⟨fun h => h.elim False.elim id, .inr⟩
theorem alt_self (A : L) : alt A A = A := ext fun _ => ⟨fun h => h.elim id id, .inl⟩
theorem alt_comm (A B : L) : alt A B = alt B A := ext fun _ => or_comm
theorem alt_eps {A : L} (h : A []) : alt A eps = A := ext fun r => ⟨fun k => k.elim id fun e => by cases e; exact h, .inl⟩

theorem der_no (c : Int) : der no c = no := rfl
theorem der_eps (c : Int) : der eps c = no := ext fun _ => ⟨fun h => (by cases h), fun h => h.elim⟩
theorem der_one (P : Int → Bool) (c : Int) : der (one P) c = if P c = true then eps else no := ext fun r => by
  constructor
  · rintro ⟨d, h, hp⟩
    obtain ⟨rfl, rfl⟩ := List.cons.inj h
    rw [if_pos hp]; rfl
  · intro h
    split at h
    · cases h; exact ⟨c, rfl, by assumption⟩
    · exact h.elim
theorem der_alt (A B : L) (c : Int) : der (alt A B) c = alt (der A c) (der B c) := rfl
theorem der_seq_yes {A : L} (B : L) (c : Int) (h : A []) : der (seq A B) c = alt (seq (der A c) B) (der B c) := ext fun r => by
  constructor
  · rintro ⟨u, v, e, hu, hv⟩
    cases u with
    | nil => right; simp only [List.nil_append] at e; rw [← e] at hv; exact hv
    | cons d u =>
      obtain ⟨rfl, rfl⟩ := List.cons.inj e
      exact .inl ⟨u, v, rfl, hu, hv⟩
  · rintro (⟨u, v, e, hu, hv⟩ | hv)
    · exact ⟨c :: u, v, by rw [e]; rfl, hu, hv⟩
    · exact ⟨[], c :: r, rfl, h, hv⟩
theorem der_seq_no {A : L} (B : L) (c : Int) (h : ¬ A []) : der (seq A B) c = seq (der A c) B := ext fun r => by
  constructor
  · rintro ⟨u, v, e, hu, hv⟩
    cases u with
    | nil => exact absurd hu h
    | cons d u =>
      obtain ⟨rfl, rfl⟩ := List.cons.inj e
      exact ⟨u, v, rfl, hu, hv⟩
  · rintro ⟨u, v, e, hu, hv⟩
    exact ⟨c :: u, v, by rw [e]; rfl, hu, hv⟩
theorem der_seq_of {A B : L} {c : Int} {r : List Int} (h : seq (der A c) B r) : der (seq A B) c r := by
  obtain ⟨u, v, e, hu, hv⟩ := h
  exact ⟨c :: u, v, by rw [e]; rfl, hu, hv⟩

theorem pow_one (A : L) : pow A 1 = A := seq_eps A
theorem pow_pad {A : L} (h : A []) : ∀ (d k : Nat) (r : List Int), pow A k r → pow A (k + d) r
  | 0, _, _, hr => hr
  | d + 1, k, r, hr => ⟨[], r, rfl, h, pow_pad h d k r hr⟩
theorem pow_le {A : L} (h : A []) {k m : Nat} (hk : k ≤ m) {r : List Int} (hr : pow A k r) : pow A m r := by
  have := pow_pad h (m - k) k r hr
  rwa [Nat.add_sub_cancel' hk] at this
theorem pow_nil {A : L} (h : A []) : ∀ k, pow A k []
  | 0 => rfl
  | k + 1 => ⟨[], [], rfl, h, pow_nil h k⟩
theorem pow_der {A : L} {c : Int} : ∀ (k : Nat) (r : List Int), pow A k (c :: r) → ∃ j, k = j + 1 ∧ seq (der A c) (pow A j) r
  | 0, r, h => by cases h
  | k + 1, r, ⟨u, v, e, hu, hv⟩ => by
    cases u with
    | nil =>
      simp only [List.nil_append] at e
      rw [← e] at hv
      obtain ⟨j, rfl, hj⟩ := pow_der k r hv
      exact ⟨j + 1, rfl, seq_mono (fun _ h => h) (fun v hv => pow_le hu (by omega) hv) hj⟩
    | cons d u =>
      obtain ⟨rfl, rfl⟩ := List.cons.inj e
      exact ⟨k, rfl, u, v, rfl, hu, hv⟩
theorem der_rep (A : L) {lo hi : Int} (c : Int) (h0 : 0 ≤ lo) (hh : hi ≠ 0) : der (rep A lo hi) c = seq (der A c) (rep A (max (lo - 1) 0) (max (hi - 1) (-1))) := ext fun r => by
  constructor
  · rintro ⟨k, a, b, hp⟩
    obtain ⟨j, rfl, hj⟩ := pow_der k r hp
    exact seq_mono (fun _ h => h) (fun v hv => ⟨j, by omega, by omega, hv⟩) hj
  · rintro ⟨u, v, e, hu, j, a, b, hp⟩
    exact ⟨j + 1, by omega, by omega, c :: u, v, by rw [e]; rfl, hu, hp⟩
theorem rep_bare {A : L} (h : A []) {lo hi : Int} (h0 : 0 ≤ lo) (h1 : hi < 0 ∨ lo ≤ hi) : rep A lo hi = rep A 0 hi := ext fun r => by
  constructor
  · rintro ⟨k, a, b, hp⟩; exact ⟨k, by omega, b, hp⟩
  · rintro ⟨k, a, b, hp⟩
    refine ⟨max k lo.toNat, by omega, fun _ => by have := b (by omega); omega, pow_le h (Nat.le_max_left _ _) hp⟩
theorem rep_zero (A : L) : rep A 0 0 = eps := ext fun r => by
  constructor
  · rintro ⟨k, a, b, hp⟩
    obtain rfl : k = 0 := by have := b (by omega); omega
    exact hp
  · intro h; exact ⟨0, by omega, fun _ => by omega, h⟩
theorem rep_no_zero {hi : Int} : rep no 0 hi = eps := ext fun r => by
  constructor
  · rintro ⟨k, a, b, hp⟩
    cases k with
    | zero => exact hp
    | succ k => obtain ⟨_, _, _, h, _⟩ := hp; exact h.elim
  · intro h; exact ⟨0, by omega, fun h => h, h⟩
theorem rep_no {lo hi : Int} (h : 0 < lo) : rep no lo hi = no := ext fun r => by
  constructor
  · rintro ⟨k, a, b, hp⟩
    cases k with
    | zero => omega
    | succ k => obtain ⟨_, _, _, h, _⟩ := hp; exact h
  · intro h; exact h.elim
theorem pow_eps : ∀ k, pow eps k = eps
  | 0 => rfl
  | k + 1 => by show seq eps (pow eps k) = eps; rw [pow_eps k, eps_seq]
theorem rep_eps {lo hi : Int} (h0 : 0 ≤ lo) (h1 : hi < 0 ∨ lo ≤ hi) : rep eps lo hi = eps := ext fun r => by
  constructor
  · rintro ⟨k, a, b, hp⟩; rw [pow_eps] at hp; exact hp
  · intro h; exact ⟨lo.toNat, by omega, fun _ => by omega, by rw [pow_eps]; exact h⟩
theorem rep_one (A : L) : rep A 1 1 = A := ext fun r => by
  constructor
  · rintro ⟨k, a, b, hp⟩
    obtain rfl : k = 1 := by have := b (by omega); omega
    rwa [pow_one] at hp
  · intro h; exact ⟨1, by omega, fun _ => by omega, by rw [pow_one]; exact h⟩
theorem rep_opt {A : L} (h : A []) : rep A 0 1 = A := by rw [← rep_bare h (lo := 1) (by omega) (.inr (by omega)), rep_one]
theorem star_seq {A : L} {r : List Int} (h : seq (rep A 0 (-1)) (rep A 0 (-1)) r) : rep A 0 (-1) r := by
  obtain ⟨u, v, rfl, ⟨k, _, _, hk⟩, ⟨m, _, _, hm⟩⟩ := h
  refine ⟨k + m, by omega, fun h => by omega, ?_⟩
  induction k generalizing u with
  | zero => cases hk; simpa using hm
  | succ k ih =>
    obtain ⟨a, b, rfl, ha, hb⟩ := hk
    rw [Nat.succ_add]
    exact ⟨a, b ++ v, by rw [List.append_assoc], ha, ih b (by omega) (fun h => by omega) hb⟩
theorem star_pow {A : L} : ∀ (k : Nat) (r : List Int), pow (rep A 0 (-1)) k r → rep A 0 (-1) r
  | 0, r, h => ⟨0, by omega, fun h => by omega, h⟩
  | k + 1, r, ⟨u, v, e, hu, hv⟩ => star_seq ⟨u, v, e, hu, star_pow k v hv⟩
theorem rep_star {A : L} {hi : Int} (h : hi ≠ 0) : rep (rep A 0 (-1)) 0 hi = rep A 0 (-1) := ext fun r => by
  constructor
  · rintro ⟨k, a, b, hp⟩; exact star_pow k r hp
  · intro h; exact ⟨1, by omega, fun _ => by omega, by rw [pow_one]; exact h⟩
theorem rep_nil {A : L} {lo hi : Int} (h0 : 0 ≤ lo) (h1 : hi < 0 ∨ lo ≤ hi) : rep A lo hi [] ↔ lo = 0 ∨ A [] := by
  constructor
  · rintro ⟨k, a, b, hp⟩
    cases k with
    | zero => left; omega
    | succ k => right; exact ((seq_nil _ _).1 hp).1
  · rintro (rfl | h)
    · exact ⟨0, by omega, fun h => h, rfl⟩
    · exact ⟨lo.toNat, by omega, fun _ => by omega, pow_nil h _⟩
/-- more times than there are numbers make no difference -/
theorem pow_short {A : L} : ∀ (k : Nat) (r : List Int), r.length ≤ k → pow A (k + 1) r → pow A k r
  | 0, r, h, _ => List.eq_nil_of_length_eq_zero (by omega)
  | k + 1, r, h, ⟨u, v, e, hu, hv⟩ => by
    cases u with
    | nil => simp only [List.nil_append] at e; rw [e]; exact hv
    | cons d u =>
      have hl : v.length ≤ k := by rw [e] at h; simp at h; omega
      exact ⟨d :: u, v, e, hu, pow_short k v hl hv⟩
theorem pow_cap {A : L} {m : Nat} {r : List Int} (h : r.length ≤ m) : ∀ d, pow A (m + d) r → pow A m r
  | 0, hp => hp
  | d + 1, hp => pow_cap h d (pow_short (m + d) r (by omega) hp)
theorem pow_snoc (A : L) : ∀ k, seq (pow A k) A = pow A (k + 1)
  | 0 => by show seq eps A = seq A eps; rw [eps_seq, seq_eps]
  | k + 1 => by
    show seq (seq A (pow A k)) A = seq A (pow A (k + 1))
    rw [seq_assoc, pow_snoc A k]
/-- up to m times more than needed -/
theorem rep_cap {A : L} {lo hi : Int} {m : Nat} {r : List Int} (hl : r.length ≤ m) : rep A lo hi r ↔ ∃ k : Nat, lo ≤ k ∧ (0 ≤ hi → (k : Int) ≤ hi) ∧ (k : Int) ≤ max lo m ∧ pow A k r := by
  constructor
  · rintro ⟨k, a, b, hp⟩
    by_cases hk : (k : Int) ≤ max lo m
    · exact ⟨k, a, b, hk, hp⟩
    · refine ⟨max lo.toNat m, by omega, fun h => by have := b h; omega, by omega, ?_⟩
      refine pow_cap (d := k - max lo.toNat m) (Nat.le_trans hl (Nat.le_max_right _ _)) ?_
      rw [Nat.add_sub_cancel' (by omega)]
      exact hp
  · rintro ⟨k, a, b, _, hp⟩; exact ⟨k, a, b, hp⟩

end Go.Proofs.YtgjiofkjogjhhaaGreatDoor.Dv

namespace Go.Proofs.YtgjiofkjogjhhaaGreatDoor.Dv
open Go.Proofs.YtgjiofkjogjhhaaGreatDoor.Ar (Nd nd nd_eq nd_left nodeB nodeB_mono nodeB_ways timesB Tr)
open Go.Proofs.YtgjiofkjogjhhaaGreatDoor.Rg (R hasB inB)

structure Bk where
  parts : List Nd
  sets : List (List R)
  bare : List Bool
  full : Bool
def bareAt (B : Bk) (x : Nat) : Bool := B.bare.getD x false
def number (B : Bk) (n : Nd) (e : Bool) : Bk × Nat :=
  if n ∈ B.parts then (B, B.parts.idxOf n)
  else if B.parts.length = 12288 then ({ B with full := true }, 0)
  else ({ B with parts := B.parts ++ [n], bare := B.bare ++ [e] }, B.parts.length)
def nSet (i : Nat) : Nd := ⟨2, 0, 0, 0, 0, i⟩
def nEmp : Nd := ⟨1, 0, 0, 0, 0, 0⟩
def nCat (x y : Nat) : Nd := ⟨3, x, y, 0, 0, 0⟩
def nAlt (x y : Nat) : Nd := ⟨4, x, y, 0, 0, 0⟩
def nRep (x : Nat) (lo hi : Int) : Nd := ⟨5, x, 0, lo, hi, 0⟩
def setF (B : Bk) (l : List R) : Bk × Nat :=
  if l ∈ B.sets then number B (nSet (B.sets.idxOf l)) false else number { B with sets := B.sets ++ [l] } (nSet B.sets.length) false
def catF (B : Bk) (x y : Nat) : Bk × Nat :=
  if x = 0 ∨ y = 0 then (B, 0) else if x = 1 then (B, y) else if y = 1 then (B, x) else number B (nCat x y) (bareAt B x && bareAt B y)
def altG (B : Bk) (x y : Nat) : Bk × Nat :=
  if x = y ∨ y = 0 ∨ (y = 1 ∧ bareAt B x = true) then (B, x) else number B (nAlt x y) (bareAt B x || bareAt B y)
def altF (B : Bk) (x y : Nat) : Bk × Nat := altG B (max x y) (min x y)
def repG (B : Bk) (x : Nat) (lo hi : Int) : Bk × Nat :=
  if hi = 0 ∨ (x = 0 ∧ lo = 0) then (B, 1) else if x = 0 ∨ x = 1 then (B, x) else if hi = 1 ∧ (lo = 1 ∨ bareAt B x = true) then (B, x)
  else if nd B.parts x = ⟨5, (nd B.parts x).a, 0, 0, -1, 0⟩ then (B, x) else number B (nRep x lo hi) (decide (lo = 0))
def repF (B : Bk) (x : Nat) (lo hi : Int) : Bk × Nat := repG B x (if bareAt B x = true then 0 else lo) hi
def fewerF (B : Bk) (n : Nd) : Bk × Nat := repF B n.a.toNat (max (n.lo - 1) 0) (max (n.hi - 1) (-1))

/-- the rows of a node, by those of its parts -/
def denN (S : List (List R)) (D : Nat → L) (n : Nd) : L :=
  if n.op = 1 then eps else if n.op = 2 then one (inB (S.getD n.set.toNat [])) else if n.op = 3 then seq (D n.a.toNat) (D n.b.toNat)
  else if n.op = 4 then alt (D n.a.toNat) (D n.b.toNat) else if n.op = 5 then rep (D n.a.toNat) n.lo n.hi else no
def den (ns : List Nd) (S : List (List R)) (i : Nat) : L := denN S (fun j => if _h : j < i then den ns S j else no) (nd ns i)
termination_by i
theorem denN_congr {S : List (List R)} {D E : Nat → L} {n : Nd} {i s : Int} (h : nodeB n i s = true) (hd : ∀ j : Nat, (j : Int) < i → D j = E j) : denN S D n = denN S E n := by
  unfold denN
  rcases nodeB_ways h with ⟨h1, h2⟩ | ⟨h1, h2⟩ | ⟨h1 | h1, h2⟩ | ⟨h1, h2⟩
  · simp [h1]
  · simp [h1]
  · simp only [h1]; rw [hd n.a.toNat (by omega), hd n.b.toNat (by omega)]
  · simp only [h1]; rw [hd n.a.toNat (by omega), hd n.b.toNat (by omega)]
  · have := hd n.a.toNat (by omega)
    simp [h1, this]
theorem den_eq {ns : List Nd} {S : List (List R)} {i : Nat} {s : Int} (h : nodeB (nd ns i) i s = true) : den ns S i = denN S (den ns S) (nd ns i) := by
  rw [den]
  exact denN_congr h fun j hj => by rw [dif_pos (by omega)]
theorem denN_sets {S T : List (List R)} {D : Nat → L} {n : Nd} {i : Int} (h : nodeB n i S.length = true) (hT : ∀ k, k < S.length → T.getD k [] = S.getD k []) : denN T D n = denN S D n := by
  unfold denN
  rcases nodeB_ways h with ⟨h1, h2⟩ | ⟨h1, h2⟩ | ⟨h1 | h1, h2⟩ | ⟨h1, h2⟩
  · simp [h1]
  · simp only [h1]; rw [hT n.set.toNat (by omega)]
  · simp [h1]
  · simp [h1]
  · simp [h1]
/-- what stands further on changes nothing -/
theorem den_more {ns ms : List Nd} {S T : List (List R)} (hn : ∀ i, i < ns.length → nodeB (nd ns i) i S.length = true) (hm : ∀ i, i < ns.length → nd ms i = nd ns i) (hT : ∀ k, k < S.length → T.getD k [] = S.getD k []) :
    ∀ i, i < ns.length → den ms T i = den ns S i := by
  intro i
  induction i using Nat.strongRecOn with
  | ind i ih =>
    intro hi
    have h := hn i hi
    have h' : nodeB (nd ms i) i S.length = true := by rw [hm i hi]; exact h
    rw [den_eq h', den_eq h, hm i hi, denN_sets h hT]
    exact denN_congr h fun j hj => ih j (by omega) (by omega)

/-- the rows of a book's part -/
def dB (B : Bk) (i : Nat) : L := den B.parts B.sets i

structure Good (B : Bk) : Prop where
  len : B.bare.length = B.parts.length
  small : B.parts.length ≤ 12288
  nodup : B.parts.Nodup
  two : 2 ≤ B.parts.length
  zero : nd B.parts 0 = nSet 0
  fst : nd B.parts 1 = nEmp
  sets0 : 0 < B.sets.length
  set0 : B.sets.getD 0 [] = []
  node : ∀ i, i < B.parts.length → nodeB (nd B.parts i) i B.sets.length = true
  reps : ∀ i, i < B.parts.length → (nd B.parts i).op = 5 → (nd B.parts i).hi ≠ 0
  bare : ∀ i, i < B.parts.length → (bareAt B i = true ↔ dB B i [])
structure Ext (B C : Bk) : Prop where
  parts : B.parts <+: C.parts
  sets : B.sets <+: C.sets
  full : B.full = true → C.full = true
theorem Ext.refl (B : Bk) : Ext B B := ⟨List.prefix_refl _, List.prefix_refl _, id⟩
theorem Ext.trans {B C D : Bk} (h : Ext B C) (k : Ext C D) : Ext B D := ⟨h.parts.trans k.parts, h.sets.trans k.sets, fun e => k.full (h.full e)⟩
theorem Ext.le {B C : Bk} (h : Ext B C) : B.parts.length ≤ C.parts.length := h.parts.length_le
theorem pre_getD {α : Type} {l m : List α} {d : α} (h : l <+: m) {i : Nat} (hi : i < l.length) : m.getD i d = l.getD i d := by
  obtain ⟨k, rfl⟩ := h
  simp [List.getD, List.getElem?_append_left hi]
theorem Ext.nd {B C : Bk} (h : Ext B C) {i : Nat} (hi : i < B.parts.length) : nd C.parts i = nd B.parts i := pre_getD h.parts hi
theorem Ext.den {B C : Bk} (h : Ext B C) (g : Good B) {i : Nat} (hi : i < B.parts.length) : dB C i = dB B i :=
  den_more g.node (fun _ hi => h.nd hi) (fun _ hk => pre_getD h.sets hk) i hi
theorem Good.den_eq {B : Bk} (g : Good B) {i : Nat} (hi : i < B.parts.length) : dB B i = denN B.sets (dB B) (nd B.parts i) := Dv.den_eq (g.node i hi)
theorem Good.den0 {B : Bk} (g : Good B) : dB B 0 = no := by
  rw [g.den_eq (by have := g.two; omega), g.zero]
  refine ext fun r => ⟨?_, fun h => h.elim⟩
  rintro ⟨c, _, hc⟩
  have : B.sets.getD (nSet 0).set.toNat [] = [] := g.set0
  rw [this] at hc
  simp [inB, hasB] at hc
theorem Good.den1 {B : Bk} (g : Good B) : dB B 1 = eps := by rw [g.den_eq (by have := g.two; omega), g.fst]; rfl

/-- what a call tells that makes at most one part -/
structure Out (B : Bk) (p : Bk × Nat) (A : L) : Prop where
  good : Good p.1
  ext : Ext B p.1
  lt : p.2 < p.1.parts.length
  den : p.1.full = false → dB p.1 p.2 = A
  cnt : p.1.parts.length ≤ B.parts.length + 1
  room : B.parts.length < 12288 → p.1.full = B.full
theorem Out.same {B : Bk} (g : Good B) {x : Nat} (hx : x < B.parts.length) {A : L} (h : dB B x = A) : Out B (B, x) A := ⟨g, Ext.refl B, hx, fun _ => h, by simp, fun _ => rfl⟩

theorem nd_snoc {l : List Nd} {n : Nd} : nd (l ++ [n]) l.length = n := by simp [nd, List.getD]
/-- a book with another row of sets, in which those that were there stand as they stood -/
theorem Good.sets' {B : Bk} (g : Good B) (l : List R) : Good { B with sets := B.sets ++ [l] } ∧ Ext B { B with sets := B.sets ++ [l] } ∧ ∀ i, i < B.parts.length → dB { B with sets := B.sets ++ [l] } i = dB B i := by
  have hT : ∀ k, k < B.sets.length → (B.sets ++ [l]).getD k [] = B.sets.getD k [] := fun k hk => pre_getD (List.prefix_append _ _) hk
  have hE : Ext B { B with sets := B.sets ++ [l] } := ⟨List.prefix_refl _, List.prefix_append _ _, id⟩
  have hd : ∀ i, i < B.parts.length → dB { B with sets := B.sets ++ [l] } i = dB B i := fun i hi => hE.den g hi
  refine ⟨⟨g.len, g.small, g.nodup, g.two, g.zero, g.fst, by simp, (hT 0 g.sets0).trans g.set0, fun i hi => nodeB_mono (g.node i hi) (Int.le_refl _) (by simp; omega), g.reps, fun i hi => ?_⟩, hE, hd⟩
  rw [hd i hi]; exact g.bare i hi

theorem number_out {B : Bk} (g : Good B) {n : Nd} {e : Bool} (hn : nodeB n B.parts.length B.sets.length = true) (hr : n.op = 5 → n.hi ≠ 0) (he : e = true ↔ denN B.sets (dB B) n []) : Out B (number B n e) (denN B.sets (dB B) n) := by
  unfold number
  split
  · rename_i hm
    have hx := List.idxOf_lt_length_of_mem hm
    refine Out.same g hx ?_
    rw [g.den_eq hx, nd_eq hx, List.getElem_idxOf hx]
  · rename_i hm
    split
    · rename_i hl
      have hd : ∀ i, dB { B with full := true } i = dB B i := fun i => rfl
      exact ⟨⟨g.len, g.small, g.nodup, g.two, g.zero, g.fst, g.sets0, g.set0, g.node, g.reps, g.bare⟩, ⟨List.prefix_refl _, List.prefix_refl _, fun _ => rfl⟩, by have := g.two; show 0 < B.parts.length; omega, fun h => (by cases h), by simp, fun h => (by omega)⟩
    · rename_i hl
      have hE : Ext B { B with parts := B.parts ++ [n], bare := B.bare ++ [e] } := ⟨List.prefix_append _ _, List.prefix_refl _, id⟩
      have hd : ∀ i, i < B.parts.length → dB { B with parts := B.parts ++ [n], bare := B.bare ++ [e] } i = dB B i := fun i hi => hE.den g hi
      have hnode : ∀ i, i < (B.parts ++ [n]).length → nodeB (nd (B.parts ++ [n]) i) i B.sets.length = true := fun i hi => by
        rcases Nat.lt_or_ge i B.parts.length with h | h
        · rw [nd_left h]; exact g.node i h
        · obtain rfl : i = B.parts.length := by simp at hi; omega
          rw [nd_snoc]; exact hn
      have hnew : dB { B with parts := B.parts ++ [n], bare := B.bare ++ [e] } B.parts.length = denN B.sets (dB B) n := by
        show den (B.parts ++ [n]) B.sets B.parts.length = _
        rw [Dv.den_eq (hnode _ (by simp)), nd_snoc]
        exact denN_congr hn fun j hj => hd j (by omega)
      have h2 := g.two
      refine ⟨⟨by simp [g.len], by have := g.small; simp; omega, ?_, by simp; omega, by rw [← g.zero]; exact nd_left (by omega), by rw [← g.fst]; exact nd_left (by omega), g.sets0, g.set0, hnode, fun i hi => ?_, fun i hi => ?_⟩, hE, by simp, fun _ => hnew, by simp, fun _ => rfl⟩
      · show (B.parts ++ [n]).Nodup
        rw [List.nodup_append]
        exact ⟨g.nodup, by simp, fun a ha b hb => by simp at hb; subst hb; exact fun h => hm (h ▸ ha)⟩
      · show (nd (B.parts ++ [n]) i).op = 5 → (nd (B.parts ++ [n]) i).hi ≠ 0
        rcases Nat.lt_or_ge i B.parts.length with h | h
        · rw [nd_left h]; exact g.reps i h
        · obtain rfl : i = B.parts.length := by simp at hi; omega
          rw [nd_snoc]; exact hr
      · rcases Nat.lt_or_ge i B.parts.length with h | h
        · rw [hd i h, ← g.bare i h]
          unfold bareAt
          rw [pre_getD (List.prefix_append _ _) (by rw [g.len]; exact h)]
        · obtain rfl : i = B.parts.length := by simp at hi; omega
          rw [hnew, ← he]
          have : bareAt { B with parts := B.parts ++ [n], bare := B.bare ++ [e] } B.parts.length = e := by
            unfold bareAt
            simp [List.getD, ← g.len]
          rw [this]

theorem setF_out {B : Bk} (g : Good B) (l : List R) : Out B (setF B l) (one (inB l)) := by
  unfold setF
  split
  · rename_i hm
    have hx := List.idxOf_lt_length_of_mem hm
    have h := number_out g (n := nSet (B.sets.idxOf l)) (e := false) (by simp [nodeB, nSet]; omega) (by simp [nSet]) (by simp [denN, nSet, one])
    have e : denN B.sets (dB B) (nSet (B.sets.idxOf l)) = one (inB l) := by
      show one (inB (B.sets.getD (((B.sets.idxOf l : Nat) : Int).toNat) [])) = _
      rw [Int.toNat_natCast, show B.sets.getD (B.sets.idxOf l) [] = l by rw [List.getD, List.getElem?_eq_getElem hx, List.getElem_idxOf hx]; rfl]
    rw [e] at h; exact h
  · obtain ⟨g1, g2, g3⟩ := g.sets' l
    have h := number_out g1 (n := nSet B.sets.length) (e := false) (by simp [nodeB, nSet]; omega) (by simp [nSet]) (by simp [denN, nSet, one])
    have e : denN (B.sets ++ [l]) (dB { B with sets := B.sets ++ [l] }) (nSet B.sets.length) = one (inB l) := by
      show one (inB ((B.sets ++ [l]).getD (((B.sets.length : Nat) : Int).toNat) [])) = _
      rw [Int.toNat_natCast, show (B.sets ++ [l]).getD B.sets.length [] = l by simp [List.getD]]
    rw [e] at h
    exact ⟨h.good, g2.trans h.ext, h.lt, h.den, h.cnt, h.room⟩

theorem catF_out {B : Bk} (g : Good B) {x y : Nat} (hx : x < B.parts.length) (hy : y < B.parts.length) : Out B (catF B x y) (seq (dB B x) (dB B y)) := by
  unfold catF
  split
  · rename_i h
    refine Out.same g (by have := g.two; omega) ?_
    rcases h with rfl | rfl
    · rw [g.den0, no_seq]
    · rw [g.den0, seq_no]
  · split
    · rename_i h; subst h
      exact Out.same g hy (by rw [g.den1, eps_seq])
    · split
      · rename_i h; subst h
        exact Out.same g hx (by rw [g.den1, seq_eps])
      · have h := number_out g (n := nCat x y) (e := bareAt B x && bareAt B y) (by simp [nodeB, nCat]; omega) (by simp [nCat]) (by
          show _ ↔ seq (dB B (x : Int).toNat) (dB B (y : Int).toNat) []
          rw [seq_nil, Bool.and_eq_true, g.bare x hx, g.bare y hy]; rfl)
        exact h

theorem altG_out {B : Bk} (g : Good B) {x y : Nat} (hx : x < B.parts.length) (hy : y < B.parts.length) : Out B (altG B x y) (alt (dB B x) (dB B y)) := by
  unfold altG
  split
  · rename_i h
    refine Out.same g hx ?_
    rcases h with rfl | rfl | ⟨rfl, h⟩
    · rw [alt_self]
    · rw [g.den0, alt_no]
    · rw [g.den1, alt_eps ((g.bare x hx).1 h)]
  · exact number_out g (n := nAlt x y) (e := bareAt B x || bareAt B y) (by simp [nodeB, nAlt]; omega) (by simp [nAlt]) (by
      show _ ↔ alt (dB B (x : Int).toNat) (dB B (y : Int).toNat) []
      rw [Bool.or_eq_true, g.bare x hx, g.bare y hy]; rfl)
theorem altF_out {B : Bk} (g : Good B) {x y : Nat} (hx : x < B.parts.length) (hy : y < B.parts.length) : Out B (altF B x y) (alt (dB B x) (dB B y)) := by
  unfold altF
  rcases Nat.le_total x y with h | h
  · rw [Nat.max_eq_right h, Nat.min_eq_left h, alt_comm]; exact altG_out g hy hx
  · rw [Nat.max_eq_left h, Nat.min_eq_right h]; exact altG_out g hx hy

theorem times_iff {lo hi : Int} : timesB lo hi = true ↔ 0 ≤ lo ∧ lo ≤ 255 ∧ (hi = -1 ∨ lo ≤ hi ∧ hi ≤ 255) := by simp [timesB, and_assoc]
theorem repG_out {B : Bk} (g : Good B) {x : Nat} (hx : x < B.parts.length) {lo hi : Int} (ht : timesB lo hi = true) (hb : bareAt B x = true → lo = 0) : Out B (repG B x lo hi) (rep (dB B x) lo hi) := by
  rw [times_iff] at ht
  have h2 := g.two
  unfold repG
  split
  · rename_i h
    refine Out.same g (by omega) ?_
    rw [g.den1]
    rcases h with rfl | ⟨rfl, rfl⟩
    · obtain rfl : lo = 0 := by omega
      rw [rep_zero]
    · rw [g.den0, rep_no_zero]
  · rename_i h
    split
    · rename_i h1
      refine Out.same g hx ?_
      rcases h1 with rfl | rfl
      · rw [g.den0, rep_no (by omega)]
      · rw [g.den1, rep_eps (by omega) (by omega)]
    · rename_i h1
      split
      · rename_i h3
        refine Out.same g hx ?_
        obtain ⟨rfl, h4⟩ := h3
        rcases h4 with rfl | h4
        · rw [rep_one]
        · rw [hb h4, rep_opt ((g.bare x hx).1 h4)]
      · rename_i h3
        split
        · rename_i h4
          refine Out.same g hx ?_
          have hden : dB B x = rep (dB B (nd B.parts x).a.toNat) 0 (-1) := by
            rw [g.den_eq hx]
            generalize nd B.parts x = n at h4
            obtain ⟨op, a, b, l, k, s⟩ := n
            simp only [Nd.mk.injEq, true_and] at h4
            obtain ⟨rfl, rfl, rfl, rfl, rfl⟩ := h4
            rfl
          have h0 : dB B x [] := by rw [hden]; exact ⟨0, by omega, fun h => by omega, rfl⟩
          obtain rfl := hb ((g.bare x hx).2 h0)
          rw [hden, rep_star (by omega)]
        · refine number_out g (n := nRep x lo hi) (e := decide (lo = 0)) ?_ (fun _ => by show hi ≠ 0; omega) ?_
          · have : timesB lo hi = true := times_iff.2 ht
            simp [nodeB, nRep, this]; omega
          · show decide (lo = 0) = true ↔ rep (dB B (x : Int).toNat) lo hi []
            rw [rep_nil ht.1 (by omega), decide_eq_true_iff]
            constructor
            · exact .inl
            · rintro (h | h)
              · exact h
              · exact hb ((g.bare x hx).2 h)
theorem repF_out {B : Bk} (g : Good B) {x : Nat} (hx : x < B.parts.length) {lo hi : Int} (ht : timesB lo hi = true) : Out B (repF B x lo hi) (rep (dB B x) lo hi) := by
  unfold repF
  split
  · rename_i h
    rw [times_iff] at ht
    have h0 := repG_out g hx (lo := 0) (hi := hi) (times_iff.2 (by omega)) (fun _ => rfl)
    rwa [← rep_bare ((g.bare x hx).1 h) ht.1 (by omega)] at h0
  · rename_i h
    exact repG_out g hx ht (fun h' => absurd h' h)
theorem fewer_times {lo hi : Int} (ht : timesB lo hi = true) (h0 : hi ≠ 0) : timesB (max (lo - 1) 0) (max (hi - 1) (-1)) = true := by
  rw [times_iff] at ht ⊢; omega
theorem fewerF_out {B : Bk} (g : Good B) {n : Nd} (ha : n.a.toNat < B.parts.length) (ht : timesB n.lo n.hi = true) (h0 : n.hi ≠ 0) : Out B (fewerF B n) (rep (dB B n.a.toNat) (max (n.lo - 1) 0) (max (n.hi - 1) (-1))) :=
  repF_out g ha (fewer_times ht h0)

end Go.Proofs.YtgjiofkjogjhhaaGreatDoor.Dv

namespace Go.Proofs.YtgjiofkjogjhhaaGreatDoor.Ut
open Go

theorem nth_lt (l : List UInt8) (i : Nat) : (l.getD i 0).toNat < 256 := UInt8.toNat_lt _
/-- the byte at a place, as a number -/
def nth (l : List UInt8) (i : Nat) : Int := ((l.getD i 0).toNat : Int)
theorem nth_range (l : List UInt8) (i : Nat) : 0 ≤ nth l i ∧ nth l i < 256 := by
  have := nth_lt l i
  unfold nth; omega
/-- the library's decoding of the beginning -/
def dN (l : List UInt8) : Nat × Nat := Lib.decodeN l.length (l.getD 0 0).toNat (l.getD 1 0).toNat (l.getD 2 0).toNat (l.getD 3 0).toNat

def scalar (c : Int) : Bool := decide ((0 ≤ c ∧ c < 55296) ∨ (57343 < c ∧ c ≤ 1114111))
theorem scalar_iff (c : Int) : scalar c = true ↔ (0 ≤ c ∧ c < 55296) ∨ (57343 < c ∧ c ≤ 1114111) := by simp [scalar]
theorem scalar_not (c : Int) : scalar c = false ↔ ¬ ((0 ≤ c ∧ c < 55296) ∨ (57343 < c ∧ c ≤ 1114111)) := by
  rw [← scalar_iff]; simp
def putL (c : Int) : List UInt8 := if scalar c then Lib.encodeRune c else []

def getL (l : List UInt8) : Int × Nat :=
  if l = [] then (-1, 0) else if (dN l).1 = 65533 ∧ (dN l).2 = 1 then (-1, 1) else (((dN l).1 : Int), (dN l).2)

def ints (l : List UInt8) : List Int := l.map fun b => (b.toNat : Int)
theorem ints_inj : ∀ {l m : List UInt8}, ints l = ints m → l = m
  | [], [], _ => rfl
  | [], _ :: _, h => by simp [ints] at h
  | _ :: _, [], h => by simp [ints] at h
  | a :: l, b :: m, h => by
    simp only [ints, List.map_cons, List.cons.injEq] at h
    have e : a = b := UInt8.toNat_inj.1 (by omega)
    rw [e, ints_inj (l := l) (m := m) h.2]
theorem ints_encode (c : Int) : ints (Lib.encodeRune c) = Lib.encodeRuneZ c := by
  simp only [ints, Lib.encodeRune, List.map_map]
  conv => rhs; rw [← List.map_id (Lib.encodeRuneZ c)]
  apply List.map_congr_left
  intro x hx
  obtain ⟨h0, h1⟩ := Lib.encodeRuneZ_byte c x hx
  simp [Function.comp]
  omega

theorem take1 (l : List UInt8) (h : 1 ≤ l.length) : ints (l.take 1) = [nth l 0] := by
  match l, h with
  | a :: l, _ => simp [ints, nth]
theorem take2 (l : List UInt8) (h : 2 ≤ l.length) : ints (l.take 2) = [nth l 0, nth l 1] := by
  match l, h with
  | a :: b :: l, _ => simp [ints, nth]
theorem take3 (l : List UInt8) (h : 3 ≤ l.length) : ints (l.take 3) = [nth l 0, nth l 1, nth l 2] := by
  match l, h with
  | a :: b :: c :: l, _ => simp [ints, nth]
theorem take4 (l : List UInt8) (h : 4 ≤ l.length) : ints (l.take 4) = [nth l 0, nth l 1, nth l 2, nth l 3] := by
  match l, h with
  | a :: b :: c :: d :: l, _ => simp [ints, nth]

/-- the four ways that a code point's bytes stand at the beginning -/
def Begins (l : List UInt8) (c : Int) (k : Nat) : Prop :=
  (k = 1 ∧ 1 ≤ l.length ∧ 0 ≤ c ∧ c ≤ 127 ∧ nth l 0 = c) ∨
  (k = 2 ∧ 2 ≤ l.length ∧ 128 ≤ c ∧ c ≤ 2047 ∧ nth l 0 = 192 + c / 64 ∧ nth l 1 = 128 + c % 64) ∨
  (k = 3 ∧ 3 ≤ l.length ∧ ((2048 ≤ c ∧ c < 55296) ∨ (57343 < c ∧ c ≤ 65535)) ∧ nth l 0 = 224 + c / 4096 ∧ nth l 1 = 128 + c / 64 % 64 ∧ nth l 2 = 128 + c % 64) ∨
  (k = 4 ∧ 4 ≤ l.length ∧ 65536 ≤ c ∧ c ≤ 1114111 ∧ nth l 0 = 240 + c / 262144 ∧ nth l 1 = 128 + c / 4096 % 64 ∧ nth l 2 = 128 + c / 64 % 64 ∧ nth l 3 = 128 + c % 64)
theorem Begins.one {l : List UInt8} {c : Int} (h : 1 ≤ l.length) (h0 : 0 ≤ c) (h1 : c ≤ 127) (e0 : nth l 0 = c) : Begins l c 1 := .inl ⟨rfl, h, h0, h1, e0⟩
theorem Begins.two {l : List UInt8} {c : Int} (h : 2 ≤ l.length) (h0 : 128 ≤ c) (h1 : c ≤ 2047) (e0 : nth l 0 = 192 + c / 64) (e1 : nth l 1 = 128 + c % 64) : Begins l c 2 := .inr (.inl ⟨rfl, h, h0, h1, e0, e1⟩)
theorem Begins.three {l : List UInt8} {c : Int} (h : 3 ≤ l.length) (h0 : (2048 ≤ c ∧ c < 55296) ∨ (57343 < c ∧ c ≤ 65535)) (e0 : nth l 0 = 224 + c / 4096) (e1 : nth l 1 = 128 + c / 64 % 64) (e2 : nth l 2 = 128 + c % 64) : Begins l c 3 := .inr (.inr (.inl ⟨rfl, h, h0, e0, e1, e2⟩))
theorem Begins.four {l : List UInt8} {c : Int} (h : 4 ≤ l.length) (h0 : 65536 ≤ c) (h1 : c ≤ 1114111) (e0 : nth l 0 = 240 + c / 262144) (e1 : nth l 1 = 128 + c / 4096 % 64) (e2 : nth l 2 = 128 + c / 64 % 64) (e3 : nth l 3 = 128 + c % 64) : Begins l c 4 := .inr (.inr (.inr ⟨rfl, h, h0, h1, e0, e1, e2, e3⟩))

theorem Begins.scalar {l : List UInt8} {c : Int} {k : Nat} (h : Begins l c k) : scalar c = true := by
  rw [scalar_iff]; rcases h with ⟨rfl, h, h0, h1, e0⟩ | ⟨rfl, h, h0, h1, e0, e1⟩ | ⟨rfl, h, h0, e0, e1, e2⟩ | ⟨rfl, h, h0, h1, e0, e1, e2, e3⟩ <;> omega
theorem Begins.len {l : List UInt8} {c : Int} {k : Nat} (h : Begins l c k) : 1 ≤ k ∧ k ≤ 4 ∧ k ≤ l.length := by
  rcases h with ⟨rfl, h, h0, h1, e0⟩ | ⟨rfl, h, h0, h1, e0, e1⟩ | ⟨rfl, h, h0, e0, e1, e2⟩ | ⟨rfl, h, h0, h1, e0, e1, e2, e3⟩ <;> omega
theorem Begins.encode {l : List UInt8} {c : Int} {k : Nat} (h : Begins l c k) : Lib.encodeRune c = l.take k := by
  apply ints_inj
  rw [ints_encode]
  rcases h with ⟨rfl, h, h0, h1, e0⟩ | ⟨rfl, h, h0, h1, e0, e1⟩ | ⟨rfl, h, h0, e0, e1, e2⟩ | ⟨rfl, h, h0, h1, e0, e1, e2, e3⟩
  · rw [take1 l h, Lib.encodeRuneZ_one h0 h1, e0]
  · rw [take2 l h, Lib.encodeRuneZ_two h0 h1, e0, e1]
  · rw [take3 l h, Lib.encodeRuneZ_three h0, e0, e1, e2]
  · rw [take4 l h, Lib.encodeRuneZ_four h0 h1, e0, e1, e2, e3]

theorem Begins.of {l : List UInt8} {c : Int} {k : Nat} (hs : Ut.scalar c = true) (hk : k ≤ l.length) (he : Lib.encodeRune c = l.take k) : Begins l c k := by
  rw [scalar_iff] at hs
  have hi := congrArg ints he
  rw [ints_encode] at hi
  have hn : k = (Lib.encodeRuneZ c).length := by
    have := congrArg List.length hi
    simp only [ints, List.length_map, List.length_take] at this
    omega
  by_cases a : c ≤ 127
  · rw [Lib.encodeRuneZ_one (by omega) a] at hi hn
    simp only [List.length_cons, List.length_nil] at hn
    subst hn
    rw [take1 l (by omega)] at hi
    simp only [List.cons.injEq, and_true] at hi
    exact Begins.one (by omega) (by omega) a hi.symm
  · by_cases b : c ≤ 2047
    · rw [Lib.encodeRuneZ_two (by omega) b] at hi hn
      simp only [List.length_cons, List.length_nil] at hn
      subst hn
      rw [take2 l (by omega)] at hi
      simp only [List.cons.injEq, and_true] at hi
      exact Begins.two (by omega) (by omega) b hi.1.symm hi.2.symm
    · by_cases d : c ≤ 65535
      · rw [Lib.encodeRuneZ_three (by omega)] at hi hn
        simp only [List.length_cons, List.length_nil] at hn
        subst hn
        rw [take3 l (by omega)] at hi
        simp only [List.cons.injEq, and_true] at hi
        exact Begins.three (by omega) (by omega) hi.1.symm hi.2.1.symm hi.2.2.symm
      · rw [Lib.encodeRuneZ_four (by omega) (by omega)] at hi hn
        simp only [List.length_cons, List.length_nil] at hn
        subst hn
        rw [take4 l (by omega)] at hi
        simp only [List.cons.injEq, and_true] at hi
        exact Begins.four (by omega) (by omega) (by omega) hi.1.symm hi.2.1.symm hi.2.2.1.symm hi.2.2.2.symm

set_option maxRecDepth 100000 in
set_option maxHeartbeats 4000000 in
theorem dN_of {l : List UInt8} {c : Int} {k : Nat} (h : Begins l c k) : dN l = (c.toNat, k) := by
  unfold dN
  rcases h with ⟨rfl, h, h0, h1, e0⟩ | ⟨rfl, h, h0, h1, e0, e1⟩ | ⟨rfl, h, h0, e0, e1, e2⟩ | ⟨rfl, h, h0, h1, e0, e1, e2, e3⟩
  ·
    unfold nth at *
    generalize (l.getD 0 0).toNat = b0 at *
    unfold Lib.decodeN
    rw [if_pos (by omega)]
    apply Prod.ext <;> simp only <;> omega
  ·
    unfold nth at *
    generalize (l.getD 0 0).toNat = b0 at *
    generalize (l.getD 1 0).toNat = b1 at *
    unfold Lib.decodeN
    rw [if_neg (by omega), if_pos (by omega), if_pos (by omega)]
    apply Prod.ext <;> simp only <;> omega
  ·
    unfold nth at *
    generalize (l.getD 0 0).toNat = b0 at *
    generalize (l.getD 1 0).toNat = b1 at *
    generalize (l.getD 2 0).toNat = b2 at *
    unfold Lib.decodeN
    rw [if_neg (by omega), if_neg (by omega), if_pos (by omega), if_pos (by omega)]
    apply Prod.ext <;> simp only <;> omega
  ·
    unfold nth at *
    generalize (l.getD 0 0).toNat = b0 at *
    generalize (l.getD 1 0).toNat = b1 at *
    generalize (l.getD 2 0).toNat = b2 at *
    generalize (l.getD 3 0).toNat = b3 at *
    unfold Lib.decodeN
    rw [if_neg (by omega), if_neg (by omega), if_neg (by omega), if_pos (by omega), if_pos (by omega)]
    apply Prod.ext <;> simp only <;> omega

set_option maxRecDepth 100000 in
set_option maxHeartbeats 4000000 in
theorem dN_back {l : List UInt8} (hl : l ≠ []) : dN l = (65533, 1) ∨ Begins l (dN l).1 (dN l).2 := by
  have hlen : 1 ≤ l.length := by cases l <;> simp_all
  have q0 := nth_lt l 0; have q1 := nth_lt l 1; have q2 := nth_lt l 2; have q3 := nth_lt l 3
  have key : ∀ b0 b1 b2 b3 : Nat, b0 < 256 → b1 < 256 → b2 < 256 → b3 < 256 → nth l 0 = b0 → nth l 1 = b1 → nth l 2 = b2 → nth l 3 = b3 →
      Lib.decodeN l.length b0 b1 b2 b3 = (65533, 1) ∨ Begins l (Lib.decodeN l.length b0 b1 b2 b3).1 (Lib.decodeN l.length b0 b1 b2 b3).2 := by
    intro b0 b1 b2 b3 p0 p1 p2 p3 e0 e1 e2 e3
    unfold Lib.decodeN
    repeat' split
    all_goals first
      | exact .inl rfl
      | (right; exact Begins.one (by omega) (by dsimp only; omega) (by dsimp only; omega) (by dsimp only; omega))
      | (right; exact Begins.two (by omega) (by dsimp only; omega) (by dsimp only; omega) (by dsimp only; omega) (by dsimp only; omega))
      | (right; exact Begins.three (by omega) (by dsimp only; omega) (by dsimp only; omega) (by dsimp only; omega) (by dsimp only; omega))
      | (right; exact Begins.four (by omega) (by dsimp only; omega) (by dsimp only; omega) (by dsimp only; omega) (by dsimp only; omega) (by dsimp only; omega) (by dsimp only; omega))
  exact key _ _ _ _ q0 q1 q2 q3 rfl rfl rfl rfl

theorem getL_of {l : List UInt8} {c : Int} {k : Nat} (h : Begins l c k) : getL l = (c, k) := by
  have hk := h.len
  have hs := h.scalar
  rw [scalar_iff] at hs
  have hd := dN_of h
  have hne : l ≠ [] := by intro e; subst e; simp at hk; omega
  unfold getL
  rw [if_neg hne, hd]
  rw [if_neg]
  · apply Prod.ext <;> simp only
    omega
  · rintro ⟨a, b⟩
    simp only at a b
    rcases h with ⟨_, h, h0, h1, e0⟩ | ⟨_, h, h0, h1, e0, e1⟩ | ⟨_, h, h0, e0, e1, e2⟩ | ⟨_, h, h0, h1, e0, e1, e2, e3⟩ <;> omega
theorem getL_cases {l : List UInt8} (hl : l ≠ []) : getL l = (-1, 1) ∨ Begins l (getL l).1 (getL l).2 := by
  rcases dN_back hl with h | h
  · left; unfold getL; rw [if_neg hl, if_pos (by rw [h]; exact ⟨rfl, rfl⟩)]
  · right; rw [getL_of h]; exact h
theorem getL_nil : getL [] = (-1, 0) := rfl
theorem getL_width {l : List UInt8} (hl : l ≠ []) : 1 ≤ (getL l).2 ∧ (getL l).2 ≤ l.length ∧ (getL l).2 ≤ 4 := by
  have hlen : 1 ≤ l.length := by cases l <;> simp_all
  rcases getL_cases hl with h | h
  · rw [h]; simp only; omega
  · have := h.len; omega
theorem getL_range (l : List UInt8) : (getL l).1 = -1 ∨ (0 ≤ (getL l).1 ∧ (getL l).1 ≤ 1114111) := by
  by_cases hl : l = []
  · subst hl; left; rfl
  · rcases getL_cases hl with h | h
    · left; rw [h]
    · right; have := h.scalar; rw [scalar_iff] at this; omega

/-- what follows doesn't matter -/
theorem begins_put {c : Int} (more : List UInt8) (hs : scalar c = true) : Begins (Lib.encodeRune c ++ more) c (Lib.encodeRune c).length :=
  Begins.of hs (by simp) (by simp)

/-! ### the document's way to find it -/
def lead (n : Nat) : Int := if n = 2 then 192 else if n = 3 then 224 else if n = 4 then 240 else 0
def guessR (l : List UInt8) : Nat → Nat → Int → Int
  | 0, _, c => c
  | f + 1, i, c => guessR l f (i + 1) (64 * c + nth l i - 128)
def guessL (l : List UInt8) (n : Nat) : Int := guessR l (n - 1) 1 (nth l 0 - lead n)
theorem guess1 (l : List UInt8) : guessL l 1 = nth l 0 := by simp [guessL, guessR, lead]
theorem guess2 (l : List UInt8) : guessL l 2 = 64 * (nth l 0 - 192) + nth l 1 - 128 := by simp [guessL, guessR, lead]
theorem guess3 (l : List UInt8) : guessL l 3 = 64 * (64 * (nth l 0 - 224) + nth l 1 - 128) + nth l 2 - 128 := by simp [guessL, guessR, lead]
theorem guess4 (l : List UInt8) : guessL l 4 = 64 * (64 * (64 * (nth l 0 - 240) + nth l 1 - 128) + nth l 2 - 128) + nth l 3 - 128 := by simp [guessL, guessR, lead]
theorem guess_of {l : List UInt8} {c : Int} {k : Nat} (h : Begins l c k) : guessL l k = c := by
  rcases h with ⟨rfl, h, h0, h1, e0⟩ | ⟨rfl, h, h0, h1, e0, e1⟩ | ⟨rfl, h, h0, e0, e1, e2⟩ | ⟨rfl, h, h0, h1, e0, e1, e2, e3⟩
  · rw [guess1, e0]
  · rw [guess2, e0, e1]; omega
  · rw [guess3, e0, e1, e2]; omega
  · rw [guess4, e0, e1, e2, e3]; omega
theorem guess_range (l : List UInt8) (n : Nat) (h : 1 ≤ n) (h4 : n ≤ 4) : -200000000 ≤ guessL l n ∧ guessL l n ≤ 200000000 := by
  have q0 := nth_range l 0; have q1 := nth_range l 1; have q2 := nth_range l 2; have q3 := nth_range l 3
  have : n = 1 ∨ n = 2 ∨ n = 3 ∨ n = 4 := by omega
  rcases this with rfl | rfl | rfl | rfl
  · rw [guess1]; omega
  · rw [guess2]; omega
  · rw [guess3]; omega
  · rw [guess4]; omega

theorem getL_hit {l : List UInt8} {n : Nat} (hn : n ≤ l.length) (hs : scalar (guessL l n) = true) (he : putL (guessL l n) = l.take n) : getL l = (guessL l n, n) := by
  unfold putL at he
  rw [if_pos hs] at he
  exact getL_of (Begins.of hs hn he)
/-- no number of bytes is right -/
def misses (l : List UInt8) (k : Nat) : Prop := ∀ n, 1 ≤ n → n < k → n ≤ l.length → ¬ (scalar (guessL l n) = true ∧ putL (guessL l n) = l.take n)
theorem misses_one (l : List UInt8) : misses l 1 := fun n h0 h1 => by omega
theorem misses_step {l : List UInt8} {k : Nat} (h : misses l k) (hk : ¬ (scalar (guessL l k) = true ∧ putL (guessL l k) = l.take k)) : misses l (k + 1) := by
  intro n h0 h1 h2
  by_cases e : n = k
  · subst e; exact hk
  · exact h n h0 (by omega) h2
theorem getL_miss {l : List UInt8} {k : Nat} (hl : l ≠ []) (h : misses l k) (hk : 4 < k ∨ l.length < k) : getL l = (-1, 1) := by
  rcases getL_cases hl with h0 | h0
  · exact h0
  · exfalso
    have hk2 := h0.len
    refine h (getL l).2 hk2.1 (by omega) hk2.2.2 ?_
    rw [guess_of h0]
    refine ⟨h0.scalar, ?_⟩
    unfold putL
    rw [if_pos h0.scalar]
    exact h0.encode

/-! ### all code points of a text -/
def allF : Nat → List UInt8 → List Int
  | 0, _ => []
  | f + 1, l => if l = [] then [] else (getL l).1 :: allF f (l.drop (getL l).2)
def allL (l : List UInt8) : List Int := allF l.length l
theorem allF_nil : ∀ f, allF f [] = []
  | 0 => rfl
  | _ + 1 => rfl
theorem allF_more : ∀ (f g : Nat) (l : List UInt8), l.length ≤ f → l.length ≤ g → allF f l = allF g l
  | f, g, [], _, _ => by rw [allF_nil, allF_nil]
  | 0, _, _ :: _, h, _ => by simp at h
  | _, 0, _ :: _, _, h => by simp at h
  | f + 1, g + 1, a :: l, h, h2 => by
    have hw := getL_width (l := a :: l) (by simp)
    have e : ¬ (a :: l) = [] := by simp
    simp only [List.length_cons] at h h2 hw
    have := allF_more f g ((a :: l).drop (getL (a :: l)).2) (by simp only [List.length_drop, List.length_cons]; omega) (by simp only [List.length_drop, List.length_cons]; omega)
    rw [allF, allF, if_neg e, if_neg e, this]
theorem allL_nil : allL [] = [] := rfl
theorem allL_cons {l : List UInt8} (h : l ≠ []) : allL l = (getL l).1 :: allL (l.drop (getL l).2) := by
  have hw := getL_width h
  obtain ⟨f, hf⟩ : ∃ f, l.length = f + 1 := ⟨l.length - 1, by omega⟩
  have := allF_more f (l.drop (getL l).2).length (l.drop (getL l).2) (by simp only [List.length_drop]; omega) (Nat.le_refl _)
  unfold allL
  rw [← this, hf, allF, if_neg h]
theorem allL_length : ∀ (n : Nat) (l : List UInt8), l.length ≤ n → (allL l).length ≤ l.length
  | 0, l, h => by
    have : l = [] := List.eq_nil_of_length_eq_zero (by omega)
    subst this; simp [allL_nil]
  | n + 1, l, h => by
    by_cases e : l = []
    · subst e; simp [allL_nil]
    · have hw := getL_width e
      rw [allL_cons e]
      have := allL_length n (l.drop (getL l).2) (by simp only [List.length_drop]; omega)
      simp only [List.length_drop, List.length_cons] at this ⊢
      omega
theorem allL_le (l : List UInt8) : (allL l).length ≤ l.length := allL_length l.length l (Nat.le_refl _)
def validL (l : List UInt8) : Bool := (allL l).all fun c => decide (0 ≤ c)
def joinL (xs : List Int) : List UInt8 := xs.flatMap putL
theorem joinL_snoc (xs : List Int) (c : Int) : joinL (xs ++ [c]) = joinL xs ++ putL c := by simp [joinL]
theorem joinL_cons (xs : List Int) (c : Int) : joinL (c :: xs) = putL c ++ joinL xs := by simp [joinL]

theorem join_all : ∀ (n : Nat) (l : List UInt8), l.length ≤ n → validL l = true → joinL (allL l) = l
  | 0, l, h, _ => by
    have : l = [] := List.eq_nil_of_length_eq_zero (by omega)
    subst this; simp [allL_nil, joinL]
  | n + 1, l, h, hv => by
    by_cases e : l = []
    · subst e; simp [allL_nil, joinL]
    · have hw := getL_width e
      unfold validL at hv
      rw [allL_cons e] at hv ⊢
      simp only [List.all_cons, Bool.and_eq_true, decide_eq_true_eq] at hv
      rw [joinL_cons, join_all n (l.drop (getL l).2) (by simp only [List.length_drop]; omega) hv.2]
      rcases getL_cases e with h0 | h0
      · rw [h0] at hv; simp at hv
      · rw [putL, if_pos h0.scalar, h0.encode, List.take_append_drop]
theorem put_ne {c : Int} (h : scalar c = true) : putL c ≠ [] := by
  rw [putL, if_pos h]
  intro e
  have := (Lib.runeCells_le c).1
  rw [Lib.runeCells_length, e] at this
  simp at this
theorem getL_put {c : Int} (more : List UInt8) (h : scalar c = true) : getL (putL c ++ more) = (c, (putL c).length) := by
  rw [putL, if_pos h]
  exact getL_of (begins_put more h)
theorem valid_join : ∀ (xs : List Int), validL (joinL xs) = true
  | [] => by simp [joinL, validL, allL_nil]
  | c :: xs => by
    rw [joinL_cons]
    cases h : scalar c with
    | false => rw [putL, h]; exact valid_join xs
    | true =>
      have hne : putL c ++ joinL xs ≠ [] := by
        intro e; exact put_ne h (List.append_eq_nil_iff.1 e).1
      have hv := valid_join xs
      unfold validL at hv ⊢
      rw [allL_cons hne, getL_put _ h]
      simp only [List.all_cons, List.drop_left, Bool.and_eq_true, decide_eq_true_eq]
      rw [scalar_iff] at h
      exact ⟨by omega, hv⟩
theorem put_len (c : Int) : (putL c).length ≤ 4 := by
  unfold putL
  split
  · rw [← Lib.runeCells_length]; exact (Lib.runeCells_le c).2
  · simp
theorem join_len : ∀ (xs : List Int), (joinL xs).length ≤ 4 * xs.length
  | [] => by simp [joinL]
  | c :: xs => by
    rw [joinL_cons]
    have := put_len c; have := join_len xs
    simp only [List.length_append, List.length_cons]; omega
theorem put_bad {c : Int} (h : scalar c = false) : putL c = [] := by simp [putL, h]
theorem put_good {c : Int} (h : scalar c = true) : putL c = Lib.encodeRune c := by simp [putL, h]

end Go.Proofs.YtgjiofkjogjhhaaGreatDoor.Ut

namespace Go.Proofs.YtgjiofkjogjhhaaGreatDoor.Ms
open Go.Proofs.YtgjiofkjogjhhaaGreatDoor.Ar (Nd nd nd_eq nodeB nodeB_ways timesB Tr Ok)
open Go.Proofs.YtgjiofkjogjhhaaGreatDoor.Rg (R hasB inB setFrom)
open Go.Proofs.YtgjiofkjogjhhaaGreatDoor.Dv (L eps one seq alt rep no den denN den_eq rep_nil seq_nil)
open Go.Proofs.YtgjiofkjogjhhaaGreatDoor.Ut (scalar)

structure Sp where
  has : Bool
  en : Bool
  le : Int
  mo : Int
deriving DecidableEq
def z0 : Sp := ⟨false, false, 0, 0⟩
def e0 : Sp := ⟨true, false, 0, 0⟩
instance : Inhabited Sp := ⟨z0⟩
def cntd (n : Int) : Int := min n 1048576
def thenS (s o : Sp) : Sp := if s.has = true ∧ o.has = true then ⟨true, s.en || o.en, cntd (s.le + o.le), cntd (s.mo + o.mo)⟩ else z0
def orS (s o : Sp) : Sp := if s.has = false then o else if o.has = false then s else ⟨true, s.en || o.en, min s.le o.le, max s.mo o.mo⟩
def timesS (s : Sp) (lo hi : Int) : Sp :=
  if hi = 0 ∨ lo = 0 ∧ s.has = false then e0 else if s.has = false then z0 else ⟨true, s.en || (decide (hi = -1) && decide (0 < s.mo)), cntd (lo * s.le), cntd (max lo hi * s.mo)⟩
/-- what is counted stays small -/
structure Bd (s : Sp) : Prop where
  le0 : 0 ≤ s.le
  le1 : s.le ≤ 1048576
  mo0 : 0 ≤ s.mo
  mo1 : s.mo ≤ 1048576
theorem bd_z0 : Bd z0 := ⟨by decide, by decide, by decide, by decide⟩
theorem bd_e0 : Bd e0 := ⟨by decide, by decide, by decide, by decide⟩
theorem cntd_bd {n : Int} (h : 0 ≤ n) : 0 ≤ cntd n ∧ cntd n ≤ 1048576 := by unfold cntd; omega
theorem cntd_zero {n : Int} : cntd n = 0 ↔ n = 0 := by unfold cntd; omega
theorem bd_then {s o : Sp} (h : Bd s) (k : Bd o) : Bd (thenS s o) := by
  unfold thenS
  obtain ⟨a, b, c, d⟩ := h
  obtain ⟨e, f, g, i⟩ := k
  split
  · exact ⟨(cntd_bd (by omega)).1, (cntd_bd (by omega)).2, (cntd_bd (by omega)).1, (cntd_bd (by omega)).2⟩
  · exact bd_z0
theorem bd_or {s o : Sp} (h : Bd s) (k : Bd o) : Bd (orS s o) := by
  unfold orS
  obtain ⟨a, b, c, d⟩ := h
  obtain ⟨e, f, g, i⟩ := k
  split
  · exact ⟨e, f, g, i⟩
  · split
    · exact ⟨a, b, c, d⟩
    · exact ⟨by simp only; omega, by simp only; omega, by simp only; omega, by simp only; omega⟩
theorem mul_bd {a b : Int} (h : 0 ≤ a) (h1 : a ≤ 255) (k : 0 ≤ b) (k1 : b ≤ 1048576) : 0 ≤ a * b ∧ a * b ≤ 267386880 := by
  refine ⟨Int.mul_nonneg h k, ?_⟩
  have : a * b ≤ 255 * 1048576 := Int.mul_le_mul h1 k1 k (by omega)
  omega
theorem bd_times {s : Sp} (h : Bd s) {lo hi : Int} (h0 : 0 ≤ lo) : Bd (timesS s lo hi) := by
  unfold timesS
  obtain ⟨a, b, c, d⟩ := h
  split
  · exact bd_e0
  · split
    · exact bd_z0
    · have h1 : 0 ≤ lo * s.le := Int.mul_nonneg h0 a
      have h2 : 0 ≤ max lo hi * s.mo := Int.mul_nonneg (by omega) c
      exact ⟨(cntd_bd h1).1, (cntd_bd h1).2, (cntd_bd h2).1, (cntd_bd h2).2⟩
/-- a node's span, by those of its parts -/
def spN (P : List Sp) (D : Nat → Sp) (n : Nd) : Sp :=
  if n.op = 2 then P.getD n.set.toNat z0 else if n.op = 3 then thenS (D n.a.toNat) (D n.b.toNat) else if n.op = 4 then orS (D n.a.toNat) (D n.b.toNat)
  else if n.op = 5 then timesS (D n.a.toNat) n.lo n.hi else e0
def spn (ns : List Nd) (P : List Sp) (i : Nat) : Sp := spN P (fun j => if _h : j < i then spn ns P j else z0) (nd ns i)
termination_by i
theorem spN_congr {P : List Sp} {D E : Nat → Sp} {n : Nd} {i s : Int} (h : nodeB n i s = true) (hd : ∀ j : Nat, (j : Int) < i → D j = E j) : spN P D n = spN P E n := by
  unfold spN
  rcases nodeB_ways h with ⟨h1, h2⟩ | ⟨h1, h2⟩ | ⟨h1 | h1, h2⟩ | ⟨h1, h2⟩
  · simp [h1]
  · simp [h1]
  · simp only [h1]; rw [hd n.a.toNat (by omega), hd n.b.toNat (by omega)]
  · simp only [h1]; rw [hd n.a.toNat (by omega), hd n.b.toNat (by omega)]
  · have := hd n.a.toNat (by omega)
    simp [h1, this]
theorem spn_eq {ns : List Nd} {P : List Sp} {i : Nat} {s : Int} (h : nodeB (nd ns i) i s = true) : spn ns P i = spN P (spn ns P) (nd ns i) := by
  rw [spn]
  exact spN_congr h fun j hj => by rw [dif_pos (by omega)]
theorem times_of {n : Nd} {i s : Int} (h : nodeB n i s = true) (h5 : n.op = 5) : 0 ≤ n.lo ∧ n.lo ≤ 255 ∧ (n.hi = -1 ∨ n.lo ≤ n.hi ∧ n.hi ≤ 255) := by
  unfold nodeB at h
  rw [if_neg (by omega), if_neg (by omega), if_neg (by omega), if_pos h5, Bool.and_eq_true] at h
  exact Dv.times_iff.1 h.2
theorem spn_bd {ns : List Nd} {P : List Sp} {s : Int} (hn : ∀ i, i < ns.length → nodeB (nd ns i) i s = true) (hP : ∀ k, Bd (P.getD k z0)) : ∀ i, i < ns.length → Bd (spn ns P i) := by
  intro i
  induction i using Nat.strongRecOn with
  | ind i ih =>
    intro hi
    have h := hn i hi
    rw [spn_eq h]
    unfold spN
    rcases nodeB_ways h with ⟨h1, h2⟩ | ⟨h1, h2⟩ | ⟨h1 | h1, h2⟩ | ⟨h1, h2⟩
    · simp only [h1]; exact bd_e0
    · simp only [h1]; exact hP _
    · simp only [h1]; exact bd_then (ih _ (by omega) (by omega)) (ih _ (by omega) (by omega))
    · simp only [h1]; exact bd_or (ih _ (by omega) (by omega)) (ih _ (by omega) (by omega))
    · have := times_of h h1
      simp only [h1]; exact bd_times (ih _ (by omega) (by omega)) (by omega)
/-- has the empty text -/
def nulS (s : Sp) : Prop := s.has = true ∧ s.le = 0
theorem nul_then {s o : Sp} (h : Bd s) (k : Bd o) : nulS (thenS s o) ↔ nulS s ∧ nulS o := by
  unfold nulS thenS
  obtain ⟨a, b, c, d⟩ := h
  obtain ⟨e, f, g, i⟩ := k
  split
  · rename_i hh
    simp only [hh, true_and]
    rw [cntd_zero]
    omega
  · rename_i hh
    simp only [z0]
    constructor
    · rintro ⟨h1, _⟩; simp at h1
    · rintro ⟨⟨h1, _⟩, h2, _⟩; exact absurd ⟨h1, h2⟩ hh
theorem nul_or {s o : Sp} (h : Bd s) (k : Bd o) : nulS (orS s o) ↔ nulS s ∨ nulS o := by
  unfold nulS orS
  obtain ⟨a, b, c, d⟩ := h
  obtain ⟨e, f, g, i⟩ := k
  by_cases h1 : s.has = false
  · rw [if_pos h1]; simp [h1]
  · rw [if_neg h1]
    by_cases h2 : o.has = false
    · rw [if_pos h2]; simp [h2]
    · rw [if_neg h2]
      have h1' : s.has = true := by simpa using h1
      have h2' : o.has = true := by simpa using h2
      simp only [h1', h2', true_and]
      omega
theorem nul_times {s : Sp} (h : Bd s) {lo hi : Int} (h0 : 0 ≤ lo) (h1 : hi = -1 ∨ lo ≤ hi) : nulS (timesS s lo hi) ↔ lo = 0 ∨ nulS s := by
  unfold nulS timesS
  obtain ⟨a, b, c, d⟩ := h
  by_cases c1 : hi = 0 ∨ lo = 0 ∧ s.has = false
  · rw [if_pos c1]
    simp only [e0, true_and, true_iff]
    omega
  · rw [if_neg c1]
    by_cases c2 : s.has = false
    · rw [if_pos c2]
      simp only [z0, c2]
      constructor
      · rintro ⟨h1, _⟩; simp at h1
      · rintro (h1 | ⟨h1, _⟩)
        · exact absurd (.inr ⟨h1, c2⟩) c1
        · simp at h1
    · rw [if_neg c2]
      have c2' : s.has = true := by simpa using c2
      simp only [c2', true_and]
      rw [cntd_zero, Int.mul_eq_zero]
/-- of a tree that may be: the shortest text is empty just if the tree has the empty row -/
theorem nul_den {ns : List Nd} {S : List (List R)} {P : List Sp} {s : Int} (hn : ∀ i, i < ns.length → nodeB (nd ns i) i s = true) (hP : ∀ k, Bd (P.getD k z0)) (hP1 : ∀ k, ¬ nulS (P.getD k z0)) :
    ∀ i, i < ns.length → (nulS (spn ns P i) ↔ den ns S i []) := by
  intro i
  induction i using Nat.strongRecOn with
  | ind i ih =>
    intro hi
    have h := hn i hi
    rw [spn_eq h, den_eq h]
    unfold spN denN
    rcases nodeB_ways h with ⟨h1, h2⟩ | ⟨h1, h2⟩ | ⟨h1 | h1, h2⟩ | ⟨h1, h2⟩
    · rw [if_neg (by omega), if_neg (by omega), if_neg (by omega), if_neg (by omega), if_pos h1]
      exact ⟨fun _ => rfl, fun _ => ⟨rfl, rfl⟩⟩
    · rw [if_pos h1, if_neg (by omega), if_pos h1]
      exact ⟨fun h => absurd h (hP1 _), fun ⟨c, hc, _⟩ => by cases hc⟩
    · rw [if_neg (by omega), if_pos h1, if_neg (by omega), if_neg (by omega), if_pos h1, nul_then (spn_bd hn hP _ (by omega)) (spn_bd hn hP _ (by omega)), seq_nil, ih _ (by omega) (by omega), ih _ (by omega) (by omega)]
    · rw [if_neg (by omega), if_neg (by omega), if_pos h1, if_neg (by omega), if_neg (by omega), if_neg (by omega), if_pos h1, nul_or (spn_bd hn hP _ (by omega)) (spn_bd hn hP _ (by omega)), ih _ (by omega) (by omega), ih _ (by omega) (by omega)]
      rfl
    · have ht := times_of h h1
      rw [if_neg (by omega), if_neg (by omega), if_neg (by omega), if_pos h1, if_neg (by omega), if_neg (by omega), if_neg (by omega), if_neg (by omega), if_pos h1, nul_times (spn_bd hn hP _ (by omega)) ht.1 (by omega), rep_nil ht.1 (by omega), ih _ (by omega) (by omega)]
/-- a set's span, of what is left of it without what is no code point -/
def setS (l : List R) : Sp := match l with
  | [] => z0
  | r :: t => ⟨true, false, ((Ut.putL r.1).length : Nat), ((Ut.putL (Rg.nth (r :: t) t.length).2).length : Nat)⟩
theorem put_ge {c : Int} (h : scalar c = true) : 1 ≤ (Ut.putL c).length := by
  have := Ut.put_ne h
  cases hl : Ut.putL c with
  | nil => exact absurd hl this
  | cons a b => simp
theorem setS_bd (l : List R) : Bd (setS l) := by
  cases l with
  | nil => exact bd_z0
  | cons r t =>
    have h1 := Ut.put_len r.1
    have h2 := Ut.put_len (Rg.nth (r :: t) t.length).2
    exact ⟨by show (0 : Int) ≤ ((Ut.putL r.1).length : Nat); omega, by show (((Ut.putL r.1).length : Nat) : Int) ≤ _; omega, by show (0 : Int) ≤ ((Ut.putL (Rg.nth (r :: t) t.length).2).length : Nat); omega, by show (((Ut.putL (Rg.nth (r :: t) t.length).2).length : Nat) : Int) ≤ _; omega⟩
theorem setS_no {l : List R} (h : ∀ c, hasB l c = true → scalar c = true) (hs : setFrom 0 l) : ¬ nulS (setS l) := by
  cases l with
  | nil => rintro ⟨h1, _⟩; simp [setS, z0] at h1
  | cons r t =>
    rintro ⟨_, h2⟩
    have hr := Rg.set_all hs r (by simp)
    have := put_ge (h r.1 (by rw [Rg.hasB_cons]; simp [hr.2.1]))
    have h3 : (((Ut.putL r.1).length : Nat) : Int) = 0 := h2
    omega
end Go.Proofs.YtgjiofkjogjhhaaGreatDoor.Ms

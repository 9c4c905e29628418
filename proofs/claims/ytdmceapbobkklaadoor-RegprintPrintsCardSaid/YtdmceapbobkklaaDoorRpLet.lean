/- Letters and digits; the document's escape, and how often. -/
import Derived.Test.YtdmceapbobkklaaDoorRgMem
import Derived.Test.YtdmceapbobkklaaDoorDgHexText
import Derived.Test.YtdmceapbobkklaaDoorDgRText
namespace Go.Proofs.YtdmceapbobkklaaDoor.Rp
open Go
open Go.Proofs.YtdmceapbobkklaaDoor.Rg (R nth)

abbrev Tx := List UInt8

def plainB (c : Int) : Bool := (decide (97 ≤ c) && decide (c ≤ 122)) || (decide (65 ≤ c) && decide (c ≤ 90)) || (decide (48 ≤ c) && decide (c ≤ 57))
/-- an escape of a number -/
def escL (c : Int) : Tx := [92, 117, 123] ++ Dg.hexText c 1 ++ [125]
def spanL (r : R) : Tx := if r.1 = r.2 then escL r.1 else escL r.1 ++ [45] ++ escL r.2
/-- a set's class -/
def brkL (l : List R) : Tx := if l.length = 0 then [91, 94] ++ spanL (0, 1114111) ++ [93] else [91] ++ l.flatMap spanL ++ [93]
/-- is it a set of just one letter or digit -/
def soleB (l : List R) : Bool := decide (l.length = 1) && (decide ((nth l 0).1 = (nth l 0).2) && plainB (nth l 0).1)
def setL (l : List R) : Tx := if soleB l = true then [UInt8.ofNat (nth l 0).1.toNat] else brkL l
/-- how often -/
def decL (n : Int) : Tx := Lib.decDigits n.toNat
def oftenL (lo hi : Int) : Tx :=
  if hi = -1 ∧ lo = 0 then [42] else if hi = -1 ∧ lo = 1 then [43] else if lo = 0 ∧ hi = 1 then [63]
  else if hi = -1 then [123] ++ decL lo ++ [44, 125] else if hi = lo then [123] ++ decL lo ++ [125] else [123] ++ decL lo ++ [44] ++ decL hi ++ [125]
/-! how long a text is -/
theorem hex_le (c : Int) : (Dg.hexText c 1).length ≤ 16 := by
  have := Dg.hexText_len 16 0 c.toNat (min 1 8) []
  simpa [Dg.hexText] using this
theorem esc_len (c : Int) : (escL c).length ≤ 20 := by have := hex_le c; simp [escL]; omega
theorem span_len (r : R) : (spanL r).length ≤ 41 := by
  have h1 := esc_len r.1; have h2 := esc_len r.2
  unfold spanL; split
  · omega
  · simp; omega
theorem spans_len : ∀ l : List R, (l.flatMap spanL).length ≤ 41 * l.length
  | [] => by simp
  | r :: t => by have h1 := span_len r; have h2 := spans_len t; rw [List.flatMap_cons, List.length_append, List.length_cons]; omega
theorem brk_len (l : List R) : (brkL l).length ≤ 44 + 41 * l.length := by
  have h1 := spans_len l; have h2 := span_len (0, 1114111)
  unfold brkL; split
  · simp only [List.length_append, List.length_cons, List.length_nil]; omega
  · simp only [List.length_append, List.length_cons, List.length_nil]; omega
theorem set_len (l : List R) : (setL l).length ≤ 44 + 41 * l.length := by
  have h1 := brk_len l
  unfold setL; split
  · simp; omega
  · exact h1
theorem dec_le {n : Int} (h : n ≤ 255) : (decL n).length ≤ 20 := Dg.dec_len20 (by omega)
theorem often_len {lo hi : Int} (h1 : lo ≤ 255) (h2 : hi ≤ 255) : (oftenL lo hi).length ≤ 43 := by
  have a := dec_le h1; have b := dec_le h2
  unfold oftenL
  split
  · simp
  · split
    · simp
    · split
      · simp
      · split
        · simp; omega
        · split
          · simp; omega
          · simp; omega
/-! brackets, byte by byte -/
/-- one byte: how many brackets are open, how many were at most, whether a class is open -/
def scan1 (st : Int × Int × Bool) (c : UInt8) : Int × Int × Bool :=
  let q := if c = 93 then false else if c = 91 then true else st.2.2
  let n := if c = 40 ∧ q = false then st.1 + 1 else if c = 41 ∧ q = false then st.1 - 1 else st.1
  (n, max st.2.1 n, q)
def scanL (s : Tx) (st : Int × Int × Bool) : Int × Int × Bool := s.foldl scan1 st
theorem scan_append (s r : Tx) (st : Int × Int × Bool) : scanL (s ++ r) st = scanL r (scanL s st) := by simp [scanL]
theorem scan_cons (c : UInt8) (r : Tx) (st : Int × Int × Bool) : scanL (c :: r) st = scanL r (scan1 st c) := rfl
theorem scan_nil (st : Int × Int × Bool) : scanL [] st = st := rfl
def quietC (c : UInt8) : Bool := c != 40 && c != 41 && c != 91 && c != 93
def quietL (s : Tx) : Prop := ∀ c ∈ s, quietC c = true
theorem scan1_quiet {c : UInt8} (h : quietC c = true) {n m : Int} (hm : n ≤ m) (q : Bool) : scan1 (n, m, q) c = (n, m, q) := by
  simp only [quietC, Bool.and_eq_true, bne_iff_ne, ne_eq] at h
  obtain ⟨⟨⟨h1, h2⟩, h3⟩, h4⟩ := h
  simp only [scan1]
  rw [if_neg h4, if_neg h3, if_neg (fun x => h1 x.1), if_neg (fun x => h2 x.1)]
  simp; omega
theorem scan_quiet : ∀ {s : Tx}, quietL s → ∀ {n m : Int}, n ≤ m → ∀ q : Bool, scanL s (n, m, q) = (n, m, q)
  | [], _, n, m, _, q => rfl
  | c :: r, h, n, m, hm, q => by
    rw [scan_cons, scan1_quiet (h c List.mem_cons_self) hm]
    exact scan_quiet (fun x hx => h x (List.mem_cons_of_mem _ hx)) hm q
theorem quiet_append {s r : Tx} (h : quietL s) (k : quietL r) : quietL (s ++ r) := fun c hc => (List.mem_append.1 hc).elim (h c) (k c)
theorem dec_quiet (n : Nat) : quietL (Lib.decDigits n) := by
  induction n using Nat.strongRecOn with
  | ind n ih =>
    have hd : ∀ k : Fin 10, quietC (UInt8.ofNat (48 + k.val)) = true := by decide +kernel
    by_cases h : n < 10
    · rw [Dg.dec_small h]; intro c hc; simp only [List.mem_singleton] at hc; subst hc; exact hd ⟨n, h⟩
    · rw [Dg.dec_big h]
      refine quiet_append (ih _ (by omega)) ?_
      intro c hc; simp only [List.mem_singleton] at hc; subst hc; exact hd ⟨n % 10, by omega⟩
theorem hexgo_quiet : ∀ (f i n : Nat) (least : Int) (acc : Tx), quietL acc → quietL (Dg.goHexText f i n least acc)
  | 0, _, _, _, acc, h => h
  | f + 1, i, n, least, acc, h => by
    have hd : ∀ k : Fin 16, quietC (Dg.tab.getD k.val 0) = true := by decide +kernel
    unfold Dg.goHexText
    split
    · exact h
    · refine hexgo_quiet f _ _ _ _ ?_
      intro c hc
      rcases List.mem_cons.1 hc with rfl | hc
      · exact hd ⟨n % 16, by omega⟩
      · exact h c hc
theorem hex_quiet (c : Int) : quietL (Dg.hexText c 1) := hexgo_quiet 16 0 _ _ [] (fun c hc => by simp at hc)
theorem lit_quiet {s : Tx} (h : s.all quietC = true) : quietL s := fun c hc => List.all_eq_true.1 h c hc
theorem esc_quiet (c : Int) : quietL (escL c) := quiet_append (quiet_append (lit_quiet (by decide)) (hex_quiet c)) (lit_quiet (by decide))
theorem span_quiet (r : R) : quietL (spanL r) := by
  unfold spanL; split
  · exact esc_quiet _
  · exact quiet_append (quiet_append (esc_quiet _) (lit_quiet (by decide))) (esc_quiet _)
theorem spans_quiet : ∀ l : List R, quietL (l.flatMap spanL)
  | [] => fun c hc => by simp at hc
  | r :: t => by rw [List.flatMap_cons]; exact quiet_append (span_quiet r) (spans_quiet t)
theorem often_quiet (lo hi : Int) : quietL (oftenL lo hi) := by
  unfold oftenL decL
  split
  · exact lit_quiet (by decide)
  · split
    · exact lit_quiet (by decide)
    · split
      · exact lit_quiet (by decide)
      · split
        · exact quiet_append (quiet_append (lit_quiet (by decide)) (dec_quiet _)) (lit_quiet (by decide))
        · split
          · exact quiet_append (quiet_append (lit_quiet (by decide)) (dec_quiet _)) (lit_quiet (by decide))
          · exact quiet_append (quiet_append (quiet_append (quiet_append (lit_quiet (by decide)) (dec_quiet _)) (lit_quiet (by decide))) (dec_quiet _)) (lit_quiet (by decide))
theorem scan_open (n m : Int) (hm : n ≤ m) : scanL [91] (n, m, false) = (n, m, true) := by simp [scanL, scan1]; omega
theorem scan_shut (n m : Int) (hm : n ≤ m) : scanL [93] (n, m, true) = (n, m, false) := by simp [scanL, scan1]; omega
theorem scan_brk (l : List R) {n m : Int} (hm : n ≤ m) : scanL (brkL l) (n, m, false) = (n, m, false) := by
  unfold brkL; split
  · rw [show ([91, 94] : Tx) = [91] ++ [94] from rfl, scan_append, scan_append, scan_append, scan_open _ _ hm, scan_quiet (lit_quiet (by decide)) hm, scan_quiet (span_quiet _) hm, scan_shut _ _ hm]
  · rw [scan_append, scan_append, scan_open _ _ hm, scan_quiet (spans_quiet _) hm, scan_shut _ _ hm]
theorem plain_quiet : ∀ k : Fin 128, plainB (k.val : Int) = true → quietC (UInt8.ofNat k.val) = true := by decide +kernel
theorem plain_lt {c : Int} (h : plainB c = true) : 0 ≤ c ∧ c < 128 := by unfold plainB at h; simp at h; omega
theorem scan_set (l : List R) {n m : Int} (hm : n ≤ m) : scanL (setL l) (n, m, false) = (n, m, false) := by
  unfold setL; split
  · rename_i h
    have hp : plainB (nth l 0).1 = true := by unfold soleB at h; simp at h; exact h.2.2
    have hl := plain_lt hp
    refine scan_quiet ?_ hm _
    intro c hc; simp only [List.mem_singleton] at hc; subst hc
    exact plain_quiet ⟨(nth l 0).1.toNat, by omega⟩ (by rw [show (((nth l 0).1.toNat : Nat) : Int) = (nth l 0).1 by omega]; exact hp)
  · exact scan_brk l hm

end Go.Proofs.YtdmceapbobkklaaDoor.Rp

namespace Go.Proofs.YtdmceapbobkklaaDoor.Rp
open Go Go.RowKit

theorem ret_b {a b : Bool} (h : a = b) : Ending.returned (.bool a) = .returned (.bool b) := by rw [h]
theorem ret_s {a b : Tx} (h : a = b) : Ending.returned (.string ⟨a.toArray⟩) = .returned (.string ⟨b.toArray⟩) := by rw [h]
theorem ret_t {a b : ByteArray} (h : a = b) : Ending.returned (.string a) = .returned (.string b) := by rw [h]

/-- two texts one behind the other, as a statement's operation -/
theorem run_join (a b : ByteArray) (h : a.size + b.size ≤ 100000000) : ∃ x : ByteArray, x = a ++ b ∧ x.size = a.size + b.size ∧ ∀ w : World, (Op.stringOp .add a b).run Tryd.prog w = .ok (.string x) w :=
  ⟨a ++ b, rfl, by simp [ByteArray.size_append], fun w => run_string_add_sum w a b (by omega)⟩
theorem size_mk (l : Tx) : (⟨l.toArray⟩ : ByteArray).size = l.length := rfl

set_option maxRecDepth 100000 in
set_option maxHeartbeats 400000 in
theorem plain_any (c : Int) (w : World) : Calls Tryd.prog 47 #[.int .u8 c] w fun e w' => e = .returned (.bool (plainB c)) ∧ w' = w := by
  have HP := Lib.hid (show plainB c = ((decide (97 ≤ c) && decide (c ≤ 122)) || (decide (65 ≤ c) && decide (c ≤ 90)) || (decide (48 ≤ c) && decide (c ≤ 57))) from rfl)
  go_enter Tryd.func47, Tryd.ntmps47
  go_wp2
  all_goals (
    go_ret
    refine ⟨ret_b ?_, rfl⟩
    rw [HP.out]
    first | (simp; done) | (simp; omega) | grind)

set_option maxRecDepth 100000 in
set_option maxHeartbeats 400000 in
theorem rplain_any (c : Int) (w : World) : Calls Tryd.prog 40 #[.int .u8 c] w fun e w' => e = .returned (.bool (plainB c)) ∧ w' = w := by
  have HP := Lib.hid (show plainB c = ((decide (97 ≤ c) && decide (c ≤ 122)) || (decide (65 ≤ c) && decide (c ≤ 90)) || (decide (48 ≤ c) && decide (c ≤ 57))) from rfl)
  go_enter Tryd.func40, Tryd.ntmps40
  go_wp2
  all_goals (
    go_ret
    refine ⟨ret_b ?_, rfl⟩
    rw [HP.out]
    first | (simp; done) | (simp; omega) | grind)

set_option maxRecDepth 100000 in
set_option maxHeartbeats 400000 in
theorem resc_any (c : Int) (w : World) (h0 : 0 ≤ c) (h1 : c ≤ 1114111) : Calls Tryd.prog 54 #[.int .i64 c] w fun e w' => e = .returned (.string ⟨(escL c).toArray⟩) ∧ w' = w := by
  have hl := hex_le c
  have CH := Lib.hid (fun W => Dg.rhextext_any c 1 W (by omega) (by omega) (by omega) (by omega))
  have HE := Lib.hid (show escL c = [92, 117, 123] ++ Dg.hexText c 1 ++ [125] from rfl)
  generalize escL c = E at *
  generalize Dg.hexText c 1 = H at *
  go_enter Tryd.func54, Tryd.ntmps54
  go_wp2_with (go_at_call 61; (with_reducible refine (CH.out _).mono ?_); rintro e w1 ⟨rfl, rfl⟩)
  go_ret
  exact ⟨ret_t (by rw [HE.out]; simp [ByteArray.ext_iff]), rfl⟩

set_option maxRecDepth 100000 in
set_option maxHeartbeats 400000 in
theorem roften_any (lo hi : Int) (w : World) (h0 : 0 ≤ lo) (h1 : lo ≤ 255) (h2 : -1 ≤ hi) (h3 : hi ≤ 255) (h4 : hi = -1 ∨ lo ≤ hi) : Calls Tryd.prog 26 #[.int .i64 lo, .int .i64 hi] w fun e w' => e = .returned (.string ⟨(oftenL lo hi).toArray⟩) ∧ w' = w := by
  have l1 := dec_le h1
  have l2 := dec_le h3
  have CL := Lib.hid (fun W => Dg.rtext lo W (by omega) (by omega))
  have CH := Lib.hid (fun h W => Dg.rtext hi W (h : 0 ≤ hi) (by omega))
  have HO := Lib.hid (show oftenL lo hi = if hi = -1 ∧ lo = 0 then [42] else if hi = -1 ∧ lo = 1 then [43] else if lo = 0 ∧ hi = 1 then [63]
    else if hi = -1 then [123] ++ decL lo ++ [44, 125] else if hi = lo then [123] ++ decL lo ++ [125] else [123] ++ decL lo ++ [44] ++ decL hi ++ [125] from rfl)
  generalize oftenL lo hi = O at *
  unfold decL at l1 l2 HO
  generalize Lib.decDigits lo.toNat = L at *
  by_cases c1 : hi = -1
  · subst c1
    clear CH l2
    by_cases c2 : lo = 0
    · subst c2
      have e := HO.out
      rw [if_pos ⟨rfl, rfl⟩] at e
      subst e
      clear HO CL l1
      go_enter Tryd.func26, Tryd.ntmps26
      go_wp2
      go_ret
      exact ⟨rfl, rfl⟩
    · by_cases c3 : lo = 1
      · subst c3
        have e := HO.out
        rw [if_neg (by omega), if_pos ⟨rfl, rfl⟩] at e
        subst e
        clear HO CL l1
        go_enter Tryd.func26, Tryd.ntmps26
        go_wp2
        go_ret
        exact ⟨rfl, rfl⟩
      · have e := HO.out
        rw [if_neg (by omega), if_neg (by omega), if_neg (by omega), if_pos rfl] at e
        have b2 : (lo == 0) = false := by simpa using c2
        have b3 : (lo == 1) = false := by simpa using c3
        have HE := Lib.hid e
        clear HO e c2 c3
        go_enter Tryd.func26, Tryd.ntmps26
        go_wp2_with (go_at_call 42; (with_reducible refine (CL.out _).mono ?_); rintro e w1 ⟨rfl, rfl⟩)
        go_ret
        exact ⟨ret_t (by rw [HE.out]; simp [ByteArray.ext_iff]), rfl⟩
  · have CH' := Lib.hid (fun W => CH.out (by omega) W)
    clear CH
    have g0 : lo ≤ hi := by omega
    have b1 : (hi == -1) = false := by simpa using c1
    by_cases c2 : lo = 0 ∧ hi = 1
    · obtain ⟨c2, c3⟩ := c2
      subst c2 c3
      have e := HO.out
      rw [if_neg (by omega), if_neg (by omega), if_pos ⟨rfl, rfl⟩] at e
      subst e
      clear HO CL CH'
      go_enter Tryd.func26, Tryd.ntmps26
      go_wp2
      go_ret
      exact ⟨rfl, rfl⟩
    · have b2 : (lo == 0) = false ∨ ((lo == 0) = true ∧ (hi == 1) = false) := by
        by_cases h : lo = 0
        · exact .inr ⟨by simpa using h, by simpa using fun h' => c2 ⟨h, h'⟩⟩
        · exact .inl (by simpa using h)
      by_cases c3 : hi = lo
      · have e := HO.out
        rw [if_neg (by omega), if_neg (by omega), if_neg c2, if_neg (by omega), if_pos c3] at e
        have HE := Lib.hid e
        subst c3
        clear HO e CH' c2 c1
        have b3 : (hi == hi) = true := by simp
        rcases b2 with b2 | ⟨b2, b4⟩
        all_goals (
          go_enter Tryd.func26, Tryd.ntmps26
          go_wp2_with (go_at_call 42; (with_reducible refine (CL.out _).mono ?_); rintro e w1 ⟨rfl, rfl⟩)
          go_ret
          exact ⟨ret_t (by rw [HE.out]; simp [ByteArray.ext_iff]), rfl⟩)
      · have e := HO.out
        rw [if_neg (by omega), if_neg (by omega), if_neg c2, if_neg (by omega), if_neg c3] at e
        have HE := Lib.hid e
        have b3 : (hi == lo) = false := by simpa using c3
        clear HO e c2 c1 c3
        generalize Lib.decDigits hi.toNat = H at *
        rcases b2 with b2 | ⟨b2, b4⟩
        all_goals (
          go_enter Tryd.func26, Tryd.ntmps26
          go_wp2_with (go_at_call 42; (first | (with_reducible refine (CL.out _).mono ?_) | (with_reducible refine (CH'.out _).mono ?_)); rintro e w1 ⟨rfl, rfl⟩)
          go_ret
          exact ⟨ret_t (by rw [HE.out]; simp [ByteArray.ext_iff]), rfl⟩)

end Go.Proofs.YtdmceapbobkklaaDoor.Rp

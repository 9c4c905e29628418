/- Sets that have names: plain words. -/
import Derived.Test.YtenmjnopbbingaaDoorRgCmp
namespace Go.Proofs.YtenmjnopbbingaaDoor.Nm
open Go.Proofs.YtenmjnopbbingaaDoor.Rg

/-- a row of the table: the name, its parts, where ranges begin and end -/
abbrev Rw := ByteArray × List ByteArray × List Int
def tab : List Rw := [
  (⟨#[65, 110, 121]⟩, [], [0, 1114111]),
  (⟨#[65, 115, 99, 105, 105]⟩, [], [0, 127]),
  (⟨#[67, 111, 110, 116, 114, 111, 108]⟩, [], [0, 31, 127, 159]),
  (⟨#[68, 105, 103, 105, 116]⟩, [], [48, 57]),
  (⟨#[72, 101, 120]⟩, [], [48, 57, 65, 70, 97, 102]),
  (⟨#[85, 112, 112, 101, 114]⟩, [], [65, 90, 192, 214, 216, 222, 913, 929, 931, 939, 1024, 1071]),
  (⟨#[76, 111, 119, 101, 114]⟩, [], [97, 122, 223, 246, 248, 255, 945, 971, 1072, 1119]),
  (⟨#[65, 108, 112, 104, 97]⟩, [⟨#[85, 112, 112, 101, 114]⟩, ⟨#[76, 111, 119, 101, 114]⟩], []),
  (⟨#[65, 108, 110, 117, 109]⟩, [⟨#[65, 108, 112, 104, 97]⟩, ⟨#[68, 105, 103, 105, 116]⟩], []),
  (⟨#[87, 111, 114, 100]⟩, [⟨#[65, 108, 110, 117, 109]⟩], [95, 95]),
  (⟨#[83, 112, 97, 99, 101]⟩, [], [9, 13, 32, 32, 133, 133, 160, 160, 8192, 8202, 8232, 8233, 8239, 8239, 8287, 8287, 12288, 12288]),
  (⟨#[80, 117, 110, 99, 116]⟩, [], [33, 47, 58, 64, 91, 96, 123, 126]),
  (⟨#[76, 97, 116, 105, 110]⟩, [], [65, 90, 97, 122, 170, 170, 186, 186, 192, 214, 216, 246, 248, 591]),
  (⟨#[71, 114, 101, 101, 107]⟩, [], [880, 1023]),
  (⟨#[67, 121, 114, 105, 108, 108, 105, 99]⟩, [], [1024, 1279]),
  (⟨#[72, 97, 110]⟩, [], [13312, 19903, 19968, 40959])]
def zeroRw : Rw := (⟨#[]⟩, [], [])
/-- the k-th row -/
def nthW (k : Nat) : Rw := tab.getD k zeroRw
/-- a name's row -/
def rowN (nm : ByteArray) : Rw := (tab.find? fun r => decide (r.1 = nm)).getD zeroRw
/-- numbers two by two -/
def prs : List Int → List R
  | x :: y :: t => (x, y) :: prs t
  | _ => []
/-- the ranges of names, those of their parts first, no deeper than d -/
def eachF : Nat → List ByteArray → List R
  | 0, _ => []
  | d + 1, ns => ns.flatMap fun nm => eachF d (rowN nm).2.1 ++ prs (rowN nm).2.2
/-- names that lie no deeper than d -/
def Okd : Nat → List ByteArray → Prop
  | 0, ns => ns = []
  | d + 1, ns => ∀ nm ∈ ns, Okd d (rowN nm).2.1
/-- a name's ranges -/
def eachN (nm : ByteArray) : List R := eachF 5 [nm]
/-- is a number in a name's set -/
def hasN (nm : ByteArray) (c : Int) : Bool := inB (eachN nm) c

theorem is_k {k : Nat} (hk : k < 16) : k = 0 ∨ k = 1 ∨ k = 2 ∨ k = 3 ∨ k = 4 ∨ k = 5 ∨ k = 6 ∨ k = 7 ∨ k = 8 ∨ k = 9 ∨ k = 10 ∨ k = 11 ∨ k = 12 ∨ k = 13 ∨ k = 14 ∨ k = 15 := by omega
theorem rowN_at {k : Nat} (hk : k < 16) : rowN (nthW k).1 = nthW k := by
  rcases is_k hk with rfl | rfl | rfl | rfl | rfl | rfl | rfl | rfl | rfl | rfl | rfl | rfl | rfl | rfl | rfl | rfl
  all_goals kernel_rfl
theorem nth_mem {k : Nat} (hk : k < 16) : nthW k ∈ tab := by
  have h : k < tab.length := hk
  unfold nthW
  rw [List.getD_eq_getElem?_getD, List.getElem?_eq_getElem h]
  exact List.getElem_mem h
theorem mem_nth {r : Rw} (h : r ∈ tab) : ∃ k, k < 16 ∧ nthW k = r := by
  obtain ⟨k, hk, rfl⟩ := List.getElem_of_mem h
  exact ⟨k, hk, by unfold nthW; rw [List.getD_eq_getElem?_getD, List.getElem?_eq_getElem hk]; rfl⟩
theorem rowN_none {nm : ByteArray} (h : ∀ k, k < 16 → (nthW k).1 ≠ nm) : rowN nm = zeroRw := by
  unfold rowN
  rw [List.find?_eq_none.2]
  · rfl
  · intro r hr
    obtain ⟨k, hk, rfl⟩ := mem_nth hr
    simpa using h k hk
theorem row_cases (nm : ByteArray) : (∃ k, k < 16 ∧ nm = (nthW k).1) ∨ ∀ k, k < 16 → (nthW k).1 ≠ nm := by
  by_cases h : ∃ k, k < 16 ∧ nm = (nthW k).1
  · exact .inl h
  · exact .inr fun k hk e => h ⟨k, hk, e.symm⟩
theorem eachF_none {nm : ByteArray} (h : ∀ k, k < 16 → (nthW k).1 ≠ nm) : ∀ d, eachF d [nm] = []
  | 0 => rfl
  | d + 1 => by
    have h0 : ∀ d, eachF d [] = [] := fun d => by cases d <;> rfl
    simp [eachF, rowN_none h, zeroRw, prs, h0]
theorem okd_nil (d : Nat) : Okd d [] := by
  cases d with
  | zero => exact rfl
  | succ d => intro nm h; cases h
theorem okd_up : Okd 4 (nthW 7).2.1 := by
  intro x hx
  have h : x = (nthW 5).1 ∨ x = (nthW 6).1 := by simpa [nthW, tab] using hx
  rcases h with rfl | rfl
  · rw [rowN_at (by omega)]; exact okd_nil 3
  · rw [rowN_at (by omega)]; exact okd_nil 3
theorem okd_mono : ∀ {d : Nat} {ns : List ByteArray}, Okd d ns → Okd (d + 1) ns
  | 0, ns, h => by subst h; exact okd_nil 1
  | d + 1, ns, h => fun nm hn => okd_mono (h nm hn)
theorem okd_up3 : Okd 3 (nthW 7).2.1 := by
  intro x hx
  have h : x = (nthW 5).1 ∨ x = (nthW 6).1 := by simpa [nthW, tab] using hx
  rcases h with rfl | rfl
  · rw [rowN_at (by omega)]; exact okd_nil 2
  · rw [rowN_at (by omega)]; exact okd_nil 2
theorem okd_up2 : Okd 2 (nthW 7).2.1 := by
  intro x hx
  have h : x = (nthW 5).1 ∨ x = (nthW 6).1 := by simpa [nthW, tab] using hx
  rcases h with rfl | rfl
  · rw [rowN_at (by omega)]; exact okd_nil 1
  · rw [rowN_at (by omega)]; exact okd_nil 1
theorem okd_al3 : Okd 3 (nthW 8).2.1 := by
  intro x hx
  have h : x = (nthW 7).1 ∨ x = (nthW 3).1 := by simpa [nthW, tab] using hx
  rcases h with rfl | rfl
  · rw [rowN_at (by omega)]; exact okd_up2
  · rw [rowN_at (by omega)]; exact okd_nil 2
theorem okd_al : Okd 4 (nthW 8).2.1 := okd_mono okd_al3
theorem okd_an : Okd 4 (nthW 9).2.1 := by
  intro x hx
  have h : x = (nthW 8).1 := by simpa [nthW, tab] using hx
  subst h
  rw [rowN_at (by omega)]; exact okd_al3
theorem okd_all {nm : ByteArray} : Okd 5 [nm] := by
  intro x hx
  obtain rfl : x = nm := by simpa using hx
  rcases row_cases x with ⟨k, hk, rfl⟩ | h
  · rw [rowN_at hk]
    rcases is_k hk with rfl | rfl | rfl | rfl | rfl | rfl | rfl | rfl | rfl | rfl | rfl | rfl | rfl | rfl | rfl | rfl
    case inr.inr.inr.inr.inr.inr.inr.inl => exact okd_up
    case inr.inr.inr.inr.inr.inr.inr.inr.inl => exact okd_al
    case inr.inr.inr.inr.inr.inr.inr.inr.inr.inl => exact okd_an
    all_goals exact okd_nil 4
  · rw [rowN_none h]; exact okd_nil 4
/-- the ranges, name by name -/
def fullL : List (List R) := [
  [(0, 1114111)],
  [(0, 127)],
  [(0, 31), (127, 159)],
  [(48, 57)],
  [(48, 57), (65, 70), (97, 102)],
  [(65, 90), (192, 214), (216, 222), (913, 929), (931, 939), (1024, 1071)],
  [(97, 122), (223, 246), (248, 255), (945, 971), (1072, 1119)],
  [(65, 90), (192, 214), (216, 222), (913, 929), (931, 939), (1024, 1071), (97, 122), (223, 246), (248, 255), (945, 971), (1072, 1119)],
  [(65, 90), (192, 214), (216, 222), (913, 929), (931, 939), (1024, 1071), (97, 122), (223, 246), (248, 255), (945, 971), (1072, 1119), (48, 57)],
  [(65, 90), (192, 214), (216, 222), (913, 929), (931, 939), (1024, 1071), (97, 122), (223, 246), (248, 255), (945, 971), (1072, 1119), (48, 57), (95, 95)],
  [(9, 13), (32, 32), (133, 133), (160, 160), (8192, 8202), (8232, 8233), (8239, 8239), (8287, 8287), (12288, 12288)],
  [(33, 47), (58, 64), (91, 96), (123, 126)],
  [(65, 90), (97, 122), (170, 170), (186, 186), (192, 214), (216, 246), (248, 591)],
  [(880, 1023)],
  [(1024, 1279)],
  [(13312, 19903), (19968, 40959)]]
theorem eachN_at {k : Nat} (hk : k < 16) : eachN (nthW k).1 = fullL.getD k [] := by
  rcases is_k hk with rfl | rfl | rfl | rfl | rfl | rfl | rfl | rfl | rfl | rfl | rfl | rfl | rfl | rfl | rfl | rfl
  all_goals kernel_rfl
theorem eachN_none {nm : ByteArray} (h : ∀ k, k < 16 → (nthW k).1 ≠ nm) : eachN nm = [] := eachF_none h 5
theorem full_ok : ∀ l ∈ fullL, 0 < l.length ∧ l.length ≤ 30 ∧ ∀ r ∈ l, 0 ≤ r.1 ∧ r.2 ≤ 1114111 := by decide +kernel
theorem eachN_ok (nm : ByteArray) : (eachN nm).length ≤ 30 ∧ ∀ r ∈ eachN nm, 0 ≤ r.1 ∧ r.2 ≤ 1114111 := by
  rcases row_cases nm with ⟨k, hk, rfl⟩ | h
  · rw [eachN_at hk]
    have h16 : k < fullL.length := hk
    rw [List.getD_eq_getElem?_getD, List.getElem?_eq_getElem h16]
    exact (full_ok _ (List.getElem_mem h16)).2
  · rw [eachN_none h]; exact ⟨by simp, fun r hr => by cases hr⟩
theorem eachN_pos {k : Nat} (hk : k < 16) : 0 < (eachN (nthW k).1).length := by
  rw [eachN_at hk]
  have h16 : k < fullL.length := hk
  rw [List.getD_eq_getElem?_getD, List.getElem?_eq_getElem h16]
  exact (full_ok _ (List.getElem_mem h16)).1
theorem hasN_eq (nm : ByteArray) (c : Int) : hasB (eachN nm) c = hasN nm c := by
  unfold hasN inB
  cases h : hasB (eachN nm) c with
  | false => simp
  | true =>
    unfold hasB at h
    rw [List.any_eq_true] at h
    obtain ⟨r, hr, h⟩ := h
    have := (eachN_ok nm).2 r hr
    simp only [Bool.and_eq_true, decide_eq_true_eq] at h
    rw [decide_eq_true (show 0 ≤ c by omega), decide_eq_true (show c ≤ 1114111 by omega)]; rfl
theorem hasN_none {nm : ByteArray} (h : ∀ k, k < 16 → (nthW k).1 ≠ nm) (c : Int) : hasN nm c = false := by rw [← hasN_eq, eachN_none h]; rfl

end Go.Proofs.YtenmjnopbbingaaDoor.Nm

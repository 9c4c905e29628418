/- Rule files in plain words: what is wrong with a spec, its text, its rules grouped. Rules and specs in memory. Kinds of bytes, and how many a text begins with. Lead, Name, Trim, the program's and the document's; the document's Next. A name's place among names: the library's Index, numberOf, the document's place; whether names are too much. Blocks behind other blocks; a set of one number in memory. One node: its parts, may it be; how many times. The program's mayBe. The program's Right. The program's Check. Rows of spans in memory. -/
import Derived.Test.YtgjiofkjogjhhaaGreatDoorPk02
import Derived.Test.YtgjiofkjogjhhaaGreatDoorPk03
import Derived.Test.YtgjiofkjogjhhaaGreatDoorChecked
import Derived.WalkKit
import Derived.Lib.Hide
import Derived.WalkSpells
import Derived.Shelf.Abstract
import Derived.Laws.ResultCell
import Derived.Deep.DeepMust
import Derived.Deep.RegionHeld3
import Derived.Test.YtgjiofkjogjhhaaGreatDoorPk01
import Derived.Laws.MakeOwn
import Derived.Laws.OwnMore
import Derived.OwnWalk

namespace Go.Proofs.YtgjiofkjogjhhaaGreatDoor.Sp
open Go.Proofs.YtgjiofkjogjhhaaGreatDoor.Ar (Nd nd Tr Ok checkE check_ok)
open Go.Proofs.YtgjiofkjogjhhaaGreatDoor.Ac (bE numL joinB joinW actW textB modesB)
open Go.Proofs.YtgjiofkjogjhhaaGreatDoor.Wd (nameL)
open Go.Proofs.YtgjiofkjogjhhaaGreatDoor.Rp (textL deepL)
open Go.Proofs.YtgjiofkjogjhhaaGreatDoor.Rg (R nthL)

structure Rl where
  mode : Int
  t : Tr
  em : ByteArray
  go : Int
def rl0 : Rl := ⟨0, ⟨[], [], 0⟩, bE, 0⟩
instance : Inhabited Rl := ⟨rl0⟩
def rl (l : List Rl) (i : Nat) : Rl := l.getD i rl0
theorem rl_eq {l : List Rl} {i : Nat} (h : i < l.length) : rl l i = l[i] := by simp [rl, List.getD, h]

/-- is a number a mode's? -/
def isM (n : Int) (m : Nat) : Bool := decide (0 ≤ n) && decide (n < m)
theorem isM_iff {n : Int} {m : Nat} : isM n m = true ↔ 0 ≤ n ∧ n < m := by simp [isM]
open Classical in
/-- has a tree the empty row? -/
noncomputable def nulT (t : Tr) : Bool := decide (Dv.den t.ns t.sets t.root.toNat [])
open Classical in
theorem nulT_iff {t : Tr} : nulT t = true ↔ Dv.den t.ns t.sets t.root.toNat [] := by unfold nulT; exact decide_eq_true_iff

/-- the first one that is something -/
def firstE : List Int → Int
  | [] => 0
  | a :: r => if a = 0 then firstE r else a
theorem firstE_at {l : List Int} {i : Nat} (h : i < l.length) (hz : ∀ j, j < i → l.getD j 0 = 0) (hn : l.getD i 0 ≠ 0) : firstE l = l.getD i 0 := by
  induction l generalizing i with
  | nil => simp at h
  | cons a r ih =>
    unfold firstE
    cases i with
    | zero => rw [if_neg (by simpa using hn)]; rfl
    | succ i =>
      rw [if_pos (by simpa using hz 0 (by omega))]
      exact ih (i := i) (by simpa using h) (fun j hj => by simpa using hz (j + 1) (by omega)) (by simpa using hn)
theorem firstE_none {l : List Int} (hz : ∀ j, j < l.length → l.getD j 0 = 0) : firstE l = 0 := by
  induction l with
  | nil => rfl
  | cons a r ih =>
    unfold firstE
    rw [if_pos (by simpa using hz 0 (by simp))]
    exact ih fun j hj => by simpa using hz (j + 1) (by simpa using hj)

def eIf (b : Bool) (e : Int) : Int := if b then e else 0
/-- what each look at a rule finds -/
noncomputable def ruleL (m : Nat) (r : Rl) : List Int :=
  [eIf (!isM r.mode m || (!decide (r.go = -1) && !isM r.go m)) 11, eIf (!decide (r.em = bE) && !nameL r.em.data.toList) 4, checkE r.t, eIf (decide (32 < deepL r.t.ns r.t.root.toNat)) 7, eIf (nulT r.t) 8]
noncomputable def ruleE (m : Nat) (r : Rl) : Int := firstE (ruleL m r)
noncomputable def rulesE (m : Nat) (l : List Rl) : Int := firstE (l.map (ruleE m))
def namesB (M : List ByteArray) : Bool := M.all fun x => nameL x.data.toList
open Classical in
noncomputable def unlikeB (M : List ByteArray) : Bool := decide (∀ i, i < M.length → numL M (M.getD i bE) = (i : Int))
noncomputable def specL (M : List ByteArray) (l : List Rl) : List Int :=
  [eIf (decide (M.length = 0) || decide (l.length = 0)) 10, eIf (decide (16 < M.length) || decide (128 < l.length)) 6, eIf (!namesB M) 4, eIf (!unlikeB M) 5, rulesE M.length l]
noncomputable def specE (M : List ByteArray) (l : List Rl) : Int := firstE (specL M l)

theorem names_iff {M : List ByteArray} : namesB M = true ↔ ∀ i, i < M.length → nameL (M.getD i bE).data.toList = true := by
  unfold namesB
  rw [List.all_eq_true]
  constructor
  · intro h i hi
    rw [List.getD_eq_getElem?_getD, List.getElem?_eq_getElem hi]
    exact h _ (List.getElem_mem hi)
  · intro h x hx
    obtain ⟨i, hi, rfl⟩ := List.getElem_of_mem hx
    have := h i hi
    rwa [List.getD_eq_getElem?_getD, List.getElem?_eq_getElem hi] at this
open Classical in
theorem unlike_iff {M : List ByteArray} : unlikeB M = true ↔ ∀ i, i < M.length → numL M (M.getD i bE) = (i : Int) := by unfold unlikeB; exact decide_eq_true_iff
/-- of a spec that is right -/
structure OkS (M : List ByteArray) (l : List Rl) : Prop where
  m0 : 0 < M.length
  m1 : M.length ≤ 16
  l0 : 0 < l.length
  l1 : l.length ≤ 128
  names : ∀ i, i < M.length → nameL (M.getD i bE).data.toList = true
  unlike : ∀ i, i < M.length → numL M (M.getD i bE) = (i : Int)
  rules : ∀ i, i < l.length → ruleE M.length (rl l i) = 0
theorem eIf_zero {b : Bool} {e : Int} (he : e ≠ 0) : eIf b e = 0 ↔ b = false := by cases b <;> simp [eIf, he]
theorem firstE_zero : ∀ {l : List Int}, firstE l = 0 → ∀ x ∈ l, x = 0
  | [], _, x, hx => by cases hx
  | a :: r, h, x, hx => by
    unfold firstE at h
    by_cases ha : a = 0
    · rw [if_pos ha] at h
      rcases List.mem_cons.1 hx with rfl | hx
      · exact ha
      · exact firstE_zero h x hx
    · rw [if_neg ha] at h; exact absurd h ha
theorem spec_ok {M : List ByteArray} {l : List Rl} (h : specE M l = 0) : OkS M l := by
  have h' := firstE_zero h
  have e0 := h' _ (by unfold specL; exact List.mem_cons_self ..)
  have e1 := h' (eIf (decide (16 < M.length) || decide (128 < l.length)) 6) (by unfold specL; simp)
  have e2 := h' (eIf (!namesB M) 4) (by unfold specL; simp)
  have e3 := h' (eIf (!unlikeB M) 5) (by unfold specL; simp)
  have e4 := h' (rulesE M.length l) (by unfold specL; simp)
  rw [eIf_zero (by decide)] at e0 e1 e2 e3
  simp only [Bool.or_eq_false_iff, decide_eq_false_iff_not, Bool.not_eq_false'] at e0 e1 e2 e3
  refine ⟨by omega, by omega, by omega, by omega, names_iff.1 e2, unlike_iff.1 e3, fun i hi => ?_⟩
  rw [rl_eq hi]
  exact firstE_zero e4 _ (List.mem_map.2 ⟨_, List.getElem_mem hi, rfl⟩)
/-- of a rule that is right -/
structure OkR (m : Nat) (r : Rl) : Prop where
  mode : 0 ≤ r.mode ∧ r.mode < m
  go : r.go = -1 ∨ (0 ≤ r.go ∧ r.go < m)
  em : r.em = bE ∨ nameL r.em.data.toList = true
  tree : checkE r.t = 0
theorem rule_ok {m : Nat} {r : Rl} (h : ruleE m r = 0) : OkR m r := by
  have h' := firstE_zero h
  have e0 := h' (eIf (!isM r.mode m || (!decide (r.go = -1) && !isM r.go m)) 11) (by unfold ruleL; simp)
  have e1 := h' (eIf (!decide (r.em = bE) && !nameL r.em.data.toList) 4) (by unfold ruleL; simp)
  have e2 := h' (checkE r.t) (by unfold ruleL; simp)
  rw [eIf_zero (by decide)] at e0 e1
  simp only [Bool.or_eq_false_iff, Bool.and_eq_false_iff, Bool.not_eq_false', decide_eq_true_eq, isM_iff] at e0 e1
  exact ⟨e0.1, e0.2, e1, e2⟩

/-- a rule's text -/
noncomputable def ruleT (r : Rl) : List UInt8 := textL r.t.sets r.t.ns r.t.root.toNat
noncomputable def lineT (M : List ByteArray) (r : Rl) : List UInt8 := (textB r.em r.go M).data.toList ++ ([32, 58, 32] ++ (ruleT r ++ [10]))
def modeT (M : List ByteArray) (m : Nat) : List UInt8 := [109, 111, 100, 101, 32] ++ ((M.getD m bE).data.toList ++ [10])
/-- the numbers of a mode's rules, among the first n -/
def idxs (l : List Rl) (m n : Nat) : List Nat := (List.range n).filter fun k => decide ((rl l k).mode = (m : Int))
theorem idxs_zero (l : List Rl) (m : Nat) : idxs l m 0 = [] := rfl
theorem idxs_yes {l : List Rl} {m n : Nat} (h : (rl l n).mode = (m : Int)) : idxs l m (n + 1) = idxs l m n ++ [n] := by
  unfold idxs; rw [List.range_succ, List.filter_append]; simp [h]
theorem idxs_no {l : List Rl} {m n : Nat} (h : (rl l n).mode ≠ (m : Int)) : idxs l m (n + 1) = idxs l m n := by
  unfold idxs; rw [List.range_succ, List.filter_append]; simp [h]
theorem idxs_len (l : List Rl) (m n : Nat) : (idxs l m n).length ≤ n := by
  unfold idxs; exact Nat.le_trans (List.length_filter_le _ _) (by simp)
theorem idxs_mem {l : List Rl} {m n k : Nat} : k ∈ idxs l m n ↔ k < n ∧ (rl l k).mode = (m : Int) := by unfold idxs; simp
noncomputable def rowT (M : List ByteArray) (l : List Rl) (ks : List Nat) : List UInt8 := ks.flatMap fun k => lineT M (rl l k)
theorem rowT_snoc (M : List ByteArray) (l : List Rl) (ks : List Nat) (k : Nat) : rowT M l (ks ++ [k]) = rowT M l ks ++ lineT M (rl l k) := by simp [rowT]
noncomputable def allT (M : List ByteArray) (l : List Rl) (m : Nat) : List UInt8 := (List.range m).flatMap fun j => modeT M j ++ rowT M l (idxs l j l.length)
theorem allT_zero (M : List ByteArray) (l : List Rl) : allT M l 0 = [] := rfl
theorem allT_succ (M : List ByteArray) (l : List Rl) (m : Nat) : allT M l (m + 1) = allT M l m ++ (modeT M m ++ rowT M l (idxs l m l.length)) := by simp [allT, List.range_succ]
/-- all rules' numbers, mode by mode -/
def grpL (l : List Rl) (m : Nat) : List Nat := (List.range m).flatMap fun j => idxs l j l.length
theorem grpL_succ (l : List Rl) (m : Nat) : grpL l (m + 1) = grpL l m ++ idxs l m l.length := by simp [grpL, List.range_succ]
theorem filter_split {α : Type} (p q r : α → Bool) (h : ∀ x, r x = (p x || q x)) (hd : ∀ x, p x = true → q x = false) : ∀ l : List α, (l.filter r).length = (l.filter p).length + (l.filter q).length
  | [] => rfl
  | x :: t => by
    have ih := filter_split p q r h hd t
    simp only [List.filter_cons, h x]
    cases hp : p x
    · cases hq : q x <;> simp [ih] <;> omega
    · have hq := hd x hp
      simp [hq, ih]; omega
theorem grpL_len (l : List Rl) : ∀ m : Nat, (grpL l m).length = ((List.range l.length).filter fun k => isM (rl l k).mode m).length
  | 0 => by
    have : (List.range l.length).filter (fun k => isM (rl l k).mode 0) = [] := List.filter_eq_nil_iff.2 fun k _ => by
      simp only [isM_iff]; omega
    rw [this]; rfl
  | m + 1 => by
    rw [grpL_succ, List.length_append, grpL_len l m]
    refine (filter_split _ _ _ (fun k => ?_) (fun k hk => ?_) _).symm
    · rw [Bool.eq_iff_iff]; simp only [isM, Bool.and_eq_true, Bool.or_eq_true, decide_eq_true_eq]; omega
    · simp only [isM, Bool.and_eq_true, decide_eq_true_eq] at hk; simp only [decide_eq_false_iff_not]; omega
theorem grpL_le (l : List Rl) (m : Nat) : (grpL l m).length ≤ l.length := by
  rw [grpL_len]; exact Nat.le_trans (List.length_filter_le _ _) (by simp)
theorem grpL_mem {l : List Rl} {m k : Nat} (h : k ∈ grpL l m) : k < l.length ∧ 0 ≤ (rl l k).mode ∧ (rl l k).mode < m := by
  unfold grpL at h
  obtain ⟨j, hj, hk⟩ := List.mem_flatMap.1 h
  have := idxs_mem.1 hk
  have := List.mem_range.1 hj
  omega
/-- modes rise, and in a mode the numbers -/
theorem grpL_rise (l : List Rl) : ∀ m : Nat, (grpL l m).Pairwise fun a b => (rl l a).mode < (rl l b).mode ∨ ((rl l a).mode = (rl l b).mode ∧ a < b)
  | 0 => List.Pairwise.nil
  | m + 1 => by
    rw [grpL_succ, List.pairwise_append]
    refine ⟨grpL_rise l m, ?_, fun a ha b hb => ?_⟩
    · have h1 : (idxs l m l.length).Pairwise (· < ·) := by
        unfold idxs
        exact List.Pairwise.filter _ List.pairwise_lt_range
      refine h1.imp_of_mem ?_
      intro a b ha hb hab
      have := idxs_mem.1 ha
      have := idxs_mem.1 hb
      right; omega
    · have := grpL_mem ha
      have := idxs_mem.1 hb
      left; omega
/-- is a rule's text too long? -/
def tooL (l : List Rl) : Prop := ∃ k, k < l.length ∧ 4096 < (ruleT (rl l k)).length
open Classical in
noncomputable def prS (M : List ByteArray) (l : List Rl) : List UInt8 := if tooL l then [] else allT M l M.length
open Classical in
noncomputable def prE (l : List Rl) : Int := if tooL l then 6 else 0
theorem pr_big {l : List Rl} (h : tooL l) (M : List ByteArray) : prS M l = [] ∧ prE l = 6 := by unfold prS prE; rw [if_pos h, if_pos h]; exact ⟨rfl, rfl⟩
theorem pr_ok {l : List Rl} (h : ¬ tooL l) (M : List ByteArray) : prS M l = allT M l M.length ∧ prE l = 0 := by unfold prS prE; rw [if_neg h, if_neg h]; exact ⟨rfl, rfl⟩

theorem name_len {a : List UInt8} (h : nameL a = true) : a.length ≤ 32 := by
  unfold nameL at h
  simp at h
  omega
theorem act_len {M : List ByteArray} {em : ByteArray} {g : Int} (hM : ∀ i, i < M.length → (M.getD i bE).data.toList.length ≤ 32) (he : em.data.toList.length ≤ 32) (hg : g = -1 ∨ (0 ≤ g ∧ g < M.length)) : (textB em g M).data.toList.length ≤ 75 := by
  have hj : ∀ ws : List ByteArray, (joinB ws).data.toList = joinW (ws.map fun w => w.data.toList) := fun ws => rfl
  unfold textB actW
  rw [hj]
  rcases hg with rfl | ⟨h0, h1⟩
  · by_cases hb : em = bE
    · simp [hb, joinW, Ac.bSkip]
    · rw [← Lib.size_eq] at he; simp [hb, joinW, Ac.bEmit]; omega
  · have := hM g.toNat (by omega)
    have hg1 : ¬ g = -1 := by omega
    generalize M.getD g.toNat bE = x at *
    rw [← Lib.size_eq] at this he
    by_cases hb : em = bE
    · simp [hb, hg1, joinW, Ac.bSkip, Ac.bGoto]; omega
    · simp [hb, hg1, joinW, Ac.bEmit, Ac.bGoto]; omega
theorem lines_len {M : List ByteArray} {l : List Rl} (h : ∀ k, k < l.length → (lineT M (rl l k)).length ≤ 4175) : ∀ ks : List Nat, (∀ k ∈ ks, k < l.length) → (rowT M l ks).length ≤ ks.length * 4175
  | [], _ => by simp [rowT]
  | k :: r, hk => by
    have h1 := lines_len h r fun x hx => hk x (List.mem_cons_of_mem _ hx)
    have h2 := h k (hk k (List.mem_cons_self ..))
    simp only [rowT, List.flatMap_cons, List.length_append, List.length_cons] at h1 ⊢
    omega
theorem all_len {M : List ByteArray} {l : List Rl} (hM : ∀ i, i < M.length → (M.getD i bE).data.toList.length ≤ 32) (h : ∀ k, k < l.length → (lineT M (rl l k)).length ≤ 4175) : ∀ m : Nat, m ≤ M.length → (allT M l m).length ≤ m * 38 + (grpL l m).length * 4175
  | 0, _ => by simp [allT]
  | m + 1, hm => by
    have h1 := all_len hM h m (by omega)
    have h2 := lines_len h (idxs l m l.length) fun k hk => (idxs_mem.1 hk).1
    have h3 := hM m (by omega)
    rw [allT_succ, grpL_succ]
    simp only [List.length_append, modeT, List.length_cons, List.length_nil] at h1 ⊢
    omega
theorem line_len {M : List ByteArray} {r : Rl} (hM : ∀ i, i < M.length → nameL (M.getD i bE).data.toList = true) (hr : OkR M.length r) (ht : (ruleT r).length ≤ 4096) : (lineT M r).length ≤ 4175 := by
  have h1 := act_len (M := M) (em := r.em) (g := r.go) (fun i hi => name_len (hM i hi)) (by
    rcases hr.em with h | h
    · rw [h]; decide
    · exact name_len h) hr.go
  unfold lineT
  simp only [List.length_append, List.length_cons, List.length_nil]
  omega
/-- the whole text fits -/
theorem pr_fits {M : List ByteArray} {l : List Rl} (ok : OkS M l) (hl : l.length ≤ 12) (h : ¬ tooL l) : (allT M l M.length).length ≤ 60000 := by
  have h1 : ∀ k, k < l.length → (lineT M (rl l k)).length ≤ 4175 := fun k hk => line_len ok.names (rule_ok (ok.rules k hk)) (by
    rcases Nat.lt_or_ge 4096 (ruleT (rl l k)).length with h' | h'
    · exact absurd ⟨k, hk, h'⟩ h
    · exact h')
  have h2 := all_len (fun i hi => name_len (ok.names i hi)) h1 M.length (Nat.le_refl _)
  have h3 := grpL_le l M.length
  have := ok.m1
  omega
end Go.Proofs.YtgjiofkjogjhhaaGreatDoor.Sp

namespace Go.Proofs.YtgjiofkjogjhhaaGreatDoor.Sp
open Go Go.RowKit Go.Shelf
open Go.Proofs.YtgjiofkjogjhhaaGreatDoor.Ar (Nd nd Tr Ok TreeAt NodesAt)
open Go.Proofs.YtgjiofkjogjhhaaGreatDoor.Rg (R RngsAt RowsAt nthL add_zero)

/-- six cells from an address on -/
structure RuleIn (w : World) (g : Addr) (r : Rl) (no : Option Addr) (ncap : Nat) (so : Option Addr) (scap : Nat) : Prop where
  c0 : w.cell? g = some (.int .i64 r.mode)
  c1 : w.cell? ⟨g.block, g.off + 1, none⟩ = some (.slice no r.t.ns.length ncap)
  c2 : w.cell? ⟨g.block, g.off + 2, none⟩ = some (.slice so r.t.sets.length scap)
  c3 : w.cell? ⟨g.block, g.off + 3, none⟩ = some (.int .i64 r.t.root)
  c4 : w.cell? ⟨g.block, g.off + 4, none⟩ = some (.string r.em)
  c5 : w.cell? ⟨g.block, g.off + 5, none⟩ = some (.int .i64 r.go)
  tr : TreeAt w (.agg #[.slice no r.t.ns.length ncap, .slice so r.t.sets.length scap, .int .i64 r.t.root]) r.t
theorem RuleIn.next {w w' : World} {g : Addr} {r : Rl} {no so : Option Addr} {ncap scap : Nat} (h : RuleIn w g r no ncap so scap) (hb : Below w.heap.size w w') : RuleIn w' g r no ncap so scap :=
  ⟨cell_next h.c0 hb, cell_next h.c1 hb, cell_next h.c2 hb, cell_next h.c3 hb, cell_next h.c4 hb, cell_next h.c5 hb, h.tr.next hb⟩
/-- a rule as a value -/
def RuleAt (w : World) (v : Value) (r : Rl) : Prop := ∃ (no : Option Addr) (ncap : Nat) (so : Option Addr) (scap : Nat), v = .agg #[.int .i64 r.mode, .slice no r.t.ns.length ncap, .slice so r.t.sets.length scap, .int .i64 r.t.root, .string r.em, .int .i64 r.go] ∧ TreeAt w (.agg #[.slice no r.t.ns.length ncap, .slice so r.t.sets.length scap, .int .i64 r.t.root]) r.t
theorem RuleAt.next {w w' : World} {v : Value} {r : Rl} (h : RuleAt w v r) (hb : Below w.heap.size w w') : RuleAt w' v r := by
  obtain ⟨no, ncap, so, scap, e, ht⟩ := h
  exact ⟨no, ncap, so, scap, e, ht.next hb⟩
/-- a slice that reads as these rules -/
def RulesAt (w : World) (v : Value) (l : List Rl) : Prop :=
  (v = .slice none 0 0 ∧ l = []) ∨ ∃ (a : Addr) (cap : Nat), v = .slice (some a) l.length cap ∧ l.length ≤ maxLen ∧ ∀ i, i < l.length → ∃ no ncap so scap, RuleIn w (a.add (i * 6)) (rl l i) no ncap so scap
theorem RulesAt.next {w w' : World} {v : Value} {l : List Rl} (h : RulesAt w v l) (hb : Below w.heap.size w w') : RulesAt w' v l := by
  rcases h with h | ⟨a, cap, hv, hm, hc⟩
  · exact .inl h
  · exact .inr ⟨a, cap, hv, hm, fun i hi => by obtain ⟨no, ncap, so, scap, h⟩ := hc i hi; exact ⟨no, ncap, so, scap, h.next hb⟩⟩
theorem RulesAt.shape {w : World} {v : Value} {l : List Rl} (h : RulesAt w v l) :
    ∃ (ao : Option Addr) (cap : Nat), v = .slice ao l.length cap ∧ l.length ≤ 9223372036854775807 ∧ ∀ i, i < l.length → ∃ g, ao = some g ∧ ∃ no ncap so scap, RuleIn w (g.add (i * 6)) (rl l i) no ncap so scap := by
  rcases h with ⟨rfl, rfl⟩ | ⟨a, cap, hv, hm, hc⟩
  · exact ⟨none, 0, rfl, by simp, fun i hi => by simp at hi⟩
  · exact ⟨some a, cap, hv, by unfold maxLen at hm; omega, fun i hi => ⟨a, rfl, hc i hi⟩⟩
/-- a slice has room for what it has -/
def CapOk (v : Value) : Prop := ∀ ao n c, v = .slice ao n c → n ≤ c
/-- a spec as a value -/
structure SpecAt (w : World) (v : Value) (M : List ByteArray) (l : List Rl) : Prop where
  mk' : ∃ vm vr, v = .agg #[vm, vr] ∧ StrsAt w vm M ∧ RulesAt w vr l ∧ CapOk vm
theorem SpecAt.next {w w' : World} {v : Value} {M : List ByteArray} {l : List Rl} (h : SpecAt w v M l) (hb : Below w.heap.size w w') : SpecAt w' v M l := by
  obtain ⟨vm, vr, e, h1, h2⟩ := h
  exact ⟨vm, vr, e, h1.next hb, h2.1.next hb, h2.2⟩
theorem SpecAt.shape {w : World} {v : Value} {M : List ByteArray} {l : List Rl} (h : SpecAt w v M l) : ∃ (mo : Option Addr) (mcap : Nat) (ro : Option Addr) (rcap : Nat), v = .agg #[.slice mo M.length mcap, .slice ro l.length rcap] ∧ M.length ≤ 9223372036854775807 ∧ l.length ≤ 9223372036854775807 ∧
    StrsAt w (.slice mo M.length mcap) M ∧ RulesAt w (.slice ro l.length rcap) l ∧ M.length ≤ mcap := by
  obtain ⟨vm, vr, e, h1, h2, h3⟩ := h
  obtain ⟨mo, mcap, rfl, hm, hc⟩ := h1.shape
  obtain ⟨ro, rcap, rfl, hm2, hc2⟩ := h2.shape
  exact ⟨mo, mcap, ro, rcap, e, hm, hm2, h1, h2, h3 _ _ _ rfl⟩
/-- the box of a spec -/
structure SBox (W : World) (b : Nat) (vm vr : Value) : Prop where
  c0 : W.cell? ⟨b, 0, none⟩ = some vm
  c1 : W.cell? ⟨b, 1, none⟩ = some vr
theorem SBox.new (w : World) (vm vr : Value) : SBox (w.alloc (.cells #[vm, vr] 25)) w.heap.size vm vr := by
  constructor <;> (rw [World.cell?_alloc_new]; rfl)
theorem SBox.next {W W' : World} {b : Nat} {vm vr : Value} (h : SBox W b vm vr) (hb : Below W.heap.size W W') : SBox W' b vm vr := ⟨cell_next h.c0 hb, cell_next h.c1 hb⟩
/-- the box of a rule -/
structure RBox (W : World) (b : Nat) (c : Array Value) : Prop where
  cell : ∀ j v, c[j]? = some v → W.cell? ⟨b, j, none⟩ = some v
theorem RBox.new (w : World) (c : Array Value) (t : TypeId) : RBox (w.alloc (.cells c t)) w.heap.size c := ⟨fun j v h => by rw [World.cell?_alloc_new]; exact h⟩
theorem RBox.next {W W' : World} {b : Nat} {c : Array Value} (h : RBox W b c) (hb : Below W.heap.size W W') : RBox W' b c := ⟨fun j v hj => cell_next (h.cell j v hj) hb⟩
end Go.Proofs.YtgjiofkjogjhhaaGreatDoor.Sp

namespace Go.Proofs.YtgjiofkjogjhhaaGreatDoor.Wd
open Go.RowKit Go.Shelf

theorem retB {a b : Bool} (h : a = b) : Ending.returned (.bool a) = .returned (.bool b) := by rw [h]
theorem retI {a b : Int} (h : a = b) : Ending.returned (.int .i64 a) = .returned (.int .i64 b) := by rw [h]
set_option maxHeartbeats 400000 in
theorem digit_any (c : UInt8) (w : World) : Calls Tryz.prog 95 #[.int .u8 (c.toNat : Int)] w fun e w' => e = .returned (.bool (dig c)) ∧ w = w' := by
  by_cases h0 : 48 ≤ c.toNat
  · have d0 : decide (48 ≤ (c.toNat : Int)) = true := by simp; omega
    by_cases h1 : c.toNat ≤ 57
    · have d1 : decide ((c.toNat : Int) ≤ 57) = true := by simp; omega
      have hb : Hid (dig c = true) := Lib.hid (by unfold dig; simp; omega)
      clear h0 h1
      go_enter Tryz.func95, Tryz.ntmps95
      go_wp2
      go_ret
      exact ⟨retB hb.out.symm, rfl⟩
    · have d1 : decide ((c.toNat : Int) ≤ 57) = false := by simp; omega
      have hb : Hid (dig c = false) := Lib.hid (by unfold dig; simp; omega)
      clear h0 h1
      go_enter Tryz.func95, Tryz.ntmps95
      go_wp2
      go_ret
      exact ⟨retB hb.out.symm, rfl⟩
  · have d0 : decide (48 ≤ (c.toNat : Int)) = false := by simp; omega
    have hb : Hid (dig c = false) := Lib.hid (by unfold dig; simp; omega)
    clear h0
    go_enter Tryz.func95, Tryz.ntmps95
    go_wp2
    go_ret
    exact ⟨retB hb.out.symm, rfl⟩
set_option maxHeartbeats 400000 in
theorem named_any (c : UInt8) (w : World) : Calls Tryz.prog 96 #[.int .u8 (c.toNat : Int)] w fun e w' => e = .returned (.bool (nmd c)) ∧ w = w' := by
  cases hl : ltr c
  · have hb : Hid (nmd c = dig c) := Lib.hid (by unfold nmd; rw [hl]; rfl)
    have h3 : ¬ c.toNat = 95 := by unfold ltr at hl; simp at hl; omega
    have d3 : ((c.toNat : Int) == 95) = false := by simp; omega
    have e1 : (c.toNat < 97 ∨ 122 < c.toNat) ∧ (c.toNat < 65 ∨ 90 < c.toNat) := by unfold ltr at hl; simp at hl; omega
    obtain ⟨e1, e2⟩ := e1
    clear hl
    by_cases h0 : 97 ≤ c.toNat
    · have d0 : decide (97 ≤ (c.toNat : Int)) = true := by simp; omega
      have d1 : decide ((c.toNat : Int) ≤ 122) = false := by simp; omega
      have d2 : decide (65 ≤ (c.toNat : Int)) = true := by simp; omega
      have d4 : decide ((c.toNat : Int) ≤ 90) = false := by simp; omega
      clear h0 h3 e1 e2
      go_enter Tryz.func96, Tryz.ntmps96
      go_wp2_with (go_at_call 95; refine (digit_any c _).mono ?_; rintro e w' ⟨rfl, rfl⟩)
      go_ret
      exact ⟨retB hb.out.symm, rfl⟩
    · have d0 : decide (97 ≤ (c.toNat : Int)) = false := by simp; omega
      by_cases h1 : 65 ≤ c.toNat
      · have d2 : decide (65 ≤ (c.toNat : Int)) = true := by simp; omega
        have d4 : decide ((c.toNat : Int) ≤ 90) = false := by simp; omega
        clear h0 h1 h3 e1 e2
        go_enter Tryz.func96, Tryz.ntmps96
        go_wp2_with (go_at_call 95; refine (digit_any c _).mono ?_; rintro e w' ⟨rfl, rfl⟩)
        go_ret
        exact ⟨retB hb.out.symm, rfl⟩
      · have d2 : decide (65 ≤ (c.toNat : Int)) = false := by simp; omega
        clear h0 h1 h3 e1 e2
        go_enter Tryz.func96, Tryz.ntmps96
        go_wp2_with (go_at_call 95; refine (digit_any c _).mono ?_; rintro e w' ⟨rfl, rfl⟩)
        go_ret
        exact ⟨retB hb.out.symm, rfl⟩
  · have hb : Hid (nmd c = true) := Lib.hid (by unfold nmd; rw [hl]; rfl)
    by_cases h0 : 97 ≤ c.toNat ∧ c.toNat ≤ 122
    · have d0 : decide (97 ≤ (c.toNat : Int)) = true := by simp; omega
      have d1 : decide ((c.toNat : Int) ≤ 122) = true := by simp; omega
      clear h0 hl
      go_enter Tryz.func96, Tryz.ntmps96
      go_wp2
      go_ret
      exact ⟨retB hb.out.symm, rfl⟩
    · by_cases h1 : 65 ≤ c.toNat ∧ c.toNat ≤ 90
      · have d2 : decide (65 ≤ (c.toNat : Int)) = true := by simp; omega
        have d4 : decide ((c.toNat : Int) ≤ 90) = true := by simp; omega
        have d0 : decide (97 ≤ (c.toNat : Int)) = false := by simp; omega
        clear h0 h1 hl
        go_enter Tryz.func96, Tryz.ntmps96
        go_wp2
        go_ret
        exact ⟨retB hb.out.symm, rfl⟩
      · have h5 : c.toNat = 95 := by unfold ltr at hl; simp at hl; omega
        have d0 : decide (97 ≤ (c.toNat : Int)) = false := by simp; omega
        have d2 : decide (65 ≤ (c.toNat : Int)) = true := by simp; omega
        have d4 : decide ((c.toNat : Int) ≤ 90) = false := by simp; omega
        have d5 : ((c.toNat : Int) == 95) = true := by simp; omega
        clear h0 h1 h5 hl
        go_enter Tryz.func96, Tryz.ntmps96
        go_wp2
        go_ret
        exact ⟨retB hb.out.symm, rfl⟩

/-- the document's kinds -/
def kindL (c : UInt8) : Int := if ltr c then 1 else if dig c then 2 else 0
theorem kind_pos (c : UInt8) : decide (0 < kindL c) = nmd c := by unfold kindL nmd; cases ltr c <;> cases dig c <;> rfl
theorem kind_one (c : UInt8) : (kindL c == 1) = ltr c := by unfold kindL; cases ltr c <;> cases dig c <;> rfl
set_option maxHeartbeats 800000 in
theorem kind_any (c : UInt8) (w : World) : Calls Tryz.prog 58 #[.int .u8 (c.toNat : Int)] w fun e w' => e = .returned (.int .i64 (kindL c)) ∧ w = w' := by
  have hc : c.toNat < 256 := c.toNat_lt
  have hx : c.toNat < 48 ∨ (48 ≤ c.toNat ∧ c.toNat < 58) ∨ (58 ≤ c.toNat ∧ c.toNat < 65) ∨ (65 ≤ c.toNat ∧ c.toNat < 91) ∨ (91 ≤ c.toNat ∧ c.toNat < 95) ∨ c.toNat = 95 ∨ c.toNat = 96 ∨ (97 ≤ c.toNat ∧ c.toNat < 123) ∨ 123 ≤ c.toNat := by omega
  rcases hx with h0 | h0 | h0 | h0 | h0 | h0 | h0 | h0 | h0
  · have d0 : decide (97 ≤ (c.toNat : Int)) = false := by simp; omega
    have d1 : decide ((c.toNat : Int) ≤ 122) = true := by simp; omega
    have d2 : decide (65 ≤ (c.toNat : Int)) = false := by simp; omega
    have d3 : decide ((c.toNat : Int) ≤ 90) = true := by simp; omega
    have d4 : ((c.toNat : Int) == 95) = false := by simp; omega
    have d5 : decide (48 ≤ (c.toNat : Int)) = false := by simp; omega
    have d6 : decide ((c.toNat : Int) ≤ 57) = true := by simp; omega
    have hb : Hid (kindL c = 0) := Lib.hid (by unfold kindL ltr dig; rw [if_neg (by simp; omega), if_neg (by simp; omega)])
    clear h0 hc
    go_enter Tryz.func58, Tryz.ntmps58
    go_wp2
    go_ret
    exact ⟨retI hb.out.symm, rfl⟩
  · have d0 : decide (97 ≤ (c.toNat : Int)) = false := by simp; omega
    have d1 : decide ((c.toNat : Int) ≤ 122) = true := by simp; omega
    have d2 : decide (65 ≤ (c.toNat : Int)) = false := by simp; omega
    have d3 : decide ((c.toNat : Int) ≤ 90) = true := by simp; omega
    have d4 : ((c.toNat : Int) == 95) = false := by simp; omega
    have d5 : decide (48 ≤ (c.toNat : Int)) = true := by simp; omega
    have d6 : decide ((c.toNat : Int) ≤ 57) = true := by simp; omega
    have hb : Hid (kindL c = 2) := Lib.hid (by unfold kindL ltr dig; rw [if_neg (by simp; omega), if_pos (by simp; omega)])
    clear h0 hc
    go_enter Tryz.func58, Tryz.ntmps58
    go_wp2
    go_ret
    exact ⟨retI hb.out.symm, rfl⟩
  · have d0 : decide (97 ≤ (c.toNat : Int)) = false := by simp; omega
    have d1 : decide ((c.toNat : Int) ≤ 122) = true := by simp; omega
    have d2 : decide (65 ≤ (c.toNat : Int)) = false := by simp; omega
    have d3 : decide ((c.toNat : Int) ≤ 90) = true := by simp; omega
    have d4 : ((c.toNat : Int) == 95) = false := by simp; omega
    have d5 : decide (48 ≤ (c.toNat : Int)) = true := by simp; omega
    have d6 : decide ((c.toNat : Int) ≤ 57) = false := by simp; omega
    have hb : Hid (kindL c = 0) := Lib.hid (by unfold kindL ltr dig; rw [if_neg (by simp; omega), if_neg (by simp; omega)])
    clear h0 hc
    go_enter Tryz.func58, Tryz.ntmps58
    go_wp2
    go_ret
    exact ⟨retI hb.out.symm, rfl⟩
  · have d0 : decide (97 ≤ (c.toNat : Int)) = false := by simp; omega
    have d1 : decide ((c.toNat : Int) ≤ 122) = true := by simp; omega
    have d2 : decide (65 ≤ (c.toNat : Int)) = true := by simp; omega
    have d3 : decide ((c.toNat : Int) ≤ 90) = true := by simp; omega
    have d4 : ((c.toNat : Int) == 95) = false := by simp; omega
    have d5 : decide (48 ≤ (c.toNat : Int)) = true := by simp; omega
    have d6 : decide ((c.toNat : Int) ≤ 57) = false := by simp; omega
    have hb : Hid (kindL c = 1) := Lib.hid (by unfold kindL ltr dig; rw [if_pos (by simp; omega)])
    clear h0 hc
    go_enter Tryz.func58, Tryz.ntmps58
    go_wp2
    go_ret
    exact ⟨retI hb.out.symm, rfl⟩
  · have d0 : decide (97 ≤ (c.toNat : Int)) = false := by simp; omega
    have d1 : decide ((c.toNat : Int) ≤ 122) = true := by simp; omega
    have d2 : decide (65 ≤ (c.toNat : Int)) = true := by simp; omega
    have d3 : decide ((c.toNat : Int) ≤ 90) = false := by simp; omega
    have d4 : ((c.toNat : Int) == 95) = false := by simp; omega
    have d5 : decide (48 ≤ (c.toNat : Int)) = true := by simp; omega
    have d6 : decide ((c.toNat : Int) ≤ 57) = false := by simp; omega
    have hb : Hid (kindL c = 0) := Lib.hid (by unfold kindL ltr dig; rw [if_neg (by simp; omega), if_neg (by simp; omega)])
    clear h0 hc
    go_enter Tryz.func58, Tryz.ntmps58
    go_wp2
    go_ret
    exact ⟨retI hb.out.symm, rfl⟩
  · have d0 : decide (97 ≤ (c.toNat : Int)) = false := by simp; omega
    have d1 : decide ((c.toNat : Int) ≤ 122) = true := by simp; omega
    have d2 : decide (65 ≤ (c.toNat : Int)) = true := by simp; omega
    have d3 : decide ((c.toNat : Int) ≤ 90) = false := by simp; omega
    have d4 : ((c.toNat : Int) == 95) = true := by simp; omega
    have d5 : decide (48 ≤ (c.toNat : Int)) = true := by simp; omega
    have d6 : decide ((c.toNat : Int) ≤ 57) = false := by simp; omega
    have hb : Hid (kindL c = 1) := Lib.hid (by unfold kindL ltr dig; rw [if_pos (by simp; omega)])
    clear h0 hc
    go_enter Tryz.func58, Tryz.ntmps58
    go_wp2
    go_ret
    exact ⟨retI hb.out.symm, rfl⟩
  · have d0 : decide (97 ≤ (c.toNat : Int)) = false := by simp; omega
    have d1 : decide ((c.toNat : Int) ≤ 122) = true := by simp; omega
    have d2 : decide (65 ≤ (c.toNat : Int)) = true := by simp; omega
    have d3 : decide ((c.toNat : Int) ≤ 90) = false := by simp; omega
    have d4 : ((c.toNat : Int) == 95) = false := by simp; omega
    have d5 : decide (48 ≤ (c.toNat : Int)) = true := by simp; omega
    have d6 : decide ((c.toNat : Int) ≤ 57) = false := by simp; omega
    have hb : Hid (kindL c = 0) := Lib.hid (by unfold kindL ltr dig; rw [if_neg (by simp; omega), if_neg (by simp; omega)])
    clear h0 hc
    go_enter Tryz.func58, Tryz.ntmps58
    go_wp2
    go_ret
    exact ⟨retI hb.out.symm, rfl⟩
  · have d0 : decide (97 ≤ (c.toNat : Int)) = true := by simp; omega
    have d1 : decide ((c.toNat : Int) ≤ 122) = true := by simp; omega
    have d2 : decide (65 ≤ (c.toNat : Int)) = true := by simp; omega
    have d3 : decide ((c.toNat : Int) ≤ 90) = false := by simp; omega
    have d4 : ((c.toNat : Int) == 95) = false := by simp; omega
    have d5 : decide (48 ≤ (c.toNat : Int)) = true := by simp; omega
    have d6 : decide ((c.toNat : Int) ≤ 57) = false := by simp; omega
    have hb : Hid (kindL c = 1) := Lib.hid (by unfold kindL ltr dig; rw [if_pos (by simp; omega)])
    clear h0 hc
    go_enter Tryz.func58, Tryz.ntmps58
    go_wp2
    go_ret
    exact ⟨retI hb.out.symm, rfl⟩
  · have d0 : decide (97 ≤ (c.toNat : Int)) = true := by simp; omega
    have d1 : decide ((c.toNat : Int) ≤ 122) = false := by simp; omega
    have d2 : decide (65 ≤ (c.toNat : Int)) = true := by simp; omega
    have d3 : decide ((c.toNat : Int) ≤ 90) = false := by simp; omega
    have d4 : ((c.toNat : Int) == 95) = false := by simp; omega
    have d5 : decide (48 ≤ (c.toNat : Int)) = true := by simp; omega
    have d6 : decide ((c.toNat : Int) ≤ 57) = false := by simp; omega
    have hb : Hid (kindL c = 0) := Lib.hid (by unfold kindL ltr dig; rw [if_neg (by simp; omega), if_neg (by simp; omega)])
    clear h0 hc
    go_enter Tryz.func58, Tryz.ntmps58
    go_wp2
    go_ret
    exact ⟨retI hb.out.symm, rfl⟩

set_option maxHeartbeats 400000 in
theorem span_any (K : FuncId) (p : UInt8 → Bool) (hE : Enters Tryz.prog K) (hK : ∀ (c : UInt8) (w : World), Calls Tryz.prog K #[.int .u8 (c.toNat : Int)] w fun e w' => e = .returned (.bool (p c)) ∧ w = w') (s : ByteArray) (hs : s.size ≤ maxLen) (w : World) :
    Calls Tryz.prog 94 #[.string s, .func (.func K) #[] #[]] w fun e w' => e = .returned (.int .i64 (spanL p s.data.toList : Nat)) ∧ w = w' := by
  unfold maxLen at hs
  have HK := Lib.hid hK
  have hE' : ∀ (args : Array Value) (w : World), (callFunc K args).run Tryz.prog w = .ok (.enter K args) w := hE
  clear hK hE
  go_enter Tryz.func94, Tryz.ntmps94
  go_wp2
  go_loop [5, 8] (fun _ i => ∃ k : Nat, k ≤ s.size ∧ i = .int .i64 k ∧ spanL p s.data.toList = k + spanL p (s.data.toList.drop k)) (fun _ i => s.size - (intOf i).toNat)
  case atStart => exact ⟨0, Nat.zero_le _, rfl, by simp⟩
  case round =>
    obtain ⟨k, hk, rfl, hp⟩ := hrel
    by_cases hlt : k < s.size
    · rw [span_at hlt] at hp
      cases hc : p s[k]
      · rw [spanL_no hc] at hp
        have HP := Lib.hid hp
        have c1 := Lib.hid (fun w => (HK.out s[k] w))
        rw [hc] at c1
        clear hp hc
        go_wp2_with (go_at_fn K; refine (c1.out _).mono ?_; rintro e w' ⟨rfl, rfl⟩)
        go_ret
        exact ⟨retI (by rw [HP.out]; rfl), rfl⟩
      · rw [spanL_yes hc] at hp
        have HP := Lib.hid hp
        have c1 := Lib.hid (fun w => (HK.out s[k] w))
        rw [hc] at c1
        clear hp hc
        go_wp2_with (go_at_fn K; refine (c1.out _).mono ?_; rintro e w' ⟨rfl, rfl⟩)
        go_round
        case rel => exact ⟨k + 1, by omega, by go_num, by rw [HP.out]; omega⟩
        case measure => simp [intOf]; omega
    · obtain rfl : k = s.size := by omega
      rw [span_end (Nat.le_refl _), spanL_nil] at hp
      have HP := Lib.hid hp
      clear hp
      go_wp2
      go_ret
      exact ⟨retI (by rw [HP.out]; rfl), rfl⟩

theorem span_digit (s : ByteArray) (hs : s.size ≤ maxLen) (w : World) : Calls Tryz.prog 94 #[.string s, .func (.func 95) #[] #[]] w fun e w' => e = .returned (.int .i64 (spanL dig s.data.toList : Nat)) ∧ w = w' := span_any _ dig (enters_of Tryz.func95 (by kernel_rfl) rfl) digit_any s hs w
theorem span_named (s : ByteArray) (hs : s.size ≤ maxLen) (w : World) : Calls Tryz.prog 94 #[.string s, .func (.func 96) #[] #[]] w fun e w' => e = .returned (.int .i64 (spanL nmd s.data.toList : Nat)) ∧ w = w' := span_any _ nmd (enters_of Tryz.func96 (by kernel_rfl) rfl) named_any s hs w

end Go.Proofs.YtgjiofkjogjhhaaGreatDoor.Wd

namespace Go.Proofs.YtgjiofkjogjhhaaGreatDoor.Wd
open Go.RowKit Go.Shelf

set_option maxHeartbeats 400000 in
theorem lead_any (s : ByteArray) (hs : s.size ≤ maxLen) (w : World) : Calls Tryz.prog 66 #[.string s] w fun e w' => e = .returned (.int .i64 (leadL s.data.toList : Nat)) ∧ w = w' := by
  have c1 := Lib.hid (fun w => span_digit s hs w)
  have c2 := Lib.hid (fun w => span_named s hs w)
  have h1 := spanL_le dig s.data.toList
  rw [len_size] at h1
  by_cases h : 0 < spanL dig s.data.toList
  · have hl : leadL s.data.toList = 0 := by unfold leadL; rw [if_pos h]
    have HL := Lib.hid hl
    clear hl
    generalize spanL dig s.data.toList = n at *
    unfold maxLen at hs
    go_enter Tryz.func66, Tryz.ntmps66
    go_wp2_with (go_at_call 94; refine (c1.out _).mono ?_; rintro e w' ⟨rfl, rfl⟩)
    go_ret
    exact ⟨retI (by rw [HL.out]; rfl), rfl⟩
  · have hl : leadL s.data.toList = spanL nmd s.data.toList := by unfold leadL; rw [if_neg h]
    have HL := Lib.hid hl
    clear hl
    have d0 : spanL dig s.data.toList = 0 := by omega
    rw [d0] at c1
    clear h d0 h1
    unfold maxLen at hs
    go_enter Tryz.func66, Tryz.ntmps66
    go_wp2_with (go_at_call 94; first | ((with_reducible refine (c1.out _).mono ?_); rintro e w' ⟨rfl, rfl⟩) | ((with_reducible refine (c2.out _).mono ?_); rintro e w' ⟨rfl, rfl⟩))
    go_ret
    exact ⟨retI (by rw [HL.out]), rfl⟩

set_option maxHeartbeats 800000 in
theorem rlead_any (s : ByteArray) (hs : s.size ≤ maxLen) (w : World) : Calls Tryz.prog 40 #[.string s] w fun e w' => e = .returned (.int .i64 (leadL s.data.toList : Nat)) ∧ w = w' := by
  unfold maxLen at hs
  go_enter Tryz.func40, Tryz.ntmps40
  go_wp2
  go_loop [3] (fun i => ∃ k : Nat, k ≤ s.size ∧ i = .int .i64 k ∧ (0 < k → leadL s.data.toList = k + spanL nmd (s.data.toList.drop k))) (fun i => s.size - (intOf i).toNat)
  case atStart => exact ⟨0, Nat.zero_le _, rfl, fun h => absurd h (by omega)⟩
  case round =>
    obtain ⟨k, hk, rfl, hp⟩ := hrel
    by_cases hlt : k < s.size
    · have c1 := Lib.hid (fun w => kind_any s[k] w)
      have e1 := kind_pos s[k]
      have e2 := kind_one s[k]
      rw [span_at hlt] at hp
      by_cases h0 : 0 < k
      · have hp' := hp h0
        clear hp e2
        have hi : (0 : Int) < (k : Int) := by omega
        cases hn : nmd s[k]
        · rw [spanL_no hn] at hp'
          rw [hn] at e1
          have HP := Lib.hid hp'
          clear hp' hn
          generalize kindL s[k] = x at *
          go_wp2_with (go_at_call 58; refine (c1.out _).mono ?_; rintro e w' ⟨rfl, rfl⟩)
          go_ret
          exact ⟨retI (by rw [HP.out]; rfl), rfl⟩
        · rw [spanL_yes hn] at hp'
          rw [hn] at e1
          have HP := Lib.hid hp'
          clear hp' hn
          generalize kindL s[k] = x at *
          go_wp2_with (go_at_call 58; refine (c1.out _).mono ?_; rintro e w' ⟨rfl, rfl⟩)
          go_round
          case rel => exact ⟨k + 1, by omega, by go_num, fun _ => by rw [HP.out]; omega⟩
          case measure => simp [intOf]; omega
      · obtain rfl : k = 0 := by omega
        clear hp
        have hd : s.data.toList = s[0] :: s.data.toList.drop 1 := span_at (k := 0) hlt
        cases hl : ltr s[0]
        · have hp := leadL_else (r := s.data.toList.drop 1) hl
          rw [← hd] at hp
          rw [hl] at e2
          have HP := Lib.hid hp
          clear hp hl hd
          cases hn : nmd s[0]
          all_goals
            rw [hn] at e1
            clear hn
            generalize kindL s[0] = x at *
            go_wp2_with (go_at_call 58; refine (c1.out _).mono ?_; rintro e w' ⟨rfl, rfl⟩)
            go_ret
            exact ⟨retI (by rw [HP.out]; rfl), rfl⟩
        · have hp := leadL_ltr (r := s.data.toList.drop 1) hl
          rw [← hd] at hp
          have hn : nmd s[0] = true := by unfold nmd; rw [hl]; rfl
          rw [hl] at e2
          rw [hn] at e1
          have HP := Lib.hid hp
          clear hp hl hd hn
          generalize kindL s[0] = x at *
          go_wp2_with (go_at_call 58; refine (c1.out _).mono ?_; rintro e w' ⟨rfl, rfl⟩)
          go_round
          case rel => exact ⟨1, by omega, by go_num, fun _ => by rw [HP.out]; omega⟩
          case measure => simp [intOf]; omega
    · obtain rfl : k = s.size := by omega
      rw [span_end (Nat.le_refl _), spanL_nil] at hp
      have hp' : leadL s.data.toList = s.size := by
        by_cases h0 : 0 < s.size
        · rw [hp h0]; rfl
        · have := leadL_le s.data.toList
          rw [len_size] at this; omega
      have HP := Lib.hid hp'
      clear hp hp'
      go_wp2
      go_ret
      exact ⟨retI (by rw [HP.out]), rfl⟩

theorem name_parts (s : ByteArray) : nameL s.data.toList = (decide (0 < s.size) && (decide (s.size ≤ 32) && decide (leadL s.data.toList = s.size))) := by unfold nameL; rw [len_size]

set_option maxHeartbeats 800000 in
theorem name_both (s : ByteArray) (hs : s.size ≤ maxLen) (w : World) : (Calls Tryz.prog 48 #[.string s] w fun e w' => e = .returned (.bool (nameL s.data.toList)) ∧ w = w') ∧ (Calls Tryz.prog 17 #[.string s] w fun e w' => e = .returned (.bool (nameL s.data.toList)) ∧ w = w') := by
  have c1 := Lib.hid (fun w => lead_any s hs w)
  have c2 := Lib.hid (fun w => rlead_any s hs w)
  have HN := Lib.hid (name_parts s)
  have hle := leadL_le s.data.toList
  rw [len_size] at hle
  generalize leadL s.data.toList = n at *
  unfold maxLen at hs
  by_cases h0 : 0 < s.size
  · by_cases h1 : s.size ≤ 32
    · have d1 : decide ((s.size : Int) ≤ 32) = true := by simp; omega
      by_cases h2 : n = s.size
      · subst h2
        have HB : Hid (nameL s.data.toList = true) := Lib.hid (by rw [HN.out, decide_eq_true h0, decide_eq_true h1, decide_eq_true rfl]; rfl)
        clear HN hle
        constructor
        · go_enter Tryz.func48, Tryz.ntmps48
          go_wp2_with (go_at_call 66; refine (c1.out _).mono ?_; rintro e w' ⟨rfl, rfl⟩)
          go_ret
          exact ⟨retB HB.out.symm, rfl⟩
        · go_enter Tryz.func17, Tryz.ntmps17
          go_wp2_with (go_at_call 40; refine (c2.out _).mono ?_; rintro e w' ⟨rfl, rfl⟩)
          go_ret
          exact ⟨retB HB.out.symm, rfl⟩
      · have HB : Hid (nameL s.data.toList = false) := Lib.hid (by rw [HN.out, decide_eq_false h2]; simp)
        have d2 : ((n : Int) == (s.size : Int)) = false := by simp; omega
        clear HN hle h2
        constructor
        · go_enter Tryz.func48, Tryz.ntmps48
          go_wp2_with (go_at_call 66; refine (c1.out _).mono ?_; rintro e w' ⟨rfl, rfl⟩)
          go_ret
          exact ⟨retB HB.out.symm, rfl⟩
        · go_enter Tryz.func17, Tryz.ntmps17
          go_wp2_with (go_at_call 40; refine (c2.out _).mono ?_; rintro e w' ⟨rfl, rfl⟩)
          go_ret
          exact ⟨retB HB.out.symm, rfl⟩
    · have d1 : decide ((s.size : Int) ≤ 32) = false := by simp; omega
      have HB : Hid (nameL s.data.toList = false) := Lib.hid (by rw [HN.out, decide_eq_false h1]; simp)
      clear HN hle
      constructor
      · go_enter Tryz.func48, Tryz.ntmps48
        go_wp2
        go_ret
        exact ⟨retB HB.out.symm, rfl⟩
      · go_enter Tryz.func17, Tryz.ntmps17
        go_wp2
        go_ret
        exact ⟨retB HB.out.symm, rfl⟩
  · have d1 : decide (0 < s.size) = false := decide_eq_false h0
    have HB : Hid (nameL s.data.toList = false) := Lib.hid (by rw [HN.out, decide_eq_false h0]; simp)
    clear HN hle
    constructor
    · go_enter Tryz.func48, Tryz.ntmps48
      go_wp2
      go_ret
      exact ⟨retB HB.out.symm, rfl⟩
    · go_enter Tryz.func17, Tryz.ntmps17
      go_wp2
      go_ret
      exact ⟨retB HB.out.symm, rfl⟩

end Go.Proofs.YtgjiofkjogjhhaaGreatDoor.Wd

namespace Go.Proofs.YtgjiofkjogjhhaaGreatDoor.Ac
open Go Go.RowKit Go.Shelf Go.Proofs.YtgjiofkjogjhhaaGreatDoor.Wd

theorem retNum {a b : Int} (h : a = b) : Ending.returned (.int .i64 a) = .returned (.int .i64 b) := by rw [h]
theorem strs_at {w : World} {v : Value} {l : List ByteArray} (h : StrsAt w v l) :
    ∃ (ao : Option Addr) (cap : Nat), v = .slice ao l.length cap ∧ l.length ≤ 9223372036854775807 ∧ ∀ i, i < l.length → ∃ ad, ao = some ad ∧ w.cell? (ad.add i) = some (.string (l.getD i bE)) := h.shape

set_option maxHeartbeats 800000 in
theorem index_any (l : List ByteArray) (v : Value) (m : ByteArray) (w : World) (hv : StrsAt w v l) :
    Calls Tryz.prog 67 #[v, .string m] w fun e w' => e = .returned (.int .i64 (numL l m)) ∧ w = w' := by
  obtain ⟨ao, cap, rfl, hm, hc⟩ := strs_at hv
  have HC := Lib.hid hc
  clear hc hv
  go_enter Tryz.func67, Tryz.ntmps67
  go_wp2
  go_loop [5, 8] (fun _ i => ∃ k : Nat, k ≤ l.length ∧ i = .int .i64 k ∧ ∀ j, j < k → l.getD j bE ≠ m) (fun _ i => l.length - (intOf i).toNat)
  case atStart => exact ⟨0, by omega, rfl, fun j hj => by omega⟩
  case round =>
    obtain ⟨k, hk, rfl, hne⟩ := hrel
    have HN := Lib.hid hne
    clear hne
    by_cases hlt : k < l.length
    · obtain ⟨ad, rfl, c0⟩ := HC.out k hlt
      have h0i : (0 : Int) ≤ k := by omega
      by_cases he : l.getD k bE = m
      · have HR := Lib.hid (num_at hlt he HN.out)
        rw [he] at c0
        clear he
        go_wp2
        go_ret
        exact ⟨retNum HR.out.symm, rfl⟩
      · obtain ⟨x, hx⟩ : ∃ x, l.getD k bE = x := ⟨_, rfl⟩
        rw [hx] at c0 he
        have HX := Lib.hid (show l.getD k bE ≠ m from fun e => he (hx.symm.trans e))
        clear hx
        go_wp2
        · exact absurd (bytes_eq (by assumption)).symm he
        · go_round
          case rel => exact ⟨k + 1, by omega, by go_num, fun j hj => by
            rcases Nat.lt_or_ge j k with h | h
            · exact HN.out j h
            · obtain rfl : j = k := by omega
              exact HX.out⟩
          case measure => simp [intOf]; omega
    · obtain rfl : k = l.length := by omega
      have HR := Lib.hid (num_no HN.out)
      go_wp2
      go_ret
      exact ⟨retNum HR.out.symm, rfl⟩

theorem number_any (l : List ByteArray) (v : Value) (m : ByteArray) (w : World) (hv : StrsAt w v l) :
    Calls Tryz.prog 92 #[.string m, v] w fun e w' => e = .returned (.int .i64 (numL l m)) ∧ w = w' := by
  have C := Lib.hid (index_any l v m w hv)
  clear hv
  generalize numL l m = n at *
  go_enter Tryz.func92, Tryz.ntmps92
  go_wp2_with (go_at_call 67; refine C.out.mono ?_; rintro e w' ⟨rfl, rfl⟩)
  go_ret
  exact ⟨rfl, rfl⟩

set_option maxHeartbeats 800000 in
theorem place_any (l : List ByteArray) (v : Value) (m : ByteArray) (w : World) (hv : StrsAt w v l) :
    Calls Tryz.prog 41 #[v, .string m] w fun e w' => e = .returned (.int .i64 (numL l m)) ∧ w = w' := by
  obtain ⟨ao, cap, rfl, hm, hc⟩ := strs_at hv
  have HC := Lib.hid hc
  clear hc hv
  go_enter Tryz.func41, Tryz.ntmps41
  go_wp2
  go_loop [5] (fun i => ∃ k : Nat, k ≤ l.length ∧ i = .int .i64 k ∧ ∀ j, j < k → l.getD j bE ≠ m) (fun i => l.length - (intOf i).toNat)
  case atStart => exact ⟨0, by omega, rfl, fun j hj => by omega⟩
  case round =>
    obtain ⟨k, hk, rfl, hne⟩ := hrel
    have HN := Lib.hid hne
    clear hne
    by_cases hlt : k < l.length
    · obtain ⟨ad, rfl, c0⟩ := HC.out k hlt
      have h0i : (0 : Int) ≤ k := by omega
      by_cases he : l.getD k bE = m
      · have HR := Lib.hid (num_at hlt he HN.out)
        rw [he] at c0
        clear he
        go_wp2
        go_ret
        exact ⟨retNum HR.out.symm, rfl⟩
      · obtain ⟨x, hx⟩ : ∃ x, l.getD k bE = x := ⟨_, rfl⟩
        rw [hx] at c0 he
        have HX := Lib.hid (show l.getD k bE ≠ m from fun e => he (hx.symm.trans e))
        clear hx
        go_wp2
        · exact absurd (bytes_eq (by assumption)) he
        · go_round
          case rel => exact ⟨k + 1, by omega, by go_num, fun j hj => by
            rcases Nat.lt_or_ge j k with h | h
            · exact HN.out j h
            · obtain rfl : j = k := by omega
              exact HX.out⟩
          case measure => simp [intOf]; omega
    · obtain rfl : k = l.length := by omega
      have HR := Lib.hid (num_no HN.out)
      go_wp2
      go_ret
      exact ⟨retNum HR.out.symm, rfl⟩

open Classical in
/-- are these names too much -/
noncomputable def farB (l : List ByteArray) : Bool := decide (∃ j, j < l.length ∧ 60 < (l.getD j bE).size) || decide (20 < l.length)
theorem far_no {l : List ByteArray} (h : farB l = false) : l.length ≤ 20 ∧ ∀ j, j < l.length → (l.getD j bE).size ≤ 60 := by
  unfold farB at h
  rw [Bool.or_eq_false_iff, decide_eq_false_iff_not, decide_eq_false_iff_not] at h
  refine ⟨by omega, fun j hj => ?_⟩
  rcases Nat.lt_or_ge 60 (l.getD j bE).size with h' | h'
  · exact absurd ⟨j, hj, h'⟩ h.1
  · exact h'
theorem retBool {a b : Bool} (h : a = b) : Ending.returned (.bool a) = .returned (.bool b) := by rw [h]

set_option maxHeartbeats 800000 in
theorem far_any (l : List ByteArray) (v : Value) (w : World) (hv : StrsAt w v l) :
    Calls Tryz.prog 12 #[v] w fun e w' => e = .returned (.bool (farB l)) ∧ w = w' := by
  obtain ⟨ao, cap, rfl, hm, hc⟩ := strs_at hv
  have HC := Lib.hid hc
  clear hc hv
  go_enter Tryz.func12, Tryz.ntmps12
  go_wp2
  go_loop [3] (fun i => ∃ k : Nat, k ≤ l.length ∧ i = .int .i64 k ∧ ∀ j, j < k → (l.getD j bE).size ≤ 60) (fun i => l.length - (intOf i).toNat)
  case atStart => exact ⟨0, by omega, rfl, fun j hj => by omega⟩
  case round =>
    obtain ⟨k, hk, rfl, hne⟩ := hrel
    have HN := Lib.hid hne
    clear hne
    by_cases hlt : k < l.length
    · obtain ⟨ad, rfl, c0⟩ := HC.out k hlt
      have h0i : (0 : Int) ≤ k := by omega
      by_cases he : 60 < (l.getD k bE).size
      · have HR : Hid (farB l = true) := Lib.hid (by unfold farB; rw [Bool.or_eq_true]; exact .inl (decide_eq_true ⟨k, hlt, he⟩))
        generalize l.getD k bE = x at *
        have d0 : decide (60 < x.size) = true := by simpa using he
        go_wp2
        go_ret
        exact ⟨retBool HR.out.symm, rfl⟩
      · have HX := Lib.hid (Nat.le_of_not_lt he)
        obtain ⟨x, hx⟩ : ∃ x, l.getD k bE = x := ⟨_, rfl⟩
        rw [hx] at c0 he
        clear hx
        have d0 : decide (60 < x.size) = false := by simpa using he
        go_wp2
        go_round
        case rel => exact ⟨k + 1, by omega, by go_num, fun j hj => by
            rcases Nat.lt_or_ge j k with h | h
            · exact HN.out j h
            · obtain rfl : j = k := by omega
              exact HX.out⟩
        case measure => simp [intOf]; omega
    · obtain rfl : k = l.length := by omega
      have HR : Hid (farB l = decide (20 < l.length)) := Lib.hid (by
        unfold farB
        rw [decide_eq_false (fun ⟨j, hj, h⟩ => by have := HN.out j hj; omega), Bool.false_or])
      go_wp2
      go_ret
      exact ⟨retBool (HR.out.trans (decide_eq_decide.2 (by omega))).symm, rfl⟩

end Go.Proofs.YtgjiofkjogjhhaaGreatDoor.Ac

namespace Go.Proofs.YtgjiofkjogjhhaaGreatDoor.Rp
open Go Go.RowKit Go.Shelf
open Go.Proofs.YtgjiofkjogjhhaaGreatDoor.Ar (Nd nd Tr Ok TreeAt TBox NodesAt NodeAt checkE ok_check)
open Go.Proofs.YtgjiofkjogjhhaaGreatDoor.Rg (R RngsAt RowsAt nthL nth rightB rightB_iff setFrom add_zero)
theorem heapA {W : World} {o : Obj} {B : Nat} (hB : B = W.heap.size) : (W.alloc o).heap[B]? = some o := by subst hB; exact heap_alloc_new _ _
theorem belA {w W : World} {C : Obj} (h : Below w.heap.size w W) : Below w.heap.size w (W.alloc C) := h.alloc h.size C

theorem heapB {W : World} {o x : Obj} {B : Nat} (h : W.heap[B]? = some x) : (W.alloc o).heap[B]? = some x := (heap_alloc_old _ _ (Array.getElem?_eq_some_iff.1 h).1).trans h
/-- a set of one number, in memory -/
theorem rngs_one {W : World} {B : Nat} {c : Int} (h : W.heap[B]? = some (.cells #[.int .i64 c, .int .i64 c] 75 (0, 0))) : RngsAt W (.slice (some ⟨B, 0, none⟩) 1 1) [(c, c)] :=
  .inr ⟨_, 1, rfl, by unfold maxLen; simp, fun i hi => by
    have e : i = 0 := by simpa using hi
    subst e
    rw [add_zero, Lib.cell_of_heap h, Lib.cell_of_heap h]
    exact ⟨rfl, rfl⟩⟩
end Go.Proofs.YtgjiofkjogjhhaaGreatDoor.Rp

namespace Go.Proofs.YtgjiofkjogjhhaaGreatDoor.Ar
open Go Go.RowKit Go.Shelf
open Go.Proofs.YtgjiofkjogjhhaaGreatDoor.Rg (R RngsAt RowsAt nthL add_zero own_next)

theorem ret_b {a b : Bool} (h : a = b) : Ending.returned (.bool a) = .returned (.bool b) := by rw [h]
/-- are numbers all from 0 on, and less than n -/
def belowB (n : Int) (l : List Int) : Bool := l.all fun i => decide (0 ≤ i) && decide (i < n)
theorem belowB_at {n : Int} {l : List Int} {k : Nat} (h : k < l.length) : belowB n (l.drop k) = (decide (0 ≤ l.getD k 0) && decide (l.getD k 0 < n) && belowB n (l.drop (k + 1))) := by
  have e : l.getD k 0 = l[k] := by simp [List.getD, h]
  rw [e]
  unfold belowB
  rw [List.drop_eq_getElem_cons h, List.all_cons]

set_option maxRecDepth 100000 in
set_option maxHeartbeats 1000000 in
theorem below_any (n : Int) (v : Value) (l : List Int) (w : World) (h : IntsAt w v l) :
    Calls Tryz.prog 86 #[.int .i64 n, v] w fun e w' => e = .returned (.bool (belowB n l)) ∧ w' = w := by
  obtain ⟨ao, cap, rfl, hm, hc⟩ := h.shape
  have HC := Lib.hid hc
  clear hc h
  obtain ⟨b, hb⟩ : ∃ b, belowB n l = b := ⟨_, rfl⟩
  have HB := Lib.hid hb
  rw [hb]
  clear hb
  go_enter Tryz.func86, Tryz.ntmps86
  go_wp2
  go_loop [9] (fun i => ∃ k : Nat, k ≤ l.length ∧ i = .int .i64 k ∧ b = belowB n (l.drop k)) (fun i => l.length - (intOf i).toNat)
  case atStart => exact ⟨0, Nat.zero_le _, rfl, by rw [← HB.out]; rfl⟩
  case round =>
    obtain ⟨k, hk, rfl, he⟩ := hrel
    by_cases hlt : k < l.length
    · obtain ⟨ad, rfl, hcell⟩ := HC.out k hlt
      rw [belowB_at hlt] at he
      have HE := Lib.hid he
      clear he
      generalize l.getD k 0 = x at *
      go_wp2
      all_goals first
        | (go_ret; refine ⟨ret_b ?_, rfl⟩; rw [HE.out]; simp; omega)
        | (go_round
           case rel => exact ⟨k + 1, by omega, by go_num, by rw [HE.out]; simp; omega⟩
           case measure => simp [intOf]; omega)
    · obtain rfl : k = l.length := by omega
      rw [List.drop_length] at he
      have HE := Lib.hid he
      clear he
      go_wp2
      go_ret
      exact ⟨ret_b (by rw [HE.out]; rfl), rfl⟩

theorem timesB_eq (lo hi : Int) : timesB lo hi = true ↔ 0 ≤ lo ∧ lo ≤ 255 ∧ (hi = -1 ∨ lo ≤ hi ∧ hi ≤ 255) := by
  unfold timesB; simp; omega
set_option maxRecDepth 100000 in
set_option maxHeartbeats 1000000 in
theorem times_any (lo hi : Int) (w : World) :
    Calls Tryz.prog 103 #[.int .i64 lo, .int .i64 hi] w fun e w' => e = .returned (.bool (timesB lo hi)) ∧ w' = w := by
  have HT := Lib.hid (timesB_eq lo hi)
  generalize timesB lo hi = b at *
  go_enter Tryz.func103, Tryz.ntmps103
  go_wp2
  all_goals (
    go_ret
    refine ⟨ret_b ?_, rfl⟩
    rw [Bool.eq_iff_iff, HT.out]
    simp
    omega)
set_option maxRecDepth 100000 in
set_option maxHeartbeats 1000000 in
theorem rtimes_any (lo hi : Int) (w : World) :
    Calls Tryz.prog 57 #[.int .i64 lo, .int .i64 hi] w fun e w' => e = .returned (.bool (timesB lo hi)) ∧ w' = w := by
  have HT := Lib.hid (timesB_eq lo hi)
  generalize timesB lo hi = b at *
  go_enter Tryz.func57, Tryz.ntmps57
  go_wp2
  all_goals (
    go_ret
    refine ⟨ret_b ?_, rfl⟩
    rw [Bool.eq_iff_iff, HT.out]
    simp
    omega)

/-- the numbers of a node's parts, in a slice of the call's own -/
def PartsOut (n : Nd) (w : World) (e : Ending) (w' : World) : Prop := ∃ v, e = .returned v ∧ w'.ownsRow w.heap.size 3 1 v (partsL n).length ((partsL n).map (Value.int .i64)) ∧ Below w.heap.size w w'

set_option maxRecDepth 100000 in
set_option maxHeartbeats 1000000 in
theorem parts_any (n : Nd) (w : World) : Calls Tryz.prog 102 #[aggN n] w fun e w' => PartsOut n w e w' := by
  unfold aggN
  by_cases h3 : n.op = 3 ∨ n.op = 4
  · have e : partsL n = [n.a, n.b] := by unfold partsL; rw [if_pos h3]
    have hop : (n.op == 3) = true ∨ ((n.op == 3) = false ∧ (n.op == 4) = true) := by
      rcases h3 with h | h
      · exact .inl (by simpa using h)
      · exact .inr ⟨by simp; omega, by simpa using h⟩
    unfold PartsOut
    rw [e]
    clear h3 e
    rcases hop with z3 | ⟨z3, z4⟩
    all_goals (
      go_enter Tryz.func102, Tryz.ntmps102
      go_wp2
      go_ret
      refine ⟨_, rfl, ?_, ((Below.refl w.heap.size w).alloc (Nat.le_refl _) _).alloc (by simp) _⟩
      have := World.ownsRow_lit (base := w.heap.size) (e := 3) (size := 1) (w.alloc (.cells #[.int .i64 n.op, .int .i64 n.a, .int .i64 n.b, .int .i64 n.lo, .int .i64 n.hi, .int .i64 n.set] 70)) #[.int .i64 n.a, .int .i64 n.b] 2 (by simp) (by decide) rfl
      simpa using this)
  · by_cases h5 : n.op = 5
    · have e : partsL n = [n.a] := by unfold partsL; rw [if_neg h3, if_pos h5]
      have z3 : (n.op == 3) = false := by simp; omega
      have z4 : (n.op == 4) = false := by simp; omega
      have z5 : (n.op == 5) = true := by simpa using h5
      unfold PartsOut
      rw [e]
      clear h3 h5 e
      go_enter Tryz.func102, Tryz.ntmps102
      go_wp2
      go_ret
      refine ⟨_, rfl, ?_, ((Below.refl w.heap.size w).alloc (Nat.le_refl _) _).alloc (by simp) _⟩
      have := World.ownsRow_lit (base := w.heap.size) (e := 3) (size := 1) (w.alloc (.cells #[.int .i64 n.op, .int .i64 n.a, .int .i64 n.b, .int .i64 n.lo, .int .i64 n.hi, .int .i64 n.set] 70)) #[.int .i64 n.a] 1 (by simp) (by decide) rfl
      simpa using this
    · have e : partsL n = [] := by unfold partsL; rw [if_neg h3, if_neg h5]
      have z3 : (n.op == 3) = false := by simp; omega
      have z4 : (n.op == 4) = false := by simp; omega
      have z5 : (n.op == 5) = false := by simpa using h5
      unfold PartsOut
      rw [e]
      clear h3 h5 e
      go_enter Tryz.func102, Tryz.ntmps102
      go_wp2
      go_ret
      exact ⟨_, rfl, World.ownsRow_nil _ _ _ _, (Below.refl w.heap.size w).alloc (Nat.le_refl _) _⟩

theorem nodeB_1 {n : Nd} {i s : Int} (h : n.op = 1) : nodeB n i s = decide (n.a = 0 ∧ n.b = 0 ∧ n.lo = 0 ∧ n.hi = 0 ∧ n.set = 0) := by unfold nodeB; rw [if_pos h]
theorem nodeB_2 {n : Nd} {i s : Int} (h : n.op = 2) : nodeB n i s = decide (n.a = 0 ∧ n.b = 0 ∧ n.lo = 0 ∧ n.hi = 0 ∧ 0 ≤ n.set ∧ n.set < s) := by unfold nodeB; rw [if_neg (by omega), if_pos h]
theorem nodeB_3 {n : Nd} {i s : Int} (h : n.op = 3 ∨ n.op = 4) : nodeB n i s = decide (0 ≤ n.a ∧ n.a < i ∧ 0 ≤ n.b ∧ n.b < i ∧ n.lo = 0 ∧ n.hi = 0 ∧ n.set = 0) := by unfold nodeB; rw [if_neg (by omega), if_neg (by omega), if_pos h]
theorem nodeB_5 {n : Nd} {i s : Int} (h : n.op = 5) : nodeB n i s = (decide (0 ≤ n.a ∧ n.a < i ∧ n.b = 0 ∧ n.set = 0) && timesB n.lo n.hi) := by unfold nodeB; rw [if_neg (by omega), if_neg (by omega), if_neg (by omega), if_pos h]
theorem nodeB_0 {n : Nd} {i s : Int} (h : n.op ≠ 1) (h2 : n.op ≠ 2) (h3 : ¬ (n.op = 3 ∨ n.op = 4)) (h5 : n.op ≠ 5) : nodeB n i s = false := by unfold nodeB; rw [if_neg h, if_neg h2, if_neg h3, if_neg h5]

/-- how a node's kind is told by tests -/
theorem op_ways (n : Nd) : (n.op == 1) = true ∨ ((n.op == 1) = false ∧ (n.op == 2) = true) ∨ ((n.op == 1) = false ∧ (n.op == 2) = false ∧ (n.op == 3) = true) ∨ ((n.op == 1) = false ∧ (n.op == 2) = false ∧ (n.op == 3) = false ∧ (n.op == 4) = true) ∨ ((n.op == 1) = false ∧ (n.op == 2) = false ∧ (n.op == 3) = false ∧ (n.op == 4) = false ∧ (n.op == 5) = true) ∨ ((n.op == 1) = false ∧ (n.op == 2) = false ∧ (n.op == 3) = false ∧ (n.op == 4) = false ∧ (n.op == 5) = false) := by
  simp only [beq_iff_eq, beq_eq_false_iff_ne, ne_eq]; omega

end Go.Proofs.YtgjiofkjogjhhaaGreatDoor.Ar

namespace Go.Proofs.YtgjiofkjogjhhaaGreatDoor.Ar
open Go Go.RowKit Go.Shelf
open Go.Proofs.YtgjiofkjogjhhaaGreatDoor.Rg (R RngsAt RowsAt nthL add_zero own_next)

theorem slice_one (w : World) (a : Int) : IntsAt (w.alloc (.cells #[.int .i64 a] 3)) (.slice (some ⟨w.heap.size, 0, none⟩) 1 1) [a] := by
  refine .inr ⟨_, 1, rfl, by unfold maxLen; simp, fun i hi => ?_⟩
  have : i = 0 := by simp at hi; omega
  subst this
  rw [show (⟨w.heap.size, 0, none⟩ : Addr).add 0 = ⟨w.heap.size, 0, none⟩ from rfl, World.cell?_alloc_new]; rfl
theorem slice_oneAt (w : World) (N : Nat) (hN : w.heap.size = N) (a : Int) : IntsAt (w.alloc (.cells #[.int .i64 a] 3)) (.slice (some ⟨N, 0, none⟩) 1 1) [a] := by
  subst hN; exact slice_one w a
theorem belowB_one (n a : Int) : belowB n [a] = (decide (0 ≤ a) && decide (a < n)) := by simp [belowB]
theorem belowB_two (n a b : Int) : belowB n [a, b] = (decide (0 ≤ a) && decide (a < n) && (decide (0 ≤ b) && decide (b < n))) := by simp [belowB]

set_option maxRecDepth 100000 in
set_option maxHeartbeats 8000000 in
theorem may_any (n : Nd) (i s : Int) (w : World) :
    Calls Tryz.prog 88 #[aggN n, .int .i64 i, .int .i64 s] w fun e w' => e = .returned (.bool (nodeB n i s)) ∧ Below w.heap.size w w' := by
  have cp := Lib.hid (fun n w => parts_any n w)
  have cb := Lib.hid (fun m v l w (h : IntsAt w v l) => below_any m v l w h)
  have ct := Lib.hid (fun w => times_any n.lo n.hi w)
  have b1 := Lib.hid (fun o => (Below.refl w.heap.size w).alloc (Nat.le_refl _) o)
  have b2 := Lib.hid (fun o u => ((Below.refl w.heap.size w).alloc (Nat.le_refl _) o).alloc (by simp) u)
  have P3 := Lib.hid (fun (n : Nd) (h : n.op = 3 ∨ n.op = 4) => show partsL n = [n.a, n.b] by unfold partsL; rw [if_pos h])
  have P5 := Lib.hid (fun (n : Nd) (h : n.op = 5) => show partsL n = [n.a] by unfold partsL; rw [if_neg (by omega), if_pos h])
  unfold aggN at *
  have hop := op_ways n
  have E1 := Lib.hid (nodeB_1 (n := n) (i := i) (s := s))
  have E2 := Lib.hid (nodeB_2 (n := n) (i := i) (s := s))
  have E3 := Lib.hid (nodeB_3 (n := n) (i := i) (s := s))
  have E5 := Lib.hid (nodeB_5 (n := n) (i := i) (s := s))
  have E0 := Lib.hid (nodeB_0 (n := n) (i := i) (s := s))
  obtain ⟨op, a, b, lo, hi, set⟩ := n
  dsimp only at *
  generalize nodeB ⟨op, a, b, lo, hi, set⟩ i s = r at *
  rcases hop with z1 | ⟨z1, z2⟩ | ⟨z1, z2, z3⟩ | ⟨z1, z2, z3, z4⟩ | ⟨z1, z2, z3, z4, z5⟩ | ⟨z1, z2, z3, z4, z5⟩
  · have E := Lib.hid (E1.out (by simpa using z1))
    go_enter Tryz.func88, Tryz.ntmps88
    go_wp2
    all_goals (
      go_ret
      refine ⟨ret_b ?_, b1.out _⟩
      rw [E.out, Bool.eq_iff_iff]
      simp
      omega)
  · have E := Lib.hid (E2.out (by simpa using z2))
    by_cases hz : a = 0 ∧ b = 0 ∧ lo = 0 ∧ hi = 0
    · obtain ⟨rfl, rfl, rfl, rfl⟩ := hz
      have HB := Lib.hid (belowB_one s set)
      have CB := Lib.hid (fun v w (h : IntsAt w v [set]) => cb.out s v [set] w h)
      generalize belowB s [set] = x at *
      go_enter Tryz.func88, Tryz.ntmps88
      go_wp2_with (go_at_call 86; (with_reducible refine (CB.out _ _ (slice_oneAt _ _ (by simp) _)).mono ?_); rintro e w1 ⟨rfl, rfl⟩)
      go_ret
      refine ⟨ret_b ?_, b2.out _ _⟩
      rw [E.out, HB.out, Bool.eq_iff_iff]; simp
    · go_enter Tryz.func88, Tryz.ntmps88
      go_wp2_with (go_at_call 86; exfalso; omega)
      all_goals (
        go_ret
        refine ⟨ret_b ?_, b1.out _⟩
        rw [E.out, Bool.eq_iff_iff]; simp; omega)
  · have E := Lib.hid (E3.out (.inl (by simpa using z3)))
    by_cases hz : lo = 0 ∧ hi = 0 ∧ set = 0
    · obtain ⟨rfl, rfl, rfl⟩ := hz
      have HP := Lib.hid (P3.out ⟨op, a, b, 0, 0, 0⟩ (.inl (by simpa using z3)))
      have HB := Lib.hid (belowB_two i a b)
      have CP := Lib.hid (fun w => cp.out ⟨op, a, b, 0, 0, 0⟩ w)
      have CB := Lib.hid (fun v w (h : IntsAt w v [a, b]) => cb.out i v [a, b] w h)
      dsimp only at HP CP
      generalize belowB i [a, b] = x at *
      clear cp
      go_enter Tryz.func88, Tryz.ntmps88
      go_wp2_with (first
        | (go_at_call 102; (with_reducible refine (CP.out _).mono ?_); rintro e w1 ⟨v, rfl, hr, hb⟩; go_must (rw [HP.out] at hr; have R1 := Lib.hid (ints_of_row hr); have H1 := Lib.hid ((b1.out (.cells #[.int .i64 op, .int .i64 a, .int .i64 b, .int .i64 0, .int .i64 0, .int .i64 0] 70)).trans (hb.mono (by simp))); clear hr hb))
        | (go_at_call 86; (with_reducible refine (CB.out _ _ R1.out).mono ?_); rintro e w2 ⟨rfl, rfl⟩)
        | fail)
      go_ret
      refine ⟨ret_b ?_, H1.out⟩
      rw [E.out, HB.out, Bool.eq_iff_iff]; simp; omega
    · go_enter Tryz.func88, Tryz.ntmps88
      go_wp2_with (go_at_call 102; exfalso; omega)
      all_goals (
        go_ret
        refine ⟨ret_b ?_, b1.out _⟩
        rw [E.out, Bool.eq_iff_iff]; simp; omega)
  · have E := Lib.hid (E3.out (.inr (by simpa using z4)))
    by_cases hz : lo = 0 ∧ hi = 0 ∧ set = 0
    · obtain ⟨rfl, rfl, rfl⟩ := hz
      have HP := Lib.hid (P3.out ⟨op, a, b, 0, 0, 0⟩ (.inr (by simpa using z4)))
      have HB := Lib.hid (belowB_two i a b)
      have CP := Lib.hid (fun w => cp.out ⟨op, a, b, 0, 0, 0⟩ w)
      have CB := Lib.hid (fun v w (h : IntsAt w v [a, b]) => cb.out i v [a, b] w h)
      dsimp only at HP CP
      generalize belowB i [a, b] = x at *
      clear cp
      go_enter Tryz.func88, Tryz.ntmps88
      go_wp2_with (first
        | (go_at_call 102; (with_reducible refine (CP.out _).mono ?_); rintro e w1 ⟨v, rfl, hr, hb⟩; go_must (rw [HP.out] at hr; have R1 := Lib.hid (ints_of_row hr); have H1 := Lib.hid ((b1.out (.cells #[.int .i64 op, .int .i64 a, .int .i64 b, .int .i64 0, .int .i64 0, .int .i64 0] 70)).trans (hb.mono (by simp))); clear hr hb))
        | (go_at_call 86; (with_reducible refine (CB.out _ _ R1.out).mono ?_); rintro e w2 ⟨rfl, rfl⟩)
        | fail)
      go_ret
      refine ⟨ret_b ?_, H1.out⟩
      rw [E.out, HB.out, Bool.eq_iff_iff]; simp; omega
    · go_enter Tryz.func88, Tryz.ntmps88
      go_wp2_with (go_at_call 102; exfalso; omega)
      all_goals (
        go_ret
        refine ⟨ret_b ?_, b1.out _⟩
        rw [E.out, Bool.eq_iff_iff]; simp; omega)
  · have E := Lib.hid (E5.out (by simpa using z5))
    by_cases hz : b = 0 ∧ set = 0
    · obtain ⟨rfl, rfl⟩ := hz
      have HP := Lib.hid (P5.out ⟨op, a, 0, lo, hi, 0⟩ (by simpa using z5))
      have HB := Lib.hid (belowB_one i a)
      have CP := Lib.hid (fun w => cp.out ⟨op, a, 0, lo, hi, 0⟩ w)
      have CB := Lib.hid (fun v w (h : IntsAt w v [a]) => cb.out i v [a] w h)
      dsimp only at HP CP
      generalize belowB i [a] = x at *
      generalize timesB lo hi = T at *
      clear cp
      cases x
      all_goals (
        go_enter Tryz.func88, Tryz.ntmps88
        go_wp2_with (first
          | (go_at_call 102; (with_reducible refine (CP.out _).mono ?_); rintro e w1 ⟨v, rfl, hr, hb⟩; go_must (rw [HP.out] at hr; have R1 := Lib.hid (ints_of_row hr); have H1 := Lib.hid ((b1.out (.cells #[.int .i64 op, .int .i64 a, .int .i64 0, .int .i64 lo, .int .i64 hi, .int .i64 0] 70)).trans (hb.mono (by simp))); have q0 := cell_next (a := ⟨w.heap.size, 0, none⟩) (v := .int .i64 op) (by simp) hb; have q1 := cell_next (a := ⟨w.heap.size, 1, none⟩) (v := .int .i64 a) (by simp) hb; have q2 := cell_next (a := ⟨w.heap.size, 2, none⟩) (v := .int .i64 0) (by simp) hb; have q3 := cell_next (a := ⟨w.heap.size, 3, none⟩) (v := .int .i64 lo) (by simp) hb; have q4 := cell_next (a := ⟨w.heap.size, 4, none⟩) (v := .int .i64 hi) (by simp) hb; have q5 := cell_next (a := ⟨w.heap.size, 5, none⟩) (v := .int .i64 0) (by simp) hb; clear hr hb))
          | (go_at_call 86; (with_reducible refine (CB.out _ _ R1.out).mono ?_); rintro e w2 ⟨rfl, rfl⟩)
          | (go_at_call 103; (with_reducible refine (ct.out _).mono ?_); rintro e w3 ⟨rfl, rfl⟩)
          | fail)
        go_ret
        refine ⟨ret_b ?_, H1.out⟩
        have hb := HB.out
        rw [E.out]
        cases T
        all_goals (rw [Bool.eq_iff_iff]; simp at hb ⊢)
        all_goals (try omega))
    · go_enter Tryz.func88, Tryz.ntmps88
      go_wp2_with (go_at_call 102; exfalso; omega)
      all_goals (
        go_ret
        refine ⟨ret_b ?_, b1.out _⟩
        have hf : decide (0 ≤ a ∧ a < i ∧ b = 0 ∧ set = 0) = false := by simp; omega
        rw [E.out, hf]; rfl)
  · have E := Lib.hid (E0.out (by simpa using z1) (by simpa using z2) (by simp at z3 z4; omega) (by simpa using z5))
    go_enter Tryz.func88, Tryz.ntmps88
    go_wp2
    go_ret
    exact ⟨ret_b E.out.symm, b1.out _⟩

end Go.Proofs.YtgjiofkjogjhhaaGreatDoor.Ar

namespace Go.Proofs.YtgjiofkjogjhhaaGreatDoor.Rg
open Go.RowKit Go.Shelf

/-- what Right tells -/
def RightOut (l : List R) (w : World) (e : Ending) (w' : World) : Prop := ∃ b, e = .returned (.bool b) ∧ (b = true ↔ setFrom 0 l) ∧ Below w.heap.size w w'
def RightRel (l : List R) (w : World) (s i : Value) (wr : World) : Prop :=
  ∃ (k : Nat) (m : Int), i = .int .i64 k ∧ s = .int .i64 m ∧ k ≤ l.length ∧ 0 ≤ m ∧ m ≤ 1114113 ∧ (setFrom 0 l ↔ setFrom m (l.drop k)) ∧ Below w.heap.size w wr

set_option maxHeartbeats 1600000 in
theorem right_any (l : List R) (v : Value) (w : World) (hv : RngsAt w v l) :
    Calls Tryz.prog 87 #[v] w fun e w' => RightOut l w e w' := by
  obtain ⟨ao, cap, rfl, hm, hcs⟩ := hv.shape
  have HC := Lib.hid hcs
  clear hcs hv
  go_enter Tryz.func87, Tryz.ntmps87
  go_wp2
  go_loopw [3, 8] (fun s i wr => RightRel l w s i wr) (fun _ i _ => l.length - (intOf i).toNat)
  case atStart => exact ⟨0, 0, rfl, rfl, Nat.zero_le _, by omega, by omega, Iff.rfl, Below.refl _ _⟩
  case round =>
    obtain ⟨k, m, rfl, rfl, hk, hm0, hm1, hset, hb⟩ := hrel
    by_cases hlt : k < l.length
    · obtain ⟨g, rfl, c1, c2⟩ := HC.out k hlt
      replace c1 := cell_next c1 hb
      replace c2 := cell_next c2 hb
      rw [set_at hlt] at hset
      have HS := Lib.hid hset
      have HB := Lib.hid hb
      have hsz := hb.size
      clear hset hb
      go_wp2
      all_goals first
        | (go_ret; exact ⟨_, rfl, ⟨fun h => (by cases h), fun h => by obtain ⟨h1, h2, h3, _⟩ := HS.out.1 h; omega⟩, HB.out.alloc hsz _⟩)
        | (go_roundw
           case rel => exact ⟨k + 1, _, by go_num, rfl, by omega, by omega, by omega, by rw [HS.out]; exact ⟨fun h => h.2.2.2, fun h => ⟨by omega, by omega, by omega, h⟩⟩, HB.out.alloc hsz _⟩
           case measure => simp [intOf]; omega)
    · obtain rfl : k = l.length := by omega
      rw [List.drop_length] at hset
      have HS := Lib.hid hset
      clear hset
      go_wp2
      go_ret
      exact ⟨_, rfl, by rw [HS.out]; simp [setFrom], hb⟩


end Go.Proofs.YtgjiofkjogjhhaaGreatDoor.Rg

namespace Go.Proofs.YtgjiofkjogjhhaaGreatDoor.Ar
open Go Go.RowKit Go.Shelf
open Go.Proofs.YtgjiofkjogjhhaaGreatDoor.Rg (R RngsAt RowsAt nthL add_zero own_next rightB right_any rightB_of)

theorem right_b (l : List R) (v : Value) (w : World) (h : RngsAt w v l) : Calls Tryz.prog 87 #[v] w fun e w' => e = .returned (.bool (rightB l)) ∧ Below w.heap.size w w' := by
  refine (right_any l v w h).mono ?_
  rintro e w' ⟨b, rfl, hb, h2⟩
  exact ⟨by rw [rightB_of hb], h2⟩

set_option maxRecDepth 100000 in
set_option maxHeartbeats 8000000 in
theorem check_any (t : Tr) (v : Value) (w : World) (h : TreeAt w v t) :
    Calls Tryz.prog 61 #[v] w fun e w' => e = .returned (.int .i64 (checkE t)) ∧ Below w.heap.size w w' := by
  have HV := Lib.hid h
  obtain ⟨ao, cap, so, scap, rfl, hm, hm2, hn, hs⟩ := h.shape
  have HN := Lib.hid hn
  have HS := Lib.hid hs
  clear hn hs h
  have b1 := (Below.refl w.heap.size w).alloc (Nat.le_refl _) (.cells #[.slice ao t.ns.length cap, .slice so t.sets.length scap, .int .i64 t.root] 38)
  have B1 := Lib.hid b1
  have T0 := Lib.hid (TBox.new w (.slice ao t.ns.length cap) (.slice so t.sets.length scap) t.root)
  by_cases hbig : 4096 < t.ns.length ∨ 4096 < t.sets.length
  · rw [check_big hbig]
    have hh : (4096 : Int) < t.ns.length ∨ (¬ (4096 : Int) < t.ns.length ∧ (4096 : Int) < t.sets.length) := by omega
    clear hbig
    rcases hh with h1 | ⟨h1, h2⟩
    all_goals (
      go_enter Tryz.func61, Tryz.ntmps61
      go_wp2
      go_ret
      exact ⟨rfl, b1⟩)
  · have n1 : ¬ (4096 : Int) < t.ns.length := by omega
    have n2 : ¬ (4096 : Int) < t.sets.length := by omega
    have HBIG := Lib.hid hbig
    have CR := Lib.hid (check_root (t := t) hbig)
    have CS := Lib.hid (check_sets (t := t) hbig)
    have CN := Lib.hid (check_node (t := t) hbig)
    have CA := Lib.hid (check_all (t := t) hbig)
    generalize checkE t = E at *
    have CB := Lib.hid (fun v w (h : IntsAt w v [t.root]) => below_any t.ns.length v [t.root] w h)
    have HB := Lib.hid (show rootB t = belowB t.ns.length [t.root] by rw [belowB_one]; rfl)
    generalize rootB t = r at *
    rw [← HB.out] at CB
    clear hbig
    cases r
    · have e := CR.out rfl
      go_enter Tryz.func61, Tryz.ntmps61
      go_wp2_with (go_at_call 86; (with_reducible refine (CB.out _ _ (slice_oneAt _ _ (by simp) _)).mono ?_); rintro e w1 ⟨rfl, rfl⟩)
      go_ret
      exact ⟨ret_e e.symm, b1.alloc (by simp) _⟩
    · go_enter Tryz.func61, Tryz.ntmps61
      go_wp2_with (go_at_call 86; (with_reducible refine (CB.out _ _ (slice_oneAt _ _ (by simp) _)).mono ?_); rintro e w1 ⟨rfl, rfl⟩)
      have HW := Lib.hid (show Below (w.heap.size + 1) (w.alloc (.cells #[.slice ao t.ns.length cap, .slice so t.sets.length scap, .int .i64 t.root] 38)) ((w.alloc (.cells #[.slice ao t.ns.length cap, .slice so t.sets.length scap, .int .i64 t.root] 38)).alloc (.cells #[.int .i64 t.root] 3)) from (Below.refl _ _).alloc (by simp) _)
      have HSZ : (w.alloc (.cells #[.slice ao t.ns.length cap, .slice so t.sets.length scap, .int .i64 t.root] 38)).heap.size = w.heap.size + 1 := by simp
      generalize w.alloc (.cells #[.slice ao t.ns.length cap, .slice so t.sets.length scap, .int .i64 t.root] 38) = W1 at *
      go_loopw [28] (fun i wr => ∃ k : Nat, i = .int .i64 k ∧ k ≤ t.sets.length ∧ setsB t.sets k = true ∧ Below (w.heap.size + 1) W1 wr) (fun i _ => t.sets.length - (intOf i).toNat)
      case atStart => exact ⟨0, rfl, Nat.zero_le _, rfl, HW.out⟩
      case round =>
        obtain ⟨k, rfl, hk, hset, hbw⟩ := hrel
        obtain ⟨q0, q1, q2⟩ := T0.out.next (hbw.mono (by omega))
        have hsz := hbw.size
        have HBW := Lib.hid hbw
        clear hbw
        by_cases hlt : k < t.sets.length
        · obtain ⟨gs, x, rfl, x1, x2⟩ := HS.out k hlt
          have hB := B1.out.trans (HBW.out.mono (by omega))
          have y1 := cell_next x1 hB
          have HR := Lib.hid (right_b (nthL t.sets k) x wr (x2.next hB))
          have HSS := Lib.hid (setsB_succ hlt)
          have HSF := Lib.hid (fun h => setsB_false (S := t.sets) (k := k + 1) (n := t.sets.length) h (by omega))
          rw [hset, Bool.true_and] at HSS
          have HSET := Lib.hid hset
          clear hset x1 x2 hB
          replace HSS : Hid (setsB t.sets (k + 1) = rightB (nthL t.sets k)) := HSS
          generalize rightB (nthL t.sets k) = b at *
          cases b
          all_goals (
            go_wp2_with (go_at_call 87; (with_reducible refine HR.out.mono ?_); rintro e w2 ⟨rfl, hb2⟩; go_must (have B2 := Lib.hid (HBW.out.trans (hb2.mono (by omega))); clear hb2))
            first
              | (go_ret; exact ⟨ret_e (CS.out (HSF.out HSS.out)).symm, B1.out.trans (B2.out.mono (by omega))⟩)
              | (go_roundw
                 case rel => exact ⟨k + 1, by go_num, by omega, HSS.out, B2.out⟩
                 case measure => simp [intOf]; omega))
        · obtain rfl : k = t.sets.length := by omega
          have HSET := Lib.hid hset
          clear hset
          go_wp2
          go_loopw [39] (fun i wr => ∃ k : Nat, i = .int .i64 k ∧ k ≤ t.ns.length ∧ allB t.ns t.sets.length k = true ∧ Below (w.heap.size + 1) W1 wr) (fun i _ => t.ns.length - (intOf i).toNat)
          case atStart => exact ⟨0, rfl, Nat.zero_le _, rfl, HBW.out⟩
          case round =>
            clear q0 q1 q2 hsz
            obtain ⟨k, rfl, hk, hall, hbw⟩ := hrel
            obtain ⟨q0, q1, q2⟩ := T0.out.next (hbw.mono (by omega))
            have hsz := hbw.size
            have HBW2 := Lib.hid hbw
            clear hbw
            by_cases hlt : k < t.ns.length
            · obtain ⟨g, rfl, hnode⟩ := HN.out k hlt
              have hB := B1.out.trans (HBW2.out.mono (by omega))
              obtain ⟨c0, c1, c2, c3, c4, c5⟩ := hnode.next hB
              have hl0 := cell_lt c0
              have hl1 : w.heap.size < wr.heap.size := by omega
              have HM := Lib.hid (fun W => may_any (nd t.ns k) k t.sets.length W)
              have HSS := Lib.hid (allB_succ t.ns t.sets.length k)
              have HSF := Lib.hid (fun h => allB_false (l := t.ns) (s := t.sets.length) (k := k + 1) (n := t.ns.length) h (by omega))
              rw [hall, Bool.true_and] at HSS
              clear hall hnode hB
              unfold aggN at HM
              generalize nodeB (nd t.ns k) k t.sets.length = b at *
              generalize nd t.ns k = n at *
              cases b
              all_goals (
                go_wp2_with (go_at_call 88; (with_reducible refine (HM.out _).mono ?_); rintro e w2 ⟨rfl, hb2⟩; go_must (have B2 := Lib.hid (HBW2.out.trans ((((Below.refl wr.heap.size wr).alloc (Nat.le_refl _) (.cells #[.int .i64 n.op, .int .i64 n.a, .int .i64 n.b, .int .i64 n.lo, .int .i64 n.hi, .int .i64 n.set] 70)).mono (by omega)).trans (hb2.mono (by simp; omega)))); clear hb2))
                first
                  | (go_ret; exact ⟨ret_e (CN.out (HSF.out HSS.out)).symm, B1.out.trans (B2.out.mono (by omega))⟩)
                  | (go_roundw
                     case rel => exact ⟨k + 1, by go_num, by omega, HSS.out, B2.out⟩
                     case measure => simp [intOf]; omega))
            · obtain rfl : k = t.ns.length := by omega
              have e := CA.out (by simp) HSET.out hall
              have HE := Lib.hid e
              clear e hall
              go_wp2
              go_ret
              exact ⟨ret_e HE.out.symm, B1.out.trans (HBW2.out.mono (by omega))⟩

end Go.Proofs.YtgjiofkjogjhhaaGreatDoor.Ar

namespace Go.Proofs.YtgjiofkjogjhhaaGreatDoor.Ms
open Go Go.RowKit Go.Shelf
open Go.Proofs.YtgjiofkjogjhhaaGreatDoor.Rg (add_zero)

def cellsS (s : Sp) : List Value := [.bool s.has, .bool s.en, .int .i64 s.le, .int .i64 s.mo]
def aggS (s : Sp) : Value := .agg #[.bool s.has, .bool s.en, .int .i64 s.le, .int .i64 s.mo]
def flatS (l : List Sp) : List Value := l.flatMap cellsS
theorem flatS_len : ∀ l : List Sp, (flatS l).length = l.length * 4
  | [] => rfl
  | p :: r => by
    have := flatS_len r
    simp only [flatS, List.flatMap_cons, List.length_append, List.length_cons, List.length_nil, cellsS] at this ⊢
    omega
theorem flatS_at : ∀ (l : List Sp) (i : Nat), i < l.length → (flatS l)[i * 4]? = some (.bool (l.getD i z0).has) ∧ (flatS l)[i * 4 + 1]? = some (.bool (l.getD i z0).en) ∧ (flatS l)[i * 4 + 2]? = some (.int .i64 (l.getD i z0).le) ∧ (flatS l)[i * 4 + 3]? = some (.int .i64 (l.getD i z0).mo)
  | [], i, h => by simp at h
  | p :: r, 0, h => by simp [flatS, cellsS]
  | p :: r, i + 1, h => by
    have := flatS_at r i (by simpa using h)
    rw [show (i + 1) * 4 = (i * 4) + 1 + 1 + 1 + 1 by omega]
    simpa [flatS, cellsS] using this
theorem flatS_one {l : List Sp} : ∀ u ∈ flatS l, u.oneCell' = true := by
  intro u hu
  simp only [flatS, List.mem_flatMap, cellsS, List.mem_cons, List.not_mem_nil, or_false] at hu
  obtain ⟨p, _, h⟩ := hu
  rcases h with rfl | rfl | rfl | rfl <;> simp [Value.oneCell']
theorem flatS_set : ∀ (l : List Sp) (k : Nat) (s : Sp), k < l.length → ((((flatS l).set (k * 4) (.bool s.has)).set (k * 4 + 1) (.bool s.en)).set (k * 4 + 2) (.int .i64 s.le)).set (k * 4 + 3) (.int .i64 s.mo) = flatS (l.set k s)
  | [], k, s, h => by simp at h
  | p :: r, 0, s, h => by simp [flatS, cellsS]
  | p :: r, k + 1, s, h => by
    have := flatS_set r k s (by simpa using h)
    rw [show (k + 1) * 4 = (k * 4) + 1 + 1 + 1 + 1 by omega]
    simpa [flatS, cellsS] using this
/-- four cells from an address on -/
structure SpIn (w : World) (g : Addr) (s : Sp) : Prop where
  c0 : w.cell? g = some (.bool s.has)
  c1 : w.cell? ⟨g.block, g.off + 1, none⟩ = some (.bool s.en)
  c2 : w.cell? ⟨g.block, g.off + 2, none⟩ = some (.int .i64 s.le)
  c3 : w.cell? ⟨g.block, g.off + 3, none⟩ = some (.int .i64 s.mo)
theorem SpIn.next {w w' : World} {g : Addr} {s : Sp} (h : SpIn w g s) (hb : Below w.heap.size w w') : SpIn w' g s :=
  ⟨cell_next h.c0 hb, cell_next h.c1 hb, cell_next h.c2 hb, cell_next h.c3 hb⟩
/-- a slice that reads as these spans -/
def SpsAt (w : World) (v : Value) (l : List Sp) : Prop :=
  (v = .slice none 0 0 ∧ l = []) ∨ ∃ (a : Addr) (cap : Nat), v = .slice (some a) l.length cap ∧ l.length ≤ maxLen ∧ ∀ i, i < l.length → SpIn w (a.add (i * 4)) (l.getD i z0)
theorem SpsAt.next {w w' : World} {v : Value} {l : List Sp} (h : SpsAt w v l) (hb : Below w.heap.size w w') : SpsAt w' v l := by
  rcases h with h | ⟨a, cap, hv, hm, hc⟩
  · exact .inl h
  · exact .inr ⟨a, cap, hv, hm, fun i hi => (hc i hi).next hb⟩
theorem SpsAt.shape {w : World} {v : Value} {l : List Sp} (h : SpsAt w v l) :
    ∃ (ao : Option Addr) (cap : Nat), v = .slice ao l.length cap ∧ l.length ≤ 9223372036854775807 ∧ ∀ i, i < l.length → ∃ g, ao = some g ∧ SpIn w (g.add (i * 4)) (l.getD i z0) := by
  rcases h with ⟨rfl, rfl⟩ | ⟨a, cap, hv, hm, hc⟩
  · exact ⟨none, 0, rfl, by simp, fun i hi => by simp at hi⟩
  · exact ⟨some a, cap, hv, by unfold maxLen at hm; omega, fun i hi => ⟨a, rfl, hc i hi⟩⟩
/-- spans that the call owns -/
abbrev SRow (w : World) (B : Nat) (v : Value) (l : List Sp) : Prop := w.ownsRow B 124 4 v l.length (flatS l)
theorem cellsrow {w : World} {B g cap n : Nat} {l : List Sp} (h : w.ownsRow B 124 4 (.slice (some ⟨g, 0, none⟩) n cap) n (flatS l)) (hn : l.length = n) {i : Nat} (hi : i < n) : SpIn w ⟨g, i * 4, none⟩ (l.getD i z0) := by
  obtain ⟨h0, h1, h2, h3⟩ := flatS_at l i (by omega)
  exact ⟨(h.cellAt (i * 4) (by omega)).trans h0, (h.cellAt (i * 4 + 1) (by omega)).trans h1, (h.cellAt (i * 4 + 2) (by omega)).trans h2, (h.cellAt (i * 4 + 3) (by omega)).trans h3⟩
theorem sps_of_row {w : World} {B : Nat} {v : Value} {l : List Sp} (h : SRow w B v l) : SpsAt w v l := by
  have h' := h
  rcases h.2 with ⟨rfl, h0⟩ | ⟨g, cap, cur, rfl, _, hg, hn, hm, hcs, ht⟩
  · exact .inl ⟨rfl, List.eq_nil_of_length_eq_zero h0⟩
  · refine .inr ⟨⟨g, 0, none⟩, cap, rfl, by omega, fun i hi => ?_⟩
    rw [add_zero]
    exact cellsrow h' rfl hi
theorem infoSp : (Tryz.prog.info? 124).map (fun i => (i.zero, i.size, i.bytes)) = some (some (.agg #[.bool false, .bool false, .int .i64 0, .int .i64 0]), 4, 24) := by kernel_rfl
/-- a row of n spans of which the first k are told -/
def partS (r : Nat → Sp) (n k : Nat) : List Sp := (List.range n).map fun i => if i < k then r i else z0
theorem partS_len (r : Nat → Sp) (n k : Nat) : (partS r n k).length = n := by simp [partS]
theorem partS_at {r : Nat → Sp} {n k i : Nat} (h : i < k) (hk : k ≤ n) : (partS r n k).getD i z0 = r i := by
  unfold partS; simp [List.getD, show i < n by omega, h]
theorem partS_set {r : Nat → Sp} {n k : Nat} (h : k < n) : (partS r n k).set k (r k) = partS r n (k + 1) := by
  apply List.ext_getElem?
  intro j
  unfold partS
  rw [List.getElem?_set]
  by_cases hj : k = j
  · subst hj; simp [h]
  · rw [if_neg hj]
    by_cases h2 : j < n
    · simp only [List.getElem?_map, List.getElem?_range h2, Option.map_some]
      by_cases h3 : j < k
      · rw [if_pos h3, if_pos (by omega)]
      · rw [if_neg h3, if_neg (by omega)]
    · simp [h2]
theorem partS_end {r : Nat → Sp} {n : Nat} : partS r n n = (List.range n).map r := by
  unfold partS
  exact List.map_congr_left fun i hi => by rw [if_pos (List.mem_range.1 hi)]
theorem flat_zero : ∀ n : Nat, flatS (List.replicate n z0) = (madeCells #[.bool false, .bool false, .int .i64 0, .int .i64 0] (n * 4)).toList
  | n => by
    apply List.ext_getElem?
    intro j
    by_cases hj : j < n * 4
    · obtain ⟨q, r, hr, rfl⟩ : ∃ q r, r < 4 ∧ j = q * 4 + r := ⟨j / 4, j % 4, Nat.mod_lt _ (by decide), by omega⟩
      have hq : q < n := by omega
      obtain ⟨h0, h1, h2, h3⟩ := flatS_at (List.replicate n z0) q (by simpa using hq)
      have hz : (List.replicate n z0).getD q z0 = z0 := by simp [List.getD, hq]
      rw [hz] at h0 h1 h2 h3
      have hm : (madeCells #[Value.bool false, .bool false, .int .i64 0, .int .i64 0] (n * 4)).toList[q * 4 + r]? = some (#[Value.bool false, .bool false, .int .i64 0, .int .i64 0][r]!) := by
        have hmod : (q * 4 + r) % 4 = r := by omega
        simp [madeCells, hj, hmod]
      rw [hm]
      obtain rfl | rfl | rfl | rfl : r = 0 ∨ r = 1 ∨ r = 2 ∨ r = 3 := by omega
      · exact h0
      · exact h1
      · exact h2
      · exact h3
    · rw [List.getElem?_eq_none (by rw [flatS_len]; simpa using hj), List.getElem?_eq_none (by simp [madeCells]; omega)]
theorem partS_start (r : Nat → Sp) (n : Nat) : (madeCells (Value.agg #[.bool false, .bool false, .int .i64 0, .int .i64 0]).cells (n * 4)).toList = flatS (partS r n 0) := by
  rw [show (Value.agg #[.bool false, .bool false, .int .i64 0, .int .i64 0]).cells = #[Value.bool false, .bool false, .int .i64 0, .int .i64 0] from rfl, ← flat_zero]
  congr 1
  apply List.ext_getElem?
  intro j
  unfold partS
  by_cases h : j < n
  · simp [h]
  · simp [h]
/-- a span of a row that the call owns, stored -/
theorem row_put {W : World} {B g n cap : Nat} {r : Nat → Sp} {k : Nat} (h : W.ownsRow B 124 4 (.slice (some ⟨g, 0, none⟩) n cap) n (flatS (partS r n k))) (hk : k < n) :
    ((((W.setCell ⟨g, k * 4, none⟩ (.bool (r k).has)).setCell ⟨g, k * 4 + 1, none⟩ (.bool (r k).en)).setCell ⟨g, k * 4 + 2, none⟩ (.int .i64 (r k).le)).setCell ⟨g, k * 4 + 3, none⟩ (.int .i64 (r k).mo)).ownsRow B 124 4 (.slice (some ⟨g, 0, none⟩) n cap) n (flatS (partS r n (k + 1))) := by
  have h1 := (h.stored (k * 4) (.bool (r k).has)).1
  have h2 := (h1.stored (k * 4 + 1) (.bool (r k).en)).1
  have h3 := (h2.stored (k * 4 + 2) (.int .i64 (r k).le)).1
  have h4 := (h3.stored (k * 4 + 3) (.int .i64 (r k).mo)).1
  rw [flatS_set _ _ _ (by rw [partS_len]; exact hk), partS_set hk] at h4
  exact h4
theorem put_below {B : Nat} {w W : World} {g k : Nat} {a b c d : Value} (h : Below B w W) (hg : B ≤ g) : Below B w ((((W.setCell ⟨g, k * 4, none⟩ a).setCell ⟨g, k * 4 + 1, none⟩ b).setCell ⟨g, k * 4 + 2, none⟩ c).setCell ⟨g, k * 4 + 3, none⟩ d) :=
  (((h.setCell (p := ⟨g, k * 4, none⟩) hg _).setCell (p := ⟨g, k * 4 + 1, none⟩) hg _).setCell (p := ⟨g, k * 4 + 2, none⟩) hg _).setCell (p := ⟨g, k * 4 + 3, none⟩) hg _
theorem srow_next {w w' : World} {B : Nat} {v : Value} {n : Nat} {xs : List Value} (h : w.ownsRow B 124 4 v n xs) (hb : Below w.heap.size w w') : w'.ownsRow B 124 4 v n xs := by
  refine h.kept (grown_below hb) ?_
  rcases h.2 with ⟨rfl, _⟩ | ⟨g, cap, cur, rfl, _⟩
  · exact .inl rfl
  · exact .inr (by simp [Value.ownBlock])
end Go.Proofs.YtgjiofkjogjhhaaGreatDoor.Ms

/- Trees in plain words: which nodes may be, what a tree tells by its parts, when two are the same. Slices of ranges' slices. The box of a tree; what Check tells, way by way. Slices of texts, as the call that made them meets them. The words of a line, in plain words. What a rule does, in plain words: the decisions, word by word; an action's text; it is read as the action. What a tree tells by its parts, in numbers; trees that are near. Plain facts about digits, for the laws of layer digit: no program is named here. The table of the digits of 16, in memory. Walks of HexText: the program's and the document's answer. -/
import Derived.Test.YtgjiofkjogjhhaaGreatDoorPk01
import Derived.RangeFuncBox
import Derived.Deep.AppendLies
import Derived.Deep.DeepMust
import Derived.BigQuiet
import Derived.Deep.QuietTactic
import Derived.Lib.Hide
import Derived.Lib.ItoaNum
import Derived.WalkKit
import Derived.Test.YtgjiofkjogjhhaaGreatDoorChecked
import Derived.Lib.LaidTab
import Derived.WalkLawsBesides
import Derived.WalkSpells

namespace Go.Proofs.YtgjiofkjogjhhaaGreatDoor.Ar
open Go.Proofs.YtgjiofkjogjhhaaGreatDoor.Rg (R rightB)

structure Nd where
  op : Int
  a : Int
  b : Int
  lo : Int
  hi : Int
  set : Int
  deriving DecidableEq
instance : Inhabited Nd := ⟨⟨0, 0, 0, 0, 0, 0⟩⟩
theorem Nd.eq_iff (m n : Nd) : m = n ↔ m.op = n.op ∧ m.a = n.a ∧ m.b = n.b ∧ m.lo = n.lo ∧ m.hi = n.hi ∧ m.set = n.set := by
  cases m; cases n; simp

/-- the i-th node -/
def nd (l : List Nd) (i : Nat) : Nd := l.getD i default
theorem nd_eq {l : List Nd} {i : Nat} (h : i < l.length) : nd l i = l[i] := by simp [nd, List.getD, h]
theorem nd_left {l k : List Nd} {i : Nat} (h : i < l.length) : nd (l ++ k) i = nd l i := by simp [nd, List.getD, List.getElem?_append_left h]
theorem nd_right {l k : List Nd} {i : Nat} : nd (l ++ k) (l.length + i) = nd k i := by simp [nd, List.getD, List.getElem?_append_right]

structure Tr where
  ns : List Nd
  sets : List (List R)
  root : Int

/-- may something be so many times -/
def timesB (lo hi : Int) : Bool := decide (0 ≤ lo) && decide (lo ≤ 255) && (decide (hi = -1) || decide (lo ≤ hi) && decide (hi ≤ 255))
/-- may a node be, with i nodes ahead of it and s sets -/
def nodeB (n : Nd) (i s : Int) : Bool :=
  if n.op = 1 then decide (n.a = 0 ∧ n.b = 0 ∧ n.lo = 0 ∧ n.hi = 0 ∧ n.set = 0)
  else if n.op = 2 then decide (n.a = 0 ∧ n.b = 0 ∧ n.lo = 0 ∧ n.hi = 0 ∧ 0 ≤ n.set ∧ n.set < s)
  else if n.op = 3 ∨ n.op = 4 then decide (0 ≤ n.a ∧ n.a < i ∧ 0 ≤ n.b ∧ n.b < i ∧ n.lo = 0 ∧ n.hi = 0 ∧ n.set = 0)
  else if n.op = 5 then decide (0 ≤ n.a ∧ n.a < i ∧ n.b = 0 ∧ n.set = 0) && timesB n.lo n.hi
  else false
theorem nodeB_mono {n : Nd} {i s i' s' : Int} (h : nodeB n i s = true) (hi : i ≤ i') (hs : s ≤ s') : nodeB n i' s' = true := by
  unfold nodeB at h ⊢
  split at h
  · rename_i h1; rw [if_pos h1]; exact h
  · rename_i h1; rw [if_neg h1]
    split at h
    · rename_i h2; rw [if_pos h2]; simp at h ⊢; omega
    · rename_i h2; rw [if_neg h2]
      split at h
      · rename_i h3; rw [if_pos h3]; simp at h ⊢; omega
      · rename_i h3; rw [if_neg h3]
        split at h
        · rename_i h4; rw [if_pos h4]; simp at h ⊢; refine ⟨?_, h.2⟩; omega
        · cases h
/-- the kinds of nodes that may be, each with what it says -/
theorem nodeB_ways {n : Nd} {i s : Int} (h : nodeB n i s = true) :
    (n.op = 1 ∧ n.a = 0 ∧ n.b = 0 ∧ n.lo = 0 ∧ n.hi = 0 ∧ n.set = 0) ∨ (n.op = 2 ∧ n.a = 0 ∧ n.b = 0 ∧ n.lo = 0 ∧ n.hi = 0 ∧ 0 ≤ n.set ∧ n.set < s) ∨
    ((n.op = 3 ∨ n.op = 4) ∧ 0 ≤ n.a ∧ n.a < i ∧ 0 ≤ n.b ∧ n.b < i ∧ n.lo = 0 ∧ n.hi = 0 ∧ n.set = 0) ∨ (n.op = 5 ∧ 0 ≤ n.a ∧ n.a < i ∧ n.b = 0 ∧ n.set = 0) := by
  unfold nodeB at h
  split at h
  · rename_i h1; simp at h; exact .inl ⟨h1, h⟩
  · split at h
    · rename_i h2; simp at h; exact .inr (.inl ⟨h2, h⟩)
    · split at h
      · rename_i h3; simp at h; exact .inr (.inr (.inl ⟨h3, h⟩))
      · split at h
        · rename_i h4; simp at h; exact .inr (.inr (.inr ⟨h4, h.1⟩))
        · cases h

/-- are the first k nodes such as may be -/
def allB (l : List Nd) (s : Int) (k : Nat) : Bool := (List.range k).all fun i => nodeB (nd l i) i s
theorem allB_succ (l : List Nd) (s : Int) (k : Nat) : allB l s (k + 1) = (allB l s k && nodeB (nd l k) k s) := by
  simp [allB, List.range_succ, List.all_append]
theorem allB_iff {l : List Nd} {s : Int} {k : Nat} : allB l s k = true ↔ ∀ i, i < k → nodeB (nd l i) i s = true := by simp [allB, List.all_eq_true]
theorem allB_false {l : List Nd} {s : Int} {k n : Nat} (h : allB l s k = false) (hk : k ≤ n) : allB l s n = false := by
  rw [← Bool.not_eq_true, allB_iff] at h ⊢
  exact fun hn => h fun i hi => hn i (by omega)
/-- are the first k sets sets -/
noncomputable def setsB (S : List (List R)) (k : Nat) : Bool := (S.take k).all rightB
theorem setsB_succ {S : List (List R)} {k : Nat} (h : k < S.length) : setsB S (k + 1) = (setsB S k && rightB (S.getD k [])) := by
  unfold setsB
  rw [List.take_succ_eq_append_getElem h, List.all_append]
  simp [List.getD, h]
theorem setsB_false {S : List (List R)} {k n : Nat} (h : setsB S k = false) (hk : k ≤ n) : setsB S n = false := by
  unfold setsB at *
  rw [← Bool.not_eq_true, List.all_eq_true] at h ⊢
  exact fun hn => h fun x hx => hn x ((List.take_subset_take_left S hk) hx)
def rootB (t : Tr) : Bool := decide (0 ≤ t.root) && decide (t.root < t.ns.length)
noncomputable def okB (t : Tr) : Bool := rootB t && setsB t.sets t.sets.length && allB t.ns t.sets.length t.ns.length
noncomputable def checkE (t : Tr) : Int := if 4096 < t.ns.length ∨ 4096 < t.sets.length then 6 else if okB t = true then 0 else 3
structure Ok (t : Tr) : Prop where
  root0 : 0 ≤ t.root
  root1 : t.root < t.ns.length
  sets : ∀ s, s ∈ t.sets → rightB s = true
  node : ∀ i, i < t.ns.length → nodeB (nd t.ns i) i t.sets.length = true
theorem ok_iff (t : Tr) : okB t = true ↔ Ok t := by
  unfold okB rootB setsB
  rw [Bool.and_eq_true, Bool.and_eq_true, allB_iff, List.take_length, List.all_eq_true]
  simp only [Bool.and_eq_true, decide_eq_true_eq]
  exact ⟨fun ⟨⟨⟨h1, h2⟩, h3⟩, h4⟩ => ⟨h1, h2, h3, h4⟩, fun h => ⟨⟨⟨h.root0, h.root1⟩, h.sets⟩, h.node⟩⟩
theorem check_ok {t : Tr} (h : checkE t = 0) : Ok t ∧ t.ns.length ≤ 4096 ∧ t.sets.length ≤ 4096 := by
  unfold checkE at h
  split at h
  · cases h
  · split at h
    · rename_i h1 h2; exact ⟨(ok_iff t).1 h2, by omega, by omega⟩
    · cases h
theorem ok_check {t : Tr} (h : Ok t) (h1 : t.ns.length ≤ 4096) (h2 : t.sets.length ≤ 4096) : checkE t = 0 := by
  unfold checkE; rw [if_neg (by omega), if_pos ((ok_iff t).2 h)]

/-- what a tree tells by what its parts tell -/
def reck (g : List Int → Int) (l : List Nd) (i : Nat) : Int :=
  if (nd l i).op = 3 ∨ (nd l i).op = 4 then (if (nd l i).a.toNat < i ∧ (nd l i).b.toNat < i then g [reck g l (nd l i).a.toNat, reck g l (nd l i).b.toNat] else 0)
  else if (nd l i).op = 5 then (if (nd l i).a.toNat < i then g [reck g l (nd l i).a.toNat] else 0)
  else g []
  termination_by i
  decreasing_by all_goals omega
/-- the numbers of a node's parts -/
def partsL (n : Nd) : List Int := if n.op = 3 ∨ n.op = 4 then [n.a, n.b] else if n.op = 5 then [n.a] else []
theorem reck_parts {g : List Int → Int} {l : List Nd} {i : Nat} {s : Int} (h : nodeB (nd l i) i s = true) : reck g l i = g ((partsL (nd l i)).map fun x => reck g l x.toNat) := by
  rw [reck]
  unfold partsL
  rcases nodeB_ways h with ⟨h1, _⟩ | ⟨h1, _⟩ | ⟨h1, h2⟩ | ⟨h1, h2⟩
  · rw [if_neg (by omega), if_neg (by omega), if_neg (by omega), if_neg (by omega)]; rfl
  · rw [if_neg (by omega), if_neg (by omega), if_neg (by omega), if_neg (by omega)]; rfl
  · rw [if_pos h1, if_pos (by omega), if_pos h1]; rfl
  · rw [if_neg (by omega), if_pos h1, if_pos (by omega), if_neg (by omega), if_pos h1]; rfl
theorem reck_two {g : List Int → Int} {l : List Nd} {i : Nat} (h : (nd l i).op = 3 ∨ (nd l i).op = 4) (ha : (nd l i).a.toNat < i) (hb : (nd l i).b.toNat < i) : reck g l i = g [reck g l (nd l i).a.toNat, reck g l (nd l i).b.toNat] := by
  rw [reck, if_pos h, if_pos ⟨ha, hb⟩]
theorem reck_one {g : List Int → Int} {l : List Nd} {i : Nat} (h : (nd l i).op = 5) (ha : (nd l i).a.toNat < i) : reck g l i = g [reck g l (nd l i).a.toNat] := by
  rw [reck, if_neg (by omega), if_pos h, if_pos ha]
theorem reck_none {g : List Int → Int} {l : List Nd} {i : Nat} (h : ¬ ((nd l i).op = 3 ∨ (nd l i).op = 4)) (h5 : (nd l i).op ≠ 5) : reck g l i = g [] := by
  rw [reck, if_neg h, if_neg h5]

def gD : List Int → Int := fun l => l.foldl max 0 + 1
def gS : List Int → Int := fun l => min (l.foldl (· + ·) 1) 1048576
def gZ : List Int → Int := fun l => l.foldl (· + ·) 1

/-- are two nodes of two trees the same -/
def sameT (p q : Tr) (x y : Nat) : Bool :=
  if (nd p.ns x).op = (nd q.ns y).op ∧ (nd p.ns x).lo = (nd q.ns y).lo ∧ (nd p.ns x).hi = (nd q.ns y).hi then
    if (nd p.ns x).op = 2 then decide (p.sets.getD (nd p.ns x).set.toNat [] = q.sets.getD (nd q.ns y).set.toNat [])
    else if (nd p.ns x).op = 3 ∨ (nd p.ns x).op = 4 then
      (if (nd p.ns x).a.toNat < x ∧ (nd p.ns x).b.toNat < x then sameT p q (nd p.ns x).a.toNat (nd q.ns y).a.toNat && sameT p q (nd p.ns x).b.toNat (nd q.ns y).b.toNat else false)
    else if (nd p.ns x).op = 5 then (if (nd p.ns x).a.toNat < x then sameT p q (nd p.ns x).a.toNat (nd q.ns y).a.toNat else false)
    else true
  else false
  termination_by x
  decreasing_by all_goals omega

/-- a node with its parts' and its set's numbers in place of theirs -/
def mapN (sx rs : List Int) (n : Nd) : Nd :=
  if n.op = 2 then { n with set := sx.getD n.set.toNat 0 }
  else if n.op = 3 ∨ n.op = 4 then { n with a := rs.getD n.a.toNat 0, b := rs.getD n.b.toNat 0 }
  else if n.op = 5 then { n with a := rs.getD n.a.toNat 0 } else n

/-- numbers by which nodes are told apart, and the same nodes' numbers -/
theorem same_by {p q : Tr} (hp : Ok p) (hq : Ok q) {sp sq rp rq : List Int}
    (hs : ∀ i j, i < p.sets.length → j < q.sets.length → (sp.getD i 0 = sq.getD j 0 ↔ p.sets.getD i [] = q.sets.getD j []))
    (hr : ∀ i j, i < p.ns.length → j < q.ns.length → (rp.getD i 0 = rq.getD j 0 ↔ mapN sp rp (nd p.ns i) = mapN sq rq (nd q.ns j))) :
    ∀ x y, x < p.ns.length → y < q.ns.length → (rp.getD x 0 = rq.getD y 0 ↔ sameT p q x y = true) := by
  intro x
  induction x using Nat.strongRecOn with
  | ind x ih =>
    intro y hx hy
    rw [hr x y hx hy, sameT]
    have h1 := nodeB_ways (hp.node x hx)
    have h2 := nodeB_ways (hq.node y hy)
    by_cases hop : (nd p.ns x).op = (nd q.ns y).op
    · rcases h1 with ⟨a1, a2⟩ | ⟨a1, a2⟩ | ⟨a1, a2⟩ | ⟨a1, a2⟩
      · rcases h2 with ⟨b1, b2⟩ | ⟨b1, b2⟩ | ⟨b1, b2⟩ | ⟨b1, b2⟩
        · rw [if_pos (by omega), if_neg (by omega), if_neg (by omega), if_neg (by omega)]
          unfold mapN
          rw [if_neg (by omega), if_neg (by omega), if_neg (by omega), if_neg (by omega), if_neg (by omega), if_neg (by omega), Nd.eq_iff]
          simp only [iff_true]
          omega
        all_goals omega
      · rcases h2 with ⟨b1, b2⟩ | ⟨b1, b2⟩ | ⟨b1, b2⟩ | ⟨b1, b2⟩
        · omega
        · rw [if_pos (by omega), if_pos a1, decide_eq_true_iff, ← hs _ _ (by omega) (by omega)]
          unfold mapN
          rw [if_pos a1, if_pos b1, Nd.eq_iff]
          simp only
          omega
        all_goals omega
      · rcases h2 with ⟨b1, b2⟩ | ⟨b1, b2⟩ | ⟨b1, b2⟩ | ⟨b1, b2⟩
        · omega
        · omega
        · rw [if_pos (by omega), if_neg (by omega), if_pos a1, if_pos (by omega), Bool.and_eq_true, ← ih _ (by omega) _ (by omega) (by omega), ← ih _ (by omega) _ (by omega) (by omega)]
          unfold mapN
          rw [if_neg (by omega), if_pos a1, if_neg (by omega), if_pos b1, Nd.eq_iff]
          simp only
          omega
        · omega
      · rcases h2 with ⟨b1, b2⟩ | ⟨b1, b2⟩ | ⟨b1, b2⟩ | ⟨b1, b2⟩
        · omega
        · omega
        · omega
        · by_cases hlh : (nd p.ns x).lo = (nd q.ns y).lo ∧ (nd p.ns x).hi = (nd q.ns y).hi
          · rw [if_pos ⟨hop, hlh⟩, if_neg (by omega), if_neg (by omega), if_pos a1, if_pos (by omega), ← ih _ (by omega) _ (by omega) (by omega)]
            unfold mapN
            rw [if_neg (by omega), if_neg (by omega), if_pos a1, if_neg (by omega), if_neg (by omega), if_pos b1, Nd.eq_iff]
            simp only
            omega
          · rw [if_neg (fun h => hlh h.2)]
            unfold mapN
            rw [if_neg (by omega), if_neg (by omega), if_pos a1, if_neg (by omega), if_neg (by omega), if_pos b1, Nd.eq_iff]
            simp only
            constructor
            · intro h; exact absurd ⟨h.2.2.2.1, h.2.2.2.2.1⟩ hlh
            · intro h; cases h
    · rw [if_neg (fun h => hop h.1)]
      constructor
      · intro h
        have e := congrArg Nd.op h
        have f : ∀ (sx rs : List Int) (n : Nd), (mapN sx rs n).op = n.op := fun sx rs n => by unfold mapN; split; rfl; split; rfl; split <;> rfl
        rw [f, f] at e
        exact absurd e hop
      · intro h; cases h

/-- a tree's nodes behind others -/
def moveN (n s : Int) (m : Nd) : Nd :=
  if m.op = 2 then { m with set := s + m.set } else if m.op = 3 ∨ m.op = 4 then { m with a := n + m.a, b := n + m.b } else if m.op = 5 then { m with a := n + m.a } else m
def graft (ns : List Nd) (S : List (List R)) (t : Tr) : Tr := ⟨ns ++ t.ns.map (moveN ns.length S.length), S ++ t.sets, ns.length + t.root⟩
theorem moveN_ok {m : Nd} {i s n k : Nat} (h : nodeB m i s = true) : nodeB (moveN n k m) (n + i : Nat) (k + s : Nat) = true := by
  rcases nodeB_ways h with ⟨h1, h2⟩ | ⟨h1, h2⟩ | ⟨h1, h2⟩ | ⟨h1, h2⟩
  · unfold moveN; rw [if_neg (by omega), if_neg (by omega), if_neg (by omega)]
    exact nodeB_mono h (by omega) (by omega)
  · unfold moveN; rw [if_pos h1]
    unfold nodeB; simp only
    rw [if_neg (by omega), if_pos h1]
    simp; omega
  · unfold moveN; rw [if_neg (by omega), if_pos h1]
    unfold nodeB; simp only
    rw [if_neg (by omega), if_neg (by omega), if_pos h1]
    simp; omega
  · unfold moveN; rw [if_neg (by omega), if_neg (by omega), if_pos h1]
    unfold nodeB at h ⊢; simp only
    rw [if_neg (by omega), if_neg (by omega), if_neg (by omega), if_pos h1] at h ⊢
    simp at h ⊢
    refine ⟨?_, h.2⟩
    omega
theorem nd_map {f : Nd → Nd} {l : List Nd} {i : Nat} (h : i < l.length) : nd (l.map f) i = f (nd l i) := by
  rw [nd_eq (by simpa using h), nd_eq h]; simp
theorem graft_node {ns : List Nd} {S : List (List R)} {t : Tr} {i : Nat} (h : i < t.ns.length) : nd (graft ns S t).ns (ns.length + i) = moveN ns.length S.length (nd t.ns i) := by
  unfold graft; simp only
  rw [nd_right, nd_map h]
theorem graft_ok {ns : List Nd} {S : List (List R)} {t : Tr} (ht : Ok t) (hS : ∀ s, s ∈ S → rightB s = true) (hn : ∀ i, i < ns.length → nodeB (nd ns i) i S.length = true) : Ok (graft ns S t) where
  root0 := by have := ht.root0; simp only [graft]; omega
  root1 := by have := ht.root1; simp only [graft, List.length_append, List.length_map]; omega
  sets := fun s hs => by
    simp only [graft, List.mem_append] at hs
    rcases hs with hs | hs
    · exact hS s hs
    · exact ht.sets s hs
  node := fun i hi => by
    have hl : (graft ns S t).sets.length = S.length + t.sets.length := by simp [graft]
    rw [hl]
    rcases Nat.lt_or_ge i ns.length with h | h
    · rw [show nd (graft ns S t).ns i = nd ns i by unfold graft; exact nd_left h]
      exact nodeB_mono (hn i h) (Int.le_refl _) (by omega)
    · obtain ⟨j, rfl⟩ : ∃ j, i = ns.length + j := ⟨i - ns.length, by omega⟩
      have hj : j < t.ns.length := by simp only [graft, List.length_append, List.length_map] at hi; omega
      rw [graft_node hj]
      exact moveN_ok (ht.node j hj)
theorem getD_right {α : Type} {l k : List α} {d : α} {i : Nat} : (l ++ k).getD (l.length + i) d = k.getD i d := by simp [List.getD, List.getElem?_append_right]
/-- what was grafted is the same as it was -/
theorem graft_same {ns : List Nd} {S : List (List R)} {t : Tr} (ht : Ok t) : ∀ x, x < t.ns.length → sameT (graft ns S t) t (ns.length + x) x = true := by
  intro x
  induction x using Nat.strongRecOn with
  | ind x ih =>
    intro hx
    rw [sameT, graft_node hx]
    rcases nodeB_ways (ht.node x hx) with ⟨h1, h2⟩ | ⟨h1, h2⟩ | ⟨h1, h2⟩ | ⟨h1, h2⟩
    · have e : moveN ns.length S.length (nd t.ns x) = nd t.ns x := by unfold moveN; rw [if_neg (by omega), if_neg (by omega), if_neg (by omega)]
      rw [e, if_pos ⟨rfl, rfl, rfl⟩, if_neg (by omega), if_neg (by omega), if_neg (by omega)]
    · have e : moveN ns.length S.length (nd t.ns x) = { nd t.ns x with set := S.length + (nd t.ns x).set } := by unfold moveN; rw [if_pos h1]
      rw [e]
      dsimp only
      rw [if_pos ⟨rfl, rfl, rfl⟩, if_pos h1, decide_eq_true_iff, show ((S.length : Int) + (nd t.ns x).set).toNat = S.length + (nd t.ns x).set.toNat by omega]
      show (S ++ t.sets).getD _ [] = _
      rw [getD_right]
    · have e : moveN ns.length S.length (nd t.ns x) = { nd t.ns x with a := ns.length + (nd t.ns x).a, b := ns.length + (nd t.ns x).b } := by unfold moveN; rw [if_neg (by omega), if_pos h1]
      rw [e]
      dsimp only
      rw [if_pos ⟨rfl, rfl, rfl⟩, if_neg (by omega), if_pos h1, if_pos (by omega), show ((ns.length : Int) + (nd t.ns x).a).toNat = ns.length + (nd t.ns x).a.toNat by omega, show ((ns.length : Int) + (nd t.ns x).b).toNat = ns.length + (nd t.ns x).b.toNat by omega,
        ih _ (by omega) (by omega), ih _ (by omega) (by omega)]; rfl
    · have e : moveN ns.length S.length (nd t.ns x) = { nd t.ns x with a := ns.length + (nd t.ns x).a } := by unfold moveN; rw [if_neg (by omega), if_neg (by omega), if_pos h1]
      rw [e]
      dsimp only
      rw [if_pos ⟨rfl, rfl, rfl⟩, if_neg (by omega), if_neg (by omega), if_pos h1, if_pos (by omega), show ((ns.length : Int) + (nd t.ns x).a).toNat = ns.length + (nd t.ns x).a.toNat by omega,
        ih _ (by omega) (by omega)]

end Go.Proofs.YtgjiofkjogjhhaaGreatDoor.Ar

namespace Go.Proofs.YtgjiofkjogjhhaaGreatDoor.Rg
open Go Go.RowKit Go.Shelf

theorem infoS : (Tryz.prog.info? 71).map (fun i => (i.zero, i.size, i.bytes)) = some (some (.slice none 0 0), 1, 24) := by kernel_rfl

/-- the i-th row -/
def nthL (L : List (List R)) (i : Nat) : List R := L.getD i []
theorem nthL_eq {L : List (List R)} {i : Nat} (h : i < L.length) : nthL L i = L[i] := by simp [nthL, List.getD, h]
/-- rows of two types are two rows -/
theorem row_apart {w : World} {B B' : Nat} {e e' : TypeId} {s s' n m : Nat} {v x : Value} {xs ys : List Value} (hne : e ≠ e') (h : w.ownsRow B e s v n xs) (k : w.ownsRow B' e' s' x m ys) : x.ownBlock = none ∨ x.ownBlock ≠ v.ownBlock := by
  rcases k.2 with ⟨rfl, _⟩ | ⟨g, cap, cur, rfl, _, hg, _⟩
  · exact .inl rfl
  · right
    intro he
    rcases h.2 with ⟨rfl, _⟩ | ⟨g', cap', cur', rfl, _, hg', _⟩
    · simp [Value.ownBlock] at he
    · simp only [Value.ownBlock, Option.some.injEq] at he
      subst he
      rw [hg] at hg'
      simp only [Option.some.injEq, Obj.cells.injEq] at hg'
      exact hne hg'.2.1.symm

/-- a slice of rows that the call owns, each of which it owns -/
structure RowsOwn (B : Nat) (w : World) (v : Value) (L : List (List R)) (xs : List Value) : Prop where
  own : w.ownsRow B 71 1 v L.length xs
  row : ∀ i, i < L.length → ∃ x, xs[i]? = some x ∧ w.ownsRow B 75 2 x (nthL L i).length (flatR (nthL L i))

theorem own_next {w w' : World} {B : Nat} {e : TypeId} {s n : Nat} {v : Value} {xs : List Value} (h : w.ownsRow B e s v n xs) (hb : Below w.heap.size w w') : w'.ownsRow B e s v n xs := by
  refine h.kept (grown_below hb) ?_
  rcases h.2 with ⟨rfl, _⟩ | ⟨g, cap, cur, rfl, _⟩
  · exact .inl rfl
  · exact .inr (by simp [Value.ownBlock])
theorem RowsOwn.next {B : Nat} {w w' : World} {v : Value} {L : List (List R)} {xs : List Value} (h : RowsOwn B w v L xs) (hb : Below w.heap.size w w') : RowsOwn B w' v L xs :=
  ⟨own_next h.own hb, fun i hi => by
    obtain ⟨x, h1, h2⟩ := h.row i hi
    exact ⟨x, h1, own_next h2 hb⟩⟩
theorem own_set {w : World} {B N : Nat} {e : TypeId} {s n : Nat} {v u : Value} {xs : List Value} (h : w.ownsRow B e s v n xs) (hN : N < B) : (w.setCell ⟨N, 0, none⟩ u).ownsRow B e s v n xs := by
  refine h.kept (grownBy_setCell' w N u) ?_
  rcases h.2 with ⟨rfl, _⟩ | ⟨g, cap, cur, rfl, hb, _⟩
  · exact .inl rfl
  · exact .inr (by simp [Value.ownBlock]; omega)
theorem RowsOwn.set {B N : Nat} {w : World} {v u : Value} {L : List (List R)} {xs : List Value} (h : RowsOwn B w v L xs) (hN : N < B) : RowsOwn B (w.setCell ⟨N, 0, none⟩ u) v L xs :=
  ⟨own_set h.own hN, fun i hi => by
    obtain ⟨x, h1, h2⟩ := h.row i hi
    exact ⟨x, h1, own_set h2 hN⟩⟩
theorem RowsOwn.nil (B : Nat) (w : World) : RowsOwn B w (.slice none 0 0) [] [] := ⟨World.ownsRow_nil _ _ _ _, fun i hi => by simp at hi⟩
/-- a row appended -/
theorem RowsOwn.app {B : Nat} {W w' : World} {v v' x : Value} {L : List (List R)} {l : List R} {xs : List Value} (h : RowsOwn B W v L xs) (hx : W.ownsRow B 75 2 x l.length (flatR l)) (hown : w'.ownsRow B 71 1 v' (L.length + 1) (xs ++ [x])) (hg : W.grownBy w' v.ownBlock) : RowsOwn B w' v' (L ++ [l]) (xs ++ [x]) := by
  have hl : xs.length = L.length := by have := h.own.1; omega
  refine ⟨by simpa using hown, fun i hi => ?_⟩
  rw [List.length_append, List.length_singleton] at hi
  rcases Nat.lt_or_ge i L.length with hlt | hge
  · obtain ⟨y, h1, h2⟩ := h.row i hlt
    refine ⟨y, by rw [List.getElem?_append_left (by omega)]; exact h1, ?_⟩
    rw [show nthL (L ++ [l]) i = nthL L i by simp [nthL, List.getElem?_append_left hlt]]
    exact h2.kept hg (row_apart (by decide) h.own h2)
  · obtain rfl : i = L.length := by omega
    refine ⟨x, by rw [← hl]; simp, ?_⟩
    rw [show nthL (L ++ [l]) L.length = l by simp [nthL]]
    exact hx.kept hg (row_apart (by decide) h.own hx)

/-- a slice that reads as these rows -/
def RowsAt (w : World) (v : Value) (L : List (List R)) : Prop :=
  (v = .slice none 0 0 ∧ L = []) ∨ ∃ (a : Addr) (cap : Nat), v = .slice (some a) L.length cap ∧ L.length ≤ maxLen ∧ ∀ i, i < L.length → ∃ x, w.cell? (a.add i) = some x ∧ RngsAt w x (nthL L i)
theorem RowsAt.next {w w' : World} {v : Value} {L : List (List R)} (h : RowsAt w v L) (hb : Below w.heap.size w w') : RowsAt w' v L := by
  rcases h with h | ⟨a, cap, hv, hm, hc⟩
  · exact .inl h
  · exact .inr ⟨a, cap, hv, hm, fun i hi => by obtain ⟨x, h1, h2⟩ := hc i hi; exact ⟨x, cell_next h1 hb, h2.next hb⟩⟩
theorem RowsAt.shape {w : World} {v : Value} {L : List (List R)} (h : RowsAt w v L) :
    ∃ (ao : Option Addr) (cap : Nat), v = .slice ao L.length cap ∧ L.length ≤ 9223372036854775807 ∧ ∀ i, i < L.length → ∃ g x, ao = some g ∧ w.cell? (g.add i) = some x ∧ RngsAt w x (nthL L i) := by
  rcases h with ⟨rfl, rfl⟩ | ⟨a, cap, hv, hm, hc⟩
  · exact ⟨none, 0, rfl, by simp, fun i hi => by simp at hi⟩
  · exact ⟨some a, cap, hv, by unfold maxLen at hm; omega, fun i hi => by obtain ⟨x, h1, h2⟩ := hc i hi; exact ⟨a, x, rfl, h1, h2⟩⟩
theorem RowsOwn.at' {B : Nat} {w : World} {v : Value} {L : List (List R)} {xs : List Value} (h : RowsOwn B w v L xs) : RowsAt w v L := by
  have hl : xs.length = L.length := by have := h.own.1; omega
  rcases h.own.2 with ⟨rfl, h0⟩ | ⟨g, cap, cur, rfl, _, hg, hn, hm, _, ht⟩
  · exact .inl ⟨rfl, List.eq_nil_of_length_eq_zero h0⟩
  · refine .inr ⟨⟨g, 0, none⟩, cap, rfl, by omega, fun i hi => ?_⟩
    obtain ⟨x, h1, h2⟩ := h.row i hi
    refine ⟨x, ?_, rngs_of_row h2⟩
    rw [add_zero]
    rw [← ht, List.getElem?_take] at h1
    split at h1
    · simp [World.cell?, hg]; simpa using h1
    · cases h1

theorem RowsOwn.base {B B' : Nat} {w : World} {v : Value} {L : List (List R)} {xs : List Value} (h : RowsOwn B w v L xs) (hb : B' ≤ B) : RowsOwn B' w v L xs :=
  ⟨row_base h.own hb, fun i hi => by
    obtain ⟨x, h1, h2⟩ := h.row i hi
    exact ⟨x, h1, row_base h2 hb⟩⟩

end Go.Proofs.YtgjiofkjogjhhaaGreatDoor.Rg

namespace Go.Proofs.YtgjiofkjogjhhaaGreatDoor.Ar
open Go Go.RowKit Go.Shelf
open Go.Proofs.YtgjiofkjogjhhaaGreatDoor.Rg (R RngsAt RowsAt nthL add_zero own_next)

def cellsN (n : Nd) : List Value := [.int .i64 n.op, .int .i64 n.a, .int .i64 n.b, .int .i64 n.lo, .int .i64 n.hi, .int .i64 n.set]
def aggN (n : Nd) : Value := .agg #[.int .i64 n.op, .int .i64 n.a, .int .i64 n.b, .int .i64 n.lo, .int .i64 n.hi, .int .i64 n.set]
def flatN (l : List Nd) : List Value := l.flatMap cellsN
theorem flatN_snoc (l : List Nd) (n : Nd) : flatN (l ++ [n]) = flatN l ++ cellsN n := by simp [flatN]
theorem flatN_append (l k : List Nd) : flatN (l ++ k) = flatN l ++ flatN k := by simp [flatN]
theorem flatN_len : ∀ l : List Nd, (flatN l).length = l.length * 6
  | [] => rfl
  | p :: r => by
    have := flatN_len r
    simp only [flatN, List.flatMap_cons, List.length_append, List.length_cons, List.length_nil, cellsN] at this ⊢
    omega
theorem flatN_at : ∀ (l : List Nd) (i : Nat), i < l.length → (flatN l)[i * 6]? = some (.int .i64 (nd l i).op) ∧ (flatN l)[i * 6 + 1]? = some (.int .i64 (nd l i).a) ∧ (flatN l)[i * 6 + 2]? = some (.int .i64 (nd l i).b) ∧ (flatN l)[i * 6 + 3]? = some (.int .i64 (nd l i).lo) ∧ (flatN l)[i * 6 + 4]? = some (.int .i64 (nd l i).hi) ∧ (flatN l)[i * 6 + 5]? = some (.int .i64 (nd l i).set)
  | [], i, h => by simp at h
  | p :: r, 0, h => by simp [flatN, nd, cellsN]
  | p :: r, i + 1, h => by
    have := flatN_at r i (by simpa using h)
    rw [show (i + 1) * 6 = (i * 6) + 1 + 1 + 1 + 1 + 1 + 1 by omega]
    simpa [flatN, nd, cellsN] using this
theorem flatN_one {l : List Nd} : ∀ u ∈ flatN l, u.oneCell' = true := by
  intro u hu
  simp only [flatN, List.mem_flatMap, cellsN, List.mem_cons, List.not_mem_nil, or_false] at hu
  obtain ⟨p, _, h⟩ := hu
  rcases h with rfl | rfl | rfl | rfl | rfl | rfl <;> simp [Value.oneCell']

/-- six cells from an address on -/
structure NodeAt (w : World) (g : Addr) (n : Nd) : Prop where
  c0 : w.cell? g = some (.int .i64 n.op)
  c1 : w.cell? ⟨g.block, g.off + 1, none⟩ = some (.int .i64 n.a)
  c2 : w.cell? ⟨g.block, g.off + 2, none⟩ = some (.int .i64 n.b)
  c3 : w.cell? ⟨g.block, g.off + 3, none⟩ = some (.int .i64 n.lo)
  c4 : w.cell? ⟨g.block, g.off + 4, none⟩ = some (.int .i64 n.hi)
  c5 : w.cell? ⟨g.block, g.off + 5, none⟩ = some (.int .i64 n.set)
theorem NodeAt.same {w w' : World} {g : Addr} {n : Nd} (h : NodeAt w g n) (hb : w'.heap[g.block]? = w.heap[g.block]?) : NodeAt w' g n := by
  have e : ∀ o, w'.cell? ⟨g.block, o, none⟩ = w.cell? ⟨g.block, o, none⟩ := fun o => World.cell?_of_block hb
  exact ⟨(World.cell?_of_block hb).trans h.c0, (e _).trans h.c1, (e _).trans h.c2, (e _).trans h.c3, (e _).trans h.c4, (e _).trans h.c5⟩
theorem NodeAt.next {w w' : World} {g : Addr} {n : Nd} (h : NodeAt w g n) (hb : Below w.heap.size w w') : NodeAt w' g n := h.same (hb.block _ (cell_lt h.c0))
theorem node_new (w : World) (n : Nd) (t : TypeId) : NodeAt (w.alloc (.cells #[.int .i64 n.op, .int .i64 n.a, .int .i64 n.b, .int .i64 n.lo, .int .i64 n.hi, .int .i64 n.set] t)) ⟨w.heap.size, 0, none⟩ n := by
  constructor <;> (rw [World.cell?_alloc_new]; rfl)

/-- a slice that reads as these nodes -/
def NodesAt (w : World) (v : Value) (l : List Nd) : Prop :=
  (v = .slice none 0 0 ∧ l = []) ∨ ∃ (a : Addr) (cap : Nat), v = .slice (some a) l.length cap ∧ l.length ≤ maxLen ∧ ∀ i, i < l.length → NodeAt w (a.add (i * 6)) (nd l i)
theorem NodesAt.next {w w' : World} {v : Value} {l : List Nd} (h : NodesAt w v l) (hb : Below w.heap.size w w') : NodesAt w' v l := by
  rcases h with h | ⟨a, cap, hv, hm, hc⟩
  · exact .inl h
  · exact .inr ⟨a, cap, hv, hm, fun i hi => (hc i hi).next hb⟩
theorem NodesAt.shape {w : World} {v : Value} {l : List Nd} (h : NodesAt w v l) :
    ∃ (ao : Option Addr) (cap : Nat), v = .slice ao l.length cap ∧ l.length ≤ 9223372036854775807 ∧ ∀ i, i < l.length → ∃ g, ao = some g ∧ NodeAt w (g.add (i * 6)) (nd l i) := by
  rcases h with ⟨rfl, rfl⟩ | ⟨a, cap, hv, hm, hc⟩
  · exact ⟨none, 0, rfl, by simp, fun i hi => by simp at hi⟩
  · exact ⟨some a, cap, hv, by unfold maxLen at hm; omega, fun i hi => ⟨a, rfl, hc i hi⟩⟩
/-- nodes that the call owns -/
abbrev NRow (w : World) (B : Nat) (v : Value) (l : List Nd) : Prop := w.ownsRow B 70 6 v l.length (flatN l)
theorem nodes_of_row {w : World} {B : Nat} {v : Value} {l : List Nd} (h : NRow w B v l) : NodesAt w v l := by
  rcases h.2 with ⟨rfl, h0⟩ | ⟨g, cap, cur, rfl, _, hg, hn, hm, hcs, ht⟩
  · exact .inl ⟨rfl, List.eq_nil_of_length_eq_zero h0⟩
  · have hx : ∀ j x, (flatN l)[j]? = some x → w.cell? ⟨g, j, none⟩ = some x := fun j x hj => by
      rw [← ht, List.getElem?_take] at hj
      split at hj
      · simp [World.cell?, hg]; simpa using hj
      · cases hj
    refine .inr ⟨⟨g, 0, none⟩, cap, rfl, by omega, fun i hi => ?_⟩
    obtain ⟨h0, h1, h2, h3, h4, h5⟩ := flatN_at l i hi
    rw [add_zero]
    exact ⟨hx _ _ h0, hx _ _ h1, hx _ _ h2, hx _ _ h3, hx _ _ h4, hx _ _ h5⟩

/-- a tree as a value -/
structure TreeAt (w : World) (v : Value) (t : Tr) : Prop where
  mk' : ∃ vn vs, v = .agg #[vn, vs, .int .i64 t.root] ∧ NodesAt w vn t.ns ∧ RowsAt w vs t.sets
theorem TreeAt.next {w w' : World} {v : Value} {t : Tr} (h : TreeAt w v t) (hb : Below w.heap.size w w') : TreeAt w' v t := by
  obtain ⟨vn, vs, e, h1, h2⟩ := h
  exact ⟨vn, vs, e, h1.next hb, h2.next hb⟩
theorem TreeAt.shape {w : World} {v : Value} {t : Tr} (h : TreeAt w v t) : ∃ (ao : Option Addr) (cap : Nat) (so : Option Addr) (scap : Nat), v = .agg #[.slice ao t.ns.length cap, .slice so t.sets.length scap, .int .i64 t.root] ∧ t.ns.length ≤ 9223372036854775807 ∧ t.sets.length ≤ 9223372036854775807 ∧
    (∀ i, i < t.ns.length → ∃ g, ao = some g ∧ NodeAt w (g.add (i * 6)) (nd t.ns i)) ∧ (∀ i, i < t.sets.length → ∃ g x, so = some g ∧ w.cell? (g.add i) = some x ∧ RngsAt w x (nthL t.sets i)) := by
  obtain ⟨vn, vs, e, h1, h2⟩ := h
  obtain ⟨ao, cap, rfl, hm, hc⟩ := h1.shape
  obtain ⟨so, scap, rfl, hm2, hc2⟩ := h2.shape
  exact ⟨ao, cap, so, scap, e, hm, hm2, hc, hc2⟩

theorem infoN : (Tryz.prog.info? 70).map (fun i => (i.zero, i.size, i.bytes)) = some (some (.agg #[.int .i64 0, .int .i64 0, .int .i64 0, .int .i64 0, .int .i64 0, .int .i64 0]), 6, 48) := by kernel_rfl

end Go.Proofs.YtgjiofkjogjhhaaGreatDoor.Ar

namespace Go.Proofs.YtgjiofkjogjhhaaGreatDoor.Ar
open Go Go.RowKit Go.Shelf
open Go.Proofs.YtgjiofkjogjhhaaGreatDoor.Rg (R RngsAt RowsAt nthL add_zero own_next)

theorem ret_e {a b : Int} (h : a = b) : Ending.returned (.int .i64 a) = .returned (.int .i64 b) := by rw [h]
/-- the box of a tree -/
def boxT (vn vs : Value) (r : Int) : Obj := .cells #[vn, vs, .int .i64 r] 38
structure TBox (W : World) (b : Nat) (vn vs : Value) (r : Int) : Prop where
  c0 : W.cell? ⟨b, 0, none⟩ = some vn
  c1 : W.cell? ⟨b, 1, none⟩ = some vs
  c2 : W.cell? ⟨b, 2, none⟩ = some (.int .i64 r)
theorem TBox.new (w : World) (vn vs : Value) (r : Int) : TBox (w.alloc (.cells #[vn, vs, .int .i64 r] 38)) w.heap.size vn vs r := by
  constructor <;> (rw [World.cell?_alloc_new]; rfl)
theorem TBox.next {W W' : World} {b : Nat} {vn vs : Value} {r : Int} (h : TBox W b vn vs r) (hb : Below W.heap.size W W') : TBox W' b vn vs r := ⟨cell_next h.c0 hb, cell_next h.c1 hb, cell_next h.c2 hb⟩

theorem check_big {t : Tr} (h : 4096 < t.ns.length ∨ 4096 < t.sets.length) : checkE t = 6 := by unfold checkE; rw [if_pos h]
theorem check_root {t : Tr} (h : ¬ (4096 < t.ns.length ∨ 4096 < t.sets.length)) (hr : rootB t = false) : checkE t = 3 := by unfold checkE okB; rw [if_neg h, hr]; rfl
theorem check_sets {t : Tr} (h : ¬ (4096 < t.ns.length ∨ 4096 < t.sets.length)) (hr : setsB t.sets t.sets.length = false) : checkE t = 3 := by unfold checkE okB; rw [if_neg h, hr, Bool.and_false, Bool.false_and]; rfl
theorem check_node {t : Tr} (h : ¬ (4096 < t.ns.length ∨ 4096 < t.sets.length)) (hr : allB t.ns t.sets.length t.ns.length = false) : checkE t = 3 := by unfold checkE okB; rw [if_neg h, hr, Bool.and_false]; rfl
theorem check_all {t : Tr} (h : ¬ (4096 < t.ns.length ∨ 4096 < t.sets.length)) (h1 : rootB t = true) (h2 : setsB t.sets t.sets.length = true) (h3 : allB t.ns t.sets.length t.ns.length = true) : checkE t = 0 := by unfold checkE okB; rw [if_neg h, h1, h2, h3]; rfl

end Go.Proofs.YtgjiofkjogjhhaaGreatDoor.Ar

namespace Go.Proofs.YtgjiofkjogjhhaaGreatDoor
open Go.RowKit

/-- a slice that reads as these texts -/
def StrsAt (w : World) (v : Value) (l : List ByteArray) : Prop :=
  (v = .slice none 0 0 ∧ l = []) ∨ ∃ (a : Addr) (cap : Nat), v = .slice (some a) l.length cap ∧ l.length ≤ maxLen ∧ ∀ i, i < l.length → w.cell? (a.add i) = some (.string (l.getD i ⟨#[]⟩))
theorem StrsAt.next {w w' : World} {v : Value} {l : List ByteArray} (h : StrsAt w v l) (hb : Below w.heap.size w w') : StrsAt w' v l := by
  rcases h with h | ⟨a, cap, hv, hm, hc⟩
  · exact .inl h
  · exact .inr ⟨a, cap, hv, hm, fun i hi => cell_next (hc i hi) hb⟩
theorem StrsAt.shape {w : World} {v : Value} {l : List ByteArray} (h : StrsAt w v l) :
    ∃ (ao : Option Addr) (cap : Nat), v = .slice ao l.length cap ∧ l.length ≤ 9223372036854775807 ∧ ∀ i, i < l.length → ∃ ad, ao = some ad ∧ w.cell? (ad.add i) = some (.string (l.getD i ⟨#[]⟩)) := by
  rcases h with ⟨rfl, rfl⟩ | ⟨a, cap, hv, hm, hc⟩
  · exact ⟨none, 0, rfl, by simp, fun i hi => by simp at hi⟩
  · exact ⟨some a, cap, hv, by unfold maxLen at hm; omega, fun i hi => ⟨a, rfl, hc i hi⟩⟩
theorem strs_nil (w : World) : StrsAt w (.slice none 0 0) [] := .inl ⟨rfl, rfl⟩

theorem bytes_eq {a b : ByteArray} (h : (a.toList == b.toList) = true) : a = b := by
  have h2 : a.toList = b.toList := by simpa using h
  rw [ByteArray.toList_eq, ByteArray.toList_eq] at h2
  exact ByteArray.ext (Array.toList_inj.1 h2)
end Go.Proofs.YtgjiofkjogjhhaaGreatDoor

namespace Go.Proofs.YtgjiofkjogjhhaaGreatDoor.Wd

/-- kinds of bytes -/
def blk (c : UInt8) : Bool := c.toNat == 32 || c.toNat == 9
def flb (c : UInt8) : Bool := !blk c
def dig (c : UInt8) : Bool := decide (48 ≤ c.toNat) && decide (c.toNat ≤ 57)
def ltr (c : UInt8) : Bool := (decide (97 ≤ c.toNat) && decide (c.toNat ≤ 122)) || (decide (65 ≤ c.toNat) && decide (c.toNat ≤ 90)) || c.toNat == 95
def nmd (c : UInt8) : Bool := ltr c || dig c
theorem ltr_not_dig {c : UInt8} (h : ltr c = true) : dig c = false := by unfold ltr at h; unfold dig; simp at h ⊢; omega

theorem len_size (s : ByteArray) : s.data.toList.length = s.size := rfl

/-- how many bytes of a kind a text begins with -/
def spanL (p : UInt8 → Bool) (l : List UInt8) : Nat := (l.takeWhile p).length
theorem spanL_nil (p : UInt8 → Bool) : spanL p [] = 0 := rfl
theorem spanL_yes {p : UInt8 → Bool} {c : UInt8} {r : List UInt8} (h : p c = true) : spanL p (c :: r) = spanL p r + 1 := by simp [spanL, h]
theorem spanL_no {p : UInt8 → Bool} {c : UInt8} {r : List UInt8} (h : p c = false) : spanL p (c :: r) = 0 := by simp [spanL, h]
theorem spanL_le (p : UInt8 → Bool) : ∀ l : List UInt8, spanL p l ≤ l.length
  | [] => Nat.le_refl _
  | c :: r => by
    have := spanL_le p r
    cases h : p c
    · rw [spanL_no h]; omega
    · rw [spanL_yes h, List.length_cons]; omega
theorem span_at {s : ByteArray} {k : Nat} (h : k < s.size) : s.data.toList.drop k = s[k]'h :: s.data.toList.drop (k + 1) :=
  List.drop_eq_getElem_cons (l := s.data.toList) h
theorem span_end {s : ByteArray} {k : Nat} (h : s.size ≤ k) : s.data.toList.drop k = [] := List.drop_eq_nil_of_le (by rw [len_size]; exact h)

/-- how many bytes of a name a text begins with -/
def leadL (l : List UInt8) : Nat := if 0 < spanL dig l then 0 else spanL nmd l
theorem leadL_le (l : List UInt8) : leadL l ≤ l.length := by
  unfold leadL; split
  · omega
  · exact spanL_le _ _
theorem leadL_dig {c : UInt8} {r : List UInt8} (h : dig c = true) : leadL (c :: r) = 0 := by unfold leadL; rw [spanL_yes h, if_pos (by omega)]
theorem leadL_ltr {c : UInt8} {r : List UInt8} (h : ltr c = true) : leadL (c :: r) = spanL nmd r + 1 := by
  unfold leadL; rw [spanL_no (ltr_not_dig h), if_neg (by omega), spanL_yes (by unfold nmd; rw [h]; rfl)]
theorem leadL_else {c : UInt8} {r : List UInt8} (h : ltr c = false) : leadL (c :: r) = 0 := by
  cases hd : dig c
  · unfold leadL; rw [spanL_no hd, if_neg (by omega), spanL_no (by unfold nmd; rw [h, hd]; rfl)]
  · exact leadL_dig hd

/-- whether a text is a name -/
def nameL (l : List UInt8) : Bool := decide (0 < l.length) && (decide (l.length ≤ 32) && decide (leadL l = l.length))

/-- where a number that may be outside stands -/
def cl (at_ : Int) (n : Nat) : Nat := (min (max at_ 0) n).toNat
theorem cl_le (a : Int) (n : Nat) : cl a n ≤ n := by unfold cl; omega
theorem cl_eq (a : Int) (n : Nat) : ((cl a n : Nat) : Int) = min (max a 0) n := by unfold cl; omega

/-- The words from here on: of where the word that is open begins, and where we are. -/
def wdL : Option Nat → Nat → List UInt8 → List (Nat × Nat)
  | none, _, [] => []
  | some f, i, [] => [(f, i)]
  | none, i, c :: r => if blk c then wdL none (i + 1) r else wdL (some i) (i + 1) r
  | some f, i, c :: r => if blk c then (f, i) :: wdL none (i + 1) r else wdL (some f) (i + 1) r
def wordsL (l : List UInt8) : List (Nat × Nat) := wdL none 0 l

theorem wdL_none_blk {c : UInt8} {r : List UInt8} {i : Nat} (h : blk c = true) : wdL none i (c :: r) = wdL none (i + 1) r := by simp [wdL, h]
theorem wdL_none_fl {c : UInt8} {r : List UInt8} {i : Nat} (h : blk c = false) : wdL none i (c :: r) = wdL (some i) (i + 1) r := by simp [wdL, h]
theorem wdL_some_blk {c : UInt8} {r : List UInt8} {f i : Nat} (h : blk c = true) : wdL (some f) i (c :: r) = (f, i) :: wdL none (i + 1) r := by simp [wdL, h]
theorem wdL_some_fl {c : UInt8} {r : List UInt8} {f i : Nat} (h : blk c = false) : wdL (some f) i (c :: r) = wdL (some f) (i + 1) r := by simp [wdL, h]

theorem wdL_blanks : ∀ (l : List UInt8) (i : Nat), wdL none i l = wdL none (i + spanL blk l) (l.drop (spanL blk l))
  | [], i => by rw [spanL_nil]; rfl
  | c :: r, i => by
    cases h : blk c
    · rw [spanL_no h]; rfl
    · rw [wdL_none_blk h, wdL_blanks r, spanL_yes h, List.drop_succ_cons]; congr 1; omega
theorem wdL_open : ∀ (l : List UInt8) (f i : Nat), wdL (some f) i l = (f, i + spanL flb l) :: wdL none (i + spanL flb l) (l.drop (spanL flb l))
  | [], f, i => by rw [spanL_nil]; rfl
  | c :: r, f, i => by
    cases h : blk c
    · rw [wdL_some_fl h, wdL_open r, spanL_yes (by unfold flb; rw [h]; rfl), List.drop_succ_cons]
      rw [show i + 1 + spanL flb r = i + (spanL flb r + 1) by omega]
    · rw [spanL_no (by unfold flb; rw [h]; rfl), wdL_some_blk h, List.drop_zero, wdL_none_blk h]
      rfl
/-- behind the blanks stands no blank -/
theorem drop_span_head {l : List UInt8} {p : UInt8 → Bool} {c : UInt8} {r : List UInt8} (h : l.drop (spanL p l) = c :: r) : p c = false := by
  induction l with
  | nil => simp at h
  | cons d t ih =>
    cases hp : p d
    · rw [spanL_no hp, List.drop_zero] at h
      injection h with h1 h2
      rw [← h1]; exact hp
    · rw [spanL_yes hp, List.drop_succ_cons] at h
      exact ih h
/-- one word, and what is behind it; or none -/
theorem wdL_none_left {l : List UInt8} {i : Nat} (h : spanL flb (l.drop (spanL blk l)) = 0) : wdL none i l = [] ∧ spanL blk l = l.length := by
  have hl := spanL_le blk l
  cases hd : l.drop (spanL blk l) with
  | nil =>
    refine ⟨by rw [wdL_blanks, hd]; rfl, ?_⟩
    have := congrArg List.length hd
    simp at this; omega
  | cons c r =>
    have hc := drop_span_head hd
    rw [hd, spanL_yes (by unfold flb; rw [hc]; rfl)] at h
    omega
theorem wdL_word {l : List UInt8} {i b n : Nat} (hb : spanL blk l = b) (hn : spanL flb (l.drop b) = n) (h : 0 < n) : wdL none i l = (i + b, i + b + n) :: wdL none (i + b + n) (l.drop (b + n)) := by
  subst hb
  rw [wdL_blanks]
  cases hd : l.drop (spanL blk l) with
  | nil => rw [hd, spanL_nil] at hn; omega
  | cons c r =>
    have hc := drop_span_head hd
    have hf : flb c = true := by unfold flb; rw [hc]; rfl
    have hd2 : (c :: r).drop n = l.drop (spanL blk l + n) := by rw [← hd, List.drop_drop]
    rw [hd, spanL_yes hf] at hn
    rw [wdL_none_fl hc, wdL_open, ← hd2, ← hn, List.drop_succ_cons]
    rw [show i + spanL blk l + 1 + spanL flb r = i + spanL blk l + (spanL flb r + 1) by omega]
theorem span_drop_le {l : List UInt8} {b n : Nat} (hb : spanL blk l = b) (hn : spanL flb (l.drop b) = n) : b + n ≤ l.length := by
  have h1 := spanL_le blk l
  have h2 := spanL_le flb (l.drop b)
  rw [List.length_drop] at h2
  omega

theorem wdL_len : ∀ (l : List UInt8) (o : Option Nat) (i : Nat), (wdL o i l).length ≤ l.length + o.toList.length
  | [], none, i => by simp [wdL]
  | [], some f, i => by simp [wdL]
  | c :: r, none, i => by
    cases h : blk c
    · have := wdL_len r (some i) (i + 1)
      rw [wdL_none_fl h]; simp at this ⊢; omega
    · have := wdL_len r none (i + 1)
      rw [wdL_none_blk h]; simp at this ⊢; omega
  | c :: r, some f, i => by
    cases h : blk c
    · have := wdL_len r (some f) (i + 1)
      rw [wdL_some_fl h]; simp at this ⊢; omega
    · have := wdL_len r none (i + 1)
      rw [wdL_some_blk h]; simp at this ⊢; omega

/-- the next word from here on, or the end -/
def nextL (s : List UInt8) (k : Nat) : Nat × Nat := (k + spanL blk (s.drop k), k + spanL blk (s.drop k) + spanL flb ((s.drop k).drop (spanL blk (s.drop k))))
/-- where a text without blanks at its ends ends -/
def trimTo (s : List UInt8) (from_ : Nat) : Nat → Nat
  | 0 => 0
  | k + 1 => if from_ < k + 1 ∧ blk (s.getD k 0) = true then trimTo s from_ k else k + 1

/-- Words are apart: 'at_': behind the last one; 'st': whether there was one. -/
def Apart (l : List UInt8) : Nat → Bool → List (Nat × Nat) → Prop
  | at_, _, [] => ∀ j, at_ ≤ j → (h : j < l.length) → blk l[j] = true
  | at_, st, (a, b) :: r => at_ ≤ a ∧ (st = true → at_ < a) ∧ a < b ∧ b ≤ l.length ∧ (∀ j, at_ ≤ j → j < a → (h : j < l.length) → blk l[j] = true) ∧ (∀ j, a ≤ j → j < b → (h : j < l.length) → blk l[j] = false) ∧ Apart l b true r
theorem apart_of (l : List UInt8) : ∀ (rest : List UInt8) (i : Nat), l.drop i = rest → i ≤ l.length →
    (∀ at_ st, at_ ≤ i → (st = true → rest ≠ [] → (∃ c r, rest = c :: r ∧ blk c = true) ∨ at_ < i) → (∀ j, at_ ≤ j → j < i → (h : j < l.length) → blk l[j] = true) → Apart l at_ st (wdL none i rest)) ∧
    (∀ at_ st f, at_ ≤ f → (st = true → at_ < f) → f < i → (∀ j, at_ ≤ j → j < f → (h : j < l.length) → blk l[j] = true) → (∀ j, f ≤ j → j < i → (h : j < l.length) → blk l[j] = false) → Apart l at_ st (wdL (some f) i rest))
  | [], i, hd, hi => by
    have hl : l.length ≤ i := List.drop_eq_nil_iff.1 hd
    refine ⟨fun at_ st h1 _ h3 => fun j hj hjl => h3 j hj (by omega) hjl, fun at_ st f h1 h2 h3 h4 h5 => ?_⟩
    exact ⟨h1, h2, h3, hi, h4, h5, fun j hj hjl => by omega⟩
  | c :: r, i, hd, hi => by
    have hlt : i < l.length := by
      rcases Nat.lt_or_ge i l.length with h | h
      · exact h
      · rw [List.drop_eq_nil_of_le h] at hd; cases hd
    rw [List.drop_eq_getElem_cons hlt] at hd
    injection hd with hc hr
    obtain ⟨g1, g2⟩ := apart_of l r (i + 1) hr hlt
    refine ⟨fun at_ st h1 h2 h3 => ?_, fun at_ st f h1 h2 h3 h4 h5 => ?_⟩
    · cases hb : blk c
      · rw [wdL_none_fl hb]
        refine g2 at_ st i h1 (fun hst => ?_) (by omega) h3 (fun j hj1 hj2 h => ?_)
        · rcases h2 hst (by simp) with ⟨c', r', he, hbl⟩ | h
          · injection he with e1 e2
            rw [← e1, hb] at hbl; cases hbl
          · exact h
        · obtain rfl : j = i := by omega
          rw [hc]; exact hb
      · rw [wdL_none_blk hb]
        refine g1 at_ st (by omega) (fun _ _ => .inr (by omega)) (fun j hj1 hj2 h => ?_)
        rcases Nat.lt_or_ge j i with h' | h'
        · exact h3 j hj1 h' h
        · obtain rfl : j = i := by omega
          rw [hc]; exact hb
    · cases hb : blk c
      · rw [wdL_some_fl hb]
        refine g2 at_ st f h1 h2 (by omega) h4 (fun j hj1 hj2 h => ?_)
        rcases Nat.lt_or_ge j i with h' | h'
        · exact h5 j hj1 h' h
        · obtain rfl : j = i := by omega
          rw [hc]; exact hb
      · rw [wdL_some_blk hb]
        refine ⟨h1, h2, h3, hi, h4, h5, ?_⟩
        refine g1 i true (by omega) (fun _ _ => .inr (by omega)) (fun j hj1 hj2 h => ?_)
        obtain rfl : j = i := by omega
        rw [hc]; exact hb
theorem apart_words (l : List UInt8) : Apart l 0 false (wordsL l) :=
  (apart_of l l 0 rfl (Nat.zero_le _)).1 0 false (Nat.le_refl _) (fun h => by cases h) (fun j _ h => by omega)

end Go.Proofs.YtgjiofkjogjhhaaGreatDoor.Wd

namespace Go.Proofs.YtgjiofkjogjhhaaGreatDoor.Ac
open Go.Proofs.YtgjiofkjogjhhaaGreatDoor.Wd

def bE : ByteArray := ⟨#[]⟩
def bSkip : ByteArray := ⟨#[115, 107, 105, 112]⟩
def bEmit : ByteArray := ⟨#[101, 109, 105, 116]⟩
def bGoto : ByteArray := ⟨#[103, 111, 116, 111]⟩

/-- a name's first place among names, or -1 -/
def numFrom (k : Nat) : List ByteArray → ByteArray → Int
  | [], _ => -1
  | x :: r, m => if x = m then (k : Int) else numFrom (k + 1) r m
def numL (l : List ByteArray) (m : ByteArray) : Int := numFrom 0 l m
theorem numFrom_at : ∀ (l : List ByteArray) (m : ByteArray) (k i : Nat), i < l.length → l.getD i bE = m → (∀ j, j < i → l.getD j bE ≠ m) → numFrom k l m = ((k + i : Nat) : Int)
  | [], _, _, _, h, _, _ => by simp at h
  | x :: r, m, k, 0, _, h, _ => by
    have : x = m := by simpa using h
    simp [numFrom, this]
  | x :: r, m, k, i + 1, hl, h, hn => by
    have h0 : x ≠ m := by simpa using hn 0 (by omega)
    rw [numFrom, if_neg h0, numFrom_at r m (k + 1) i (by simpa using hl) (by simpa using h) (fun j hj => by simpa using hn (j + 1) (by omega))]
    congr 1; omega
theorem numFrom_no : ∀ (l : List ByteArray) (m : ByteArray) (k : Nat), (∀ j, j < l.length → l.getD j bE ≠ m) → numFrom k l m = -1
  | [], _, _, _ => rfl
  | x :: r, m, k, hn => by
    have h0 : x ≠ m := by simpa using hn 0 (by simp)
    rw [numFrom, if_neg h0]
    exact numFrom_no r m (k + 1) (fun j hj => by simpa using hn (j + 1) (by simpa using hj))
theorem num_at {l : List ByteArray} {m : ByteArray} {i : Nat} (h : i < l.length) (he : l.getD i bE = m) (hn : ∀ j, j < i → l.getD j bE ≠ m) : numL l m = (i : Int) := by
  unfold numL; rw [numFrom_at l m 0 i h he hn]; congr 1; omega
theorem num_no {l : List ByteArray} {m : ByteArray} (hn : ∀ j, j < l.length → l.getD j bE ≠ m) : numL l m = -1 := numFrom_no l m 0 hn
/-- either there is a first place, or none -/
theorem num_ways (l : List ByteArray) (m : ByteArray) : (∃ i, i < l.length ∧ numL l m = (i : Int) ∧ l.getD i bE = m ∧ ∀ j, j < i → l.getD j bE ≠ m) ∨ (numL l m = -1 ∧ ∀ j, j < l.length → l.getD j bE ≠ m) := by
  by_cases h : ∀ j, j < l.length → l.getD j bE ≠ m
  · exact .inr ⟨num_no h, h⟩
  · refine .inl ?_
    have hx : ∃ n, n < l.length ∧ l.getD n bE = m := Classical.byContradiction fun hc => h fun j hj he => hc ⟨j, hj, he⟩
    obtain ⟨n, hn⟩ := hx
    have key : ∀ n, (n < l.length ∧ l.getD n bE = m) → ∃ i, i < l.length ∧ l.getD i bE = m ∧ ∀ j, j < i → l.getD j bE ≠ m := by
      intro n
      induction n using Nat.strongRecOn with
      | ind n ih =>
        rintro ⟨h1, h2⟩
        by_cases hf : ∃ j, j < n ∧ l.getD j bE = m
        · obtain ⟨j, hj, he⟩ := hf
          exact ih j hj ⟨by omega, he⟩
        · exact ⟨n, h1, h2, fun j hj he => hf ⟨j, hj, he⟩⟩
    obtain ⟨i, h1, h2, h3⟩ := key n hn
    exact ⟨i, h1, num_at h1 h2 h3, h2, h3⟩
theorem num_lt (l : List ByteArray) (m : ByteArray) : -1 ≤ numL l m ∧ numL l m < l.length := by
  rcases num_ways l m with ⟨i, h, e, _⟩ | ⟨e, _⟩ <;> rw [e] <;> omega

/-- what is read: the name, the mode's number, the error, its place -/
structure Res where
  emit : ByteArray
  goto : Int
  e : Int
  at_ : Int
def bad (e : Int) (p : Nat) : Res := ⟨bE, 0, e, p⟩

section
variable (t : Nat → ByteArray) (p : Nat → Nat) (M : List ByteArray)
def fin5 (k : Nat) (emit : ByteArray) (g : Int) : Res := if t k = bE then ⟨emit, g, 0, 0⟩ else bad 3 (p k)
def fin4 (k : Nat) (emit : ByteArray) : Res :=
  if t k = bE then bad 3 (p k) else if nameL (t k).data.toList = false then bad 4 (p k) else if numL M (t k) = -1 then bad 11 (p k) else fin5 t p (k + 1) emit (numL M (t k))
def fin3 (k : Nat) (emit : ByteArray) : Res := if t k = bE then ⟨emit, -1, 0, 0⟩ else if t k = bGoto then fin4 t p M (k + 1) emit else bad 3 (p k)
def fin2 (k : Nat) : Res := if t k = bE then bad 3 (p k) else if nameL (t k).data.toList = false then bad 4 (p k) else fin3 t p M (k + 1) (t k)
def fin1 : Res := if t 0 = bSkip then fin3 t p M 1 bE else if t 0 = bEmit then fin2 t p M 1 else bad 3 (p 0)
/-- what is to be told at a place, a name and a mode's number given -/
def fin (place k : Nat) (emit : ByteArray) (g : Int) : Res :=
  match place with
  | 1 => fin1 t p M
  | 2 => fin2 t p M k
  | 3 => fin3 t p M k emit
  | 4 => fin4 t p M k emit
  | _ => fin5 t p k emit g
end

/-- the k-th word, and where it begins -/
def txt (s : ByteArray) (ws : List (Nat × Nat)) (k : Nat) : ByteArray := match ws[k]? with
  | some q => s.extract q.1 q.2
  | none => bE
def pos (s : ByteArray) (ws : List (Nat × Nat)) (k : Nat) : Nat := match ws[k]? with
  | some q => q.1
  | none => s.size
def parseL (s : ByteArray) (M : List ByteArray) : Res := fin1 (txt s (wordsL s.data.toList)) (pos s (wordsL s.data.toList)) M

theorem ext_list (s : ByteArray) (a b : Nat) : (s.extract a b).data.toList = (s.data.toList.drop a).take (b - a) := by
  rw [ByteArray.data_extract, Array.toList_extract, List.extract_eq_take_drop]
theorem bytes_ext {a b : ByteArray} (h : a.data.toList = b.data.toList) : a = b := ByteArray.ext (Array.toList_inj.1 h)
theorem bE_list : bE.data.toList = [] := rfl
theorem size_ne {a : ByteArray} (h : 0 < a.size) : a ≠ bE := by rintro rfl; exact absurd h (by decide)
theorem ext_ne {s : ByteArray} {a b : Nat} (h : a < b) (hb : b ≤ s.size) : s.extract a b ≠ bE := size_ne (by rw [ByteArray.size_extract]; omega)
theorem ext_end (s : ByteArray) : s.extract s.size s.size = bE := bytes_ext (by rw [ext_list, Nat.sub_self]; rfl)

/-- the words of words that have no blanks, one blank between -/
def joinW : List (List UInt8) → List UInt8
  | [] => []
  | [w] => w
  | w :: x :: r => w ++ 32 :: joinW (x :: r)
def posW : Nat → List (List UInt8) → List (Nat × Nat)
  | _, [] => []
  | i, w :: r => (i, i + w.length) :: posW (i + w.length + 1) r
def Full (w : List UInt8) : Prop := w ≠ [] ∧ ∀ c ∈ w, blk c = false
theorem span_all {p : UInt8 → Bool} : ∀ {w : List UInt8}, (∀ c ∈ w, p c = true) → ∀ r, spanL p (w ++ r) = w.length + spanL p r
  | [], _, r => by simp
  | c :: t, h, r => by
    rw [List.cons_append, spanL_yes (h c (by simp)), span_all (fun d hd => h d (by simp [hd])) r, List.length_cons]; omega
theorem open_full : ∀ {w : List UInt8}, (∀ c ∈ w, blk c = false) → ∀ (f i : Nat) (r : List UInt8), wdL (some f) i (w ++ r) = wdL (some f) (i + w.length) r
  | [], _, f, i, r => by simp
  | c :: t, h, f, i, r => by
    rw [List.cons_append, wdL_some_fl (h c (by simp)), open_full (fun d hd => h d (by simp [hd])) f (i + 1) r, List.length_cons, show i + 1 + t.length = i + (t.length + 1) by omega]
theorem none_full {w : List UInt8} (h : Full w) (i : Nat) (r : List UInt8) : wdL none i (w ++ r) = wdL (some i) (i + w.length) r := by
  obtain ⟨hne, hb⟩ := h
  cases w with
  | nil => exact absurd rfl hne
  | cons c t =>
    rw [List.cons_append, wdL_none_fl (hb c (by simp)), open_full (fun d hd => hb d (by simp [hd])) i (i + 1) r, List.length_cons, show i + 1 + t.length = i + (t.length + 1) by omega]
theorem blk_32 : blk 32 = true := by decide
theorem words_join : ∀ (ws : List (List UInt8)) (i : Nat), (∀ w ∈ ws, Full w) → wdL none i (joinW ws) = posW i ws
  | [], i, _ => rfl
  | [w], i, h => by
    have := none_full (h w (by simp)) i []
    rw [List.append_nil] at this
    rw [joinW, this]; rfl
  | w :: x :: r, i, h => by
    rw [joinW, none_full (h w (by simp)) i, wdL_some_blk blk_32, words_join (x :: r) (i + w.length + 1) (fun y hy => h y (by simp [List.mem_cons.1 hy]))]
    rfl
theorem posW_at : ∀ (ws : List (List UInt8)) (i : Nat) (pre : List UInt8), pre.length = i → ∀ k, k < ws.length → ∃ a b, (posW i ws)[k]? = some (a, b) ∧ ((pre ++ joinW ws).drop a).take (b - a) = ws.getD k []
  | [], _, _, _, k, h => by simp at h
  | [w], i, pre, hp, k, h => by
    obtain rfl : k = 0 := by simp at h; omega
    refine ⟨i, i + w.length, rfl, ?_⟩
    rw [← hp, List.drop_left, joinW, Nat.add_sub_cancel_left, List.take_length]; rfl
  | w :: x :: r, i, pre, hp, 0, h => by
    refine ⟨i, i + w.length, rfl, ?_⟩
    rw [← hp, List.drop_left, joinW, Nat.add_sub_cancel_left, List.take_left]; rfl
  | w :: x :: r, i, pre, hp, k + 1, h => by
    obtain ⟨a, b, h1, h2⟩ := posW_at (x :: r) (i + w.length + 1) (pre ++ w ++ [32]) (by simp; omega) k (by simpa using h)
    refine ⟨a, b, h1, ?_⟩
    rw [joinW]
    simpa using h2
theorem posW_len : ∀ (ws : List (List UInt8)) (i : Nat), (posW i ws).length = ws.length
  | [], _ => rfl
  | w :: r, i => by rw [posW, List.length_cons, List.length_cons, posW_len r]
/-- the words of a text that is joined -/
theorem txt_join {s : ByteArray} {ws : List (List UInt8)} (hs : s.data.toList = joinW ws) (h : ∀ w ∈ ws, Full w) (k : Nat) : (txt s (wordsL s.data.toList) k).data.toList = ws.getD k [] := by
  have hw : wordsL s.data.toList = posW 0 ws := by rw [hs]; exact words_join ws 0 h
  unfold txt
  rw [hw]
  rcases Nat.lt_or_ge k ws.length with hk | hk
  · obtain ⟨a, b, h1, h2⟩ := posW_at ws 0 [] rfl k hk
    rw [h1]
    dsimp only
    rw [ext_list, hs]
    exact h2
  · rw [List.getElem?_eq_none (by rw [posW_len]; exact hk)]
    simp [bE_list, hk]

theorem nmd_full {c : UInt8} (h : nmd c = true) : blk c = false := by
  unfold nmd ltr dig at h
  unfold blk
  simp at h ⊢
  omega
theorem span_full {p : UInt8 → Bool} : ∀ {l : List UInt8}, spanL p l = l.length → ∀ c ∈ l, p c = true
  | [], _, _, hc => by cases hc
  | d :: t, h, c, hc => by
    cases hd : p d
    · rw [spanL_no hd] at h; simp at h
    · rw [spanL_yes hd, List.length_cons] at h
      rcases List.mem_cons.1 hc with rfl | hc
      · exact hd
      · exact span_full (by omega) c hc
theorem name_full {l : List UInt8} (h : nameL l = true) : Full l := by
  unfold nameL at h
  simp only [Bool.and_eq_true, decide_eq_true_eq] at h
  obtain ⟨h1, _, h2⟩ := h
  refine ⟨fun e => by rw [e] at h1; simp at h1, fun c hc => ?_⟩
  unfold leadL at h2
  split at h2
  · omega
  · exact nmd_full (span_full h2 c hc)
theorem name_ne {a : ByteArray} (h : nameL a.data.toList = true) : a ≠ bE := by
  rintro rfl
  exact (name_full h).1 rfl
theorem skip_full : Full bSkip.data.toList := ⟨by decide, by decide⟩
theorem emit_full : Full bEmit.data.toList := ⟨by decide, by decide⟩
theorem goto_full : Full bGoto.data.toList := ⟨by decide, by decide⟩

/-- an action's words -/
def actW (emit : ByteArray) (g : Int) (M : List ByteArray) : List ByteArray :=
  (if emit = bE then [bSkip] else [bEmit, emit]) ++ (if g = -1 then [] else [bGoto, M.getD g.toNat bE])
def joinB (ws : List ByteArray) : ByteArray := ⟨(joinW (ws.map fun w => w.data.toList)).toArray⟩
def rightB (emit : ByteArray) (g : Int) (M : List ByteArray) : Bool :=
  (decide (emit = bE) || nameL emit.data.toList) && (decide (g = -1) || (decide (0 ≤ g) && decide (g < M.length) && decide (numL M (M.getD g.toNat bE) = g)))
def textB (emit : ByteArray) (g : Int) (M : List ByteArray) : ByteArray := joinB (actW emit g M)
/-- names, all unlike -/
def modesB (M : List ByteArray) : Prop := ∀ i, i < M.length → nameL (M.getD i bE).data.toList = true ∧ numL M (M.getD i bE) = (i : Int)

theorem getD_map (ws : List ByteArray) (k : Nat) : (ws.map fun w => w.data.toList).getD k [] = (ws.getD k bE).data.toList := by
  rcases Nat.lt_or_ge k ws.length with h | h
  · simp [List.getD, h]
  · simp [List.getD, h, bE]
theorem txt_joinB {ws : List ByteArray} (h : ∀ w ∈ ws, Full w.data.toList) (k : Nat) : txt (joinB ws) (wordsL (joinB ws).data.toList) k = ws.getD k bE := by
  refine bytes_ext ?_
  rw [txt_join (ws := ws.map fun w => w.data.toList) (by simp [joinB]) (fun w hw => by
    obtain ⟨x, hx, rfl⟩ := List.mem_map.1 hw
    exact h x hx), getD_map]

theorem goto_ne : bGoto ≠ bE := by decide
theorem skip_ne : bSkip ≠ bE := by decide
theorem emit_ne : bEmit ≠ bE := by decide
theorem emit_skip : bEmit ≠ bSkip := by decide

theorem back_right {emit : ByteArray} {g : Int} {M : List ByteArray} (hM : modesB M) (h1 : emit = bE ∨ nameL emit.data.toList = true) (h2 : g = -1 ∨ (0 ≤ g ∧ g < M.length)) : parseL (textB emit g M) M = ⟨emit, g, 0, 0⟩ := by
  have hmode : g ≠ -1 → nameL (M.getD g.toNat bE).data.toList = true ∧ numL M (M.getD g.toNat bE) = g := fun hg => by
    rcases h2 with h | ⟨a, b⟩
    · exact absurd h hg
    · have := hM g.toNat (by omega)
      exact ⟨this.1, by rw [this.2]; omega⟩
  have hF : ∀ w ∈ actW emit g M, Full w.data.toList := by
    intro w hw
    unfold actW at hw
    rcases List.mem_append.1 hw with hw | hw
    · split at hw
      · obtain rfl : w = bSkip := by simpa using hw
        exact skip_full
      · rename_i hne
        rcases List.mem_cons.1 hw with rfl | hw
        · exact emit_full
        · obtain rfl : w = emit := by simpa using hw
          exact name_full (h1.resolve_left hne)
    · split at hw
      · cases hw
      · rename_i hg
        rcases List.mem_cons.1 hw with rfl | hw
        · exact goto_full
        · obtain rfl : w = M.getD g.toNat bE := by simpa using hw
          exact name_full (hmode hg).1
  unfold parseL textB
  have ht := fun k => txt_joinB hF k
  generalize txt (joinB (actW emit g M)) (wordsL (joinB (actW emit g M)).data.toList) = t at *
  generalize pos (joinB (actW emit g M)) (wordsL (joinB (actW emit g M)).data.toList) = p at *
  unfold actW at ht
  have tail : ∀ k e, (∀ j, t (k + j) = (if g = -1 then [] else [bGoto, M.getD g.toNat bE]).getD j bE) → fin3 t p M k e = ⟨e, g, 0, 0⟩ := fun k e hk => by
    have k0 := hk 0
    have k1 := hk 1
    have k2 := hk 2
    simp only [Nat.add_zero] at k0
    unfold fin3
    by_cases hg : g = -1
    · rw [if_pos hg] at k0
      rw [if_pos (by rw [k0]; rfl), hg]
    · obtain ⟨m1, m2⟩ := hmode hg
      rw [if_neg hg] at k0 k1 k2
      have k0' : t k = bGoto := k0
      have k1' : t (k + 1) = M.getD g.toNat bE := k1
      have k2' : t (k + 2) = bE := k2
      rw [k0', if_neg goto_ne, if_pos rfl]
      unfold fin4 fin5
      rw [k1', if_neg (name_ne m1), if_neg (by rw [m1]; simp), if_neg (by rw [m2]; exact hg), m2, k2', if_pos rfl]
  unfold fin1
  by_cases he : emit = bE
  · rw [if_pos he] at ht
    have h0 : t 0 = bSkip := ht 0
    rw [h0, if_pos rfl, tail 1 bE (fun j => by rw [ht, Nat.add_comm]; rfl), he]
  · rw [if_neg he] at ht
    have h0 : t 0 = bEmit := ht 0
    have h1' : t 1 = emit := ht 1
    have hn := h1.resolve_left he
    rw [h0, if_neg emit_skip, if_pos rfl]
    unfold fin2
    rw [h1', if_neg he, if_neg (by rw [hn]; simp), tail 2 emit (fun j => by rw [ht, Nat.add_comm]; rfl)]

/-- what is read may be -/
theorem fin_right {t : Nat → ByteArray} {p : Nat → Nat} {M : List ByteArray} (h : (fin1 t p M).e = 0) : ((fin1 t p M).emit = bE ∨ nameL (fin1 t p M).emit.data.toList = true) ∧ ((fin1 t p M).goto = -1 ∨ (0 ≤ (fin1 t p M).goto ∧ (fin1 t p M).goto < M.length)) := by
  have k5 : ∀ k e g, (fin5 t p k e g).e = 0 → fin5 t p k e g = ⟨e, g, 0, 0⟩ := fun k e g h => by
    unfold fin5 at *
    split
    · rfl
    · rename_i hc; rw [if_neg hc] at h; cases h
  have k4 : ∀ k e, (fin4 t p M k e).e = 0 → ∃ g, fin4 t p M k e = ⟨e, g, 0, 0⟩ ∧ 0 ≤ g ∧ g < M.length := fun k e h => by
    unfold fin4 at *
    by_cases c1 : t k = bE
    · rw [if_pos c1] at h; cases h
    · rw [if_neg c1] at h ⊢
      by_cases c2 : nameL (t k).data.toList = false
      · rw [if_pos c2] at h; cases h
      · rw [if_neg c2] at h ⊢
        by_cases c3 : numL M (t k) = -1
        · rw [if_pos c3] at h; cases h
        · rw [if_neg c3] at h ⊢
          have := num_lt M (t k)
          exact ⟨_, k5 _ _ _ h, by omega, by omega⟩
  have k3 : ∀ k e, (fin3 t p M k e).e = 0 → ∃ g, fin3 t p M k e = ⟨e, g, 0, 0⟩ ∧ (g = -1 ∨ (0 ≤ g ∧ g < M.length)) := fun k e h => by
    unfold fin3 at *
    by_cases c1 : t k = bE
    · rw [if_pos c1] at h ⊢; exact ⟨_, rfl, .inl rfl⟩
    · rw [if_neg c1] at h ⊢
      by_cases c2 : t k = bGoto
      · rw [if_pos c2] at h ⊢
        obtain ⟨g, h1, h2⟩ := k4 _ _ h
        exact ⟨g, h1, .inr h2⟩
      · rw [if_neg c2] at h; cases h
  have k2 : ∀ k, (fin2 t p M k).e = 0 → ∃ e g, fin2 t p M k = ⟨e, g, 0, 0⟩ ∧ nameL e.data.toList = true ∧ (g = -1 ∨ (0 ≤ g ∧ g < M.length)) := fun k h => by
    unfold fin2 at *
    by_cases c1 : t k = bE
    · rw [if_pos c1] at h; cases h
    · rw [if_neg c1] at h ⊢
      by_cases c2 : nameL (t k).data.toList = false
      · rw [if_pos c2] at h; cases h
      · rw [if_neg c2] at h ⊢
        obtain ⟨g, h1, h2⟩ := k3 _ _ h
        exact ⟨_, g, h1, by simpa using c2, h2⟩
  unfold fin1 at *
  by_cases c1 : t 0 = bSkip
  · rw [if_pos c1] at h ⊢
    obtain ⟨g, h1, h2⟩ := k3 _ _ h
    rw [h1]; exact ⟨.inl rfl, h2⟩
  · rw [if_neg c1] at h ⊢
    by_cases c2 : t 0 = bEmit
    · rw [if_pos c2] at h ⊢
      obtain ⟨e, g, h1, hn, h2⟩ := k2 _ h
      rw [h1]; exact ⟨.inr hn, h2⟩
    · rw [if_neg c2] at h; cases h
theorem right_iff {emit : ByteArray} {g : Int} {M : List ByteArray} (hM : modesB M) (h1 : emit = bE ∨ nameL emit.data.toList = true) (h2 : g = -1 ∨ (0 ≤ g ∧ g < M.length)) : rightB emit g M = true := by
  unfold rightB
  rw [Bool.and_eq_true, Bool.or_eq_true, Bool.or_eq_true]
  refine ⟨h1.imp (fun h => by simpa using h) id, h2.imp (fun h => by simpa using h) (fun h => ?_)⟩
  have := (hM g.toNat (by omega)).2
  simp only [Bool.and_eq_true, decide_eq_true_eq]
  exact ⟨⟨h.1, h.2⟩, by rw [this]; omega⟩

/-- the next word, from a place on -/
theorem next_step {l : List UInt8} {K : Nat} (hK : K ≤ l.length) :
    (wdL none K (l.drop K) = [] ∧ nextL l K = (l.length, l.length)) ∨
    ∃ a b, wdL none K (l.drop K) = (a, b) :: wdL none b (l.drop b) ∧ nextL l K = (a, b) ∧ a < b ∧ b ≤ l.length := by
  obtain ⟨m, hm⟩ : ∃ m, spanL blk (l.drop K) = m := ⟨_, rfl⟩
  obtain ⟨n, hn⟩ : ∃ n, spanL flb ((l.drop K).drop m) = n := ⟨_, rfl⟩
  by_cases h0 : n = 0
  · subst h0
    left
    have hb := wdL_none_left (i := K) (show spanL flb ((l.drop K).drop (spanL blk (l.drop K))) = 0 by rw [hm]; exact hn)
    refine ⟨hb.1, ?_⟩
    have := hb.2
    rw [List.length_drop] at this
    unfold nextL
    rw [hm, hn]
    simp only [Prod.mk.injEq]; omega
  · right
    refine ⟨K + m, K + m + n, ?_, ?_, by omega, ?_⟩
    · rw [wdL_word hm hn (by omega), List.drop_drop, ← Nat.add_assoc]
    · unfold nextL; rw [hm, hn]
    · have := span_drop_le hm hn
      rw [List.length_drop] at this; omega
/-- the next word of a text whose first k words have been read -/
theorem round_word {s : ByteArray} {K k : Nat} (hK : K ≤ s.size) (h : wdL none K (s.data.toList.drop K) = (wordsL s.data.toList).drop k) :
    ∃ a b, nextL s.data.toList K = (a, b) ∧ a ≤ b ∧ b ≤ s.size ∧ s.extract a b = txt s (wordsL s.data.toList) k ∧ a = pos s (wordsL s.data.toList) k ∧ wdL none b (s.data.toList.drop b) = (wordsL s.data.toList).drop (k + 1) := by
  rcases next_step (l := s.data.toList) (K := K) (by rw [len_size]; exact hK) with ⟨h1, h2⟩ | ⟨a, b, h1, h2, h3, h4⟩
  · rw [h1] at h
    have hn : (wordsL s.data.toList)[k]? = none := List.getElem?_eq_none (List.drop_eq_nil_iff.1 h.symm)
    rw [len_size] at h2
    refine ⟨_, _, h2, Nat.le_refl _, Nat.le_refl _, ?_, ?_, ?_⟩
    · unfold txt; rw [hn]; exact ext_end s
    · unfold pos; rw [hn]
    · rw [span_end (Nat.le_refl _)]
      show ([] : List (Nat × Nat)) = _
      rw [List.drop_eq_nil_of_le (by have := List.drop_eq_nil_iff.1 h.symm; omega)]
  · rw [h1] at h
    have hn : (wordsL s.data.toList)[k]? = some (a, b) := by
      have := congrArg (·[0]?) h
      simpa using this.symm
    refine ⟨a, b, h2, by omega, by rw [← len_size]; exact h4, ?_, ?_, ?_⟩
    · unfold txt; rw [hn]
    · unfold pos; rw [hn]
    · have := congrArg List.tail h
      simpa using this
end Go.Proofs.YtgjiofkjogjhhaaGreatDoor.Ac

namespace Go.Proofs.YtgjiofkjogjhhaaGreatDoor.Ar
open Go Go.RowKit Go.Shelf
open Go.Proofs.YtgjiofkjogjhhaaGreatDoor.Rg (R RngsAt RowsAt nthL add_zero own_next)

theorem gD_two (a b : Int) (ha : 0 ≤ a) (hb : 0 ≤ b) : gD [a, b] = max a b + 1 := by simp [gD]; omega
theorem gD_one (a : Int) (ha : 0 ≤ a) : gD [a] = a + 1 := by simp [gD]; omega
theorem gD_none : gD [] = 1 := rfl
theorem gZ_two (a b : Int) : gZ [a, b] = 1 + a + b := by simp [gZ]
theorem gZ_one (a : Int) : gZ [a] = 1 + a := by simp [gZ]
theorem gZ_none : gZ [] = 1 := rfl
/-- what a tree tells lies between -/
def Bnd (g : List Int → Int) (l : List Nd) : Prop := ∀ i, i < l.length → 1 ≤ reck g l i ∧ reck g l i ≤ 1048576

theorem ret_int {a b : Int} (h : a = b) : Ending.returned (.int .i64 a) = .returned (.int .i64 b) := by rw [h]

theorem bnd_gD {t : Tr} (ht : Ok t) (hl : t.ns.length ≤ 4096) : Bnd gD t.ns := by
  have h : ∀ i, i < t.ns.length → 1 ≤ reck gD t.ns i ∧ reck gD t.ns i ≤ (i : Int) + 1 := by
    intro i
    induction i using Nat.strongRecOn with
    | ind i ih =>
      intro hi
      rcases nodeB_ways (ht.node i hi) with ⟨h1, _⟩ | ⟨h1, _⟩ | ⟨h1, h2⟩ | ⟨h1, h2⟩
      · rw [reck_none (by omega) (by omega), gD_none]; omega
      · rw [reck_none (by omega) (by omega), gD_none]; omega
      · have e1 := ih (nd t.ns i).a.toNat (by omega) (by omega)
        have e2 := ih (nd t.ns i).b.toNat (by omega) (by omega)
        rw [reck_two h1 (by omega) (by omega), gD_two _ _ (by omega) (by omega)]; omega
      · have e1 := ih (nd t.ns i).a.toNat (by omega) (by omega)
        rw [reck_one h1 (by omega), gD_one _ (by omega)]; omega
  exact fun i hi => by have := h i hi; omega
theorem gS_two (a b : Int) : gS [a, b] = min (1 + a + b) 1048576 := by simp [gS]
theorem gS_one (a : Int) : gS [a] = min (1 + a) 1048576 := by simp [gS]
theorem gS_none : gS [] = 1 := rfl
theorem bnd_gS {t : Tr} (ht : Ok t) : Bnd gS t.ns := by
  intro i
  induction i using Nat.strongRecOn with
  | ind i ih =>
    intro hi
    rcases nodeB_ways (ht.node i hi) with ⟨h1, _⟩ | ⟨h1, _⟩ | ⟨h1, h2⟩ | ⟨h1, h2⟩
    · rw [reck_none (by omega) (by omega), gS_none]; omega
    · rw [reck_none (by omega) (by omega), gS_none]; omega
    · have e1 := ih (nd t.ns i).a.toNat (by omega) (by omega)
      have e2 := ih (nd t.ns i).b.toNat (by omega) (by omega)
      rw [reck_two h1 (by omega) (by omega), gS_two]; omega
    · have e1 := ih (nd t.ns i).a.toNat (by omega) (by omega)
      rw [reck_one h1 (by omega), gS_one]; omega

/-- how many nodes are counted, whatever the kinds -/
def farK (l : List Nd) (i : Nat) : Int :=
  1 + (if 0 ≤ (nd l i).a then (if (nd l i).a.toNat < i then farK l (nd l i).a.toNat else 0) else 0) + (if 0 ≤ (nd l i).b then (if (nd l i).b.toNat < i then farK l (nd l i).b.toNat else 0) else 0)
  termination_by i
  decreasing_by all_goals omega
theorem farK_pos (l : List Nd) (i : Nat) : 1 ≤ farK l i := by
  induction i using Nat.strongRecOn with
  | ind i ih =>
    rw [farK]
    have e1 : ∀ x : Nat, 0 ≤ (if x < i then farK l x else 0) := fun x => by
      split
      · have := ih x (by omega); omega
      · omega
    have a1 := e1 (nd l i).a.toNat
    have a2 := e1 (nd l i).b.toNat
    split <;> split <;> omega
/-- no tree is far: what the document's Far tells apart -/
structure Near (t : Tr) : Prop where
  ns : t.ns.length ≤ 60
  sets : t.sets.length ≤ 60
  size : ∀ i, i < t.ns.length → farK t.ns i ≤ 3000
  each : ∀ k, k < t.sets.length → (Rg.nthL t.sets k).length ≤ 30
theorem gZ_far {t : Tr} (ht : Ok t) : ∀ i, i < t.ns.length → 1 ≤ reck gZ t.ns i ∧ reck gZ t.ns i ≤ farK t.ns i := by
  intro i
  induction i using Nat.strongRecOn with
  | ind i ih =>
    intro hi
    have hp := farK_pos t.ns
    have h0 := hp i
    rcases nodeB_ways (ht.node i hi) with ⟨h1, _⟩ | ⟨h1, _⟩ | ⟨h1, h2⟩ | ⟨h1, h2⟩
    · rw [reck_none (by omega) (by omega), gZ_none]; omega
    · rw [reck_none (by omega) (by omega), gZ_none]; omega
    · have e1 := ih (nd t.ns i).a.toNat (by omega) (by omega)
      have e2 := ih (nd t.ns i).b.toNat (by omega) (by omega)
      rw [reck_two h1 (by omega) (by omega), gZ_two, farK, if_pos (by omega), if_pos (by omega), if_pos (by omega), if_pos (by omega)]; omega
    · have e1 := ih (nd t.ns i).a.toNat (by omega) (by omega)
      rw [reck_one h1 (by omega), gZ_one, farK, if_pos (by omega), if_pos (by omega)]
      have hq := hp (nd t.ns i).b.toNat
      split
      · split <;> omega
      · omega
theorem bnd_gZ {t : Tr} (ht : Ok t) (hn : Near t) : Bnd gZ t.ns := fun i hi => by
  have h1 := gZ_far ht i hi
  have h2 := hn.size i hi
  omega
theorem gS_gZ {t : Tr} (ht : Ok t) (hn : Near t) : ∀ i, i < t.ns.length → reck gS t.ns i = reck gZ t.ns i := by
  intro i
  induction i using Nat.strongRecOn with
  | ind i ih =>
    intro hi
    have hb := bnd_gZ ht hn
    have h0 := hb i hi
    have h00 := gZ_far ht i hi
    have h01 := hn.size i hi
    rcases nodeB_ways (ht.node i hi) with ⟨h1, _⟩ | ⟨h1, _⟩ | ⟨h1, h2⟩ | ⟨h1, h2⟩
    · rw [reck_none (by omega) (by omega), reck_none (by omega) (by omega)]; rfl
    · rw [reck_none (by omega) (by omega), reck_none (by omega) (by omega)]; rfl
    · rw [reck_two h1 (by omega) (by omega), gZ_two] at h00
      rw [reck_two h1 (by omega) (by omega), reck_two h1 (by omega) (by omega), gS_two, gZ_two, ih _ (by omega) (by omega), ih _ (by omega) (by omega)]; omega
    · rw [reck_one h1 (by omega), gZ_one] at h00
      rw [reck_one h1 (by omega), reck_one h1 (by omega), gS_one, gZ_one, ih _ (by omega) (by omega)]; omega

end Go.Proofs.YtgjiofkjogjhhaaGreatDoor.Ar

namespace Go.Proofs.YtgjiofkjogjhhaaGreatDoor.Dg

/-- a digit 0 to 9 -/
def isDig (c : UInt8) : Bool := decide (48 ≤ c.toNat) && decide (c.toNat ≤ 57)
theorem isDig_iff (c : UInt8) : isDig c = true ↔ 48 ≤ c.toNat ∧ c.toNat ≤ 57 := by simp [isDig]
theorem isDig_yes {c : UInt8} (h : 48 ≤ (c.toNat : Int) ∧ (c.toNat : Int) ≤ 57) : isDig c = true := (isDig_iff c).2 (by omega)
theorem isDig_no {c : UInt8} (h : (c.toNat : Int) < 48 ∨ 57 < (c.toNat : Int)) : isDig c = false := by
  cases e : isDig c
  · rfl
  · have := (isDig_iff c).1 e; omega
/-- one more digit, at most 10^9 -/
def step (n : Nat) (c : UInt8) : Nat := min (10 * n + (c.toNat - 48)) 1000000000
/-- what Lead tells from a place on: the number, the place -/
def goLead : List UInt8 → Nat → Nat → Nat × Nat
  | [], n, k => (n, k)
  | c :: r, n, k => if isDig c then goLead r (step n c) (k + 1) else (n, k)

theorem goLead_stop {c : UInt8} {r : List UInt8} {n k : Nat} (h : isDig c = false) : goLead (c :: r) n k = (n, k) := by
  rw [goLead, if_neg (by simp [h])]
theorem goLead_step {c : UInt8} {r : List UInt8} {n k : Nat} (h : isDig c = true) : goLead (c :: r) n k = goLead r (step n c) (k + 1) := by
  rw [goLead, if_pos h]
theorem goLead_le : ∀ (l : List UInt8) (n k : Nat), n ≤ 1000000000 → (goLead l n k).1 ≤ 1000000000 ∧ k ≤ (goLead l n k).2 ∧ (goLead l n k).2 ≤ k + l.length
  | [], n, k, h => ⟨h, Nat.le_refl _, Nat.le_refl _⟩
  | c :: r, n, k, h => by
    unfold goLead
    split
    · have := goLead_le r (step n c) (k + 1) (Nat.min_le_right _ _)
      simp only [List.length_cons]
      omega
    · simp only [List.length_cons]; omega

theorem drop_at {l : List UInt8} {k : Nat} (h : k < l.length) : l.drop k = l[k] :: l.drop (k + 1) := List.drop_eq_getElem_cons h

/-- the step of the loop -/
theorem lead_next {s : ByteArray} {n k : Nat} (hk : k < s.size) (h : isDig s[k] = true) :
    goLead (s.data.toList.drop k) n k = goLead (s.data.toList.drop (k + 1)) (step n s[k]) (k + 1) := by
  rw [drop_at (by simpa using hk)]; exact goLead_step h
theorem lead_stop {s : ByteArray} {n k : Nat} (hk : k < s.size) (h : isDig s[k] = false) :
    goLead (s.data.toList.drop k) n k = (n, k) := by
  rw [drop_at (by simpa using hk)]; exact goLead_stop h
theorem lead_end {s : ByteArray} {n k : Nat} (hk : s.size ≤ k) : goLead (s.data.toList.drop k) n k = (n, k) := by
  rw [List.drop_of_length_le (by simpa using hk)]; rfl
theorem step_big {n : Nat} {c : UInt8} (hn : 100000000 ≤ n) : step n c = 1000000000 := by unfold step; omega
theorem step_small {n : Nat} {c : UInt8} (hn : n < 100000000) (hc : isDig c = true) : step n c = n * 10 + (c.toNat - 48) := by
  rw [isDig_iff] at hc; unfold step; omega

/-- a digit of 16: its number -/
def hexV (c : UInt8) : Option Nat :=
  if 48 ≤ c.toNat ∧ c.toNat ≤ 57 then some (c.toNat - 48)
  else if 97 ≤ c.toNat ∧ c.toNat ≤ 102 then some (c.toNat - 87)
  else if 65 ≤ c.toNat ∧ c.toNat ≤ 70 then some (c.toNat - 55)
  else none


/-- the digits of 16: by their number, the letters small; behind these the capital ones -/
def tab : List UInt8 := [48, 49, 50, 51, 52, 53, 54, 55, 56, 57, 97, 98, 99, 100, 101, 102, 65, 66, 67, 68, 69, 70]
/-- the first place at which c is -/
def fidx : List UInt8 → UInt8 → Nat → Option Nat
  | [], _, _ => none
  | x :: r, c, k => if x = c then some k else fidx r c (k + 1)
theorem fidx_hit {l : List UInt8} {c : UInt8} {k : Nat} (hk : k < l.length) (h : l.getD k 0 = c) : fidx (l.drop k) c k = some k := by
  rw [drop_at hk, fidx, if_pos (by simpa [List.getD, hk] using h)]
theorem fidx_miss {l : List UInt8} {c : UInt8} {k : Nat} (hk : k < l.length) (h : l.getD k 0 ≠ c) : fidx (l.drop k) c k = fidx (l.drop (k + 1)) c (k + 1) := by
  rw [drop_at hk, fidx, if_neg (by simpa [List.getD, hk] using h)]
def place (i : Nat) : Nat := if i > 15 then i - 6 else i
theorem hexV_all : ∀ n : Fin 256, (fidx tab (UInt8.ofNat n.val) 0).map place = hexV (UInt8.ofNat n.val) := by decide +kernel
theorem hexV_eq (c : UInt8) : (fidx tab c 0).map place = hexV c := by
  have := hexV_all ⟨c.toNat, c.toNat_lt⟩
  simpa using this
theorem hexV_hit {c : UInt8} {k : Nat} (hk : k < 22) (h : tab.getD k 0 = c) (hg : fidx (tab.drop k) c k = fidx tab c 0) : hexV c = some (place k) := by
  rw [← hexV_eq, ← hg, fidx_hit (by simpa [tab] using hk) h]; rfl
theorem hexV_none {c : UInt8} (hg : fidx (tab.drop 22) c 22 = fidx tab c 0) : hexV c = none := by
  rw [← hexV_eq, ← hg]; rfl
/-- the text of the document's digits of 16, byte by byte -/
theorem all_at : ∀ k : Fin 22, (⟨#[48, 49, 50, 51, 52, 53, 54, 55, 56, 57, 97, 98, 99, 100, 101, 102, 65, 66, 67, 68, 69, 70]⟩ : ByteArray)[k.val]'k.isLt = tab.getD k.val 0 := by decide +kernel
theorem toNat_ne {a b : UInt8} (h : (a.toNat : Int) ≠ (b.toNat : Int)) : a ≠ b := fun e => h (by rw [e])
theorem toNat_eq {a b : UInt8} (h : (a.toNat : Int) = (b.toNat : Int)) : a = b := UInt8.toNat_inj.1 (by omega)
theorem beq_eq {a b : UInt8} (h : ((a.toNat : Int) == (b.toNat : Int)) = true) : a = b := toNat_eq (by simpa using h)
theorem beq_ne {a b : UInt8} (h : ((a.toNat : Int) == (b.toNat : Int)) = false) : a ≠ b := toNat_ne (by simpa using h)
theorem bne_eq {a b : UInt8} (h : ((a.toNat : Int) != (b.toNat : Int)) = false) : a = b := toNat_eq (by simpa using h)
theorem bne_ne {a b : UInt8} (h : ((a.toNat : Int) != (b.toNat : Int)) = true) : a ≠ b := toNat_ne (by simpa using h)
theorem place_big {k : Nat} (h : 15 < k) : place k = k - 6 := by unfold place; rw [if_pos h]
theorem place_small {k : Nat} (h : ¬ 15 < k) : place k = k := by unfold place; rw [if_neg h]

/-- the number that a digit of 16 adds, as the document's answer: -1 where it is none -/
def v1 (c : UInt8) : Int := match hexV c with | some v => (v : Nat) | none => -1
theorem hexV_lt {c : UInt8} {v : Nat} (h : hexV c = some v) : v < 16 := by
  unfold hexV at h; split at h
  · simp at h; omega
  · split at h
    · simp at h; omega
    · split at h
      · simp at h; omega
      · cases h
theorem v1_ge (c : UInt8) : -1 ≤ v1 c := by unfold v1; split <;> omega
theorem v1_le (c : UInt8) : v1 c ≤ 15 := by
  unfold v1; split
  · rename_i h; have := hexV_lt h; omega
  · omega
theorem v1_dig {c : UInt8} (h : isDig c = true) : v1 c = ((c.toNat - 48 : Nat) : Int) := by
  have hb := (isDig_iff c).1 h
  have e : hexV c = some (c.toNat - 48) := by unfold hexV; rw [if_pos hb]
  unfold v1; rw [e]
theorem v1_some {c : UInt8} (h : 0 ≤ v1 c) : hexV c = some (v1 c).toNat := by
  unfold v1 at *; cases e : hexV c with
  | none => rw [e] at h; simp only at h; omega
  | some v => simp
theorem v1_none {c : UInt8} (h : v1 c < 0) : hexV c = none := by
  unfold v1 at *; cases e : hexV c with
  | none => rfl
  | some v => rw [e] at h; simp only at h; omega

/-- what Hex tells from a place on -/
def goHex : List UInt8 → Nat → Option Nat
  | [], n => some n
  | c :: r, n => match hexV c with | some v => goHex r (16 * n + v) | none => none
theorem hex_next {s : ByteArray} {n k v : Nat} (hk : k < s.size) (h : hexV s[k] = some v) :
    goHex (s.data.toList.drop k) n = goHex (s.data.toList.drop (k + 1)) (16 * n + v) := by
  rw [drop_at (by simpa using hk)]
  have h' : hexV (s.data.toList[k]'(by simpa using hk)) = some v := h
  rw [goHex, h']
theorem hex_stop {s : ByteArray} {n k : Nat} (hk : k < s.size) (h : hexV s[k] = none) :
    goHex (s.data.toList.drop k) n = none := by
  rw [drop_at (by simpa using hk)]
  have h' : hexV (s.data.toList[k]'(by simpa using hk)) = none := h
  rw [goHex, h']
theorem hex_end {s : ByteArray} {n k : Nat} (hk : s.size ≤ k) : goHex (s.data.toList.drop k) n = some n := by
  rw [List.drop_of_length_le (by simpa using hk)]; rfl
/-- Hex -/
def hexR (l : List UInt8) : Option Nat := if l.length = 0 ∨ 6 < l.length then none else goHex l 0
theorem hexR_no {s : ByteArray} (h : s.size = 0 ∨ 6 < s.size) : hexR s.data.toList = none := by
  unfold hexR; rw [if_pos (by simpa using h)]
theorem hexR_yes {s : ByteArray} (h0 : 0 < s.size) (h : s.size ≤ 6) : hexR s.data.toList = goHex s.data.toList 0 := by
  unfold hexR
  have e : s.data.toList.length = s.size := by simp
  rw [if_neg (by omega)]

theorem pow16 {m : Int} {k : Nat} (h : m < 16 ^ k) (hk : k ≤ 6) : m < 16777216 := by
  have e : k = 0 ∨ k = 1 ∨ k = 2 ∨ k = 3 ∨ k = 4 ∨ k = 5 ∨ k = 6 := by omega
  rcases e with e | e | e | e | e | e | e <;> subst e <;> simp at h <;> omega
theorem pow16s {m : Int} {k v : Nat} (h : m < 16 ^ k) (hv : v < 16) : m * 16 + v < 16 ^ (k + 1) := by
  have h2 : (16 : Int) ^ (k + 1) = 16 ^ k * 16 := Int.pow_succ _ _
  omega
theorem pow16s' {m v : Int} {k : Nat} (h : m < 16 ^ k) (hv : v ≤ 15) : 16 * m + v < 16 ^ (k + 1) := by
  have h2 : (16 : Int) ^ (k + 1) = 16 ^ k * 16 := Int.pow_succ _ _
  omega

theorem dec_small {u : Nat} (h : u < 10) : Lib.decDigits u = [UInt8.ofNat (48 + u)] := by rw [Lib.decDigits, dif_pos h]
theorem dec_big {u : Nat} (h : ¬ u < 10) : Lib.decDigits u = Lib.decDigits (u / 10) ++ [UInt8.ofNat (48 + u % 10)] := by rw [Lib.decDigits, dif_neg h]
theorem dec_len : ∀ (k u : Nat), u < 10 ^ (k + 1) → (Lib.decDigits u).length ≤ k + 1
  | 0, u, h => by rw [dec_small (by simpa using h)]; simp
  | k + 1, u, h => by
    by_cases hu : u < 10
    · rw [dec_small hu]; simp
    · rw [dec_big hu]
      have := dec_len k (u / 10) (by rw [Nat.pow_succ] at h; omega)
      simp; omega
theorem dec_len20 {u : Nat} (h : u ≤ 9223372036854775808) : (Lib.decDigits u).length ≤ 20 := dec_len 19 u (by omega)
theorem dec_split {u : Nat} (h : ¬ u < 10) : Lib.decDigits u = Lib.decDigits (u / 10) ++ Lib.decDigits (u % 10) := by
  rw [dec_big h, dec_small (u := u % 10) (by omega)]
theorem digit_text : ∀ k : Fin 10, (⟨#[48, 49, 50, 51, 52, 53, 54, 55, 56, 57]⟩ : ByteArray).extract k.val (k.val + 1) = ⟨(Lib.decDigits k.val).toArray⟩ := by
  intro k
  rw [dec_small k.isLt]
  revert k
  decide +kernel

theorem itoa_pos {n : Int} (h : 0 ≤ n) : Lib.itoa n = Lib.decDigits n.toNat := by unfold Lib.itoa; rw [if_neg (by omega)]
theorem itoa_neg {n : Int} (h : n < 0) : Lib.itoa n = 45 :: Lib.decDigits n.natAbs := by unfold Lib.itoa; rw [if_pos h]

theorem tdiv10 {n : Int} (h : n ≤ 0) : n.tdiv 10 = -((-n) / 10) := by
  obtain ⟨m, hm⟩ := Int.eq_ofNat_of_zero_le (show 0 ≤ -n by omega)
  obtain rfl : n = -(m : Int) := by omega
  rw [Int.neg_tdiv, Int.neg_neg]; rfl
theorem tmod10 {n : Int} (h : n ≤ 0) : n.tmod 10 = -((-n) % 10) := by
  obtain ⟨m, hm⟩ := Int.eq_ofNat_of_zero_le (show 0 ≤ -n by omega)
  obtain rfl : n = -(m : Int) := by omega
  rw [Int.neg_tmod, Int.neg_neg]; rfl

/-- Parse -/
def parseR (l : List UInt8) : Option Nat :=
  if (goLead l 0 0).2 = 0 ∨ (goLead l 0 0).2 < l.length ∨ 999999999 < (goLead l 0 0).1 then none
  else if l.getD 0 0 = 48 ∧ 1 < l.length then none else some (goLead l 0 0).1
theorem parseR_eq (l : List UInt8) : parseR l = if (goLead l 0 0).2 = 0 ∨ (goLead l 0 0).2 < l.length ∨ 999999999 < (goLead l 0 0).1 then none
  else if l.getD 0 0 = 48 ∧ 1 < l.length then none else some (goLead l 0 0).1 := rfl

end Go.Proofs.YtgjiofkjogjhhaaGreatDoor.Dg

namespace Go.Proofs.YtgjiofkjogjhhaaGreatDoor.Dg
open Go.RowKit

/-- the table of the program, as its cells -/
def Tab (w : World) : Prop := ∀ k, k < 22 → w.cell? ⟨1, k, none⟩ = some (.int .u8 ((tab.getD k 0).toNat : Int))

end Go.Proofs.YtgjiofkjogjhhaaGreatDoor.Dg

namespace Go.Proofs.YtgjiofkjogjhhaaGreatDoor.Dg
open Go.RowKit

theorem rets' {a b : ByteArray} (h : a = b) : Ending.returned (.string a) = .returned (.string b) := by rw [h]

/-- the digits of 16 of a number, from round i on; behind them what is there already -/
def goHexText : Nat → Nat → Nat → Int → List UInt8 → List UInt8
  | 0, _, _, _, acc => acc
  | f + 1, i, n, least, acc => if 0 < i ∧ n = 0 ∧ least ≤ i then acc else goHexText f (i + 1) (n / 16) least (tab.getD (n % 16) 0 :: acc)
/-- HexText -/
def hexText (n least : Int) : List UInt8 := goHexText 16 0 n.toNat (min least 8) []
theorem hexText_len : ∀ (f i n : Nat) (least : Int) (acc : List UInt8), (goHexText f i n least acc).length ≤ f + acc.length
  | 0, _, _, _, acc => by simp [goHexText]
  | f + 1, i, n, least, acc => by
    unfold goHexText
    split
    · omega
    · have h := hexText_len f (i + 1) (n / 16) least (tab.getD (n % 16) 0 :: acc)
      rw [List.length_cons] at h; omega
/-- to be stopped in round i -/
def stops (i : Nat) (n least : Int) : Prop := 0 < i ∧ n ≤ 0 ∧ min least 8 ≤ i
theorem hx_stop {acc : List UInt8} {n least : Int} (h0 : 0 ≤ n) (h : stops acc.length n least) :
    goHexText (16 - acc.length) acc.length n.toNat (min least 8) acc = acc := by
  obtain ⟨a, b, c⟩ := h
  cases e : 16 - acc.length with
  | zero => rfl
  | succ f => rw [goHexText, if_pos ⟨a, by omega, c⟩]
theorem hx_go {acc : List UInt8} {n least : Int} {j : Nat} (h0 : 0 ≤ n) (hl : acc.length < 16) (hj : n % 16 = j) (h : ¬ stops acc.length n least) :
    goHexText (16 - acc.length) acc.length n.toNat (min least 8) acc = goHexText (16 - (acc.length + 1)) (acc.length + 1) (n / 16).toNat (min least 8) (tab.getD j 0 :: acc) := by
  rw [show 16 - acc.length = (16 - (acc.length + 1)) + 1 by omega, goHexText, if_neg (fun ⟨a, b, c⟩ => h ⟨a, by omega, c⟩)]
  rw [show n.toNat / 16 = (n / 16).toNat by omega, show n.toNat % 16 = j by omega]
theorem hx_end {acc : List UInt8} {n least : Int} (h : 16 ≤ acc.length) :
    goHexText (16 - acc.length) acc.length n.toNat (min least 8) acc = acc := by
  rw [show 16 - acc.length = 0 by omega]; rfl
theorem hx_text {acc : List UInt8} {j : Nat} (hj : j < 16) :
    ((⟨#[48, 49, 50, 51, 52, 53, 54, 55, 56, 57, 97, 98, 99, 100, 101, 102]⟩ : ByteArray).extract j (j + 1) ++ ⟨acc.toArray⟩) = ⟨(tab.getD j 0 :: acc).toArray⟩ := by
  have h : ∀ k : Fin 16, (⟨#[48, 49, 50, 51, 52, 53, 54, 55, 56, 57, 97, 98, 99, 100, 101, 102]⟩ : ByteArray).extract k.val (k.val + 1) = ⟨#[tab.getD k.val 0]⟩ := by decide +kernel
  rw [h ⟨j, hj⟩]
  simp [ByteArray.ext_iff]

set_option maxRecDepth 100000 in
set_option maxHeartbeats 400000 in
theorem rhextext_any (n least : Int) (w : World) (h0 : -9223372036854775808 ≤ n) (h1 : n ≤ 9223372036854775807) (h2 : -9223372036854775808 ≤ least) (h3 : least ≤ 9223372036854775807) :
    Calls Tryz.prog 113 #[.int .i64 n, .int .i64 least] w fun e w' => e = .returned (.string ⟨(hexText n least).toArray⟩) ∧ w = w' := by
  have hx : ∀ m : Int, (n < 0 ∧ m = 0) ∨ (¬ n < 0 ∧ m = n) → goHexText 16 0 m.toNat (min least 8) [] = hexText n least := by
    intro m h
    unfold hexText
    rw [show n.toNat = m.toNat by omega]
  have HX := Lib.hid hx
  clear hx
  by_cases hn : n < 0
  all_goals
    go_enter Tryz.func113, Tryz.ntmps113
    go_wp2_with fail
    go_loop [0, 5, 6] (fun a t i => ∃ (m : Int) (acc : List UInt8), acc.length ≤ 16 ∧ 0 ≤ m ∧ m ≤ 9223372036854775807 ∧ goHexText (16 - acc.length) acc.length m.toNat (min least 8) acc = hexText n least ∧ a = .int .i64 m ∧ t = .string ⟨acc.toArray⟩ ∧ i = .int .i64 acc.length) (fun _ _ i => 16 - (intOf i).toNat)
    case atStart =>
      first
        | exact ⟨0, [], by simp, by omega, by omega, HX.out 0 (by omega), rfl, rfl, rfl⟩
        | exact ⟨n, [], by simp, by omega, by omega, HX.out n (by omega), rfl, rfl, rfl⟩
    case round =>
      obtain ⟨m, acc, hk, hm0, hm, hg, rfl, rfl, rfl⟩ := hrel
      have HG := Lib.hid hg
      obtain ⟨j, hj⟩ := Int.eq_ofNat_of_zero_le (show 0 ≤ m % 16 by omega)
      have hj16 : j < 16 := by omega
      have hst := Lib.hid (fun h => hx_stop (acc := acc) (least := least) hm0 h)
      have hgo := Lib.hid (fun hl h => hx_go (acc := acc) (least := least) hm0 hl hj h)
      have hen := Lib.hid (fun h => hx_end (acc := acc) (least := least) (n := m) h)
      clear hg
      by_cases hm1 : 0 < m
      · go_wp2_with fail
        · go_round
          case rel => exact ⟨m / 16, tab.getD j 0 :: acc, by simp; omega, by omega, by omega, by rw [← HG.out, hgo.out (by omega) (by unfold stops; omega)]; rfl, rfl, by rw [hx_text hj16], by simp⟩
          case measure => simp [intOf]; omega
        · go_ret
          exact ⟨rets' (by rw [← HG.out, hen.out (by omega)]), rfl⟩
      · go_wp2_with fail
        · go_round
          case rel => exact ⟨m / 16, tab.getD j 0 :: acc, by simp; omega, by omega, by omega, by rw [← HG.out, hgo.out (by omega) (by unfold stops; omega)]; rfl, rfl, by rw [hx_text hj16], by simp⟩
          case measure => simp [intOf]; omega
        · go_ret
          exact ⟨rets' (by rw [← HG.out, hst.out (by unfold stops; omega)]), rfl⟩
        · go_ret
          exact ⟨rets' (by rw [← HG.out, hst.out (by unfold stops; omega)]), rfl⟩
        · go_round
          case rel => exact ⟨m / 16, tab.getD j 0 :: acc, by simp; omega, by omega, by omega, by rw [← HG.out, hgo.out (by omega) (by unfold stops; omega)]; rfl, rfl, by rw [hx_text hj16], by simp⟩
          case measure => simp [intOf]; omega
        · go_ret
          exact ⟨rets' (by rw [← HG.out, hen.out (by omega)]), rfl⟩

end Go.Proofs.YtgjiofkjogjhhaaGreatDoor.Dg

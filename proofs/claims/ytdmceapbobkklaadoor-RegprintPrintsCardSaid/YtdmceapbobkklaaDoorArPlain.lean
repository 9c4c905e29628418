/- Trees in plain words: which nodes may be, what a tree tells by its parts, when two are the same. -/
import Derived.Test.YtdmceapbobkklaaDoorRgRight
namespace Go.Proofs.YtdmceapbobkklaaDoor.Ar
open Go.Proofs.YtdmceapbobkklaaDoor.Rg (R rightB)

structure Nd where
  op : Int
  a : Int
  b : Int
  lo : Int
  hi : Int
  set : Int
  deriving DecidableEq
instance : Inhabited Nd := ⟨⟨0, 0, 0, 0, 0, 0⟩⟩
theorem Nd.eq_iff (m n : Nd) : m = n ↔ m.op = n.op ∧ m.a = n.a ∧ m.b = n.b ∧ m.lo = n.lo ∧ m.hi = n.hi ∧ m.set = n.set := by
  cases m; cases n; simp

/-- the i-th node -/
def nd (l : List Nd) (i : Nat) : Nd := l.getD i default
theorem nd_eq {l : List Nd} {i : Nat} (h : i < l.length) : nd l i = l[i] := by simp [nd, List.getD, h]
theorem nd_left {l k : List Nd} {i : Nat} (h : i < l.length) : nd (l ++ k) i = nd l i := by simp [nd, List.getD, List.getElem?_append_left h]
theorem nd_right {l k : List Nd} {i : Nat} : nd (l ++ k) (l.length + i) = nd k i := by simp [nd, List.getD, List.getElem?_append_right]

structure Tr where
  ns : List Nd
  sets : List (List R)
  root : Int

/-- may something be so many times -/
def timesB (lo hi : Int) : Bool := decide (0 ≤ lo) && decide (lo ≤ 255) && (decide (hi = -1) || decide (lo ≤ hi) && decide (hi ≤ 255))
/-- may a node be, with i nodes ahead of it and s sets -/
def nodeB (n : Nd) (i s : Int) : Bool :=
  if n.op = 1 then decide (n.a = 0 ∧ n.b = 0 ∧ n.lo = 0 ∧ n.hi = 0 ∧ n.set = 0)
  else if n.op = 2 then decide (n.a = 0 ∧ n.b = 0 ∧ n.lo = 0 ∧ n.hi = 0 ∧ 0 ≤ n.set ∧ n.set < s)
  else if n.op = 3 ∨ n.op = 4 then decide (0 ≤ n.a ∧ n.a < i ∧ 0 ≤ n.b ∧ n.b < i ∧ n.lo = 0 ∧ n.hi = 0 ∧ n.set = 0)
  else if n.op = 5 then decide (0 ≤ n.a ∧ n.a < i ∧ n.b = 0 ∧ n.set = 0) && timesB n.lo n.hi
  else false
theorem nodeB_mono {n : Nd} {i s i' s' : Int} (h : nodeB n i s = true) (hi : i ≤ i') (hs : s ≤ s') : nodeB n i' s' = true := by
  unfold nodeB at h ⊢
  split at h
  · rename_i h1; rw [if_pos h1]; exact h
  · rename_i h1; rw [if_neg h1]
    split at h
    · rename_i h2; rw [if_pos h2]; simp at h ⊢; omega
    · rename_i h2; rw [if_neg h2]
      split at h
      · rename_i h3; rw [if_pos h3]; simp at h ⊢; omega
      · rename_i h3; rw [if_neg h3]
        split at h
        · rename_i h4; rw [if_pos h4]; simp at h ⊢; refine ⟨?_, h.2⟩; omega
        · cases h
/-- the kinds of nodes that may be, each with what it says -/
theorem nodeB_ways {n : Nd} {i s : Int} (h : nodeB n i s = true) :
    (n.op = 1 ∧ n.a = 0 ∧ n.b = 0 ∧ n.lo = 0 ∧ n.hi = 0 ∧ n.set = 0) ∨ (n.op = 2 ∧ n.a = 0 ∧ n.b = 0 ∧ n.lo = 0 ∧ n.hi = 0 ∧ 0 ≤ n.set ∧ n.set < s) ∨
    ((n.op = 3 ∨ n.op = 4) ∧ 0 ≤ n.a ∧ n.a < i ∧ 0 ≤ n.b ∧ n.b < i ∧ n.lo = 0 ∧ n.hi = 0 ∧ n.set = 0) ∨ (n.op = 5 ∧ 0 ≤ n.a ∧ n.a < i ∧ n.b = 0 ∧ n.set = 0) := by
  unfold nodeB at h
  split at h
  · rename_i h1; simp at h; exact .inl ⟨h1, h⟩
  · split at h
    · rename_i h2; simp at h; exact .inr (.inl ⟨h2, h⟩)
    · split at h
      · rename_i h3; simp at h; exact .inr (.inr (.inl ⟨h3, h⟩))
      · split at h
        · rename_i h4; simp at h; exact .inr (.inr (.inr ⟨h4, h.1⟩))
        · cases h

/-- are the first k nodes such as may be -/
def allB (l : List Nd) (s : Int) (k : Nat) : Bool := (List.range k).all fun i => nodeB (nd l i) i s
theorem allB_succ (l : List Nd) (s : Int) (k : Nat) : allB l s (k + 1) = (allB l s k && nodeB (nd l k) k s) := by
  simp [allB, List.range_succ, List.all_append]
theorem allB_iff {l : List Nd} {s : Int} {k : Nat} : allB l s k = true ↔ ∀ i, i < k → nodeB (nd l i) i s = true := by simp [allB, List.all_eq_true]
theorem allB_false {l : List Nd} {s : Int} {k n : Nat} (h : allB l s k = false) (hk : k ≤ n) : allB l s n = false := by
  rw [← Bool.not_eq_true, allB_iff] at h ⊢
  exact fun hn => h fun i hi => hn i (by omega)
/-- are the first k sets sets -/
noncomputable def setsB (S : List (List R)) (k : Nat) : Bool := (S.take k).all rightB
theorem setsB_succ {S : List (List R)} {k : Nat} (h : k < S.length) : setsB S (k + 1) = (setsB S k && rightB (S.getD k [])) := by
  unfold setsB
  rw [List.take_succ_eq_append_getElem h, List.all_append]
  simp [List.getD, h]
theorem setsB_false {S : List (List R)} {k n : Nat} (h : setsB S k = false) (hk : k ≤ n) : setsB S n = false := by
  unfold setsB at *
  rw [← Bool.not_eq_true, List.all_eq_true] at h ⊢
  exact fun hn => h fun x hx => hn x ((List.take_subset_take_left S hk) hx)
def rootB (t : Tr) : Bool := decide (0 ≤ t.root) && decide (t.root < t.ns.length)
noncomputable def okB (t : Tr) : Bool := rootB t && setsB t.sets t.sets.length && allB t.ns t.sets.length t.ns.length
noncomputable def checkE (t : Tr) : Int := if 4096 < t.ns.length ∨ 4096 < t.sets.length then 6 else if okB t = true then 0 else 3
structure Ok (t : Tr) : Prop where
  root0 : 0 ≤ t.root
  root1 : t.root < t.ns.length
  sets : ∀ s, s ∈ t.sets → rightB s = true
  node : ∀ i, i < t.ns.length → nodeB (nd t.ns i) i t.sets.length = true
theorem ok_iff (t : Tr) : okB t = true ↔ Ok t := by
  unfold okB rootB setsB
  rw [Bool.and_eq_true, Bool.and_eq_true, allB_iff, List.take_length, List.all_eq_true]
  simp only [Bool.and_eq_true, decide_eq_true_eq]
  exact ⟨fun ⟨⟨⟨h1, h2⟩, h3⟩, h4⟩ => ⟨h1, h2, h3, h4⟩, fun h => ⟨⟨⟨h.root0, h.root1⟩, h.sets⟩, h.node⟩⟩
theorem check_ok {t : Tr} (h : checkE t = 0) : Ok t ∧ t.ns.length ≤ 4096 ∧ t.sets.length ≤ 4096 := by
  unfold checkE at h
  split at h
  · cases h
  · split at h
    · rename_i h1 h2; exact ⟨(ok_iff t).1 h2, by omega, by omega⟩
    · cases h
theorem ok_check {t : Tr} (h : Ok t) (h1 : t.ns.length ≤ 4096) (h2 : t.sets.length ≤ 4096) : checkE t = 0 := by
  unfold checkE; rw [if_neg (by omega), if_pos ((ok_iff t).2 h)]

/-- what a tree tells by what its parts tell -/
def reck (g : List Int → Int) (l : List Nd) (i : Nat) : Int :=
  if (nd l i).op = 3 ∨ (nd l i).op = 4 then (if (nd l i).a.toNat < i ∧ (nd l i).b.toNat < i then g [reck g l (nd l i).a.toNat, reck g l (nd l i).b.toNat] else 0)
  else if (nd l i).op = 5 then (if (nd l i).a.toNat < i then g [reck g l (nd l i).a.toNat] else 0)
  else g []
  termination_by i
  decreasing_by all_goals omega
/-- the numbers of a node's parts -/
def partsL (n : Nd) : List Int := if n.op = 3 ∨ n.op = 4 then [n.a, n.b] else if n.op = 5 then [n.a] else []
theorem reck_parts {g : List Int → Int} {l : List Nd} {i : Nat} {s : Int} (h : nodeB (nd l i) i s = true) : reck g l i = g ((partsL (nd l i)).map fun x => reck g l x.toNat) := by
  rw [reck]
  unfold partsL
  rcases nodeB_ways h with ⟨h1, _⟩ | ⟨h1, _⟩ | ⟨h1, h2⟩ | ⟨h1, h2⟩
  · rw [if_neg (by omega), if_neg (by omega), if_neg (by omega), if_neg (by omega)]; rfl
  · rw [if_neg (by omega), if_neg (by omega), if_neg (by omega), if_neg (by omega)]; rfl
  · rw [if_pos h1, if_pos (by omega), if_pos h1]; rfl
  · rw [if_neg (by omega), if_pos h1, if_pos (by omega), if_neg (by omega), if_pos h1]; rfl
theorem reck_two {g : List Int → Int} {l : List Nd} {i : Nat} (h : (nd l i).op = 3 ∨ (nd l i).op = 4) (ha : (nd l i).a.toNat < i) (hb : (nd l i).b.toNat < i) : reck g l i = g [reck g l (nd l i).a.toNat, reck g l (nd l i).b.toNat] := by
  rw [reck, if_pos h, if_pos ⟨ha, hb⟩]
theorem reck_one {g : List Int → Int} {l : List Nd} {i : Nat} (h : (nd l i).op = 5) (ha : (nd l i).a.toNat < i) : reck g l i = g [reck g l (nd l i).a.toNat] := by
  rw [reck, if_neg (by omega), if_pos h, if_pos ha]
theorem reck_none {g : List Int → Int} {l : List Nd} {i : Nat} (h : ¬ ((nd l i).op = 3 ∨ (nd l i).op = 4)) (h5 : (nd l i).op ≠ 5) : reck g l i = g [] := by
  rw [reck, if_neg h, if_neg h5]

def gD : List Int → Int := fun l => l.foldl max 0 + 1
def gS : List Int → Int := fun l => min (l.foldl (· + ·) 1) 1048576
def gZ : List Int → Int := fun l => l.foldl (· + ·) 1

/-- are two nodes of two trees the same -/
def sameT (p q : Tr) (x y : Nat) : Bool :=
  if (nd p.ns x).op = (nd q.ns y).op ∧ (nd p.ns x).lo = (nd q.ns y).lo ∧ (nd p.ns x).hi = (nd q.ns y).hi then
    if (nd p.ns x).op = 2 then decide (p.sets.getD (nd p.ns x).set.toNat [] = q.sets.getD (nd q.ns y).set.toNat [])
    else if (nd p.ns x).op = 3 ∨ (nd p.ns x).op = 4 then
      (if (nd p.ns x).a.toNat < x ∧ (nd p.ns x).b.toNat < x then sameT p q (nd p.ns x).a.toNat (nd q.ns y).a.toNat && sameT p q (nd p.ns x).b.toNat (nd q.ns y).b.toNat else false)
    else if (nd p.ns x).op = 5 then (if (nd p.ns x).a.toNat < x then sameT p q (nd p.ns x).a.toNat (nd q.ns y).a.toNat else false)
    else true
  else false
  termination_by x
  decreasing_by all_goals omega

/-- a node with its parts' and its set's numbers in place of theirs -/
def mapN (sx rs : List Int) (n : Nd) : Nd :=
  if n.op = 2 then { n with set := sx.getD n.set.toNat 0 }
  else if n.op = 3 ∨ n.op = 4 then { n with a := rs.getD n.a.toNat 0, b := rs.getD n.b.toNat 0 }
  else if n.op = 5 then { n with a := rs.getD n.a.toNat 0 } else n

/-- numbers by which nodes are told apart, and the same nodes' numbers -/
theorem same_by {p q : Tr} (hp : Ok p) (hq : Ok q) {sp sq rp rq : List Int}
    (hs : ∀ i j, i < p.sets.length → j < q.sets.length → (sp.getD i 0 = sq.getD j 0 ↔ p.sets.getD i [] = q.sets.getD j []))
    (hr : ∀ i j, i < p.ns.length → j < q.ns.length → (rp.getD i 0 = rq.getD j 0 ↔ mapN sp rp (nd p.ns i) = mapN sq rq (nd q.ns j))) :
    ∀ x y, x < p.ns.length → y < q.ns.length → (rp.getD x 0 = rq.getD y 0 ↔ sameT p q x y = true) := by
  intro x
  induction x using Nat.strongRecOn with
  | ind x ih =>
    intro y hx hy
    rw [hr x y hx hy, sameT]
    have h1 := nodeB_ways (hp.node x hx)
    have h2 := nodeB_ways (hq.node y hy)
    by_cases hop : (nd p.ns x).op = (nd q.ns y).op
    · rcases h1 with ⟨a1, a2⟩ | ⟨a1, a2⟩ | ⟨a1, a2⟩ | ⟨a1, a2⟩
      · rcases h2 with ⟨b1, b2⟩ | ⟨b1, b2⟩ | ⟨b1, b2⟩ | ⟨b1, b2⟩
        · rw [if_pos (by omega), if_neg (by omega), if_neg (by omega), if_neg (by omega)]
          unfold mapN
          rw [if_neg (by omega), if_neg (by omega), if_neg (by omega), if_neg (by omega), if_neg (by omega), if_neg (by omega), Nd.eq_iff]
          simp only [iff_true]
          omega
        all_goals omega
      · rcases h2 with ⟨b1, b2⟩ | ⟨b1, b2⟩ | ⟨b1, b2⟩ | ⟨b1, b2⟩
        · omega
        · rw [if_pos (by omega), if_pos a1, decide_eq_true_iff, ← hs _ _ (by omega) (by omega)]
          unfold mapN
          rw [if_pos a1, if_pos b1, Nd.eq_iff]
          simp only
          omega
        all_goals omega
      · rcases h2 with ⟨b1, b2⟩ | ⟨b1, b2⟩ | ⟨b1, b2⟩ | ⟨b1, b2⟩
        · omega
        · omega
        · rw [if_pos (by omega), if_neg (by omega), if_pos a1, if_pos (by omega), Bool.and_eq_true, ← ih _ (by omega) _ (by omega) (by omega), ← ih _ (by omega) _ (by omega) (by omega)]
          unfold mapN
          rw [if_neg (by omega), if_pos a1, if_neg (by omega), if_pos b1, Nd.eq_iff]
          simp only
          omega
        · omega
      · rcases h2 with ⟨b1, b2⟩ | ⟨b1, b2⟩ | ⟨b1, b2⟩ | ⟨b1, b2⟩
        · omega
        · omega
        · omega
        · by_cases hlh : (nd p.ns x).lo = (nd q.ns y).lo ∧ (nd p.ns x).hi = (nd q.ns y).hi
          · rw [if_pos ⟨hop, hlh⟩, if_neg (by omega), if_neg (by omega), if_pos a1, if_pos (by omega), ← ih _ (by omega) _ (by omega) (by omega)]
            unfold mapN
            rw [if_neg (by omega), if_neg (by omega), if_pos a1, if_neg (by omega), if_neg (by omega), if_pos b1, Nd.eq_iff]
            simp only
            omega
          · rw [if_neg (fun h => hlh h.2)]
            unfold mapN
            rw [if_neg (by omega), if_neg (by omega), if_pos a1, if_neg (by omega), if_neg (by omega), if_pos b1, Nd.eq_iff]
            simp only
            constructor
            · intro h; exact absurd ⟨h.2.2.2.1, h.2.2.2.2.1⟩ hlh
            · intro h; cases h
    · rw [if_neg (fun h => hop h.1)]
      constructor
      · intro h
        have e := congrArg Nd.op h
        have f : ∀ (sx rs : List Int) (n : Nd), (mapN sx rs n).op = n.op := fun sx rs n => by unfold mapN; split; rfl; split; rfl; split <;> rfl
        rw [f, f] at e
        exact absurd e hop
      · intro h; cases h

/-- a tree's nodes behind others -/
def moveN (n s : Int) (m : Nd) : Nd :=
  if m.op = 2 then { m with set := s + m.set } else if m.op = 3 ∨ m.op = 4 then { m with a := n + m.a, b := n + m.b } else if m.op = 5 then { m with a := n + m.a } else m
def graft (ns : List Nd) (S : List (List R)) (t : Tr) : Tr := ⟨ns ++ t.ns.map (moveN ns.length S.length), S ++ t.sets, ns.length + t.root⟩
theorem moveN_ok {m : Nd} {i s n k : Nat} (h : nodeB m i s = true) : nodeB (moveN n k m) (n + i : Nat) (k + s : Nat) = true := by
  rcases nodeB_ways h with ⟨h1, h2⟩ | ⟨h1, h2⟩ | ⟨h1, h2⟩ | ⟨h1, h2⟩
  · unfold moveN; rw [if_neg (by omega), if_neg (by omega), if_neg (by omega)]
    exact nodeB_mono h (by omega) (by omega)
  · unfold moveN; rw [if_pos h1]
    unfold nodeB; simp only
    rw [if_neg (by omega), if_pos h1]
    simp; omega
  · unfold moveN; rw [if_neg (by omega), if_pos h1]
    unfold nodeB; simp only
    rw [if_neg (by omega), if_neg (by omega), if_pos h1]
    simp; omega
  · unfold moveN; rw [if_neg (by omega), if_neg (by omega), if_pos h1]
    unfold nodeB at h ⊢; simp only
    rw [if_neg (by omega), if_neg (by omega), if_neg (by omega), if_pos h1] at h ⊢
    simp at h ⊢
    refine ⟨?_, h.2⟩
    omega
theorem nd_map {f : Nd → Nd} {l : List Nd} {i : Nat} (h : i < l.length) : nd (l.map f) i = f (nd l i) := by
  rw [nd_eq (by simpa using h), nd_eq h]; simp
theorem graft_node {ns : List Nd} {S : List (List R)} {t : Tr} {i : Nat} (h : i < t.ns.length) : nd (graft ns S t).ns (ns.length + i) = moveN ns.length S.length (nd t.ns i) := by
  unfold graft; simp only
  rw [nd_right, nd_map h]
theorem graft_ok {ns : List Nd} {S : List (List R)} {t : Tr} (ht : Ok t) (hS : ∀ s, s ∈ S → rightB s = true) (hn : ∀ i, i < ns.length → nodeB (nd ns i) i S.length = true) : Ok (graft ns S t) where
  root0 := by have := ht.root0; simp only [graft]; omega
  root1 := by have := ht.root1; simp only [graft, List.length_append, List.length_map]; omega
  sets := fun s hs => by
    simp only [graft, List.mem_append] at hs
    rcases hs with hs | hs
    · exact hS s hs
    · exact ht.sets s hs
  node := fun i hi => by
    have hl : (graft ns S t).sets.length = S.length + t.sets.length := by simp [graft]
    rw [hl]
    rcases Nat.lt_or_ge i ns.length with h | h
    · rw [show nd (graft ns S t).ns i = nd ns i by unfold graft; exact nd_left h]
      exact nodeB_mono (hn i h) (Int.le_refl _) (by omega)
    · obtain ⟨j, rfl⟩ : ∃ j, i = ns.length + j := ⟨i - ns.length, by omega⟩
      have hj : j < t.ns.length := by simp only [graft, List.length_append, List.length_map] at hi; omega
      rw [graft_node hj]
      exact moveN_ok (ht.node j hj)
theorem getD_right {α : Type} {l k : List α} {d : α} {i : Nat} : (l ++ k).getD (l.length + i) d = k.getD i d := by simp [List.getD, List.getElem?_append_right]
/-- what was grafted is the same as it was -/
theorem graft_same {ns : List Nd} {S : List (List R)} {t : Tr} (ht : Ok t) : ∀ x, x < t.ns.length → sameT (graft ns S t) t (ns.length + x) x = true := by
  intro x
  induction x using Nat.strongRecOn with
  | ind x ih =>
    intro hx
    rw [sameT, graft_node hx]
    rcases nodeB_ways (ht.node x hx) with ⟨h1, h2⟩ | ⟨h1, h2⟩ | ⟨h1, h2⟩ | ⟨h1, h2⟩
    · have e : moveN ns.length S.length (nd t.ns x) = nd t.ns x := by unfold moveN; rw [if_neg (by omega), if_neg (by omega), if_neg (by omega)]
      rw [e, if_pos ⟨rfl, rfl, rfl⟩, if_neg (by omega), if_neg (by omega), if_neg (by omega)]
    · have e : moveN ns.length S.length (nd t.ns x) = { nd t.ns x with set := S.length + (nd t.ns x).set } := by unfold moveN; rw [if_pos h1]
      rw [e]
      dsimp only
      rw [if_pos ⟨rfl, rfl, rfl⟩, if_pos h1, decide_eq_true_iff, show ((S.length : Int) + (nd t.ns x).set).toNat = S.length + (nd t.ns x).set.toNat by omega]
      show (S ++ t.sets).getD _ [] = _
      rw [getD_right]
    · have e : moveN ns.length S.length (nd t.ns x) = { nd t.ns x with a := ns.length + (nd t.ns x).a, b := ns.length + (nd t.ns x).b } := by unfold moveN; rw [if_neg (by omega), if_pos h1]
      rw [e]
      dsimp only
      rw [if_pos ⟨rfl, rfl, rfl⟩, if_neg (by omega), if_pos h1, if_pos (by omega), show ((ns.length : Int) + (nd t.ns x).a).toNat = ns.length + (nd t.ns x).a.toNat by omega, show ((ns.length : Int) + (nd t.ns x).b).toNat = ns.length + (nd t.ns x).b.toNat by omega,
        ih _ (by omega) (by omega), ih _ (by omega) (by omega)]; rfl
    · have e : moveN ns.length S.length (nd t.ns x) = { nd t.ns x with a := ns.length + (nd t.ns x).a } := by unfold moveN; rw [if_neg (by omega), if_neg (by omega), if_pos h1]
      rw [e]
      dsimp only
      rw [if_pos ⟨rfl, rfl, rfl⟩, if_neg (by omega), if_neg (by omega), if_pos h1, if_pos (by omega), show ((ns.length : Int) + (nd t.ns x).a).toNat = ns.length + (nd t.ns x).a.toNat by omega,
        ih _ (by omega) (by omega)]

end Go.Proofs.YtdmceapbobkklaaDoor.Ar

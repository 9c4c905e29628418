/- Expressions as texts, and how deep their brackets are: plain words. -/
import Derived.Test.YtdmceapbobkklaaDoorArNear
import Derived.Test.YtdmceapbobkklaaDoorRpLet
namespace Go.Proofs.YtdmceapbobkklaaDoor.Rp
open Go
open Go.Proofs.YtdmceapbobkklaaDoor.Ar (Nd nd Tr Ok nodeB_ways nodeB timesB reck reck_two reck_one reck_none gZ gZ_two gZ_one gZ_none)
open Go.Proofs.YtdmceapbobkklaaDoor.Rg (R nth nthL setFrom)

def wrapL (q : Bool) (s : Tx) : Tx := if q = true then [40] ++ s ++ [41] else s
/-- is a node one of these kinds -/
def opB (l : List Nd) (i : Int) (ks : List Int) : Bool := ks.contains (nd l i.toNat).op

/-- a node's text -/
def textL (S : List (List R)) (l : List Nd) (i : Nat) : Tx :=
  if (nd l i).op = 2 then setL (nthL S (nd l i).set.toNat)
  else if (nd l i).op = 3 then (if (nd l i).a.toNat < i ∧ (nd l i).b.toNat < i then wrapL (opB l (nd l i).a [4]) (textL S l (nd l i).a.toNat) ++ wrapL (opB l (nd l i).b [3, 4]) (textL S l (nd l i).b.toNat) else [])
  else if (nd l i).op = 4 then (if (nd l i).a.toNat < i ∧ (nd l i).b.toNat < i then textL S l (nd l i).a.toNat ++ [124] ++ wrapL (opB l (nd l i).b [4]) (textL S l (nd l i).b.toNat) else [])
  else if (nd l i).op = 5 then (if (nd l i).a.toNat < i then wrapL (opB l (nd l i).a [3, 4, 5]) (textL S l (nd l i).a.toNat) ++ oftenL (nd l i).lo (nd l i).hi else [])
  else [40, 41]
  termination_by i
  decreasing_by all_goals omega
def brk (q : Bool) : Int := if q = true then 1 else 0
/-- how deep a node's brackets are -/
def deepL (l : List Nd) (i : Nat) : Int :=
  if (nd l i).op = 3 then (if (nd l i).a.toNat < i ∧ (nd l i).b.toNat < i then max (deepL l (nd l i).a.toNat + brk (opB l (nd l i).a [4])) (deepL l (nd l i).b.toNat + brk (opB l (nd l i).b [3, 4])) else 0)
  else if (nd l i).op = 4 then (if (nd l i).a.toNat < i ∧ (nd l i).b.toNat < i then max (deepL l (nd l i).a.toNat) (deepL l (nd l i).b.toNat + brk (opB l (nd l i).b [4])) else 0)
  else if (nd l i).op = 5 then (if (nd l i).a.toNat < i then deepL l (nd l i).a.toNat + brk (opB l (nd l i).a [3, 4, 5]) else 0)
  else if (nd l i).op = 1 then 1 else 0
  termination_by i
  decreasing_by all_goals omega

section
variable {S : List (List R)} {l : List Nd} {i : Nat}
theorem text_one (h : (nd l i).op = 1) : textL S l i = [40, 41] := by rw [textL, if_neg (by omega), if_neg (by omega), if_neg (by omega), if_neg (by omega)]
theorem text_set (h : (nd l i).op = 2) : textL S l i = setL (nthL S (nd l i).set.toNat) := by rw [textL, if_pos h]
theorem text_cat (h : (nd l i).op = 3) (ha : (nd l i).a.toNat < i) (hb : (nd l i).b.toNat < i) : textL S l i = wrapL (opB l (nd l i).a [4]) (textL S l (nd l i).a.toNat) ++ wrapL (opB l (nd l i).b [3, 4]) (textL S l (nd l i).b.toNat) := by
  rw [textL, if_neg (by omega), if_pos h, if_pos ⟨ha, hb⟩]
theorem text_alt (h : (nd l i).op = 4) (ha : (nd l i).a.toNat < i) (hb : (nd l i).b.toNat < i) : textL S l i = textL S l (nd l i).a.toNat ++ [124] ++ wrapL (opB l (nd l i).b [4]) (textL S l (nd l i).b.toNat) := by
  rw [textL, if_neg (by omega), if_neg (by omega), if_pos h, if_pos ⟨ha, hb⟩]
theorem text_rep (h : (nd l i).op = 5) (ha : (nd l i).a.toNat < i) : textL S l i = wrapL (opB l (nd l i).a [3, 4, 5]) (textL S l (nd l i).a.toNat) ++ oftenL (nd l i).lo (nd l i).hi := by
  rw [textL, if_neg (by omega), if_neg (by omega), if_neg (by omega), if_pos h, if_pos ha]
theorem deep_one (h : (nd l i).op = 1) : deepL l i = 1 := by rw [deepL, if_neg (by omega), if_neg (by omega), if_neg (by omega), if_pos h]
theorem deep_set (h : (nd l i).op = 2) : deepL l i = 0 := by rw [deepL, if_neg (by omega), if_neg (by omega), if_neg (by omega), if_neg (by omega)]
theorem deep_cat (h : (nd l i).op = 3) (ha : (nd l i).a.toNat < i) (hb : (nd l i).b.toNat < i) : deepL l i = max (deepL l (nd l i).a.toNat + brk (opB l (nd l i).a [4])) (deepL l (nd l i).b.toNat + brk (opB l (nd l i).b [3, 4])) := by
  rw [deepL, if_pos h, if_pos ⟨ha, hb⟩]
theorem deep_alt (h : (nd l i).op = 4) (ha : (nd l i).a.toNat < i) (hb : (nd l i).b.toNat < i) : deepL l i = max (deepL l (nd l i).a.toNat) (deepL l (nd l i).b.toNat + brk (opB l (nd l i).b [4])) := by
  rw [deepL, if_neg (by omega), if_pos h, if_pos ⟨ha, hb⟩]
theorem deep_rep (h : (nd l i).op = 5) (ha : (nd l i).a.toNat < i) : deepL l i = deepL l (nd l i).a.toNat + brk (opB l (nd l i).a [3, 4, 5]) := by
  rw [deepL, if_neg (by omega), if_neg (by omega), if_pos h, if_pos ha]
end

theorem brk_le (q : Bool) : 0 ≤ brk q ∧ brk q ≤ 1 := by cases q <;> simp [brk]
theorem deep_le {t : Tr} (ht : Ok t) : ∀ i, i < t.ns.length → 0 ≤ deepL t.ns i ∧ deepL t.ns i ≤ (i : Int) + 1 := by
  intro i
  induction i using Nat.strongRecOn with
  | ind i ih =>
    intro hi
    rcases nodeB_ways (ht.node i hi) with ⟨h1, _⟩ | ⟨h1, _⟩ | ⟨h1 | h1, h2⟩ | ⟨h1, h2⟩
    · rw [deep_one h1]; omega
    · rw [deep_set h1]; omega
    · have e1 := ih (nd t.ns i).a.toNat (by omega) (by omega)
      have e2 := ih (nd t.ns i).b.toNat (by omega) (by omega)
      have q1 := brk_le (opB t.ns (nd t.ns i).a [4])
      have q2 := brk_le (opB t.ns (nd t.ns i).b [3, 4])
      rw [deep_cat h1 (by omega) (by omega)]; omega
    · have e1 := ih (nd t.ns i).a.toNat (by omega) (by omega)
      have e2 := ih (nd t.ns i).b.toNat (by omega) (by omega)
      have q2 := brk_le (opB t.ns (nd t.ns i).b [4])
      rw [deep_alt h1 (by omega) (by omega)]; omega
    · have e1 := ih (nd t.ns i).a.toNat (by omega) (by omega)
      have q1 := brk_le (opB t.ns (nd t.ns i).a [3, 4, 5])
      rw [deep_rep h1 (by omega)]; omega

theorem wrap_len (q : Bool) (s : Tx) : (wrapL q s).length ≤ s.length + 2 := by unfold wrapL; split <;> simp
theorem times_le {lo hi : Int} (h : timesB lo hi = true) : 0 ≤ lo ∧ lo ≤ 255 ∧ -1 ≤ hi ∧ hi ≤ 255 ∧ (hi = -1 ∨ lo ≤ hi) := by
  unfold timesB at h; simp at h; omega
theorem rep_times {n : Nd} {i s : Int} (h : nodeB n i s = true) (h5 : n.op = 5) : timesB n.lo n.hi = true := by
  unfold nodeB at h
  rw [if_neg (by omega), if_neg (by omega), if_neg (by omega), if_pos h5] at h
  simp at h; exact h.2
theorem text_len {t : Tr} (ht : Ok t) (hs : ∀ k, k < t.sets.length → (nthL t.sets k).length ≤ 30) : ∀ i, i < t.ns.length → ((textL t.sets t.ns i).length : Int) ≤ 1300 * reck gZ t.ns i ∧ 1 ≤ reck gZ t.ns i := by
  intro i
  induction i using Nat.strongRecOn with
  | ind i ih =>
    intro hi
    rcases nodeB_ways (ht.node i hi) with ⟨h1, _⟩ | ⟨h1, h2⟩ | ⟨h1 | h1, h2⟩ | ⟨h1, h2⟩
    · rw [text_one h1, reck_none (by omega) (by omega), gZ_none]; simp
    · have e := set_len (nthL t.sets (nd t.ns i).set.toNat)
      have e2 := hs (nd t.ns i).set.toNat (by omega)
      rw [text_set h1, reck_none (by omega) (by omega), gZ_none]; omega
    · have e1 := ih (nd t.ns i).a.toNat (by omega) (by omega)
      have e2 := ih (nd t.ns i).b.toNat (by omega) (by omega)
      have q1 := wrap_len (opB t.ns (nd t.ns i).a [4]) (textL t.sets t.ns (nd t.ns i).a.toNat)
      have q2 := wrap_len (opB t.ns (nd t.ns i).b [3, 4]) (textL t.sets t.ns (nd t.ns i).b.toNat)
      rw [text_cat h1 (by omega) (by omega), reck_two (.inl h1) (by omega) (by omega), gZ_two, List.length_append]; omega
    · have e1 := ih (nd t.ns i).a.toNat (by omega) (by omega)
      have e2 := ih (nd t.ns i).b.toNat (by omega) (by omega)
      have q2 := wrap_len (opB t.ns (nd t.ns i).b [4]) (textL t.sets t.ns (nd t.ns i).b.toNat)
      rw [text_alt h1 (by omega) (by omega), reck_two (.inr h1) (by omega) (by omega), gZ_two, List.length_append, List.length_append, List.length_cons, List.length_nil]; omega
    · have e1 := ih (nd t.ns i).a.toNat (by omega) (by omega)
      have q1 := wrap_len (opB t.ns (nd t.ns i).a [3, 4, 5]) (textL t.sets t.ns (nd t.ns i).a.toNat)
      have tm := times_le (rep_times (ht.node i hi) h1)
      have q2 := often_len (lo := (nd t.ns i).lo) (hi := (nd t.ns i).hi) (by omega) (by omega)
      rw [text_rep h1 (by omega), reck_one h1 (by omega), gZ_one, List.length_append]; omega

theorem scan_wrap {s : Tx} {d : Int} (hd : 0 ≤ d) (h : ∀ n m : Int, n ≤ m → scanL s (n, m, false) = (n, max m (n + d), false)) (q : Bool) {n m : Int} (hm : n ≤ m) :
    scanL (wrapL q s) (n, m, false) = (n, max m (n + (d + brk q)), false) := by
  cases q
  · show scanL s _ = _
    rw [h n m hm]; simp [brk]
  · show scanL ([40] ++ s ++ [41]) _ = _
    have e1 : scanL [40] (n, m, false) = (n + 1, max m (n + 1), false) := by simp [scanL, scan1]
    have e2 : ∀ m' : Int, n + 1 ≤ m' → scanL [41] (n + 1, m', false) = (n, m', false) := fun m' h' => by simp [scanL, scan1]; omega
    rw [scan_append, scan_append, e1, h _ _ (by omega), e2 _ (by omega)]
    simp [brk]; omega
theorem scan_text {t : Tr} (ht : Ok t) : ∀ i, i < t.ns.length → ∀ n m : Int, n ≤ m → scanL (textL t.sets t.ns i) (n, m, false) = (n, max m (n + deepL t.ns i), false) := by
  intro i
  induction i using Nat.strongRecOn with
  | ind i ih =>
    intro hi n m hm
    have hdl := deep_le ht
    rcases nodeB_ways (ht.node i hi) with ⟨h1, _⟩ | ⟨h1, h2⟩ | ⟨h1 | h1, h2⟩ | ⟨h1, h2⟩
    · rw [text_one h1, deep_one h1]; simp [scanL, scan1]; omega
    · rw [text_set h1, deep_set h1, scan_set _ hm]; simp; omega
    · have e1 := ih (nd t.ns i).a.toNat (by omega) (by omega)
      have e2 := ih (nd t.ns i).b.toNat (by omega) (by omega)
      have d1 := hdl (nd t.ns i).a.toNat (by omega)
      have d2 := hdl (nd t.ns i).b.toNat (by omega)
      have q1 := brk_le (opB t.ns (nd t.ns i).a [4])
      rw [text_cat h1 (by omega) (by omega), deep_cat h1 (by omega) (by omega), scan_append, scan_wrap d1.1 e1 _ hm, scan_wrap d2.1 e2 _ (by omega)]
      first | (simp; done) | (simp; omega)
    · have e1 := ih (nd t.ns i).a.toNat (by omega) (by omega)
      have e2 := ih (nd t.ns i).b.toNat (by omega) (by omega)
      have d1 := hdl (nd t.ns i).a.toNat (by omega)
      have d2 := hdl (nd t.ns i).b.toNat (by omega)
      have q := scan_quiet (s := [124]) (lit_quiet (by decide)) (n := n) (m := max m (n + deepL t.ns (nd t.ns i).a.toNat)) (by omega) false
      rw [text_alt h1 (by omega) (by omega), deep_alt h1 (by omega) (by omega), scan_append, scan_append, e1 _ _ hm, q, scan_wrap d2.1 e2 _ (by omega)]
      first | (simp; done) | (simp; omega)
    · have e1 := ih (nd t.ns i).a.toNat (by omega) (by omega)
      have d1 := hdl (nd t.ns i).a.toNat (by omega)
      have q1 := brk_le (opB t.ns (nd t.ns i).a [3, 4, 5])
      rw [text_rep h1 (by omega), deep_rep h1 (by omega), scan_append, scan_wrap d1.1 e1 _ hm, scan_quiet (often_quiet _ _) (by omega)]
/-- the brackets of a tree's text -/
theorem scan_tree {t : Tr} (ht : Ok t) {i : Nat} (hi : i < t.ns.length) : (scanL (textL t.sets t.ns i) (0, 0, false)).2.1 = deepL t.ns i := by
  rw [scan_text ht i hi 0 0 (Int.le_refl _)]
  have := deep_le ht i hi
  simp; omega

end Go.Proofs.YtdmceapbobkklaaDoor.Rp

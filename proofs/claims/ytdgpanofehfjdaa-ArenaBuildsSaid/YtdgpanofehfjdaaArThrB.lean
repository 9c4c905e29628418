/- A tree's nodes, each with its place in the book. -/
import Derived.Test.YtdgpanofehfjdaaArThr
import Derived.Test.YtdgpanofehfjdaaArBook
namespace Go.Proofs.Ytdgpanofehfjdaa.Ar
open Go Go.RowKit Go.Shelf Go.Maps
open Go.Proofs.Ytdgpanofehfjdaa.Rg (R RngsAt RowsAt nthL add_zero own_next)

theorem Book.lt {M : Nat} {H : List Nd} {w : World} (h : Book M H w) : M < w.heap.size := by
  obtain ⟨D, h1, _⟩ := h.map
  exact h1.lt
theorem Book.kx {U : Nat → Prop} {M : Nat} {H : List Nd} {w w' : World} (h : Book M H w) (k : Kx U w w') (hU : ¬ U M) : Book M H w' := by
  obtain ⟨D, h1, h2, h3, h4⟩ := h.map
  have hlt := h1.lt
  obtain ⟨es, clock, hb, r⟩ := h1
  exact ⟨h.nodup, h.wf, D, ⟨es, clock, (k.block M hlt hU).trans hb, r⟩, h2, h3, h4⟩
theorem getD_left {l : List Int} {x : Int} {i : Nat} (h : i < l.length) : (l ++ [x]).getD i 0 = l.getD i 0 := by simp [List.getD, List.getElem?_append_left h]
theorem mapN_app {sx l : List Int} {x : Int} {n : Nd} {i s : Int} (h : nodeB n i s = true) (hi : i ≤ l.length) : mapN sx (l ++ [x]) n = mapN sx l n := by
  rcases nodeB_ways h with ⟨h1, h2⟩ | ⟨h1, h2⟩ | ⟨h1, h2⟩ | ⟨h1, h2⟩
  · rw [mapN_1 h1, mapN_1 h1]
  · rw [mapN_2 h1, mapN_2 h1]
  · rw [mapN_3 h1, mapN_3 h1, getD_left (by omega), getD_left (by omega)]
  · rw [mapN_5 h1, mapN_5 h1, getD_left (by omega)]
theorem wf_small {x : Int} (h : -1000000 ≤ x ∧ x ≤ 1000000) : Wf x := WalkArith.wf_i64 (by omega)
theorem mapN_wf {sx l : List Int} {n : Nd} {i s : Int} (h : nodeB n i s = true) (h1 : ∀ k, 0 ≤ sx.getD k 0 ∧ sx.getD k 0 ≤ 100000) (h2 : ∀ k, 0 ≤ l.getD k 0 ∧ l.getD k 0 ≤ 100000) : WfN (mapN sx l n) := by
  have hx := h1 n.set.toNat
  have ha := h2 n.a.toNat
  have hb := h2 n.b.toNat
  rcases nodeB_ways h with ⟨g1, g2⟩ | ⟨g1, g2⟩ | ⟨g1, g2⟩ | ⟨g1, g2⟩
  · rw [mapN_1 g1]
    exact ⟨wf_small (by omega), wf_small (by omega), wf_small (by omega), wf_small (by omega), wf_small (by omega), wf_small (by omega)⟩
  · rw [mapN_2 g1]
    exact ⟨wf_small (by simp only; omega), wf_small (by simp only; omega), wf_small (by simp only; omega), wf_small (by simp only; omega), wf_small (by simp only; omega), wf_small (by simp only; omega)⟩
  · rw [mapN_3 g1]
    exact ⟨wf_small (by simp only; omega), wf_small (by simp only; omega), wf_small (by simp only; omega), wf_small (by simp only; omega), wf_small (by simp only; omega), wf_small (by simp only; omega)⟩
  · have ht : timesB n.lo n.hi = true := by
      unfold nodeB at h
      rw [if_neg (by omega), if_neg (by omega), if_neg (by omega), if_pos g1, Bool.and_eq_true] at h
      exact h.2
    rw [timesB_eq] at ht
    rw [mapN_5 g1]
    exact ⟨wf_small (by simp only; omega), wf_small (by simp only; omega), wf_small (by simp only; omega), wf_small (by simp only; omega), wf_small (by simp only; omega), wf_small (by simp only; omega)⟩

/-- the book when some nodes of a tree are told -/
def JB (M : Nat) (H0 : List Nd) (sx : List Int) (t : Tr) (l : List Int) (W : World) : Prop :=
  l.length ≤ t.ns.length ∧ ∃ K, Book M (H0 ++ K) W ∧ K.length ≤ l.length ∧ ∀ i, i < l.length → ∃ x : Nat, l.getD i 0 = (x : Int) ∧ (H0 ++ K)[x]? = some (mapN sx l (nd t.ns i))
/-- .. all -/
def BThr (M : Nat) (H0 : List Nd) (sx : List Int) (t : Tr) (w : World) (e : Ending) (W : World) : Prop :=
  ∃ (l : List Int) (K : List Nd), e = .returned (.int .i64 (l.getD t.root.toNat 0)) ∧ l.length = t.ns.length ∧ Book M (H0 ++ K) W ∧ K.length ≤ t.ns.length ∧ (∀ i, i < t.ns.length → ∃ x : Nat, l.getD i 0 = (x : Int) ∧ (H0 ++ K)[x]? = some (mapN sx l (nd t.ns i))) ∧ Kx (fun b => b = M) w W

theorem thr_book (t : Tr) (ht : Ok t) (v vset : Value) (sx : List Int) (w : World) (M : Nat) (H0 : List Nd) (hB : Book M H0 w) (hn : t.ns.length ≤ 4096) (hH : H0.length ≤ 4096) (hsx : sx.length = t.sets.length) (hsb : ∀ k, 0 ≤ sx.getD k 0 ∧ sx.getD k 0 ≤ 100000)
    (HV : ∀ W, Kx (fun b => b = M) w W → TreeAt W v t) (HS : ∀ W, Kx (fun b => b = M) w W → IntsAt W vset sx) :
    Calls Try.prog 38 #[v, vset, .func (.func 39) #[.map (some M)] #[]] w (BThr M H0 sx t w) := by
  have hE : Enters Try.prog 39 := enters_of Try.func39 (by kernel_rfl) rfl
  have hM := hB.lt
  refine (through_any t ht v vset sx hsx hn 39 (.map (some M)) hE w (fun b => b = M) (JB M H0 sx t) ?_ HV HS ?_ ?_ ?_).mono ?_
  · rintro b rfl; exact hM
  · rintro l W W' ⟨h1, K, h2, h3, h4⟩ hk
    exact ⟨h1, K, h2.kx hk (by omega), h3, h4⟩
  · rintro l W hlt ⟨h1, K, h2, h3, h4⟩ hkw hN
    have hnode := ht.node l.length hlt
    have hlb : ∀ k, 0 ≤ l.getD k 0 ∧ l.getD k 0 ≤ 100000 := fun k => by
      rcases Nat.lt_or_ge k l.length with h | h
      · obtain ⟨x, e1, e2⟩ := h4 k h
        have hx : x < (H0 ++ K).length := by
          rcases Nat.lt_or_ge x (H0 ++ K).length with h' | h'
          · exact h'
          · rw [List.getElem?_eq_none h'] at e2; cases e2
        rw [List.length_append] at hx
        omega
      · have : l.getD k 0 = 0 := by simp [List.getD, List.getElem?_eq_none h]
        omega
    have hwf : WfN (mapN sx l (nd t.ns l.length)) := mapN_wf hnode hsb hlb
    refine (number_any M (H0 ++ K) _ W h2 hwf (by rw [List.length_append]; omega)).mono ?_
    rintro e W' ⟨x, H', rfl, hb', hk', hH', hx⟩
    refine ⟨x, rfl, ⟨?_, ?_⟩, hk'.mono fun b _ h => .inl h⟩
    · rw [List.length_append, List.length_singleton]; omega
    · have hpre : ∃ K', H' = H0 ++ K' ∧ K'.length ≤ K.length + 1 ∧ ∀ (y : Nat) m, (H0 ++ K)[y]? = some m → (H0 ++ K')[y]? = some m := by
        rcases hH' with rfl | rfl
        · exact ⟨K, rfl, by omega, fun _ _ h => h⟩
        · refine ⟨K ++ [mapN sx l (nd t.ns l.length)], by rw [List.append_assoc], by simp, fun y m h => ?_⟩
          rw [← List.append_assoc]
          have hy : y < (H0 ++ K).length := by
            rcases Nat.lt_or_ge y (H0 ++ K).length with h' | h'
            · exact h'
            · rw [List.getElem?_eq_none h'] at h; cases h
          rw [List.getElem?_append_left hy]; exact h
      obtain ⟨K', rfl, hk2, hext⟩ := hpre
      refine ⟨K', hb', by rw [List.length_append, List.length_singleton]; omega, fun i hi => ?_⟩
      rw [List.length_append, List.length_singleton] at hi
      rcases Nat.lt_or_ge i l.length with h | h
      · obtain ⟨y, e1, e2⟩ := h4 i h
        refine ⟨y, by rw [getD_left h]; exact e1, ?_⟩
        rw [mapN_app (ht.node i (by omega)) (by omega)]
        exact hext y _ e2
      · obtain rfl : i = l.length := by omega
        refine ⟨x, by simp [List.getD], ?_⟩
        rw [mapN_app hnode (by omega)]
        exact hx
  · exact ⟨Nat.zero_le _, [], by simpa using hB, Nat.le_refl _, fun i hi => by simp at hi⟩
  · rintro e W ⟨l, h1, rfl, ⟨_, K, h2, h3, h4⟩, h5⟩
    exact ⟨l, K, rfl, h1, h2, by omega, fun i hi => h4 i (by omega), h5⟩

end Go.Proofs.Ytdgpanofehfjdaa.Ar

/- The automaton of ab: the document's example, in plain words and in memory. -/
import Derived.Test.YtfbphiamelongaaDoorClRun
import Derived.Test.YtfbphiamelongaaDoorClClose
namespace Go.Proofs.YtfbphiamelongaaDoor.Cl
open Go Go.RowKit
open Go.Proofs.YtfbphiamelongaaDoor.Bt (memL)

def twoL : List St := [⟨-1, -1, -1, [], 7⟩, ⟨98, 98, 0, [], -1⟩, ⟨97, 97, 1, [], -1⟩]
theorem two_cases {i : Nat} (h : i < twoL.length) : i = 0 ∨ i = 1 ∨ i = 2 := by simp [twoL] at h; omega
theorem two_right : rightB 2 twoL = true := by decide
theorem two_fault : faultE 2 twoL = 0 := by decide
theorem two_tags : TagsOk twoL := fun i hi => by
  rcases two_cases hi with rfl | rfl | rfl <;> simp [twoL, st]
theorem two_ok : ∀ i, i < twoL.length → OkS twoL.length (st twoL i) := (right_iff.1 two_right).2
theorem two_nil {S : Nat → Prop} {i : Nat} : Re nilF twoL S i ↔ S i ∧ i < 3 := by
  constructor
  · intro h
    refine h (fun i => S i ∧ i < 3) (fun j hs hl => ⟨hs, hl⟩) (fun j k hj hk _ => ?_)
    rcases (show j = 0 ∨ j = 1 ∨ j = 2 by omega) with rfl | rfl | rfl <;> simp [twoL, st, nilF] at hk
  · rintro ⟨h1, h2⟩
    exact Re.base h1 h2
theorem two_start {i : Nat} : startP 2 twoL i ↔ i = 2 := by
  unfold startP
  rw [two_nil]
  omega
theorem two_step {P : Nat → Prop} {c : Int} {j k : Nat} (h : ∀ i, P i ↔ i = j) (hj : j < 3) (hc : (st twoL j).lo ≤ c ∧ c ≤ (st twoL j).hi) (hk : (st twoL j).to = k) (hk3 : k < 3) {i : Nat} : stepP twoL P c i ↔ i = k := by
  unfold stepP
  rw [two_nil]
  unfold byP
  constructor
  · rintro ⟨⟨m, h1, h2, h3, h4, h5⟩, _⟩
    rw [h] at h2
    subst h2
    omega
  · rintro rfl
    exact ⟨⟨j, hj, (h j).2 rfl, hc.1, hc.2, hk⟩, hk3⟩
theorem two_stop {P : Nat → Prop} {c : Int} {j : Nat} (h : ∀ i, P i ↔ i = j) (hc : ¬ ((st twoL j).lo ≤ c ∧ c ≤ (st twoL j).hi)) {i : Nat} : ¬ stepP twoL P c i := by
  unfold stepP
  rw [two_nil]
  rintro ⟨⟨m, h1, h2, h3, h4, h5⟩, _⟩
  rw [h] at h2
  subst h2
  exact hc ⟨h3, h4⟩
theorem two_best {P : Nat → Prop} {t : Int} (h : BestIs twoL P t) (hP : ∀ i, P i ↔ i = 0) : t = 7 := by
  rcases h with ⟨_, h⟩ | ⟨_, ⟨i, hi, hp, ht⟩, _⟩
  · have := h 0 (by simp [twoL]) ((hP 0).2 rfl)
    simp [twoL, st] at this
  · obtain rfl := (hP i).1 hp
    simpa [twoL, st] using ht.symm
theorem two_alive {P : Nat → Prop} (hP : ∀ i, P i ↔ i = 1) : aliveP twoL P := by
  refine ⟨0, by simp [twoL], Re.step (j := 1) (Re.base ((hP 1).2 rfl) (by simp [twoL])) ?_ (by simp [twoL]), by simp [twoL, st]⟩
  simp [twoL, st, allF]
theorem two_dead {P : Nat → Prop} (hP : ∀ i, ¬ P i) : ¬ aliveP twoL P := by
  rintro ⟨i, _, h, _⟩
  exact h (fun _ => False) (fun j hj _ => hP j hj) (fun _ _ h _ _ => h)
theorem two_run {t : Int} (h : BestIs twoL (runP 2 twoL (byteI ⟨#[97, 98]⟩) 2) t) : t = 7 := by
  refine two_best h fun i => ?_
  exact two_step (j := 1) (fun i => two_step (j := 2) (fun i => two_start) (by omega) (by decide) (by decide) (by omega)) (by omega) (by decide) (by decide) (by omega)

def twoC : Array Value := #[.int .i64 (-1), .int .i64 (-1), .int .i64 (-1), .slice none 0 0, .int .i64 7, .int .i64 98, .int .i64 98, .int .i64 0, .slice none 0 0, .int .i64 (-1), .int .i64 97, .int .i64 97, .int .i64 1, .slice none 0 0, .int .i64 (-1)]
theorem two_row {w : World} {g : Nat} (h : w.heap[g]? = some (.cells twoC 56 (0, 0))) : StsAt w (.slice (some ⟨g, 0, none⟩) 3 3) twoL := by
  refine .inr ⟨_, 3, rfl, by unfold maxLen; simp [twoL], fun i hi => ⟨none, 0, ?_⟩⟩
  have c := fun j => at_cell h j
  rw [add_zero]
  rcases two_cases hi with rfl | rfl | rfl
  · exact ⟨c 0, c 1, c 2, c 3, c 4, .inl ⟨rfl, rfl⟩⟩
  · exact ⟨c 5, c 6, c 7, c 8, c 9, .inl ⟨rfl, rfl⟩⟩
  · exact ⟨c 10, c 11, c 12, c 13, c 14, .inl ⟨rfl, rfl⟩⟩
set_option maxRecDepth 100000 in
set_option maxHeartbeats 2000000 in
theorem two_any (w : World) : Calls Tryd.prog 27 #[] w fun e w' => ∃ v, e = .returned v ∧ NfaAt w' v 2 twoL ∧ Below w.heap.size w w' := by
  have b1 := (Below.refl w.heap.size w).alloc (Nat.le_refl _) (.cells #[.int .i64 2, .slice (some ⟨w.heap.size + 1, 0, none⟩) 3 3] 24)
  have B2 := Lib.hid (b1.alloc b1.size (.cells twoC 56))
  have x1 := at_next (at_new w (.cells #[.int .i64 2, .slice (some ⟨w.heap.size + 1, 0, none⟩) 3 3] 24)) ((Below.refl _ _).alloc (Nat.le_refl _) (.cells twoC 56))
  have x2 := at_new (w.alloc (.cells #[.int .i64 2, .slice (some ⟨w.heap.size + 1, 0, none⟩) 3 3] 24)) (.cells twoC 56)
  rw [World.size_alloc] at x2
  have X := Lib.hid (And.intro x1 x2)
  clear b1 x1 x2
  go_enter Tryd.func27, Tryd.ntmps27
  go_wp2
  refine bodyPost_ret (results_cell_row rfl _ _ w.heap.size 24 #[.int .i64 2, .slice (some ⟨w.heap.size + 1, 0, none⟩) 3 3] (0, 0) _ rfl X.out.1 Tryd.underlying24 rfl (by kernel_rfl)) rfl ?_
  exact ⟨_, rfl, ⟨_, rfl, two_row X.out.2⟩, B2.out⟩

end Go.Proofs.YtfbphiamelongaaDoor.Cl

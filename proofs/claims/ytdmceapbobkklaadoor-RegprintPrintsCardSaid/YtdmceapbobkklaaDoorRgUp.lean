/- The heap's up, down, Push, Pop. -/
import Derived.Test.YtdmceapbobkklaaDoorRgMeth
import Derived.Shelf.Abstract
import Derived.WalkSpells
namespace Go.Proofs.YtdmceapbobkklaaDoor.Rg
open Go.RowKit Go.Shelf

def key (l : List R) (i : Nat) : Int := (nth l i).1
theorem key_swap {l : List R} {i j : Nat} : ∀ k, k < l.length → key (swapL l i j) k = swF (key l) i j k := fun k hk => by
  unfold key swF
  rw [swapL_nth k hk]
  split
  · rfl
  · split <;> rfl
theorem eLess : ∀ args w, (callFunc 102 args).run Tryd.prog w = .ok (.enter 102 args) w := enters_of Tryd.func102 (by kernel_rfl) rfl
theorem eSwap : ∀ args w, (callFunc 103 args).run Tryd.prog w = .ok (.enter 103 args) w := enters_of Tryd.func103 (by kernel_rfl) rfl
theorem eLen : ∀ args w, (callFunc 101 args).run Tryd.prog w = .ok (.enter 101 args) w := enters_of Tryd.func101 (by kernel_rfl) rfl
theorem ePush : ∀ args w, (callFunc 105 args).run Tryd.prog w = .ok (.enter 105 args) w := enters_of Tryd.func105 (by kernel_rfl) rfl
theorem ePop : ∀ args w, (callFunc 104 args).run Tryd.prog w = .ok (.enter 104 args) w := enters_of Tryd.func104 (by kernel_rfl) rfl

/-- the interface value of the pile -/
abbrev ifc (pb : Nat) : Value := .iface 95 (.pointer (some ⟨pb, 0, none⟩))
theorem Pile.drewN {B pb : Nat} {v : Value} {xs : List R} {w : World} (h : Pile B pb v xs w) (q : Nat) : Pile B pb v xs (w.drewN q) := h.next (below_drewN w q)

/-- what swapping does to the pile -/
theorem swap_pile (B pb g cap : Nat) (xs : List R) (i j : Nat) (w : World) (hp : Pile B pb (.slice (some ⟨g, 0, none⟩) xs.length cap) xs w) (hi : i < xs.length) (hj : j < xs.length) :
    Calls Tryd.prog 103 #[.slice (some ⟨g, 0, none⟩) xs.length cap, .int .i64 i, .int .i64 j] w fun e w' => e = .returned (.tuple #[]) ∧ Pile B pb (.slice (some ⟨g, 0, none⟩) xs.length cap) (swapL xs i j) w' ∧ Fr pb (some g) w w' := by
  refine (swap_any xs g cap B i j w hp.row hi hj).mono ?_
  rintro e w' ⟨rfl, h1, h2⟩
  exact ⟨rfl, ⟨hp.base, (h2.block pb hp.lt hp.ne).trans hp.box, by rw [swapL_len]; exact h1⟩, Fr.of_grown h2⟩

set_option maxHeartbeats 1600000 in
theorem up_any (B pb g cap : Nat) (xs : List R) (j : Nat) (w : World) (hp : Pile B pb (.slice (some ⟨g, 0, none⟩) xs.length cap) xs w) (hj : j < xs.length) (hh : HeapUp (key xs) xs.length j) :
    Calls Tryd.prog 70 #[ifc pb, .int .i64 j] w fun e w' => e = .returned (.tuple #[]) ∧ ∃ ys, ys.Perm xs ∧ Heap (key ys) ys.length ∧ Pile B pb (.slice (some ⟨g, 0, none⟩) xs.length cap) ys w' ∧ Fr pb (some g) w w' := by
  have e1 := eLess
  have e2 := eSwap
  obtain ⟨ao, cc, he, hm, _⟩ := hp.rngs.shape
  clear he
  generalize hn : xs.length = n at *
  go_enter Tryd.func70, Tryd.ntmps70
  go_wp2
  go_loopw [1] (fun s wr => ∃ (k : Nat) (ys : List R), s = .int .i64 k ∧ k < n ∧ ys.length = n ∧ ys.Perm xs ∧ HeapUp (key ys) n k ∧ Pile B pb (.slice (some ⟨g, 0, none⟩) n cap) ys wr ∧ Fr pb (some g) w wr) (fun s _ => (intOf s).toNat)
  case atStart => exact ⟨j, xs, rfl, hj, hn, List.Perm.refl _, hh, hp, Fr.refl _ _ _⟩
  case round =>
    clear hp hh hj
    obtain ⟨k, ys, rfl, hk, hyl, hperm, hh, hp, hf⟩ := hrel
    have HH := Lib.hid hh
    have HP := Lib.hid hp
    have HPE := Lib.hid hperm
    have HYL := Lib.hid hyl
    have HF := Lib.hid hf
    have fin : Heap (key ys) n → ∀ q, ∃ ys, ys.Perm xs ∧ Heap (key ys) ys.length ∧ Pile B pb (.slice (some ⟨g, 0, none⟩) n cap) ys (wr.drewN q) ∧ Fr pb (some g) w (wr.drewN q) := fun h q =>
      ⟨ys, hperm, by rw [hyl]; exact h, hp.drewN q, hf.trans (Fr.of_below (below_drewN _ _))⟩
    have FIN := Lib.hid fin
    cases k with
    | zero =>
      have hd := hh.done0
      clear hp hf hperm hyl hh fin
      go_wp2
      go_end0
      exact ⟨rfl, FIN.out hd 0⟩
    | succ m =>
      have q1 : ((m + 1 : Nat) : Int) - 1 = m := by omega
      have d0 : (((m : Int) / 2) == (m : Int) + 1) = false := by simp; omega
      have e3 := fun N => byVal wr pb _ hp.cell _ _ N fLess
      have e4 := fun q N => byVal (wr.drewN q) pb _ (hp.drewN q).cell _ _ N fSwap
      have c1 := less_any ys _ (m + 1) (m / 2) wr hp.rngs (by omega) (by omega)
      have c2 := fun q => swap_pile B pb g cap ys (m / 2) (m + 1) (wr.drewN q) (by rw [hyl]; exact hp.drewN q) (by omega) (by omega)
      rw [hyl] at c2
      rw [show ((m / 2 : Nat) : Int) = (m : Int) / 2 by omega, show ((m + 1 : Nat) : Int) = (m : Int) + 1 by omega] at c1 c2
      have hpar : (m + 1 - 1) / 2 = m / 2 := by rw [Nat.add_sub_cancel]
      have hstep := fun h => hh.step (by omega) hk h
      have hdone := fun h => hh.done h
      rw [hpar] at hstep hdone
      have HS := Lib.hid hstep
      have HD := Lib.hid hdone
      have C1 := Lib.hid c1
      have C2 := Lib.hid c2
      clear hp hf hperm hyl hh fin c1 c2 hpar hstep hdone
      by_cases hlt : (nth ys (m + 1)).1 < (nth ys (m / 2)).1
      · rw [decide_eq_true hlt] at C1
        go_wp2_with (first
          | (go_at_fn 102; refine C1.out.mono ?_; rintro e w' ⟨rfl, q, rfl⟩)
          | (go_at_fn 103; refine (C2.out _).mono ?_; rintro e w2 ⟨rfl, hp2, hf2⟩))
        go_roundw
        case rel =>
          refine ⟨m / 2, swapL ys (m / 2) (m + 1), by go_num, by omega, by rw [swapL_len]; exact HYL.out, (swapL_perm (by rw [HYL.out]; omega) (by rw [HYL.out]; omega)).trans HPE.out, ?_, hp2, (HF.out.trans (Fr.of_below (below_drewN _ _))).trans hf2⟩
          exact (HS.out hlt).congr fun i hi => key_swap i (by rw [HYL.out]; exact hi)
        case measure => simp [intOf]; omega
      · rw [decide_eq_false hlt] at C1
        go_wp2_with (go_at_fn 102; refine C1.out.mono ?_; rintro e w' ⟨rfl, q, rfl⟩)
        go_end0
        exact ⟨rfl, FIN.out (HD.out (by unfold key; omega)) q⟩

end Go.Proofs.YtdmceapbobkklaaDoor.Rg

/- Append at a step of a region that draws. -/
import Derived.Test.YtchfpokhngbpmaaRgApp
import Derived.Deep.AppendLies
import Derived.Shelf.RegionOpen
namespace Go.Proofs.Ytchfpokhngbpmaa.Rg
open Go.RowKit Go.Shelf

/-- 'append' of ranges that may be none, at a step of a region that draws -/
theorem step_app {W : World} {ops : Array Oper} {o : Oper} {a : Act} {K : Act → World → Prop} {Q : Exit → Act → World → Prop} {E : Prop} (hgd : o.guard = none) (s x : Operand)
    (ho : o.op = .call { callee := .builtin .append, args := #[s, x], argTypes := #[22, 22] }) (B : Nat) (v : Value) (n : Nat) (xs : List Value) (hs : a.eval s = v) (hown : W.ownsRow B 39 2 v n xs)
    (src : Value) (l : List R) (hx : a.eval x = src) (hsrc : RngsAt W src l) (hM : n + l.length ≤ 1000000) (hB : B ≤ W.heap.size)
    (h : ∀ v' w', w'.ownsRow B 39 2 v' (n + l.length) (xs ++ flatR l) → W.grownBy w' v.ownBlock → (v'.ownBlock = v.ownBlock ∨ v'.ownBlock = some W.heap.size) → K (a.put o.dst v') w') : if Region.wanted o (yielded ops a.tmps) = true then Oper.wp Try.prog o a W K Q else E := by
  have hw : Region.wanted o (yielded ops a.tmps) = true := by simp [Region.wanted, hgd]
  rw [if_pos hw]
  obtain ⟨i0, hi, hz0, hz1, hz2⟩ := info_parts infoR
  rcases hsrc with ⟨rfl, rfl⟩ | ⟨ad, cap, rfl, _, hc⟩
  · have hrun := run_append_owned_none (P := Try.prog) (w := W) B 22 o.type 39 i0 2 Try.underlying22 hi v n xs hown
    unfold Oper.wp
    simp [execOp, ho, resolve, invoke, builtin, hs, hx, hrun, Result.andThen]
    exact h v W (by simpa [flatR] using hown) ⟨rfl, rfl, rfl, Nat.le_refl _, fun _ _ _ => rfl⟩ (.inl rfl)
  · have hnews : ∀ j u, (flatR l)[j]? = some u → W.cell? (ad.add j) = some u := fun j u hj => by
      obtain ⟨i, hil, ⟨rfl, rfl⟩ | ⟨rfl, rfl⟩⟩ := flatR_cells hj
      · exact (hc i hil).1
      · rw [add_pair]; exact (hc i hil).2
    obtain ⟨v', w', hrun, h1, h2, _, h4⟩ := run_append_own_at (P := Try.prog) W B 22 o.type 39 i0 (.agg #[.int .i64 0, .int .i64 0]) 2 16 Try.underlying22 hi hz0 hz1 hz2 rfl (by decide) v n xs hown ad l.length cap (flatR l) (flatR_len l) hnews flatR_one (by unfold maxLen; omega) (by omega) hB
    unfold Oper.wp
    simp [execOp, ho, resolve, invoke, builtin, hs, hx, hrun, Result.andThen]
    exact h v' w' h1 h2 h4

end Go.Proofs.Ytchfpokhngbpmaa.Rg

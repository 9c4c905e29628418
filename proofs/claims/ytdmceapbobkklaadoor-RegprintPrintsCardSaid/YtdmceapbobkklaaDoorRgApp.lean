/- Append of ranges that may be none. -/
import Derived.Test.YtdmceapbobkklaaDoorRgMem
import Derived.Laws.AppendOwnNone
namespace Go.Proofs.YtdmceapbobkklaaDoor.Rg
open Go.RowKit

theorem add_pair (a : Addr) (i : Nat) : a.add (i * 2 + 1) = ⟨(a.add (i * 2)).block, (a.add (i * 2)).off + 1, none⟩ := by
  unfold Addr.add
  by_cases h : i * 2 = 0
  · simp [h]
  · simp [h]; omega
/-- 'append' of ranges that may be none -/
theorem wpList_app {W : World} {ops : Array Oper} {rest : List Oper} {o : Oper} {a : Act} {Q : Exit → Act → World → Prop} (hgd : o.guard = none) (s x : Operand)
    (ho : o.op = .call { callee := .builtin .append, args := #[s, x], argTypes := #[52, 52] }) (B : Nat) (v : Value) (n : Nat) (xs : List Value) (hs : a.eval s = v) (hown : W.ownsRow B 75 2 v n xs)
    (src : Value) (l : List R) (hx : a.eval x = src) (hsrc : RngsAt W src l) (hM : n + l.length ≤ 1000000) (hB : B ≤ W.heap.size)
    (h : ∀ v' w', w'.ownsRow B 75 2 v' (n + l.length) (xs ++ flatR l) → W.grownBy w' v.ownBlock → wpList Tryd.prog ops Q rest (a.put o.dst v') w') : wpList Tryd.prog ops Q (o :: rest) a W := by
  obtain ⟨i0, hi, hz0, hz1, hz2⟩ := info_parts infoR
  rcases hsrc with ⟨rfl, rfl⟩ | ⟨ad, cap, rfl, _, hc⟩
  · exact wpList_append_own_none hgd s x 52 ho B 75 i0 2 Tryd.underlying52 hi v n xs hs hown hx (h v W (by simpa [flatR] using hown) ⟨rfl, rfl, rfl, Nat.le_refl _, fun _ _ _ => rfl⟩)
  · refine wpList_append_own _ hgd s x 52 ho B 75 i0 (.agg #[.int .i64 0, .int .i64 0]) 2 16 Tryd.underlying52 hi hz0 hz1 hz2 rfl (by decide) v n xs hs hown ad l.length cap (flatR l) hx (flatR_len l) (fun j u hj => ?_) flatR_one (by unfold maxLen; omega) (by omega) hB fun v' w' h1 h2 _ => h v' w' h1 h2
    obtain ⟨i, hil, ⟨rfl, rfl⟩ | ⟨rfl, rfl⟩⟩ := flatR_cells hj
    · exact (hc i hil).1
    · rw [add_pair]; exact (hc i hil).2

end Go.Proofs.YtdmceapbobkklaaDoor.Rg

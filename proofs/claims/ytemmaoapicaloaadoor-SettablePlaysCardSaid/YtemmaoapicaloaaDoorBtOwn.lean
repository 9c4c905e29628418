/- Rows of numbers that the call owns. -/
import Derived.Test.YtemmaoapicaloaaDoorBtMem
import Derived.Laws.AppendOwnNone
namespace Go.Proofs.YtemmaoapicaloaaDoor.Bt
open Go Go.RowKit

/-- numbers, as values -/
def iV (l : List Int) : List Value := l.map (Value.int .i64)

theorem own_slice {w : World} {B : Nat} {e : TypeId} {s n : Nat} {v : Value} {xs : List Value} (h : w.ownsRow B e s v n xs) : ∃ a c, v = .slice a n c := by
  rcases h.2 with ⟨rfl, rfl⟩ | ⟨g, cap, cur, rfl, hb, _⟩
  · exact ⟨_, _, rfl⟩
  · exact ⟨_, _, rfl⟩
/-- 'append' of numbers that may be none -/
theorem wpList_appI {W : World} {ops : Array Oper} {rest : List Oper} {o : Oper} {a : Act} {Q : Exit → Act → World → Prop} (hgd : o.guard = none) (s x : Operand)
    (ho : o.op = .call { callee := .builtin .append, args := #[s, x], argTypes := #[27, 27] }) (B : Nat) (v : Value) (n N : Nat) (xs : List Int) (hs : a.eval s = v) (hown : W.ownsRow B 3 1 v n (iV xs))
    (src : Value) (l : List Int) (hx : a.eval x = src) (hsrc : (src = .slice none 0 0 ∧ l = []) ∨ ∃ g i c m, src = .slice (some ⟨g, i, none⟩) m c ∧ m = l.length ∧ ∀ j, j < l.length → W.cell? ⟨g, i + j, none⟩ = some (.int .i64 (l.getD j 0))) (hN : N = n + l.length) (hM : N ≤ 1000000) (hB : B ≤ W.heap.size)
    (h : ∀ v' w', w'.ownsRow B 3 1 v' N (iV (xs ++ l)) → W.grownBy w' v.ownBlock → wpList Tryd.prog ops Q rest (a.put o.dst v') w') : wpList Tryd.prog ops Q (o :: rest) a W := by
  obtain ⟨i0, hi, hz0, hz1, hz2⟩ := info_parts infoI
  subst hN
  rcases hsrc with ⟨rfl, rfl⟩ | ⟨g, i, c, m, rfl, rfl, hc⟩
  · exact wpList_append_own_none hgd s x 27 ho B 3 i0 1 Tryd.underlying27 hi v n (iV xs) hs hown hx (h v W (by simpa using hown) ⟨rfl, rfl, rfl, Nat.le_refl _, fun _ _ _ => rfl⟩)
  · refine wpList_append_own _ hgd s x 27 ho B 3 i0 (.int .i64 0) 1 8 Tryd.underlying27 hi hz0 hz1 hz2 rfl (by decide) v n (iV xs) hs hown ⟨g, i, none⟩ l.length c (iV l) hx (by simp [iV]) (fun j u hj => ?_) (fun u hu => by
      obtain ⟨y, _, rfl⟩ := List.mem_map.1 hu
      rfl) (by unfold maxLen; omega) (by omega) hB fun v' w' h1 h2 _ => h v' w' (by rwa [iV, List.map_append]) h2
    have hjl : j < l.length := by
      have := (List.getElem?_eq_some_iff.1 hj).1
      simpa [iV] using this
    have e : (⟨g, i, none⟩ : Addr).add j = ⟨g, i + j, none⟩ := by
      unfold Addr.add; split
      · rename_i h0; subst h0; rfl
      · rfl
    rw [e, hc j hjl]
    simp only [iV, List.getElem?_map, List.getElem?_eq_getElem hjl, Option.map_some, Option.some.injEq] at hj
    rw [← hj]
    simp [List.getD, hjl]
theorem one_new (W : World) (n : Int) : ∀ j, j < [n].length → (W.alloc (.cells #[.int .i64 n] 3)).cell? ⟨W.heap.size, 0 + j, none⟩ = some (.int .i64 ([n].getD j 0)) := by
  intro j hj
  obtain rfl : j = 0 := by simpa using hj
  rw [World.cell?_alloc_new]; rfl

end Go.Proofs.YtemmaoapicaloaaDoor.Bt

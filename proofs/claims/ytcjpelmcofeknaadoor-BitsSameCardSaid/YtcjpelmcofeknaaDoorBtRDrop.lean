/- The document's Drop. -/
import Derived.Test.YtcjpelmcofeknaaDoorBtRAdd
namespace Go.Proofs.YtcjpelmcofeknaaDoor.Bt
open Go Go.RowKit

theorem filter_take {l : List Int} {n : Int} {k : Nat} (h : k < l.length) : (l.take (k + 1)).filter (fun x => decide (x ≠ n)) = if l.getD k 0 = n then (l.take k).filter (fun x => decide (x ≠ n)) else (l.take k).filter (fun x => decide (x ≠ n)) ++ [l.getD k 0] := by
  have e : l.getD k 0 = l[k] := by simp [List.getD, h]
  rw [List.take_succ_eq_append_getElem h, List.filter_append, e]
  by_cases hc : l[k] = n <;> simp [hc]
theorem filter_len (l : List Int) (n : Int) (k : Nat) : ((l.take k).filter (fun x => decide (x ≠ n))).length ≤ l.length :=
  Nat.le_trans (List.length_filter_le _ _) (by rw [List.length_take]; omega)

set_option maxRecDepth 100000 in
set_option maxHeartbeats 4000000 in
theorem rdrop_any (v : Value) (l : List Int) (n : Int) (B : Nat) (w : World) (hB : B ≤ w.heap.size) (hl : l.length ≤ 10000) (h : IntsAt w v l) :
    Calls Tryd.prog 11 #[v, .int .i64 n] w fun e w' => ListOut w B (l.filter (fun x => decide (x ≠ n))) e w' := by
  obtain ⟨ao, cap, rfl, hm, hc⟩ := h.shape
  have HC := Lib.hid hc
  clear hc h
  go_enter Tryd.func11, Tryd.ntmps11
  go_wp2
  go_loopw [5, 6] (fun x i wr => ∃ (k : Nat) (f : List Int), k ≤ l.length ∧ i = .int .i64 k ∧ f = (l.take k).filter (fun x => decide (x ≠ n)) ∧ wr.ownsRow w.heap.size 3 1 x f.length (iV f) ∧ Below w.heap.size w wr) (fun _ i _ => l.length - (intOf i).toNat)
  case atStart => exact ⟨0, [], by omega, rfl, rfl, World.ownsRow_nil _ _ _ _, Below.refl _ _⟩
  case round =>
    obtain ⟨k, f, hk, rfl, hf, ho, hb⟩ := hrel
    have hfl : f.length ≤ l.length := by rw [hf]; exact filter_len l n k
    by_cases hlt : k < l.length
    · obtain ⟨g, rfl, hcell0⟩ := HC.out k hlt
      have hcell := cell_next hcell0 hb
      have F := filter_take (n := n) hlt
      rw [← hf] at F
      clear hf hcell0
      generalize l.getD k 0 = c at *
      by_cases hcn : c = n
      · rw [if_pos hcn] at F
        have HF := Lib.hid F
        have HO := Lib.hid ho
        obtain ⟨a1, c1, rfl⟩ := own_slice ho
        clear F ho
        generalize hfe : f.length = fl at *
        have HFE := Lib.hid hfe
        clear hfe
        go_wp2
        go_roundw
        case rel => exact ⟨k + 1, f, by omega, by go_num, HF.out.symm, by rw [HFE.out]; exact HO.out, hb⟩
        case measure => simp [intOf]; omega
      · rw [if_neg hcn] at F
        have HF := Lib.hid F
        clear F
        obtain ⟨a1, c1, rfl⟩ := own_slice ho
        generalize hfe : f.length = fl at *
        have HFE := Lib.hid hfe
        clear hfe
        go_wp2_with (at_builtin; (refine wpList_appI rfl _ _ rfl w.heap.size _ fl (fl + 1) f rfl (ho.alloc _) _ [c] rfl (.inr ⟨wr.heap.size, 0, 1, 1, rfl, rfl, one_new wr c⟩) rfl (by omega) (by have := hb.size; simp only [World.size_alloc]; omega) ?_; intro v2 w2 ho2 hg2; obtain ⟨a2, c2, rfl⟩ := own_slice ho2))
        go_roundw
        case rel => exact ⟨k + 1, f ++ [c], by omega, by go_num, HF.out.symm, by rw [List.length_append, HFE.out]; exact ho2, below_again _ hb ho hg2⟩
        case measure => simp [intOf]; omega
    · obtain rfl : k = l.length := by omega
      rw [List.take_length] at hf
      subst hf
      obtain ⟨a1, c1, rfl⟩ := own_slice ho
      go_wp2
      go_ret
      exact ⟨_, rfl, row_base ho hB, hb⟩

end Go.Proofs.YtcjpelmcofeknaaDoor.Bt

/- Walks of Parse: the program's and the document's answer. -/
import Derived.Test.YtemnhlljobjjgaaDoorDgLead
import Derived.Test.YtemnhlljobjjgaaDoorDgHex
import Derived.Test.YtemnhlljobjjgaaDoorDgText
namespace Go.Proofs.YtemnhlljobjjgaaDoor.Dg
open Go.RowKit

def vOpt (o : Option Nat) : Value := match o with | some n => .tuple #[.int .i64 (n : Nat), .bool true] | none => .tuple #[.int .i64 0, .bool false]
theorem endOpt {o : Option Nat} {n : Nat} {z : Int} (h : o = some n) (hz : z = n) : Ending.returned (.tuple #[.int .i64 z, .bool true]) = .returned (vOpt o) := by subst h; subst hz; rfl
theorem endOptn {o : Option Nat} (h : o = none) : Ending.returned (.tuple #[.int .i64 0, .bool false]) = .returned (vOpt o) := by subst h; rfl

set_option maxRecDepth 100000 in
set_option maxHeartbeats 400000 in
theorem parse_any (s : ByteArray) (w : World) (hs : s.size ≤ maxLen) :
    Calls Tryd.prog 7 #[.string s] w fun e w' => e = .returned (vOpt (parseR s.data.toList)) ∧ w = w' := by
  have hl := Lib.hid (fun w => lead_any s w hs)
  have hb := goLead_le s.data.toList 0 0 (by omega)
  have hr := Lib.hid (parseR_eq s.data.toList)
  unfold maxLen at hs
  generalize goLead s.data.toList 0 0 = r at hl hb hr
  obtain ⟨n, k⟩ := r
  simp only at hb
  have hsz : s.data.toList.length = s.size := by simp
  rw [hsz] at hb hr
  clear hsz
  obtain ⟨N, hN⟩ : ∃ N : Int, (n : Int) = N := ⟨_, rfl⟩
  have hN0 : 0 ≤ N := by omega
  have hN1 : N ≤ 1000000000 := by omega
  have HN := Lib.hid hN
  have hk : k ≤ s.size := by omega
  have hl' : ∀ w, Calls Tryd.prog 11 #[.string s] w fun e w' => e = .returned (.tuple #[.int .i64 N, .int .i64 (k : Nat)]) ∧ w = w' := fun w => by rw [← hN]; exact hl.out w
  have HL := Lib.hid hl'
  clear hl hl' hN hb
  by_cases hbad : k = 0 ∨ k < s.size ∨ 999999999 < N
  · have hx := Lib.hid (hr.out.trans (if_pos (by have := HN.out; omega)))
    clear hr
    go_enter Tryd.func7, Tryd.ntmps7
    go_wp2_with (go_at_call 11; refine (HL.out _).mono ?_; rintro e w' ⟨rfl, rfl⟩)
    all_goals go_ret2
    all_goals exact ⟨endOptn hx.out, rfl⟩
  · have h1 : 0 < s.size := by omega
    have hx := hr.out.trans (if_neg (by have := HN.out; omega))
    have h3 : ((k : Int) == 0) = false := beq_eq_false_iff_ne.2 (by omega)
    have h4 : s.size ≤ k := by omega
    have h5 : N ≤ 999999999 := by omega
    have hz : s.data.toList.getD 0 0 = s[0] := by rw [List.getD_eq_getElem?_getD, List.getElem?_eq_getElem (by simpa using h1)]; rfl
    rw [hz] at hx
    have HX := Lib.hid hx
    clear hr hx hz hbad
    go_enter Tryd.func7, Tryd.ntmps7
    go_wp2_with (go_at_call 11; refine (HL.out _).mono ?_; rintro e w' ⟨rfl, rfl⟩)
    all_goals go_ret2
    · exact ⟨endOptn (HX.out.trans (if_pos ⟨toNat_eq (by assumption), by omega⟩)), rfl⟩
    · exact ⟨endOpt (HX.out.trans (if_neg (fun h => by omega))) HN.out.symm, rfl⟩
    · have hne : ¬ (s[0].toNat : Int) = 48 := by assumption
      exact ⟨endOpt (HX.out.trans (if_neg (fun h => hne (by rw [h.1]; rfl)))) HN.out.symm, rfl⟩

end Go.Proofs.YtemnhlljobjjgaaDoor.Dg

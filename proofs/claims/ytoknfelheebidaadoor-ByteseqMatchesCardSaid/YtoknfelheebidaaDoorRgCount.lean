/- The document's Count. -/
import Derived.Test.YtoknfelheebidaaDoorRgSet2
namespace Go.Proofs.YtoknfelheebidaaDoor.Rg
open Go.RowKit Go.Shelf

def RCountRel (L : List R) (s i : Value) : Prop :=
  ∃ (k : Nat) (n : Int), i = .int .i64 k ∧ s = .int .i64 n ∧ k ≤ L.length ∧ n + cntL (L.drop k) = cntL L ∧ 0 ≤ n

set_option maxHeartbeats 1600000 in
theorem rcount_all (l L : List R) (v : Value) (w : World) (hv : RngsAt w v l) (hM : l.length ≤ 40000) (h0 : setFrom 0 L) (h1 : ∀ c, hasB L c = inB l c) : Calls Tryd.prog 23 #[v] w fun e w' => e = .returned (.int .i64 (cntL L)) ∧ Below w.heap.size w w' := by
  have c1 := Lib.hid (set_any 0 (by omega) l [] v (.slice none 0 0) w hv (none_at w) (by simpa using hM))
  have HS := Lib.hid h0
  have eqL : ∀ L', setFrom 0 L' → (∀ c, hasB L' c = (isC c && holdB 0 l [] c)) → L' = L := fun L' k0 k1 => uniq k0 h0 fun c => by
    rw [k1, h1]; show (isC c && inB l c) = inB l c; exact inB_isC l c
  have EQ := Lib.hid eqL
  clear hv h0 h1 eqL
  go_enter Tryd.func23, Tryd.ntmps23
  go_wp2_with (go_at_call 24; refine c1.out.mono ?_; rintro e w1 ⟨v1, L', rfl, hr, k1, k2, k3, k4⟩; go_must (obtain rfl := EQ.out L' k1 k2; obtain ⟨ao, cap, rfl, hm, hcs⟩ := (rngs_of_row hr).shape; have HC := Lib.hid hcs; have H4 := Lib.hid k4; clear hcs k1 k2 k4 hr))
  go_loopw [4, 5] (fun s i wr => RCountRel L' s i ∧ Below w1.heap.size w1 wr) (fun _ i _ => L'.length - (intOf i).toNat)
  case atStart => exact ⟨⟨0, 0, rfl, rfl, Nat.zero_le _, by simp, by omega⟩, Below.refl _ _⟩
  case round =>
    obtain ⟨⟨k, n, rfl, rfl, hk, hc, hn0⟩, hb⟩ := hrel
    by_cases hlt : k < L'.length
    · obtain ⟨g, rfl, c1, c2⟩ := HC.out k hlt
      replace c1 := cell_next c1 hb
      replace c2 := cell_next c2 hb
      obtain ⟨b1, b2, b3, b4, b5⟩ := bnd HS.out hlt hc
      have HSR := Lib.hid b5
      have HB := Lib.hid hb
      have n1 : (k : Int) < (L'.length : Int) := by omega
      have n2 : (0 : Int) ≤ (k : Int) := by omega
      have z1 : IntKind.i64.wrap (n + (nth L' k).2) = n + (nth L' k).2 := by rw [IntKind.wrap_i64]; omega
      have z2 : IntKind.i64.wrap (n + (nth L' k).2 - (nth L' k).1) = n + (nth L' k).2 - (nth L' k).1 := by rw [IntKind.wrap_i64]; omega
      have z3 : IntKind.i64.wrap (n + (nth L' k).2 - (nth L' k).1 + 1) = n + (nth L' k).2 - (nth L' k).1 + 1 := by rw [IntKind.wrap_i64]; omega
      clear hc hb b5
      go_wp2
      go_quiet (fail)
      go_wp2
      go_roundw
      case rel => exact ⟨⟨k + 1, n + ((nth L' k).2 - (nth L' k).1 + 1), by go_num, by go_num, by omega, HSR.out, by omega⟩, HB.out.trans ((below_drewN _ _).mono HB.out.size)⟩
      case measure => simp [intOf]; omega
    · obtain rfl : k = L'.length := by omega
      rw [List.drop_length] at hc
      have hc2 : n = cntL L' := by simp [cntL] at hc; omega
      subst hc2
      clear hc
      go_wp2
      go_ret
      exact ⟨rfl, H4.out.trans (hb.mono H4.out.size)⟩

end Go.Proofs.YtoknfelheebidaaDoor.Rg

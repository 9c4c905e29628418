/- The laws: AlphabetRows. -/
import Derived.Test.YtchfpokhngbpmaaAbAlive
namespace Go.Proofs.Ytchfpokhngbpmaa.Ab
open Go.RowKit
open Go.Proofs.Ytchfpokhngbpmaa.Rg (RngsAt nth)

theorem same_one (v u : Value) (l : List Int) (W : World) (h : IntsAt W v l) (g : IntsAt W u l) : Calls Try.prog 9 #[v, u] W fun e w' => e = .returned (.bool true) ∧ Below W.heap.size W w' := by
  have := Ut.same_any v u l l W h g
  rwa [decide_eq_true rfl] at this

set_option maxRecDepth 100000 in
set_option maxHeartbeats 4000000 in
theorem lawRows_any (v : Value) (l : List Int) (c : Int) (w : World) (h : IntsAt w v l) (wl : WfL l) :
    Calls Try.prog 4 #[v, .int .i64 c] w fun e w' => e = .returned (.bool true) ∧ Below w.heap.size w w' := by
  have HV := Lib.hid h
  have ca := Lib.hid alive_any
  by_cases hl : 300 < l.length
  · have hl2 : (300 : Int) < (l.length : Int) := by omega
    obtain ⟨ao, cap, rfl, hm, _⟩ := h.shape
    clear h
    go_enter Try.func4, Try.ntmps4
    go_wp2_with (go_at_call 6; refine (ca.out _).mono ?_; rintro e w1 ⟨rfl, hb1⟩)
    go_ret
    exact ⟨rfl, hb1⟩
  · have hl2 : ¬ (300 : Int) < (l.length : Int) := by omega
    have c1 := Lib.hid (fun W (h : Below w.heap.size w W) => right_any v l W (HV.out.next h) wl)
    have c2 := Lib.hid (fun W (h : Below w.heap.size w W) => rright_any v l W (HV.out.next h))
    have c3 := Lib.hid (fun W (h : Below w.heap.size w W) => first_any v l W (HV.out.next h) wl)
    have c4 := Lib.hid (fun W (h : Below w.heap.size w W) => rfirst_any v l W (HV.out.next h))
    have c5 := Lib.hid (fun W (h : Below w.heap.size w W) => bytes_any v l c W (HV.out.next h))
    have c6 := Lib.hid (fun W (h : Below w.heap.size w W) => rbytes_any v l c W (HV.out.next h))
    obtain ⟨ao, cap, rfl, hm, _⟩ := h.shape
    clear h
    generalize rightB l = R at *
    generalize firstL l = F at *
    generalize bytesA l c = B at *
    go_enter Try.func4, Try.ntmps4
    go_wp2_with (first
      | (go_at_call 10; (with_reducible refine (c1.out _ (Below.refl _ _)).mono ?_); rintro e w1 ⟨rfl, hb1⟩; have H1 := Lib.hid hb1; clear hb1)
      | (go_at_call 12; (with_reducible refine (c2.out _ H1.out).mono ?_); rintro e w2 ⟨rfl, hb2⟩; have H2 := Lib.hid (H1.out.trans (hb2.mono H1.out.size)); clear hb2)
      | (go_at_call 13; (with_reducible refine (c3.out _ H2.out).mono ?_); rintro e w3 ⟨v3, rfl, hv3, hb3⟩; have H3 := Lib.hid (H2.out.trans (hb3.mono H2.out.size)); have V3 := Lib.hid hv3; clear hb3 hv3)
      | (go_at_call 14; (with_reducible refine (c4.out _ H3.out).mono ?_); rintro e w4 ⟨v4, rfl, hv4, hb4⟩; have H4 := Lib.hid (H3.out.trans (hb4.mono H3.out.size)); have S1 := Lib.hid (same_one v3 v4 F w4 (V3.out.next hb4) hv4); clear hb4 hv4)
      | (go_at_call 9; (with_reducible refine S1.out.mono ?_); rintro e w5 ⟨rfl, hb5⟩; have H5 := Lib.hid (H4.out.trans (hb5.mono H4.out.size)); clear hb5)
      | (go_at_call 15; (with_reducible refine (c5.out _ H5.out).mono ?_); rintro e w6 ⟨v6, rfl, hv6, hb6⟩; have H6 := Lib.hid (H5.out.trans (hb6.mono H5.out.size)); have V6 := Lib.hid hv6; clear hb6 hv6)
      | (go_at_call 16; (with_reducible refine (c6.out _ H6.out).mono ?_); rintro e w7 ⟨v7, rfl, hv7, hb7⟩; have H7 := Lib.hid (H6.out.trans (hb7.mono H6.out.size)); have S2 := Lib.hid (same_one v6 v7 B w7 (V6.out.next hb7) hv7); clear hb7 hv7)
      | (go_at_call 9; (with_reducible refine S2.out.mono ?_); rintro e w8 ⟨rfl, hb8⟩; have H8 := Lib.hid (H7.out.trans (hb8.mono H7.out.size)); clear hb8)
      | (go_at_call 6; (with_reducible refine (ca.out _).mono ?_); rintro e w9 ⟨rfl, hb9⟩; have H9 := Lib.hid (H8.out.trans (hb9.mono H8.out.size)); clear hb9)
      | fail)
    go_ret
    exact ⟨rfl, H9.out⟩

end Go.Proofs.Ytchfpokhngbpmaa.Ab

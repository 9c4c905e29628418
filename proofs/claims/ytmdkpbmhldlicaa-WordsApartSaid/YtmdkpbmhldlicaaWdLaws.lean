/- The laws of words, walked: what they have in common; WordsNames. -/
import Derived.Test.YtmdkpbmhldlicaaWdNx
import Derived.ChangeKeysEq
import Derived.Deep.QuietTactic
import Derived.BigQuiet
import Derived.RegionTactic
namespace Go.Proofs.Ytmdkpbmhldlicaa.Wd
open Go.RowKit Go.Shelf

theorem next_any (s : ByteArray) (hs : s.size ≤ 1000000) (at_ : Int) (w : World) :
    Calls Try.prog 15 #[.string s, .int .i64 at_] w fun e W' => e = .returned (vNext s.data.toList (cl at_ s.size)) ∧ Below w.heap.size w W' :=
  (callsIn_wide (n := 5)).1 (next_in Fence.wide 5 trivial trivial trivial trivial rfl (by omega) s hs at_ (cl at_ s.size) (cl_eq at_ s.size).symm w blank_wide filled_wide)

theorem plain3 : Try.prog.plainKey 3 = true := by kernel_rfl
theorem cells3 : Try.prog.cellsOf 3 = 1 := by kernel_rfl
theorem run_eq1 (d : Nat) (x : Int) (w : World) : (Op.equalIn (d + 1) 3 (.int .i64 x) (.int .i64 x)).run Try.prog w = .ok true w := by
  simp [Op.equalIn, run_underlying Try.underlying3]
/-- two arrays of two that are one -/
theorem run_eq2 (a b : Int) (w : World) : (Op.equalIn 10000 29 (.agg #[.int .i64 a, .int .i64 b]) (.agg #[.int .i64 a, .int .i64 b])).run Try.prog w = .ok true w := by
  obtain ⟨i, hi⟩ := info_of_underlying (P := Try.prog) Try.underlying3
  have he : ∀ x : Int, (Op.equalIn 9999 3 (.int .i64 x) (.int .i64 x)).run Try.prog w = .ok true w := fun x => run_eq1 9998 x w
  have p0 : (part 3 #[.int .i64 a, .int .i64 b] 0).run Try.prog w = .ok (.int .i64 a) w := run_part_plain w plain3 rfl
  have p1 : (part 3 #[.int .i64 a, .int .i64 b] 1).run Try.prog w = .ok (.int .i64 b) w := run_part_plain w plain3 rfl
  rw [show (10000 : Nat) = 9999 + 1 from rfl, run_equalIn_array w 9999 _ _ Try.underlying29 hi, cells3, show List.range 2 = [0, 1] from rfl]
  simp [Op.eqItems, p0, p1, he]

/-- memory has only grown -/
def Gr (w0 w : World) : Prop := Below w0.heap.size w0 w
theorem Gr.start (w : World) : Gr w w := Below.refl _ w
theorem Gr.on {w0 w w' : World} (h : Gr w0 w) (hb : Below w.heap.size w w') : Gr w0 w' := Below.trans h (hb.mono (Below.size h))

set_option maxRecDepth 100000 in
set_option maxHeartbeats 1000000 in
theorem alive_any (w : World) : Calls Try.prog 6 #[] w fun e w' => e = .returned (.bool true) ∧ Below w.heap.size w w' := by
  have c1 := Lib.hid (fun w => all_any ⟨#[32, 32, 97, 98, 32, 99]⟩ (by decide) w)
  have e1 : wordsL (⟨#[32, 32, 97, 98, 32, 99]⟩ : ByteArray).data.toList = [(2, 4), (5, 6)] := by kernel_rfl
  rw [e1] at c1
  have c2 := Lib.hid (fun w => (name_both ⟨#[97, 95, 49]⟩ (by decide) w).1)
  have e2 : nameL (⟨#[97, 95, 49]⟩ : ByteArray).data.toList = true := by kernel_rfl
  rw [e2] at c2
  have c3 := Lib.hid (fun w => (name_both ⟨#[49, 97]⟩ (by decide) w).1)
  have e3 : nameL (⟨#[49, 97]⟩ : ByteArray).data.toList = false := by kernel_rfl
  rw [e3] at c3
  have c4 := Lib.hid (fun w => lead_any ⟨#[120, 57, 45]⟩ (by decide) w)
  have e4 : leadL (⟨#[120, 57, 45]⟩ : ByteArray).data.toList = 2 := by kernel_rfl
  rw [e4] at c4
  clear e1 e2 e3 e4
  have q1 := run_eq2 2 4
  have q2 := run_eq2 5 6
  go_enter Try.func6, Try.ntmps6
  go_wp2_with (first
    | (go_at_call 13; refine (c1.out _).mono ?_; rintro e w1 ⟨v, rfl, hp, hb⟩; obtain ⟨ao, cap, rfl, _, hc⟩ := hp.shape; obtain ⟨g, rfl, x1, x2⟩ := hc 0 (by decide); obtain ⟨g', hgg, x3, x4⟩ := hc 1 (by decide); cases hgg; clear hc hp; simp at x1 x2 x3 x4)
    | (go_at_call 9; first | ((with_reducible refine (c2.out _).mono ?_); rintro e w' ⟨rfl, rfl⟩) | ((with_reducible refine (c3.out _).mono ?_); rintro e w' ⟨rfl, rfl⟩))
    | (go_at_call 11; refine (c4.out _).mono ?_; rintro e w' ⟨rfl, rfl⟩))
  go_ret
  exact ⟨rfl, hb⟩
theorem alive_g {w0 : World} (w : World) (g : Gr w0 w) : Calls Try.prog 6 #[] w fun e w' => e = .returned (.bool true) ∧ Gr w0 w' :=
  (alive_any w).mono fun _ _ ⟨he, hw⟩ => ⟨he, g.on hw⟩

set_option maxRecDepth 100000 in
set_option maxHeartbeats 1000000 in
theorem law_names (s : ByteArray) (x : Int) (w : World) (hs : s.size ≤ maxLen) (h0 : 0 ≤ x) (h1 : x ≤ 255) :
    Calls Try.prog 3 #[.string s, .int .u8 x] w fun r w' => r = .returned (.bool true) ∧ Below w.heap.size w w' := by
  have HA := Lib.hid (fun W (g : Gr w W) => alive_g (w0 := w) W g)
  have g0 := Gr.start w
  obtain ⟨c, rfl⟩ : ∃ c : UInt8, x = (c.toNat : Int) := ⟨UInt8.ofNat x.toNat, by simp [UInt8.toNat_ofNat']; omega⟩
  have c1 := Lib.hid (fun w => blank_any c w)
  have c2 := Lib.hid (fun w => rblank_any c w)
  have c3 := Lib.hid (fun w => (name_both s hs w).1)
  have c4 := Lib.hid (fun w => (name_both s hs w).2)
  have c5 := Lib.hid (fun w => lead_any s hs w)
  have c6 := Lib.hid (fun w => rlead_any s hs w)
  generalize blk c = B at *
  generalize nameL s.data.toList = N at *
  generalize leadL s.data.toList = L at *
  unfold maxLen at hs
  by_cases hm : 300 < s.size
  · go_enter Try.func3, Try.ntmps3
    go_wp2_with (go_at_call 6; refine (HA.out _ (by assumption)).mono ?_; rintro e w' ⟨rfl, g1⟩)
    go_ret
    exact ⟨rfl, g1⟩
  · go_enter Try.func3, Try.ntmps3
    go_wp2_with (first
      | (go_at_call 7; refine (c1.out _).mono ?_; rintro e w' ⟨rfl, rfl⟩)
      | (go_at_call 8; refine (c2.out _).mono ?_; rintro e w' ⟨rfl, rfl⟩)
      | (go_at_call 9; refine (c3.out _).mono ?_; rintro e w' ⟨rfl, rfl⟩)
      | (go_at_call 10; refine (c4.out _).mono ?_; rintro e w' ⟨rfl, rfl⟩)
      | (go_at_call 11; refine (c5.out _).mono ?_; rintro e w' ⟨rfl, rfl⟩)
      | (go_at_call 12; refine (c6.out _).mono ?_; rintro e w' ⟨rfl, rfl⟩)
      | (go_at_call 6; refine (HA.out _ (by assumption)).mono ?_; rintro e w' ⟨rfl, g1⟩))
    go_ret
    exact ⟨rfl, g1⟩

end Go.Proofs.Ytmdkpbmhldlicaa.Wd

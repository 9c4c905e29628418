/- The document's Check. The box of a node. Tables of places in plain words: from where to where a row of numbers leads. Tables of places in memory: the document's blank. Tables of places in memory: the document's blank. Tables of places in memory: the document's plus. Tables of places in memory: the document's times. Tables of places in memory: the document's rep. From where to where each node of a tree has what stands between: the document's Spans. -/
import Derived.Test.YtgjiofkjogjhhaaGreatDoorPk04
import Derived.Test.YtgjiofkjogjhhaaGreatDoorPk02
import Derived.Test.YtgjiofkjogjhhaaGreatDoorPk03
import Derived.Lib.Hide
import Derived.Carry
import Derived.StillTailTactics
import Derived.BigQuiet
import Derived.Test.YtgjiofkjogjhhaaGreatDoorPk01

namespace Go.Proofs.YtgjiofkjogjhhaaGreatDoor.Ar
open Go Go.RowKit Go.Shelf
open Go.Proofs.YtgjiofkjogjhhaaGreatDoor.Rg (R RngsAt RowsAt nthL add_zero own_next)

set_option maxRecDepth 100000 in
set_option maxHeartbeats 8000000 in
theorem rnode_any (t : Tr) (i : Nat) (hi : i < t.ns.length) (v : Value) (w : World) (h : TreeAt w v t) :
    Calls Tryz.prog 39 #[v, .int .i64 i] w fun e w' => e = .returned (.bool (nodeB (nd t.ns i) i t.sets.length)) ∧ Below w.heap.size w w' := by
  obtain ⟨ao, cap, so, scap, rfl, hm, hm2, hn, _⟩ := h.shape
  obtain ⟨g, rfl, hN⟩ := hn i hi
  obtain ⟨c0, c1, c2, c3, c4, c5⟩ := hN
  have hlt := cell_lt c0
  clear hn h
  generalize nd t.ns i = n at *
  rcases op_ways n with z1 | ⟨z1, z2⟩ | ⟨z1, z2, z3⟩ | ⟨z1, z2, z3, z4⟩ | ⟨z1, z2, z3, z4, z5⟩ | ⟨z1, z2, z3, z4, z5⟩
  · have E := Lib.hid (nodeB_1 (n := n) (i := i) (s := t.sets.length) (by simpa using z1))
    go_enter Tryz.func39, Tryz.ntmps39
    go_wp2
    all_goals (
      go_ret
      refine ⟨ret_b ?_, ((Below.refl w.heap.size w).alloc (Nat.le_refl _) _).alloc (by simp) _⟩
      rw [E.out, Bool.eq_iff_iff]
      simp
      omega)
  · have E := Lib.hid (nodeB_2 (n := n) (i := i) (s := t.sets.length) (by simpa using z2))
    go_enter Tryz.func39, Tryz.ntmps39
    go_wp2
    all_goals (
      go_ret
      refine ⟨ret_b ?_, ((Below.refl w.heap.size w).alloc (Nat.le_refl _) _).alloc (by simp) _⟩
      rw [E.out, Bool.eq_iff_iff]
      simp
      omega)
  · have E := Lib.hid (nodeB_3 (n := n) (i := i) (s := t.sets.length) (.inl (by simpa using z3)))
    go_enter Tryz.func39, Tryz.ntmps39
    go_wp2
    all_goals (
      go_ret
      refine ⟨ret_b ?_, ((Below.refl w.heap.size w).alloc (Nat.le_refl _) _).alloc (by simp) _⟩
      rw [E.out, Bool.eq_iff_iff]
      simp
      omega)
  · have E := Lib.hid (nodeB_3 (n := n) (i := i) (s := t.sets.length) (.inr (by simpa using z4)))
    go_enter Tryz.func39, Tryz.ntmps39
    go_wp2
    all_goals (
      go_ret
      refine ⟨ret_b ?_, ((Below.refl w.heap.size w).alloc (Nat.le_refl _) _).alloc (by simp) _⟩
      rw [E.out, Bool.eq_iff_iff]
      simp
      omega)
  · have E := Lib.hid (nodeB_5 (n := n) (i := i) (s := t.sets.length) (by simpa using z5))
    have ct := Lib.hid (fun w => rtimes_any n.lo n.hi w)
    generalize timesB n.lo n.hi = b at *
    go_enter Tryz.func39, Tryz.ntmps39
    go_wp2_with (go_at_call 57; (with_reducible refine (ct.out _).mono ?_); rintro e w1 ⟨rfl, rfl⟩)
    all_goals (
      go_ret
      refine ⟨ret_b ?_, ((Below.refl w.heap.size w).alloc (Nat.le_refl _) _).alloc (by simp) _⟩
      rw [E.out]
      cases b
      all_goals (rw [Bool.eq_iff_iff]; simp)
      all_goals omega)
  · have E := Lib.hid (nodeB_0 (n := n) (i := i) (s := t.sets.length) (by simpa using z1) (by simpa using z2) (by simp at z3 z4; omega) (by simpa using z5))
    go_enter Tryz.func39, Tryz.ntmps39
    go_wp2
    all_goals (
      go_ret
      refine ⟨ret_b ?_, ((Below.refl w.heap.size w).alloc (Nat.le_refl _) _).alloc (by simp) _⟩
      exact E.out.symm)

end Go.Proofs.YtgjiofkjogjhhaaGreatDoor.Ar

namespace Go.Proofs.YtgjiofkjogjhhaaGreatDoor.Ar
open Go Go.RowKit Go.Shelf
open Go.Proofs.YtgjiofkjogjhhaaGreatDoor.Rg (R RngsAt RowsAt nthL add_zero own_next rightB rright_all)

set_option maxRecDepth 100000 in
set_option maxHeartbeats 8000000 in
theorem rcheck_any (t : Tr) (v : Value) (w : World) (h : TreeAt w v t) (hl : ∀ k, k < t.sets.length → (nthL t.sets k).length ≤ 40000) :
    Calls Tryz.prog 14 #[v] w fun e w' => e = .returned (.int .i64 (checkE t)) ∧ Below w.heap.size w w' := by
  have HV := Lib.hid h
  obtain ⟨ao, cap, so, scap, rfl, hm, hm2, hn, hs⟩ := h.shape
  have HN := Lib.hid hn
  have HS := Lib.hid hs
  clear hn hs h
  have b1 := (Below.refl w.heap.size w).alloc (Nat.le_refl _) (.cells #[.slice ao t.ns.length cap, .slice so t.sets.length scap, .int .i64 t.root] 38)
  have B1 := Lib.hid b1
  have T0 := Lib.hid (TBox.new w (.slice ao t.ns.length cap) (.slice so t.sets.length scap) t.root)
  by_cases hbig : 4096 < t.ns.length ∨ 4096 < t.sets.length
  · rw [check_big hbig]
    have hh : (4096 : Int) < t.ns.length ∨ (¬ (4096 : Int) < t.ns.length ∧ (4096 : Int) < t.sets.length) := by omega
    clear hbig
    rcases hh with h1 | ⟨h1, h2⟩
    all_goals (
      go_enter Tryz.func14, Tryz.ntmps14
      go_wp2
      go_ret
      exact ⟨rfl, b1⟩)
  · have n1 : ¬ (4096 : Int) < t.ns.length := by omega
    have n2 : ¬ (4096 : Int) < t.sets.length := by omega
    have CE := Lib.hid (show checkE t = if okB t = true then 0 else 3 by unfold checkE; rw [if_neg hbig])
    have hOK : okB t = (rootB t && setsB t.sets t.sets.length && allB t.ns t.sets.length t.ns.length) := rfl
    have OK := Lib.hid hOK
    have HR := Lib.hid (show rootB t = (decide (0 ≤ t.root) && decide (t.root < t.ns.length)) from rfl)
    have HL := Lib.hid hl
    generalize checkE t = E at *
    generalize okB t = ok at *
    have hrel0 : ∃ r, rootB t = r := ⟨_, rfl⟩
    obtain ⟨r, hr⟩ := hrel0
    rw [hr] at HR
    have RT := Lib.hid hr
    clear hbig hOK hr hl
    have HW := Lib.hid (show Below (w.heap.size + 1) (w.alloc (.cells #[.slice ao t.ns.length cap, .slice so t.sets.length scap, .int .i64 t.root] 38)) (w.alloc (.cells #[.slice ao t.ns.length cap, .slice so t.sets.length scap, .int .i64 t.root] 38)) from Below.refl _ _)
    have HSZ : (w.alloc (.cells #[.slice ao t.ns.length cap, .slice so t.sets.length scap, .int .i64 t.root] 38)).heap.size = w.heap.size + 1 := by simp
    obtain ⟨f0, f1, f2⟩ := T0.out
    have hrr : (r = true ∧ (0 : Int) ≤ t.root ∧ t.root < (t.ns.length : Int)) ∨ (r = false ∧ ¬ (0 : Int) ≤ t.root) ∨ (r = false ∧ (0 : Int) ≤ t.root ∧ ¬ t.root < (t.ns.length : Int)) := by
      have := HR.out
      by_cases h1 : 0 ≤ t.root
      · by_cases h2 : t.root < t.ns.length
        · left; refine ⟨?_, h1, h2⟩; rw [this]; simp [h1, h2]
        · right; right; refine ⟨?_, h1, h2⟩; rw [this]; simp [h2]
      · right; left; refine ⟨?_, h1⟩; rw [this]; simp [h1]
    have AN := Lib.hid (fun W (h : TreeAt W (.agg #[.slice ao t.ns.length cap, .slice so t.sets.length scap, .int .i64 t.root]) t) k (hk : k < t.ns.length) => rnode_any t k hk _ W h)
    rcases hrr with ⟨rfl, h1, h2⟩ | ⟨rfl, h1⟩ | ⟨rfl, h1, h2⟩
    all_goals (
      go_enter Tryz.func14, Tryz.ntmps14
      go_wp2
      generalize w.alloc (.cells #[.slice ao t.ns.length cap, .slice so t.sets.length scap, .int .i64 t.root] 38) = W1 at *
      clear f0 f1 f2
      go_loopw [3, 4] (fun o i wr => ∃ k : Nat, i = .int .i64 k ∧ k ≤ t.sets.length ∧ (∃ b, o = .bool b ∧ b = (rootB t && setsB t.sets k)) ∧ Below (w.heap.size + 1) W1 wr) (fun _ i _ => t.sets.length - (intOf i).toNat)
      case atStart => exact ⟨0, rfl, Nat.zero_le _, ⟨_, rfl, by rw [RT.out]; rfl⟩, HW.out⟩
      case round =>
        obtain ⟨k, rfl, hk, ⟨b, rfl, hb⟩, hbw⟩ := hrel
        obtain ⟨q0, q1, q2⟩ := T0.out.next (hbw.mono (by omega))
        have hsz := hbw.size
        have HBW := Lib.hid hbw
        clear hbw
        by_cases hlt : k < t.sets.length
        · obtain ⟨gs, x, rfl, x1, x2⟩ := HS.out k hlt
          have hB := B1.out.trans (HBW.out.mono (by omega))
          have y1 := cell_next x1 hB
          have HR := Lib.hid (rright_all (nthL t.sets k) x wr (x2.next hB) (HL.out k hlt))
          have hss : (rootB t && setsB t.sets (k + 1)) = (b && rightB (nthL t.sets k)) := by rw [setsB_succ hlt, hb, Bool.and_assoc]; rfl
          have HSS := Lib.hid hss
          clear hss hb x1 x2 hB
          generalize rightB (nthL t.sets k) = c at *
          cases b
          all_goals (
            go_wp2_with (go_at_call 38; (with_reducible refine HR.out.mono ?_); rintro e w2 ⟨rfl, hb2⟩; go_must (have B2 := Lib.hid (HBW.out.trans (hb2.mono (by omega))); clear hb2))
            go_roundw
            case rel => first | exact ⟨k + 1, by go_num, by omega, ⟨_, rfl, by rw [HSS.out]; simp⟩, B2.out⟩ | exact ⟨k + 1, by go_num, by omega, ⟨_, rfl, by rw [HSS.out]; simp⟩, HBW.out⟩
            case measure => simp [intOf]; omega)
        · obtain rfl : k = t.sets.length := by omega
          have HB0 := Lib.hid hb
          clear hb
          go_wp2
          go_loopw [3, 5] (fun o i wr => ∃ k : Nat, i = .int .i64 k ∧ k ≤ t.ns.length ∧ (∃ c, o = .bool c ∧ c = (b && allB t.ns t.sets.length k)) ∧ Below (w.heap.size + 1) W1 wr) (fun _ i _ => t.ns.length - (intOf i).toNat)
          case atStart => exact ⟨0, rfl, Nat.zero_le _, ⟨_, rfl, by cases b <;> rfl⟩, HBW.out⟩
          case round =>
            clear q0 q1 q2 hsz
            obtain ⟨k, rfl, hk, ⟨c, rfl, hc⟩, hbw⟩ := hrel
            obtain ⟨q0, q1, q2⟩ := T0.out.next (hbw.mono (by omega))
            have hsz := hbw.size
            have HBW2 := Lib.hid hbw
            clear hbw
            by_cases hlt : k < t.ns.length
            · have hB := B1.out.trans (HBW2.out.mono (by omega))
              have HM := Lib.hid (AN.out wr (HV.out.next hB) k hlt)
              have hss : (b && allB t.ns t.sets.length (k + 1)) = (c && nodeB (nd t.ns k) k t.sets.length) := by rw [allB_succ, hc, Bool.and_assoc]
              have HSS := Lib.hid hss
              clear hss hc hB
              generalize nodeB (nd t.ns k) k t.sets.length = d at *
              cases c
              all_goals (
                go_wp2_with (go_at_call 39; (with_reducible refine HM.out.mono ?_); rintro e w2 ⟨rfl, hb2⟩; go_must (have B2 := Lib.hid (HBW2.out.trans (hb2.mono (by omega))); clear hb2))
                go_roundw
                case rel => first | exact ⟨k + 1, by go_num, by omega, ⟨_, rfl, by rw [HSS.out]; simp⟩, B2.out⟩ | exact ⟨k + 1, by go_num, by omega, ⟨_, rfl, by rw [HSS.out]; simp⟩, HBW2.out⟩
                case measure => simp [intOf]; omega)
            · obtain rfl : k = t.ns.length := by omega
              have hok : ok = c := by rw [OK.out, hc, HB0.out]
              have HOK := Lib.hid hok
              clear hok hc
              cases c
              all_goals (
                go_wp2
                go_ret
                exact ⟨ret_e (by rw [CE.out, HOK.out]; rfl), B1.out.trans (HBW2.out.mono (by omega))⟩))

end Go.Proofs.YtgjiofkjogjhhaaGreatDoor.Ar

namespace Go.Proofs.YtgjiofkjogjhhaaGreatDoor.Dv
open Go Go.RowKit Go.Shelf
open Go.Proofs.YtgjiofkjogjhhaaGreatDoor.Ar (Nd nd NodeAt)
def NBox (X : World) (N : Nat) (n : Nd) : Prop := X.heap[N]? = some (.cells #[.int .i64 n.op, .int .i64 n.a, .int .i64 n.b, .int .i64 n.lo, .int .i64 n.hi, .int .i64 n.set] 70 (0, 0))
theorem NBox.at' {X : World} {N : Nat} {n : Nd} (h : NBox X N n) : NodeAt X ⟨N, 0, none⟩ n := by
  constructor <;> (rw [Lib.cell_of_heap h]; rfl)
theorem NBox.below {X Y : World} {N : Nat} {n : Nd} (h : NBox X N n) (hb : Below X.heap.size X Y) : NBox Y N n := (hb.block N (Array.getElem?_eq_some_iff.1 h).1).trans h
theorem nbox_new (w : World) (n : Nd) : NBox (w.alloc (.cells #[.int .i64 n.op, .int .i64 n.a, .int .i64 n.b, .int .i64 n.lo, .int .i64 n.hi, .int .i64 n.set] 70)) w.heap.size n := World.alloc_heap_new w _
end Go.Proofs.YtgjiofkjogjhhaaGreatDoor.Dv

namespace Go.Proofs.YtgjiofkjogjhhaaGreatDoor.Dv
open Go.Proofs.YtgjiofkjogjhhaaGreatDoor.Ar (Nd nd nodeB nodeB_ways Tr Ok)
open Go.Proofs.YtgjiofkjogjhhaaGreatDoor.Rg (R hasB inB)

abbrev Mx := Nat → Nat → Bool
/-- what stands between two places -/
def sub (l : List Int) (i m : Nat) : List Int := (l.drop i).take (m - i)
open Classical in
noncomputable def mat (A : L) (l : List Int) : Mx := fun i m => decide (i ≤ m ∧ A (sub l i m))
theorem mat_iff {A : L} {l : List Int} {i m : Nat} : mat A l i m = true ↔ i ≤ m ∧ A (sub l i m) := by simp [mat]
theorem sub_len {l : List Int} {i m : Nat} (hi : i ≤ m) (hm : m ≤ l.length) : (sub l i m).length = m - i := by simp [sub]; omega
theorem sub_app {l : List Int} {i k m : Nat} (h1 : i ≤ k) (h2 : k ≤ m) : sub l i m = sub l i k ++ sub l k m := by
  unfold sub
  have e : m - i = (k - i) + (m - k) := by omega
  rw [e, List.take_add, List.drop_drop]
  congr 3
  omega
theorem sub_self (l : List Int) (i : Nat) : sub l i i = [] := by simp [sub]
theorem sub_all (l : List Int) : sub l 0 l.length = l := by simp [sub]
theorem sub_one {l : List Int} {i : Nat} (h : i < l.length) : sub l i (i + 1) = [l.getD i 0] := by
  unfold sub
  rw [show i + 1 - i = 1 by omega, List.drop_eq_getElem_cons h, List.take_succ_cons, List.take_zero]
  simp [List.getD, h]
/-- parts of what stands between two places stand between places -/
theorem sub_split {l : List Int} {i m : Nat} (hi : i ≤ m) (hm : m ≤ l.length) {u v : List Int} (h : sub l i m = u ++ v) : u = sub l i (i + u.length) ∧ v = sub l (i + u.length) m ∧ i + u.length ≤ m := by
  have hl := sub_len hi hm
  rw [h, List.length_append] at hl
  have h1 := sub_app (l := l) (show i ≤ i + u.length by omega) (show i + u.length ≤ m by omega)
  rw [h] at h1
  have h2 : u.length = (sub l i (i + u.length)).length := by rw [sub_len (by omega) (by omega)]; omega
  obtain ⟨h3, h4⟩ := List.append_inj h1 h2
  exact ⟨h3, h4, by omega⟩

/-- the same, as far as there are places -/
def Eqm (n : Nat) (f g : Mx) : Prop := ∀ i m, i < n → m < n → f i m = g i m
theorem mat_eps (l : List Int) : Eqm (l.length + 1) (fun i m => decide (i = m)) (mat eps l) := fun i m hi hm => by
  rw [Bool.eq_iff_iff, mat_iff, decide_eq_true_iff]
  constructor
  · rintro rfl; exact ⟨Nat.le_refl _, sub_self l i⟩
  · rintro ⟨h1, h2⟩
    have := sub_len h1 (show m ≤ l.length by omega)
    rw [show sub l i m = [] from h2] at this
    simp at this
    omega
theorem mat_no (l : List Int) (n : Nat) : Eqm n (fun _ _ => false) (mat no l) := fun i m _ _ => by
  rw [eq_comm, ← Bool.not_eq_true, mat_iff]
  rintro ⟨_, h⟩; exact h
theorem mat_one (P : Int → Bool) (l : List Int) : Eqm (l.length + 1) (fun i m => decide (m = i + 1) && P (l.getD i 0)) (mat (one P) l) := fun i m hi hm => by
  rw [Bool.eq_iff_iff, mat_iff, Bool.and_eq_true, decide_eq_true_iff]
  constructor
  · rintro ⟨rfl, h⟩
    exact ⟨by omega, _, sub_one (by omega), h⟩
  · rintro ⟨h1, c, h2, h3⟩
    have := sub_len h1 (show m ≤ l.length by omega)
    rw [h2] at this
    simp at this
    have hm1 : m = i + 1 := by omega
    subst hm1
    rw [sub_one (by omega)] at h2
    obtain ⟨rfl, _⟩ := List.cons.inj h2
    exact ⟨rfl, h3⟩
theorem mat_alt {A B : L} {l : List Int} {n : Nat} : Eqm n (fun i m => mat A l i m || mat B l i m) (mat (alt A B) l) := fun i m _ _ => by
  rw [Bool.eq_iff_iff, mat_iff, Bool.or_eq_true, mat_iff, mat_iff]
  constructor
  · rintro (⟨h1, h2⟩ | ⟨h1, h2⟩)
    · exact ⟨h1, .inl h2⟩
    · exact ⟨h1, .inr h2⟩
  · rintro ⟨h1, h2 | h2⟩
    · exact .inl ⟨h1, h2⟩
    · exact .inr ⟨h1, h2⟩
open Classical in
/-- by one and then by another one -/
noncomputable def mulM (n : Nat) (f g : Mx) : Mx := fun i m => decide (∃ k, i ≤ k ∧ k ≤ m ∧ m < n ∧ f i k = true ∧ g k m = true)
theorem mul_iff {n : Nat} {f g : Mx} {i m : Nat} : mulM n f g i m = true ↔ ∃ k, i ≤ k ∧ k ≤ m ∧ m < n ∧ f i k = true ∧ g k m = true := by simp [mulM]
theorem mat_seq {A B : L} {l : List Int} : Eqm (l.length + 1) (mulM (l.length + 1) (mat A l) (mat B l)) (mat (seq A B) l) := fun i m hi hm => by
  rw [Bool.eq_iff_iff, mat_iff, mul_iff]
  constructor
  · rintro ⟨k, h1, h2, _, h3, h4⟩
    rw [mat_iff] at h3 h4
    exact ⟨by omega, _, _, sub_app h1 h2, h3.2, h4.2⟩
  · rintro ⟨h1, u, v, h2, h3, h4⟩
    obtain ⟨e1, e2, e3⟩ := sub_split h1 (show m ≤ l.length by omega) h2
    exact ⟨i + u.length, by omega, e3, hm, by rw [mat_iff, ← e1]; exact ⟨by omega, h3⟩, by rw [mat_iff, ← e2]; exact ⟨e3, h4⟩⟩
theorem mul_congr {n : Nat} {f f' g g' : Mx} (h : Eqm n f f') (k : Eqm n g g') : Eqm n (mulM n f g) (mulM n f' g') := fun i m hi hm => by
  rw [Bool.eq_iff_iff, mul_iff, mul_iff]
  constructor
  · rintro ⟨j, h1, h2, h3, h4, h5⟩
    exact ⟨j, h1, h2, h3, by rw [← h i j hi (by omega)]; exact h4, by rw [← k j m (by omega) hm]; exact h5⟩
  · rintro ⟨j, h1, h2, h3, h4, h5⟩
    exact ⟨j, h1, h2, h3, by rw [h i j hi (by omega)]; exact h4, by rw [k j m (by omega) hm]; exact h5⟩

/-! by how many times -/
/-- one or another number of times, up to k -/
def someL (A : L) (lo hi : Int) (k : Nat) : L := fun r => ∃ j : Nat, j < k ∧ lo ≤ j ∧ (0 ≤ hi → (j : Int) ≤ hi) ∧ pow A j r
theorem some_zero (A : L) (lo hi : Int) : someL A lo hi 0 = no := ext fun r => ⟨fun ⟨j, h, _⟩ => by omega, fun h => h.elim⟩
theorem some_yes {A : L} {lo hi : Int} {k : Nat} (h1 : lo ≤ k) (h2 : 0 ≤ hi → (k : Int) ≤ hi) : someL A lo hi (k + 1) = alt (someL A lo hi k) (pow A k) := ext fun r => by
  constructor
  · rintro ⟨j, a, b, c, d⟩
    rcases Nat.lt_or_ge j k with h | h
    · exact .inl ⟨j, h, b, c, d⟩
    · obtain rfl : j = k := by omega
      exact .inr d
  · rintro (⟨j, a, b, c, d⟩ | d)
    · exact ⟨j, by omega, b, c, d⟩
    · exact ⟨k, by omega, h1, h2, d⟩
theorem some_not {A : L} {lo hi : Int} {k : Nat} (h : (k : Int) < lo) : someL A lo hi (k + 1) = someL A lo hi k := ext fun r => by
  constructor
  · rintro ⟨j, a, b, c, d⟩; exact ⟨j, by omega, b, c, d⟩
  · rintro ⟨j, a, b, c, d⟩; exact ⟨j, by omega, b, c, d⟩
/-- enough times -/
theorem some_enough {A : L} {lo hi : Int} {l : List Int} {k : Nat} (hk : (lo.toNat + (l.length + 1) < k) ∨ (0 ≤ hi ∧ hi < k)) : Eqm (l.length + 1) (mat (someL A lo hi k) l) (mat (rep A lo hi) l) := fun i m hi' hm => by
  rw [Bool.eq_iff_iff, mat_iff, mat_iff]
  constructor
  · rintro ⟨h1, j, a, b, c, d⟩; exact ⟨h1, j, b, c, d⟩
  · rintro ⟨h1, h2⟩
    refine ⟨h1, ?_⟩
    obtain ⟨j, b, c, e, d⟩ := (rep_cap (m := l.length) (by rw [sub_len h1 (by omega)]; omega)).1 h2
    exact ⟨j, by omega, b, c, d⟩
theorem mat_congr {A B : L} (h : A = B) (l : List Int) (n : Nat) : Eqm n (mat A l) (mat B l) := fun i m _ _ => by rw [h]
theorem Eqm.trans {n : Nat} {f g h : Mx} (a : Eqm n f g) (b : Eqm n g h) : Eqm n f h := fun i m hi hm => (a i m hi hm).trans (b i m hi hm)
theorem Eqm.symm {n : Nat} {f g : Mx} (a : Eqm n f g) : Eqm n g f := fun i m hi hm => (a i m hi hm).symm
theorem Eqm.refl (n : Nat) (f : Mx) : Eqm n f f := fun _ _ _ _ => rfl

end Go.Proofs.YtgjiofkjogjhhaaGreatDoor.Dv

namespace Go.Proofs.YtgjiofkjogjhhaaGreatDoor.Dv
open Go Go.RowKit Go.Shelf
open Go.Proofs.YtgjiofkjogjhhaaGreatDoor.Rg (add_zero own_next)

theorem infoBl : (Tryz.prog.info? 4).map (fun i => (i.zero, i.size, i.bytes)) = some (some (.bool false), 1, 1) := by kernel_rfl
theorem infoBs : (Tryz.prog.info? 93).map (fun i => (i.zero, i.size, i.bytes)) = some (some (.slice none 0 0), 1, 24) := by kernel_rfl
def blk (xs : List Value) (i : Nat) : Option Nat := (xs.getD i (.slice none 0 0)).ownBlock
/-- rows of places, each in a block of its own -/
structure Tab (w : World) (N n : Nat) (xs : List Value) (f : Mx) : Prop where
  row : ∀ i, i < xs.length → ∃ r cap ds, xs[i]? = some (.slice (some ⟨r, 0, none⟩) n cap) ∧ N ≤ r ∧ n ≤ cap ∧ w.heap[r]? = some (.cells ds 4 (0, 0)) ∧ ∀ m, m < n → ds[m]? = some (.bool (f i m))
  inj : ∀ i j, i < xs.length → j < xs.length → i ≠ j → blk xs i ≠ blk xs j
section
variable {w w' : World} {N n : Nat} {xs : List Value} {f g : Mx} {v : Value}
theorem Tab.keep (h : Tab w N n xs f) (hk : ∀ (k : Nat) (ds : Array Value), N ≤ k → w.heap[k]? = some (.cells ds 4 (0, 0)) → w'.heap[k]? = w.heap[k]?) : Tab w' N n xs f :=
  ⟨fun i hi => by
    obtain ⟨r, cap, ds, h1, h2, h3, h4, h5⟩ := h.row i hi
    exact ⟨r, cap, ds, h1, h2, h3, (hk r ds h2 h4).trans h4, h5⟩, h.inj⟩
theorem Tab.next (h : Tab w N n xs f) (hb : Below w.heap.size w w') : Tab w' N n xs f := h.keep fun k _ _ hk => hb.block k (Array.getElem?_eq_some_iff.1 hk).1
theorem Tab.nil (w : World) (N n : Nat) (f : Mx) : Tab w N n [] f := ⟨fun i hi => by simp at hi, fun i j hi => by simp at hi⟩
theorem Tab.congr (h : Tab w N n xs f) (e : ∀ i m, i < xs.length → m < n → f i m = g i m) : Tab w N n xs g :=
  ⟨fun i hi => by
    obtain ⟨r, cap, ds, h1, h2, h3, h4, h5⟩ := h.row i hi
    exact ⟨r, cap, ds, h1, h2, h3, h4, fun m hm => by rw [← e i m hi hm]; exact h5 m hm⟩, h.inj⟩
/-- a row more -/
theorem Tab.snoc {x : Value} (h : Tab w N n xs f) {b : Nat → Bool} (hx : w.ownsRow N 4 1 x n ((List.range n).map fun m => .bool (b m))) (h0 : 0 < n) (hnew : ∀ r, x.ownBlock = some r → ∀ i, i < xs.length → blk xs i ≠ some r) :
    Tab w N n (xs ++ [x]) (fun i m => if i = xs.length then b m else f i m) := by
  obtain ⟨r, cap, rfl, _, _⟩ := hx.form h0
  have hr := hx
  rcases hx.2 with ⟨h', _⟩ | ⟨g, cap', cur, he, hN, hg, hc, hm, hz, ht⟩
  · cases h'
  simp only [Value.slice.injEq, Option.some.injEq, Addr.mk.injEq] at he
  obtain ⟨⟨rfl, _⟩, _, rfl⟩ := he
  have hat : ∀ m, m < n → cur[m]? = some (.bool (b m)) := fun m hm => by
    have e : (cur.toList.take (n * 1))[m]? = some (.bool (b m)) := by rw [ht]; simp [hm]
    rw [List.getElem?_take_of_lt (by omega)] at e
    simpa using e
  have hb1 : ∀ i, i < xs.length → blk (xs ++ [.slice (some ⟨r, 0, none⟩) n cap]) i = blk xs i := fun i hi => by simp [blk, List.getD, List.getElem?_append_left hi]
  have hb2 : blk (xs ++ [.slice (some ⟨r, 0, none⟩) n cap]) xs.length = some r := by simp [blk, List.getD, Value.ownBlock]
  refine ⟨fun i hi => ?_, fun i j hi hj hij => ?_⟩
  · rw [List.length_append, List.length_singleton] at hi
    rcases Nat.lt_or_ge i xs.length with hl | hl
    · obtain ⟨r', cap', ds, h1, h2, h3, h4, h5⟩ := h.row i hl
      refine ⟨r', cap', ds, by rw [List.getElem?_append_left hl]; exact h1, h2, h3, h4, fun m hm => ?_⟩
      rw [if_neg (by omega)]; exact h5 m hm
    · obtain rfl : i = xs.length := by omega
      refine ⟨r, cap, cur, by simp, hN, hc, hg, fun m hm => ?_⟩
      rw [if_pos rfl]; exact hat m hm
  · rw [List.length_append, List.length_singleton] at hi hj
    rcases Nat.lt_or_ge i xs.length with hl | hl <;> rcases Nat.lt_or_ge j xs.length with hl' | hl'
    · rw [hb1 i hl, hb1 j hl']; exact h.inj i j hl hl' hij
    · obtain rfl : j = xs.length := by omega
      rw [hb1 i hl, hb2]; exact hnew r rfl i hl
    · obtain rfl : i = xs.length := by omega
      rw [hb1 j hl', hb2]; exact fun e => hnew r rfl j hl' e.symm
    · omega
/-- a table of places -/
def TabAt (w : World) (N : Nat) (v : Value) (n : Nat) (f : Mx) : Prop := ∃ xs, w.ownsRow N 93 1 v n xs ∧ Tab w N n xs f
theorem TabAt.next (h : TabAt w N v n f) (hb : Below w.heap.size w w') : TabAt w' N v n f := by
  obtain ⟨xs, h1, h2⟩ := h
  exact ⟨xs, own_next h1 hb, h2.next hb⟩
theorem TabAt.congr (h : TabAt w N v n f) (e : Eqm n f g) : TabAt w N v n g := by
  obtain ⟨xs, h1, h2⟩ := h
  have hl := h1.1
  exact ⟨xs, h1, h2.congr fun i m hi hm => e i m (by omega) hm⟩
theorem TabAt.mono {M : Nat} (h : TabAt w N v n f) (hM : M ≤ N) : TabAt w M v n f := by
  obtain ⟨xs, h1, h2⟩ := h
  refine ⟨xs, ⟨h1.1, ?_⟩, fun i hi => ?_, h2.inj⟩
  · rcases h1.2 with h | ⟨g, cap, cur, a, b, c⟩
    · exact .inl h
    · exact .inr ⟨g, cap, cur, a, by omega, c⟩
  · obtain ⟨r, cap, ds, a, b, c⟩ := h2.row i hi
    exact ⟨r, cap, ds, a, by omega, c⟩
/-- a table as a call reads it -/
theorem TabAt.at' (h : TabAt w N v n f) (h0 : 0 < n) : ∃ g cap, v = .slice (some ⟨g, 0, none⟩) n cap ∧ n ≤ cap ∧ cap ≤ maxLen ∧ N ≤ g ∧ (∀ ds, w.heap[g]? ≠ some (.cells ds 4 (0, 0))) ∧ ∀ i, i < n → ∃ r c ds, w.cell? ⟨g, i, none⟩ = some (.slice (some ⟨r, 0, none⟩) n c) ∧ N ≤ r ∧ n ≤ c ∧ w.heap[r]? = some (.cells ds 4 (0, 0)) ∧ ∀ m, m < n → w.cell? ⟨r, m, none⟩ = some (.bool (f i m)) := by
  obtain ⟨xs, h1, h2⟩ := h
  have hl := h1.1
  rcases h1.2 with ⟨_, h'⟩ | ⟨g, cap, cur, rfl, hN, hg, hc, hm, hz, ht⟩
  · omega
  refine ⟨g, cap, rfl, hc, hm, hN, fun ds e => by rw [hg] at e; simp only [Option.some.injEq, Obj.cells.injEq] at e; exact absurd e.2.1 (by decide), fun i hi => ?_⟩
  obtain ⟨r, c, ds, a, b, d, e, k⟩ := h2.row i (by omega)
  refine ⟨r, c, ds, by rw [h1.cellAt i (by omega), a], b, d, e, fun m hm => ?_⟩
  rw [Lib.cell_of_heap e, k m hm]
def upd (f : Mx) (x y : Nat) (b : Bool) : Mx := fun i m => if i = x ∧ m = y then b else f i m
/-- one place is turned -/
theorem TabAt.set (h : TabAt w N v n f) {g cap i r c : Nat} {ds : Array Value} (hv : v = .slice (some ⟨g, 0, none⟩) n cap) (hi : i < n) (hr : w.cell? ⟨g, i, none⟩ = some (.slice (some ⟨r, 0, none⟩) n c)) (hd : w.heap[r]? = some (.cells ds 4 (0, 0))) {m : Nat} (hm : m < n) (b : Bool) :
    w.frozen? ⟨r, m, none⟩ = false ∧ TabAt (w.setCell ⟨r, m, none⟩ (.bool b)) N v n (upd f i m b) ∧ Below N w (w.setCell ⟨r, m, none⟩ (.bool b)) := by
  obtain ⟨xs, h1, h2⟩ := h
  have hl := h1.1
  have hxi : xs[i]? = some (.slice (some ⟨r, 0, none⟩) n c) := by
    subst hv
    rw [h1.cellAt i (by omega)] at hr
    exact hr
  have hbi : blk xs i = some r := by simp [blk, List.getD, hxi, Value.ownBlock]
  obtain ⟨r', c', ds', a, bb, d, e, k⟩ := h2.row i (by omega)
  rw [hxi] at a
  simp only [Option.some.injEq, Value.slice.injEq, Addr.mk.injEq] at a
  obtain ⟨⟨rfl, _⟩, _, rfl⟩ := a
  rw [hd] at e
  simp only [Option.some.injEq, Obj.cells.injEq] at e
  obtain ⟨rfl, _⟩ := e
  have hset := heap_setCell_same w r m ds 4 (.bool b) hd
  have hoth : ∀ q, q ≠ r → (w.setCell ⟨r, m, none⟩ (.bool b)).heap[q]? = w.heap[q]? := fun q hq => Below.heap_setCell _ _ _ _ hq
  refine ⟨frozen_of_row w r m _ _ hd, ⟨xs, ?_, fun j hj => ?_, h2.inj⟩, ⟨rfl, rfl, rfl, by simp [World.setCell], fun q hq => hoth q (by omega)⟩⟩
  · refine ⟨hl, ?_⟩
    rcases h1.2 with h' | ⟨g', cp, cur, e1, e2, e3, e4⟩
    · exact .inl h'
    · refine .inr ⟨g', cp, cur, e1, e2, ?_, e4⟩
      rw [hoth g' (by rintro rfl; rw [hd] at e3; simp only [Option.some.injEq, Obj.cells.injEq] at e3; exact absurd e3.2.1 (by decide))]
      exact e3
  · obtain ⟨q, cq, dq, a1, a2, a3, a4, a5⟩ := h2.row j hj
    have hbj : blk xs j = some q := by simp [blk, List.getD, a1, Value.ownBlock]
    by_cases hji : j = i
    · subst hji
      rw [hxi] at a1
      simp only [Option.some.injEq, Value.slice.injEq, Addr.mk.injEq] at a1
      obtain ⟨⟨rfl, _⟩, _, rfl⟩ := a1
      refine ⟨r, c, _, hxi, a2, a3, hset, fun y hy => ?_⟩
      have hy' := k y hy
      have hsz : y < ds.size := (Array.getElem?_eq_some_iff.1 hy').1
      unfold upd
      by_cases hym : y = m
      · subst hym
        rw [if_pos ⟨rfl, rfl⟩]
        simp [hsz]
      · rw [if_neg (by simp [hym])]
        rw [Array.getElem?_setIfInBounds_ne (fun e => hym e.symm)]
        exact hy'
    · refine ⟨q, cq, dq, a1, a2, a3, ?_, fun y hy => ?_⟩
      · rw [hoth q (by rintro rfl; exact h2.inj j i hj (by omega) hji (hbj.trans hbi.symm))]
        exact a4
      · unfold upd
        rw [if_neg (by simp [hji])]
        exact a5 y hy
end
end Go.Proofs.YtgjiofkjogjhhaaGreatDoor.Dv

namespace Go.Proofs.YtgjiofkjogjhhaaGreatDoor.Dv
open Go Go.RowKit Go.Shelf
open Go.Proofs.YtgjiofkjogjhhaaGreatDoor.Rg (add_zero own_next)

theorem own_base {w : World} {N M : Nat} {e : TypeId} {s n : Nat} {v : Value} {xs : List Value} (h : w.ownsRow N e s v n xs) (hM : M ≤ N) : w.ownsRow M e s v n xs := by
  refine ⟨h.1, ?_⟩
  rcases h.2 with h | ⟨g, cap, cur, a, b, c⟩
  · exact .inl h
  · exact .inr ⟨g, cap, cur, a, by omega, c⟩
theorem Tab.lt {w : World} {N n : Nat} {xs : List Value} {f : Mx} (h : Tab w N n xs f) {i r : Nat} (hi : i < xs.length) (e : blk xs i = some r) : r < w.heap.size := by
  obtain ⟨r', cap, ds, h1, _, _, h4, _⟩ := h.row i hi
  have : blk xs i = some r' := by simp [blk, List.getD, h1, Value.ownBlock]
  rw [this] at e
  simp only [Option.some.injEq] at e
  subst e
  exact (Array.getElem?_eq_some_iff.1 h4).1
def eyeV (is : Bool) (i m : Nat) : Bool := is && decide (i = m)
theorem eye_snoc (is : Bool) (i m : Nat) (b : Bool) (h : eyeV is i m = b) : (List.range (m + 1)).map (fun k => Value.bool (eyeV is i k)) = (List.range m).map (fun k => Value.bool (eyeV is i k)) ++ [Value.bool b] := by
  rw [List.range_succ, List.map_append, ← h]; rfl
theorem grown_own {w w1 w2 : World} {base : Nat} {e : TypeId} {s n : Nat} {v : Value} {xs : List Value} (hb : Below base w w1) (hown : w1.ownsRow base e s v n xs) (hg : w1.grownBy w2 v.ownBlock) (h : base ≤ w1.heap.size) : Below base w w2 :=
  hb.grown hg h (fun k hk => (hown.lt k hk).1)

theorem row_of {w : World} {e : TypeId} {s n N : Nat} {v : Value} {ys : List Value} (h : w.ownsRow N e s v n ys) {g : Nat} (hg : v.ownBlock = some g) : N ≤ g ∧ ∃ cs, w.heap[g]? = some (.cells cs e (0, 0)) := by
  rcases h.2 with ⟨rfl, _⟩ | ⟨g', cap, cur, rfl, hb, hh, _⟩
  · cases hg
  · simp only [Value.ownBlock, Option.some.injEq] at hg
    subst hg
    exact ⟨hb, _, hh⟩
theorem blank_step {w wr wq w2 : World} {n k : Nat} {is : Bool} {v v' x : Value} {xs : List Value} {o : Obj} (hO : wr.ownsRow w.heap.size 93 1 v k xs) (hT : Tab wr w.heap.size (n + 1) xs (fun i m => eyeV is i m)) (hX : xs.length = k) (hB : Below w.heap.size w wr)
    (hR : wq.ownsRow wr.heap.size 4 1 x (n + 1) ((List.range (n + 1)).map fun q => .bool (eyeV is k q))) (hQ : Below wr.heap.size wr wq) (_hown : w2.ownsRow w.heap.size 93 1 v' (k + 1) (xs ++ [x])) (hg : (wq.alloc o).grownBy w2 v.ownBlock) :
    Tab w2 w.heap.size (n + 1) (xs ++ [x]) (fun i m => eyeV is i m) ∧ Below w.heap.size w w2 := by
  have hsz := hB.size
  have hsq := hQ.size
  have ho2 : wq.ownsRow w.heap.size 93 1 v k xs := own_next hO hQ
  have hbA : Below w.heap.size w (wq.alloc o) := (hB.trans (hQ.mono hsz)).alloc (by omega) _
  have ht2 := (hT.next hQ).snoc (own_base hR hsz) (b := fun q => eyeV is k q) (by omega) (fun r hr i hi e => by
    have h1 := (hR.lt r hr).1
    have h2 := hT.lt hi e
    omega)
  have ht3 := (ht2.next ((Below.refl wq.heap.size wq).alloc (Nat.le_refl _) o)).keep (w' := w2) fun q _ _ hq => hg.block q (Array.getElem?_eq_some_iff.1 hq).1 (fun e => by
    obtain ⟨_, cs, hh⟩ := row_of (own_next ho2 ((Below.refl wq.heap.size wq).alloc (Nat.le_refl _) o)) e.symm
    rw [hq] at hh
    simp only [Option.some.injEq, Obj.cells.injEq] at hh
    exact absurd hh.2.1 (by decide))
  refine ⟨ht3.congr fun i m _ _ => ?_, hbA.grown hg (by simp; omega) (fun q hq => (ho2.lt q hq).1)⟩
  split
  · rename_i e; rw [e, hX]
  · rfl
set_option maxRecDepth 100000 in
set_option maxHeartbeats 8000000 in
theorem blank_any (n : Nat) (is : Bool) (w : World) (hn : n ≤ 100000) :
    Calls Tryz.prog 81 #[.int .i64 (n : Nat), .bool is] w fun e w' => ∃ v, e = .returned v ∧ TabAt w' w.heap.size v (n + 1) (fun i m => eyeV is i m) ∧ Below w.heap.size w w' := by
  obtain ⟨i0, hi, hz0, hz1, hz2⟩ := info_parts infoBl
  obtain ⟨j0, hj, hy0, hy1, hy2⟩ := info_parts infoBs
  go_enter Tryz.func81, Tryz.ntmps81
  go_wp2
  go_loopw [5, 6] (fun v i wr => ∃ (k : Nat) (xs : List Value), i = .int .i64 k ∧ k ≤ n + 1 ∧ wr.ownsRow w.heap.size 93 1 v k xs ∧ Tab wr w.heap.size (n + 1) xs (fun i m => eyeV is i m) ∧ Below w.heap.size w wr) (fun _ i _ => n + 1 - (intOf i).toNat)
  case atStart => exact ⟨0, [], rfl, by omega, World.ownsRow_nil _ _ _ _, Tab.nil _ _ _ _, Below.refl _ _⟩
  case round =>
    obtain ⟨k, xs, rfl, hk, hown, htab, hb⟩ := hrel
    have HO := Lib.hid hown
    have HT := Lib.hid htab
    have HB := Lib.hid hb
    have hsz := hb.size
    have hxl : xs.length = k := by have := hown.1; omega
    have HX := Lib.hid hxl
    clear hown htab hb hxl
    generalize wr = w1 at *
    by_cases hlt : k < n + 1
    · have n1 : (k : Int) ≤ n := by omega
      go_wp2
      go_loopw [7, 8] (fun v m wr => ∃ j : Nat, m = .int .i64 j ∧ j ≤ n + 1 ∧ wr.ownsRow w1.heap.size 4 1 v j ((List.range j).map fun q => .bool (eyeV is k q)) ∧ Below w1.heap.size w1 wr) (fun _ m _ => n + 1 - (intOf m).toNat)
      case atStart => exact ⟨0, rfl, by omega, World.ownsRow_nil _ _ _ _, Below.refl _ _⟩
      case round =>
        obtain ⟨j, rfl, hj2, hrow, hbq⟩ := hrel
        have HR := Lib.hid hrow
        have HQ := Lib.hid hbq
        have hsq := hbq.size
        clear hrow hbq
        by_cases hlj : j < n + 1
        · have n2 : (j : Int) ≤ n := by omega
          cases is
          · have E := Lib.hid (show eyeV false k j = false from rfl)
            go_wp2_with (at_builtin; refine wpList_append_own _ rfl _ _ 93 rfl w1.heap.size 4 i0 (.bool false) 1 1 Tryz.underlying93 hi hz0 hz1 hz2 rfl (by decide) _ j _ rfl (HR.out.alloc _) ⟨wr.heap.size, 0, none⟩ 1 1 [.bool false] rfl rfl (cell_one_new _ _ _) (by simp [Value.oneCell']) (by unfold maxLen; omega) (by omega) (by simp; omega) ?_; intro v' w2 hown' hgrow _; go_must (have RO := Lib.hid ((eye_snoc _ k j false E.out) ▸ hown'); have B2 := Lib.hid ((HQ.out.alloc hsq _).grown hgrow (by simp; omega) (fun q hq => (HR.out.lt q hq).1)); clear hown' hgrow))
            go_roundw
            case rel => exact ⟨j + 1, by go_num, by omega, RO.out, B2.out⟩
            case measure => simp [intOf]; omega
          · by_cases hkj : k = j
            · have e0 : ((k : Int) == (j : Int)) = true := by simp [hkj]
              have E := Lib.hid (show eyeV true k j = true from by unfold eyeV; simp [hkj])
              clear hkj
              go_wp2_with (at_builtin; refine wpList_append_own _ rfl _ _ 93 rfl w1.heap.size 4 i0 (.bool false) 1 1 Tryz.underlying93 hi hz0 hz1 hz2 rfl (by decide) _ j _ rfl (HR.out.alloc _) ⟨wr.heap.size, 0, none⟩ 1 1 [.bool true] rfl rfl (cell_one_new _ _ _) (by simp [Value.oneCell']) (by unfold maxLen; omega) (by omega) (by simp; omega) ?_; intro v' w2 hown' hgrow _; go_must (have RO := Lib.hid ((eye_snoc _ k j true E.out) ▸ hown'); have B2 := Lib.hid ((HQ.out.alloc hsq _).grown hgrow (by simp; omega) (fun q hq => (HR.out.lt q hq).1)); clear hown' hgrow))
              go_roundw
              case rel => exact ⟨j + 1, by go_num, by omega, RO.out, B2.out⟩
              case measure => simp [intOf]; omega
            · have e0 : ((k : Int) == (j : Int)) = false := by simp; omega
              have E := Lib.hid (show eyeV true k j = false from by unfold eyeV; simp [hkj])
              go_wp2_with (at_builtin; refine wpList_append_own _ rfl _ _ 93 rfl w1.heap.size 4 i0 (.bool false) 1 1 Tryz.underlying93 hi hz0 hz1 hz2 rfl (by decide) _ j _ rfl (HR.out.alloc _) ⟨wr.heap.size, 0, none⟩ 1 1 [.bool false] rfl rfl (cell_one_new _ _ _) (by simp [Value.oneCell']) (by unfold maxLen; omega) (by omega) (by simp; omega) ?_; intro v' w2 hown' hgrow _; go_must (have RO := Lib.hid ((eye_snoc _ k j false E.out) ▸ hown'); have B2 := Lib.hid ((HQ.out.alloc hsq _).grown hgrow (by simp; omega) (fun q hq => (HR.out.lt q hq).1)); clear hown' hgrow))
              go_roundw
              case rel => exact ⟨j + 1, by go_num, by omega, RO.out, B2.out⟩
              case measure => simp [intOf]; omega

        · have n2 : ¬ (j : Int) ≤ n := by omega
          have n3 : (n : Int) < j := by omega
          obtain rfl : j = n + 1 := by omega
          have hro := HR.out
          obtain ⟨gr, cr, rfl, _, _⟩ := hro.form (by omega)
          go_wp2_with (at_builtin; refine wpList_append_own _ rfl _ _ 94 rfl w.heap.size 93 j0 (.slice none 0 0) 1 24 Tryz.underlying94 hj hy0 hy1 hy2 rfl (by decide) _ k xs rfl ((own_next HO.out HQ.out).alloc _) ⟨wr.heap.size, 0, none⟩ 1 1 [.slice (some ⟨gr, 0, none⟩) (n + 1) cr] rfl rfl (cell_one_new _ _ _) (by simp [Value.oneCell']) (by unfold maxLen; omega) (by omega) (by simp; omega) ?_; intro v' w2 hown' hgrow _; go_must (have ST := Lib.hid (blank_step HO.out HT.out HX.out HB.out HR.out HQ.out hown' hgrow); have HO2 := Lib.hid hown'; clear hown' hgrow))
          go_roundw
          case rel => exact ⟨k + 1, _, by go_num, by omega, HO2.out, ST.out.1, ST.out.2⟩
          case measure => simp [intOf]; omega
    · obtain rfl : k = n + 1 := by omega
      have n1 : ¬ ((n + 1 : Nat) : Int) ≤ n := by omega
      go_wp2
      go_ret
      exact ⟨_, rfl, ⟨xs, HO.out, HT.out⟩, HB.out⟩
end Go.Proofs.YtgjiofkjogjhhaaGreatDoor.Dv

namespace Go.Proofs.YtgjiofkjogjhhaaGreatDoor.Dv
open Go Go.RowKit Go.Shelf
open Go.Proofs.YtgjiofkjogjhhaaGreatDoor.Rg (add_zero own_next)

theorem drewB (w : World) : Below w.heap.size w w.drew := ⟨rfl, rfl, rfl, Nat.le_refl _, fun _ _ => rfl⟩
def plusTo (f g : Mx) (i k : Nat) : Mx := fun x y => if x < i ∨ (x = i ∧ y < k) then f x y || g x y else false
theorem plus_start (f g : Mx) : plusTo f g 0 0 = fun _ _ => false := by
  funext x y
  unfold plusTo
  rw [if_neg (by omega)]
theorem plus_step (f g : Mx) (i k : Nat) : upd (plusTo f g i k) i k (f i k || g i k) = plusTo f g i (k + 1) := by
  funext x y
  unfold upd plusTo
  by_cases h : x = i ∧ y = k
  · rw [if_pos h, if_pos (by omega)]
    rw [h.1, h.2]
  · rw [if_neg h]
    by_cases h2 : x < i ∨ x = i ∧ y < k
    · rw [if_pos h2, if_pos (by omega)]
    · rw [if_neg h2, if_neg (by omega)]
theorem plus_row (f g : Mx) (i n : Nat) : Eqm n (plusTo f g i n) (plusTo f g (i + 1) 0) := fun x y _ hy => by
  unfold plusTo
  by_cases h2 : x < i ∨ x = i ∧ y < n
  · rw [if_pos h2, if_pos (by omega)]
  · rw [if_neg h2, if_neg (by omega)]
theorem plus_end (f g : Mx) (n : Nat) : Eqm n (plusTo f g n 0) (fun i m => f i m || g i m) := fun x y hx _ => by
  unfold plusTo
  rw [if_pos (by omega)]

set_option maxRecDepth 100000 in
set_option maxHeartbeats 8000000 in
theorem plus_any (n : Nat) (f g : Mx) (va vb : Value) (w : World) (hn : n ≤ 100000) (h0 : 0 < n) (hA : TabAt w 0 va n f) (hB : TabAt w 0 vb n g) :
    Calls Tryz.prog 84 #[va, vb] w fun e w' => ∃ v, e = .returned v ∧ TabAt w' w.heap.size v n (fun i m => f i m || g i m) ∧ Below w.heap.size w w' := by
  obtain ⟨ga, ca, rfl, hca, hca2, _, _, _⟩ := hA.at' h0
  obtain ⟨gb, cb, rfl, hcb, hcb2, _, _, _⟩ := hB.at' h0
  have HA := Lib.hid hA
  have HB := Lib.hid hB
  obtain ⟨n0, rfl⟩ : ∃ n0, n = n0 + 1 := ⟨n - 1, by omega⟩
  have BL := Lib.hid (blank_any n0 false w (by omega))
  have hm : n0 + 1 ≤ 9223372036854775807 := by omega
  clear hA hB
  go_enter Tryz.func84, Tryz.ntmps84
  go_wp2_with (first
    | (go_at_call 81; ((with_reducible refine BL.out.mono ?_); rintro e w1 ⟨vo, rfl, ho, hb⟩); go_must (have HO := Lib.hid ho; have HBB := Lib.hid hb; clear ho hb))
    | fail)
  clear BL
  go_loopw [6] (fun i wr => ∃ k : Nat, i = .int .i64 k ∧ k ≤ n0 + 1 ∧ TabAt wr w.heap.size vo (n0 + 1) (plusTo f g k 0) ∧ Below w.heap.size w wr) (fun i _ => n0 + 1 - (intOf i).toNat)
  case atStart => exact ⟨0, rfl, by omega, by rw [plus_start]; exact HO.out, HBB.out⟩
  case round =>
    clear HO HBB
    obtain ⟨k, rfl, hk, ht, hb⟩ := hrel
    have HT := Lib.hid ht
    have HW := Lib.hid hb
    clear ht hb
    generalize wr = w2 at *
    by_cases hlt : k < n0 + 1
    · have n1 : (k : Int) < (n0 : Int) + 1 := by omega
      go_wp2
      go_loopw [7] (fun j wr => ∃ m : Nat, j = .int .i64 m ∧ m ≤ n0 + 1 ∧ TabAt wr w.heap.size vo (n0 + 1) (plusTo f g k m) ∧ Below w.heap.size w wr) (fun j _ => n0 + 1 - (intOf j).toNat)
      case atStart => exact ⟨0, rfl, by omega, HT.out, HW.out⟩
      case round =>
        clear HT HW
        obtain ⟨m, rfl, hm2, ht, hb⟩ := hrel
        have HT := Lib.hid ht
        have HW := Lib.hid hb
        by_cases hlm : m < n0 + 1
        · have n2 : (m : Int) < (n0 : Int) + 1 := by omega
          obtain ⟨go, co, rfl, hco, hco2, _, _, hro⟩ := ht.at' (by omega)
          obtain ⟨ro, cr, ds, o1, o2, o3, o4, o5⟩ := hro k hlt
          obtain ⟨_, _, ea, _, _, _, _, hra⟩ := (HA.out.next hb).at' (by omega)
          obtain ⟨_, _, eb, _, _, _, _, hrb⟩ := (HB.out.next hb).at' (by omega)
          simp only [Value.slice.injEq, Option.some.injEq, Addr.mk.injEq] at ea eb
          obtain ⟨⟨rfl, _⟩, _, rfl⟩ := ea
          obtain ⟨⟨rfl, _⟩, _, rfl⟩ := eb
          obtain ⟨ra, cra, _, a1, _, _, _, a5⟩ := hra k hlt
          obtain ⟨rb, crb, _, b1, _, _, _, b5⟩ := hrb k hlt
          replace a5 := a5 m hlm
          replace b5 := b5 m hlm
          obtain ⟨z1, z2, z3⟩ := (ht.next (drewB wr)).set rfl hlt (show wr.drew.cell? ⟨go, k, none⟩ = _ from o1) (show wr.drew.heap[ro]? = _ from o4) hlm (f k m || g k m)
          rw [plus_step] at z2
          replace z3 := (hb.trans ((drewB wr).mono hb.size)).trans z3
          have y0 : wr.drew.cell? ⟨ro, m, none⟩ = some (.bool (plusTo f g k m k m)) := o5 m hlm
          clear ht hb hro hra hrb o4 o5
          cases hf : f k m
          · rw [hf] at a5
            rw [hf, Bool.false_or] at z2 z3
            have Z2 := Lib.hid z2
            have Z3 := Lib.hid z3
            clear z2 z3 hf
            go_wp2
            refine wp_region_still_tail 22 (by kernel_rfl) (by kernel_rfl) ?_
            simp only [List.take_succ_cons, List.take_zero, List.drop_succ_cons, List.drop_zero]
            iterate 22 (with_reducible refine wpStill_step (fun K hK => ?_); go_simp; with_reducible refine hK _ ?_; clear hK K)
            with_reducible refine wpStill_nil ?_
            change wpList _ _ _ _ _ wr.drew
            generalize wr.drew = w3 at *
            go_wp2
            go_roundw
            case rel => exact ⟨m + 1, by go_num, by omega, Z2.out, Z3.out⟩
            case measure => simp [intOf]; omega
          · rw [hf] at a5
            rw [hf, Bool.true_or] at z2 z3
            have Z2 := Lib.hid z2
            have Z3 := Lib.hid z3
            clear z2 z3 hf
            go_wp2
            refine wp_region_still_tail 22 (by kernel_rfl) (by kernel_rfl) ?_
            simp only [List.take_succ_cons, List.take_zero, List.drop_succ_cons, List.drop_zero]
            iterate 22 (with_reducible refine wpStill_step (fun K hK => ?_); go_simp; with_reducible refine hK _ ?_; clear hK K)
            with_reducible refine wpStill_nil ?_
            change wpList _ _ _ _ _ wr.drew
            generalize wr.drew = w3 at *
            go_wp2
            go_roundw
            case rel => exact ⟨m + 1, by go_num, by omega, Z2.out, Z3.out⟩
            case measure => simp [intOf]; omega
        · obtain rfl : m = n0 + 1 := by omega
          have Z2 := Lib.hid (ht.congr (plus_row f g k (n0 + 1)))
          clear ht hb
          go_wp2
          go_roundw
          case rel => exact ⟨k + 1, by go_num, by omega, Z2.out, HW.out⟩
          case measure => simp [intOf]; omega
    · obtain rfl : k = n0 + 1 := by omega
      go_wp2
      go_ret
      exact ⟨_, rfl, HT.out.congr (plus_end f g (n0 + 1)), HW.out⟩
end Go.Proofs.YtgjiofkjogjhhaaGreatDoor.Dv

namespace Go.Proofs.YtgjiofkjogjhhaaGreatDoor.Dv
open Go Go.RowKit Go.Shelf
open Go.Proofs.YtgjiofkjogjhhaaGreatDoor.Rg (add_zero own_next)

open Classical in
noncomputable def timesTo (n : Nat) (f g : Mx) (i k m : Nat) : Mx := fun x y => decide ((x < i ∧ mulM n f g x y = true) ∨ (x = i ∧ ∃ q, i ≤ q ∧ q ≤ y ∧ y < n ∧ f i q = true ∧ g q y = true ∧ (q < k ∨ (q = k ∧ y < m))))
theorem to_iff {n : Nat} {f g : Mx} {i k m x y : Nat} : timesTo n f g i k m x y = true ↔ (x < i ∧ mulM n f g x y = true) ∨ (x = i ∧ ∃ q, i ≤ q ∧ q ≤ y ∧ y < n ∧ f i q = true ∧ g q y = true ∧ (q < k ∨ (q = k ∧ y < m))) := by simp [timesTo]
theorem to_start (n : Nat) (f g : Mx) : Eqm n (fun _ _ => false) (timesTo n f g 0 0 0) := fun x y _ _ => by
  rw [Bool.eq_iff_iff, to_iff]
  exact ⟨fun h => (by cases h), fun h => (by rcases h with ⟨h, _⟩ | ⟨_, q, _, _, _, _, _, h | ⟨_, h⟩⟩ <;> omega)⟩
theorem to_row (n : Nat) (f g : Mx) (i : Nat) : Eqm n (timesTo n f g i 0 0) (timesTo n f g i i 0) := fun x y _ _ => by
  rw [Bool.eq_iff_iff, to_iff, to_iff]
  refine or_congr_right (and_congr_right fun _ => exists_congr fun q => and_congr_right fun h => ?_)
  refine and_congr_right fun _ => and_congr_right fun _ => and_congr_right fun _ => and_congr_right fun _ => ?_
  omega
theorem to_in (n : Nat) (f g : Mx) (i k : Nat) : Eqm n (timesTo n f g i k 0) (timesTo n f g i k k) := fun x y _ _ => by
  rw [Bool.eq_iff_iff, to_iff, to_iff]
  refine or_congr_right (and_congr_right fun _ => exists_congr fun q => and_congr_right fun h => ?_)
  refine and_congr_right fun _ => and_congr_right fun _ => and_congr_right fun _ => and_congr_right fun _ => ?_
  omega
theorem to_step (n : Nat) (f g : Mx) {i k m : Nat} (h1 : i ≤ k) (h2 : k ≤ m) (h3 : m < n) (h4 : f i k = true) : Eqm n (upd (timesTo n f g i k m) i m (timesTo n f g i k m i m || g k m)) (timesTo n f g i k (m + 1)) := fun x y _ _ => by
  unfold upd
  by_cases h : x = i ∧ y = m
  · obtain ⟨rfl, rfl⟩ := h
    rw [if_pos ⟨rfl, rfl⟩, Bool.eq_iff_iff, Bool.or_eq_true, to_iff, to_iff]
    constructor
    · rintro ((⟨h, _⟩ | ⟨_, q, a1, a2, a3, a4, a5, a6⟩) | h)
      · omega
      · exact .inr ⟨rfl, q, a1, a2, a3, a4, a5, by omega⟩
      · exact .inr ⟨rfl, k, h1, h2, h3, h4, h, by omega⟩
    · rintro (⟨h, _⟩ | ⟨_, q, a1, a2, a3, a4, a5, a6⟩)
      · omega
      · rcases Nat.lt_or_ge q k with hq | hq
        · exact .inl (.inr ⟨rfl, q, a1, a2, a3, a4, a5, by omega⟩)
        · obtain rfl : q = k := by omega
          exact .inr a5
  · rw [if_neg h, Bool.eq_iff_iff, to_iff, to_iff]
    constructor
    · rintro (h | ⟨e, q, a1, a2, a3, a4, a5, a6⟩)
      · exact .inl h
      · exact .inr ⟨e, q, a1, a2, a3, a4, a5, by omega⟩
    · rintro (h | ⟨e, q, a1, a2, a3, a4, a5, a6⟩)
      · exact .inl h
      · refine .inr ⟨e, q, a1, a2, a3, a4, a5, ?_⟩
        rcases a6 with a6 | ⟨a6, a7⟩
        · exact .inl a6
        · refine .inr ⟨a6, ?_⟩
          have : y ≠ m := fun e' => h ⟨e, e'⟩
          omega
theorem to_next (n : Nat) (f g : Mx) (i k : Nat) : Eqm n (timesTo n f g i k n) (timesTo n f g i (k + 1) 0) := fun x y _ _ => by
  rw [Bool.eq_iff_iff, to_iff, to_iff]
  refine or_congr_right (and_congr_right fun _ => exists_congr fun q => and_congr_right fun h => ?_)
  refine and_congr_right fun _ => and_congr_right fun _ => and_congr_right fun _ => and_congr_right fun _ => ?_
  omega
theorem to_pass (n : Nat) (f g : Mx) {i k : Nat} (m : Nat) (h : f i k = false) : Eqm n (timesTo n f g i k m) (timesTo n f g i (k + 1) 0) := fun x y _ _ => by
  rw [Bool.eq_iff_iff, to_iff, to_iff]
  refine or_congr_right (and_congr_right fun _ => exists_congr fun q => and_congr_right fun _ => ?_)
  refine and_congr_right fun _ => and_congr_right fun _ => and_congr_right fun h4 => and_congr_right fun _ => ?_
  have : q ≠ k := fun e => by rw [e, h] at h4; cases h4
  omega
theorem to_out (n : Nat) (f g : Mx) (i : Nat) : Eqm n (timesTo n f g i n 0) (timesTo n f g (i + 1) 0 0) := fun x y _ hy => by
  rw [Bool.eq_iff_iff, to_iff, to_iff]
  constructor
  · rintro (⟨h1, h2⟩ | ⟨rfl, q, a1, a2, a3, a4, a5, a6⟩)
    · exact .inl ⟨by omega, h2⟩
    · exact .inl ⟨by omega, mul_iff.2 ⟨q, a1, a2, a3, a4, a5⟩⟩
  · rintro (⟨h1, h2⟩ | ⟨e, q, a1, a2, a3, a4, a5, a6⟩)
    · rcases Nat.lt_or_ge x i with hx | hx
      · exact .inl ⟨hx, h2⟩
      · obtain rfl : x = i := by omega
        obtain ⟨q, a1, a2, a3, a4, a5⟩ := mul_iff.1 h2
        exact .inr ⟨rfl, q, a1, a2, a3, a4, a5, by omega⟩
    · omega
theorem to_end (n : Nat) (f g : Mx) : Eqm n (timesTo n f g n 0 0) (mulM n f g) := fun x y hx _ => by
  rw [Bool.eq_iff_iff, to_iff]
  exact ⟨fun h => (by rcases h with h | ⟨e, _⟩; exact h.2; omega), fun h => .inl ⟨hx, h⟩⟩

set_option maxRecDepth 100000 in
set_option maxHeartbeats 8000000 in
theorem times_any (n : Nat) (f g : Mx) (va vb : Value) (w : World) (hn : n ≤ 100000) (h0 : 0 < n) (hA : TabAt w 0 va n f) (hB : TabAt w 0 vb n g) :
    Calls Tryz.prog 83 #[va, vb] w fun e w' => ∃ v, e = .returned v ∧ TabAt w' w.heap.size v n (mulM n f g) ∧ Below w.heap.size w w' := by
  obtain ⟨ga, ca, rfl, hca, hca2, _, _, _⟩ := hA.at' h0
  obtain ⟨gb, cb, rfl, hcb, hcb2, _, _, _⟩ := hB.at' h0
  have HA := Lib.hid hA
  have HB := Lib.hid hB
  obtain ⟨n0, rfl⟩ : ∃ n0, n = n0 + 1 := ⟨n - 1, by omega⟩
  have BL := Lib.hid (blank_any n0 false w (by omega))
  have hm : n0 + 1 ≤ 9223372036854775807 := by omega
  clear hA hB
  go_enter Tryz.func83, Tryz.ntmps83
  go_wp2_with (first
    | (go_at_call 81; ((with_reducible refine BL.out.mono ?_); rintro e w1 ⟨vo, rfl, ho, hb⟩); go_must (have HO := Lib.hid ho; have HBB := Lib.hid hb; clear ho hb))
    | fail)
  clear BL
  go_loopw [6] (fun i wr => ∃ k : Nat, i = .int .i64 k ∧ k ≤ n0 + 1 ∧ TabAt wr w.heap.size vo (n0 + 1) (timesTo (n0 + 1) f g k 0 0) ∧ Below w.heap.size w wr) (fun i _ => n0 + 1 - (intOf i).toNat)
  case atStart => exact ⟨0, rfl, by omega, HO.out.congr (to_start (n0 + 1) f g), HBB.out⟩
  case round =>
    clear HO HBB
    obtain ⟨i, rfl, hi, ht, hb⟩ := hrel
    have HT := Lib.hid (ht.congr (to_row (n0 + 1) f g i))
    have HE := Lib.hid ht
    have HW := Lib.hid hb
    clear ht hb
    generalize wr = w2 at *
    by_cases hlt : i < n0 + 1
    · have n1 : (i : Int) < (n0 : Int) + 1 := by omega
      go_wp2
      go_loopw [7] (fun j wr => ∃ k : Nat, j = .int .i64 k ∧ i ≤ k ∧ k ≤ n0 + 1 ∧ TabAt wr w.heap.size vo (n0 + 1) (timesTo (n0 + 1) f g i k 0) ∧ Below w.heap.size w wr) (fun j _ => n0 + 1 - (intOf j).toNat)
      case atStart => exact ⟨i, rfl, Nat.le_refl _, by omega, HT.out, HW.out⟩
      case round =>
        clear HT HW HE
        obtain ⟨k, rfl, hik, hk, ht, hb⟩ := hrel
        have HT := Lib.hid (ht.congr (to_in (n0 + 1) f g i k))
        have HE := Lib.hid ht
        have HW := Lib.hid hb
        clear ht hb
        generalize wr = w3 at *
        by_cases hlk : k < n0 + 1
        · have n2 : (k : Int) < (n0 : Int) + 1 := by omega
          go_wp2
          go_loopw [8] (fun j wr => ∃ m : Nat, j = .int .i64 m ∧ k ≤ m ∧ m ≤ n0 + 1 ∧ TabAt wr w.heap.size vo (n0 + 1) (timesTo (n0 + 1) f g i k m) ∧ Below w.heap.size w wr) (fun j _ => n0 + 1 - (intOf j).toNat)
          case atStart => exact ⟨k, rfl, Nat.le_refl _, by omega, HT.out, HW.out⟩
          case round =>
            clear HT HW HE
            obtain ⟨m, rfl, hkm, hm2, ht, hb⟩ := hrel
            have HT := Lib.hid ht
            have HW := Lib.hid hb
            by_cases hlm : m < n0 + 1
            · have n3 : (m : Int) < (n0 : Int) + 1 := by omega
              obtain ⟨_, _, ea, _, _, _, _, hra⟩ := (HA.out.next hb).at' (by omega)
              simp only [Value.slice.injEq, Option.some.injEq, Addr.mk.injEq] at ea
              obtain ⟨⟨rfl, _⟩, _, rfl⟩ := ea
              obtain ⟨ra, cra, _, a1, _, _, _, a5⟩ := hra i hlt
              replace a5 := a5 k hlk
              cases hf : f i k
              · rw [hf] at a5
                have Z2 := Lib.hid (ht.congr (to_pass (n0 + 1) f g m hf))
                clear ht hb hra hf
                go_wp2
                go_roundw
                case rel => exact ⟨k + 1, by go_num, by omega, by omega, Z2.out, HW.out⟩
                case measure => simp [intOf]; omega
              · rw [hf] at a5
                obtain ⟨go, co, rfl, hco, hco2, _, _, hro⟩ := ht.at' (by omega)
                obtain ⟨ro, cr, ds, o1, o2, o3, o4, o5⟩ := hro i hlt
                obtain ⟨_, _, eb, _, _, _, _, hrb⟩ := (HB.out.next hb).at' (by omega)
                simp only [Value.slice.injEq, Option.some.injEq, Addr.mk.injEq] at eb
                obtain ⟨⟨rfl, _⟩, _, rfl⟩ := eb
                obtain ⟨rb, crb, _, b1, _, _, _, b5⟩ := hrb k hlk
                replace b5 := b5 m hlm
                obtain ⟨z1, z2, z3⟩ := (ht.next (drewB wr)).set rfl hlt (show wr.drew.cell? ⟨go, i, none⟩ = _ from o1) (show wr.drew.heap[ro]? = _ from o4) hlm (timesTo (n0 + 1) f g i k m i m || g k m)
                replace z2 := z2.congr (to_step (n0 + 1) f g hik hkm hlm hf)
                replace z3 := (hb.trans ((drewB wr).mono hb.size)).trans z3
                have y0 : wr.drew.cell? ⟨ro, m, none⟩ = some (.bool (timesTo (n0 + 1) f g i k m i m)) := o5 m hlm
                have y1 : wr.cell? ⟨ro, m, none⟩ = some (.bool (timesTo (n0 + 1) f g i k m i m)) := o5 m hlm
                clear ht hb hro hra hrb o4 o5 hf
                generalize timesTo (n0 + 1) f g i k m i m = o at *
                cases o
                · rw [Bool.false_or] at z2 z3
                  have Z2 := Lib.hid z2
                  have Z3 := Lib.hid z3
                  clear z2 z3
                  go_wp2
                  refine wp_region_still_tail 22 (by kernel_rfl) (by kernel_rfl) ?_
                  simp only [List.take_succ_cons, List.take_zero, List.drop_succ_cons, List.drop_zero]
                  iterate 22 (with_reducible refine wpStill_step (fun K hK => ?_); go_simp; with_reducible refine hK _ ?_; clear hK K)
                  with_reducible refine wpStill_nil ?_
                  change wpList _ _ _ _ _ wr.drew
                  generalize wr.drew = w4 at *
                  go_wp2
                  go_roundw
                  case rel => exact ⟨m + 1, by go_num, by omega, by omega, Z2.out, Z3.out⟩
                  case measure => simp [intOf]; omega
                · rw [Bool.true_or] at z2 z3
                  have Z2 := Lib.hid z2
                  have Z3 := Lib.hid z3
                  clear z2 z3
                  go_wp2
                  refine wp_region_still_tail 22 (by kernel_rfl) (by kernel_rfl) ?_
                  simp only [List.take_succ_cons, List.take_zero, List.drop_succ_cons, List.drop_zero]
                  iterate 22 (with_reducible refine wpStill_step (fun K hK => ?_); go_simp; with_reducible refine hK _ ?_; clear hK K)
                  with_reducible refine wpStill_nil ?_
                  change wpList _ _ _ _ _ wr.drew
                  generalize wr.drew = w4 at *
                  go_wp2
                  go_roundw
                  case rel => exact ⟨m + 1, by go_num, by omega, by omega, Z2.out, Z3.out⟩
                  case measure => simp [intOf]; omega
            · obtain rfl : m = n0 + 1 := by omega
              have Z2 := Lib.hid (ht.congr (to_next (n0 + 1) f g i k))
              have n3 : ¬ ((n0 + 1 : Nat) : Int) < (n0 : Int) + 1 := by omega
              clear ht hb
              go_wp2
              go_roundw
              case rel => exact ⟨k + 1, by go_num, by omega, by omega, Z2.out, HW.out⟩
              case measure => simp [intOf]; omega
        · obtain rfl : k = n0 + 1 := by omega
          have Z2 := Lib.hid (HE.out.congr (to_out (n0 + 1) f g i))
          go_wp2
          go_roundw
          case rel => exact ⟨i + 1, by go_num, by omega, Z2.out, HW.out⟩
          case measure => simp [intOf]; omega
    · obtain rfl : i = n0 + 1 := by omega
      go_wp2
      go_ret
      exact ⟨_, rfl, HE.out.congr (to_end (n0 + 1) f g), HW.out⟩
end Go.Proofs.YtgjiofkjogjhhaaGreatDoor.Dv

namespace Go.Proofs.YtgjiofkjogjhhaaGreatDoor.Dv
open Go Go.RowKit Go.Shelf
open Go.Proofs.YtgjiofkjogjhhaaGreatDoor.Rg (add_zero own_next)

theorem eye_no (is : Bool) (h : is = false) (l : List Int) (A : L) (lo hi : Int) : Eqm (l.length + 1) (fun i m => eyeV is i m) (mat (someL A lo hi 0) l) := by
  rw [some_zero]
  exact Eqm.trans (fun i m _ _ => by rw [h]; rfl) (mat_no l (l.length + 1))
theorem eye_eps (l : List Int) (A : L) : Eqm (l.length + 1) (fun i m => eyeV true i m) (mat (pow A 0) l) := Eqm.trans (fun i m _ _ => by simp [eyeV]) (mat_eps l)
theorem some_next {A : L} {lo hi : Int} {k : Nat} {l : List Int} (h1 : lo ≤ k) (h2 : 0 ≤ hi → (k : Int) ≤ hi) : Eqm (l.length + 1) (fun i m => mat (someL A lo hi k) l i m || mat (pow A k) l i m) (mat (someL A lo hi (k + 1)) l) := by
  rw [some_yes h1 h2]
  exact mat_alt
theorem pow_next {A : L} {k : Nat} {l : List Int} : Eqm (l.length + 1) (mulM (l.length + 1) (mat (pow A k) l) (mat A l)) (mat (pow A (k + 1)) l) := by
  rw [← pow_snoc]
  exact mat_seq

set_option maxRecDepth 100000 in
set_option maxHeartbeats 8000000 in
theorem rrep_any (l : List Int) (A : L) (lo hi : Int) (va : Value) (w : World) (hn : l.length ≤ 10000) (hlo : 0 ≤ lo) (hlo2 : lo ≤ 1000) (hhi : -1 ≤ hi) (hhi2 : hi ≤ 1000) (hA : TabAt w 0 va (l.length + 1) (mat A l)) :
    Calls Tryz.prog 85 #[va, .int .i64 lo, .int .i64 hi] w fun e w' => ∃ v, e = .returned v ∧ TabAt w' w.heap.size v (l.length + 1) (mat (rep A lo hi) l) ∧ Below w.heap.size w w' := by
  obtain ⟨ga, ca, rfl, hca, hca2, _, _, _⟩ := hA.at' (by omega)
  have HA := Lib.hid hA
  have BL := Lib.hid (fun (is : Bool) (X : World) => blank_any l.length is X (by omega))
  have PL := Lib.hid (fun (k : Nat) (va vb : Value) (X : World) => plus_any (l.length + 1) (mat (someL A lo hi k) l) (mat (pow A k) l) va vb X (by omega) (by omega))
  have TM := Lib.hid (fun (k : Nat) (va vb : Value) (X : World) => times_any (l.length + 1) (mat (pow A k) l) (mat A l) va vb X (by omega) (by omega))
  have SM := Lib.hid (fun (k : Nat) => eye_no false rfl l A lo hi)
  have EP := Lib.hid (eye_eps l A)
  have SN := Lib.hid (fun (k : Nat) (h1 : lo ≤ k) (h2 : 0 ≤ hi → (k : Int) ≤ hi) => some_next (A := A) (l := l) h1 h2)
  have SP := Lib.hid (fun (k : Nat) (h : (k : Int) < lo) => mat_congr (some_not (A := A) (hi := hi) h).symm l (l.length + 1))
  have PN := Lib.hid (fun (k : Nat) => pow_next (A := A) (l := l) (k := k))
  have EN := Lib.hid (fun (k : Nat) (hk : (lo.toNat + (l.length + 1) < k) ∨ (0 ≤ hi ∧ hi < k)) => some_enough (A := A) (l := l) hk)
  generalize mat A l = M at *
  generalize hS : (fun k => mat (someL A lo hi k) l) = S at *
  generalize hP : (fun k => mat (pow A k) l) = P at *
  replace hS : ∀ k, mat (someL A lo hi k) l = S k := fun k => congrFun hS k
  replace hP : ∀ k, mat (pow A k) l = P k := fun k => congrFun hP k
  simp only [hS, hP] at PL TM SM EP SN SP PN EN
  generalize mat (rep A lo hi) l = E at *
  generalize l.length = n0 at *
  clear hA hS hP
  have hm : n0 + 1 ≤ 9223372036854775807 := by omega
  go_enter Tryz.func85, Tryz.ntmps85
  go_wp2_with (first
    | (go_at_call 81; ((with_reducible refine (BL.out false w).mono ?_); rintro e w1 ⟨vo, rfl, ho, hb⟩); go_must (have HO := Lib.hid (ho.congr (SM.out 0)); have HB := Lib.hid hb; clear ho hb))
    | (go_at_call 81; ((with_reducible refine (BL.out true w1).mono ?_); rintro e w2 ⟨vn, rfl, hn2, hb2⟩); go_must (have HN := Lib.hid ((hn2.congr EP.out).mono HB.out.size); have HO2 := Lib.hid (HO.out.next hb2); have HB2 := Lib.hid (HB.out.trans (hb2.mono HB.out.size)); clear hn2 hb2))
    | fail)
  clear BL
  go_loopw [7, 8, 9] (fun vo vn i wr => ∃ k : Nat, i = .int .i64 k ∧ k ≤ lo.toNat + n0 + 2 ∧ TabAt wr w.heap.size vo (n0 + 1) (S k) ∧ TabAt wr w.heap.size vn (n0 + 1) (P k) ∧ Below w.heap.size w wr) (fun _ _ i _ => lo.toNat + n0 + 3 - (intOf i).toNat)
  case atStart => exact ⟨0, rfl, by omega, HO2.out, HN.out, HB2.out⟩
  case round =>
    clear HO2 HN HB2 HO HB
    obtain ⟨k, rfl, hk, ho, hn1, hb⟩ := hrel
    have HO := Lib.hid ho
    have HN := Lib.hid hn1
    have HB := Lib.hid hb
    have hsz := hb.size
    have Q1 := Lib.hid (ho.mono (M := 0) (Nat.zero_le _))
    have Q2 := Lib.hid (hn1.mono (M := 0) (Nat.zero_le _))
    have Q4 := Lib.hid (HA.out.next hb)
    clear ho hn1 hb
    by_cases c1 : (k : Int) ≤ lo + ((n0 : Int) + 1)
    · by_cases c2 : hi < 0
      · by_cases c4 : lo ≤ (k : Int)
        · have SS := Lib.hid (SN.out k c4 (by omega))
          go_wp2_with (first
            | (go_at_call 84; ((with_reducible refine (PL.out k u7 u8 wr Q1.out Q2.out).mono ?_); rintro e w3 ⟨v3, rfl, h3, hb3⟩); go_must (have HO3 := Lib.hid ((h3.congr SS.out).mono hsz); have HN3 := Lib.hid (HN.out.next hb3); have HB3 := Lib.hid (HB.out.trans (hb3.mono hsz)); have Q3 := Lib.hid (HN3.out.mono (M := 0) (Nat.zero_le _)); have Q4 := Lib.hid (HA.out.next HB3.out); clear h3 hb3))
            | (go_at_call 83; ((with_reducible refine (TM.out k u8 _ w3 Q3.out Q4.out).mono ?_); rintro e w4 ⟨v4, rfl, h4, hb4⟩); go_must (have HN4 := Lib.hid ((h4.congr (PN.out k)).mono HB3.out.size); have HO4 := Lib.hid (HO3.out.next hb4); have HB4 := Lib.hid (HB3.out.trans (hb4.mono HB3.out.size)); clear h4 hb4))
            | fail)
          go_roundw
          case rel => exact ⟨k + 1, by go_num, by omega, HO4.out, HN4.out, HB4.out⟩
          case measure => simp [intOf]; omega
        · have SS := Lib.hid (HO.out.congr (SP.out k (by omega)))
          go_wp2_with (first
            | (go_at_call 83; ((with_reducible refine (TM.out k u8 _ wr Q2.out Q4.out).mono ?_); rintro e w4 ⟨v4, rfl, h4, hb4⟩); go_must (have HN4 := Lib.hid ((h4.congr (PN.out k)).mono hsz); have HO4 := Lib.hid (SS.out.next hb4); have HB4 := Lib.hid (HB.out.trans (hb4.mono hsz)); clear h4 hb4))
            | fail)
          go_roundw
          case rel => exact ⟨k + 1, by go_num, by omega, HO4.out, HN4.out, HB4.out⟩
          case measure => simp [intOf]; omega
      · by_cases c3 : (k : Int) ≤ hi
        · by_cases c4 : lo ≤ (k : Int)
          · have SS := Lib.hid (SN.out k c4 (by omega))
            go_wp2_with (first
              | (go_at_call 84; ((with_reducible refine (PL.out k u7 u8 wr Q1.out Q2.out).mono ?_); rintro e w3 ⟨v3, rfl, h3, hb3⟩); go_must (have HO3 := Lib.hid ((h3.congr SS.out).mono hsz); have HN3 := Lib.hid (HN.out.next hb3); have HB3 := Lib.hid (HB.out.trans (hb3.mono hsz)); have Q3 := Lib.hid (HN3.out.mono (M := 0) (Nat.zero_le _)); have Q4 := Lib.hid (HA.out.next HB3.out); clear h3 hb3))
              | (go_at_call 83; ((with_reducible refine (TM.out k u8 _ w3 Q3.out Q4.out).mono ?_); rintro e w4 ⟨v4, rfl, h4, hb4⟩); go_must (have HN4 := Lib.hid ((h4.congr (PN.out k)).mono HB3.out.size); have HO4 := Lib.hid (HO3.out.next hb4); have HB4 := Lib.hid (HB3.out.trans (hb4.mono HB3.out.size)); clear h4 hb4))
              | fail)
            go_roundw
            case rel => exact ⟨k + 1, by go_num, by omega, HO4.out, HN4.out, HB4.out⟩
            case measure => simp [intOf]; omega
          · have SS := Lib.hid (HO.out.congr (SP.out k (by omega)))
            go_wp2_with (first
              | (go_at_call 83; ((with_reducible refine (TM.out k u8 _ wr Q2.out Q4.out).mono ?_); rintro e w4 ⟨v4, rfl, h4, hb4⟩); go_must (have HN4 := Lib.hid ((h4.congr (PN.out k)).mono hsz); have HO4 := Lib.hid (SS.out.next hb4); have HB4 := Lib.hid (HB.out.trans (hb4.mono hsz)); clear h4 hb4))
              | fail)
            go_roundw
            case rel => exact ⟨k + 1, by go_num, by omega, HO4.out, HN4.out, HB4.out⟩
            case measure => simp [intOf]; omega
        · have EE := Lib.hid (HO.out.congr (EN.out k (.inr ⟨by omega, by omega⟩)))
          go_wp2
          go_ret
          exact ⟨_, rfl, EE.out, HB.out⟩
    · have EE := Lib.hid (HO.out.congr (EN.out k (.inl (by omega))))
      go_wp2
      go_ret
      exact ⟨_, rfl, EE.out, HB.out⟩
end Go.Proofs.YtgjiofkjogjhhaaGreatDoor.Dv

namespace Go.Proofs.YtgjiofkjogjhhaaGreatDoor.Dv
open Go Go.RowKit Go.Shelf
open Go.Proofs.YtgjiofkjogjhhaaGreatDoor.Ar (timesB Nd nd nodeB nodeB_ways NodeAt node_new Tr Ok TreeAt aggN)
open Go.Proofs.YtgjiofkjogjhhaaGreatDoor.Rg (R RngsAt RowsAt nthL add_zero own_next inB rhas_any)

theorem infoMx : (Tryz.prog.info? 94).map (fun i => (i.zero, i.size, i.bytes)) = some (some (.slice none 0 0), 1, 24) := by kernel_rfl
def oneTo (P : Int → Bool) (l : List Int) (k : Nat) : Mx := fun i m => decide (m = i + 1 ∧ i < k) && P (l.getD i 0)
theorem one_start (P : Int → Bool) (l : List Int) (n : Nat) : Eqm n (fun i m => eyeV false i m) (oneTo P l 0) := fun i m _ _ => by simp [eyeV, oneTo]
theorem one_step (P : Int → Bool) (l : List Int) (k : Nat) : upd (oneTo P l k) k (k + 1) (P (l.getD k 0)) = oneTo P l (k + 1) := by
  funext i m
  unfold upd oneTo
  by_cases h : i = k ∧ m = k + 1
  · obtain ⟨rfl, rfl⟩ := h
    rw [if_pos ⟨rfl, rfl⟩]
    simp
  · rw [if_neg h]
    congr 1
    rw [decide_eq_decide]
    omega
theorem one_end (P : Int → Bool) (l : List Int) : Eqm (l.length + 1) (oneTo P l l.length) (mat (one P) l) := Eqm.trans (fun i m hi hm => by
  unfold oneTo
  congr 1
  rw [decide_eq_decide]
  omega) (mat_one P l)
theorem eye_one (l : List Int) : Eqm (l.length + 1) (fun i m => eyeV true i m) (mat eps l) := Eqm.trans (fun i m _ _ => by simp [eyeV]) (mat_eps l)
section
variable {w w' : World} {N n : Nat} {f : Mx} {v : Value}
theorem TabAt.grown {o : Option Nat} (h : TabAt w N v n f) (hg : w.grownBy w' o) (ho : ∀ g, o = some g → ∃ cs t, w.heap[g]? = some (.cells cs t (0, 0)) ∧ t ≠ 4 ∧ t ≠ 93) : TabAt w' N v n f := by
  obtain ⟨xs, h1, h2⟩ := h
  refine ⟨xs, ⟨h1.1, ?_⟩, h2.keep fun k ds _ hk => hg.block k (Array.getElem?_eq_some_iff.1 hk).1 fun e => ?_⟩
  · rcases h1.2 with h | ⟨g, cap, cur, a, b, c, d⟩
    · exact .inl h
    · refine .inr ⟨g, cap, cur, a, b, ?_, d⟩
      rw [hg.block g (Array.getElem?_eq_some_iff.1 c).1 (fun e => ?_)]
      · exact c
      · obtain ⟨cs, t, hh, _, ht⟩ := ho g e.symm
        rw [c] at hh
        simp only [Option.some.injEq, Obj.cells.injEq] at hh
        exact ht hh.2.1.symm
  · obtain ⟨cs, t, hh, ht, _⟩ := ho k e.symm
    rw [hk] at hh
    simp only [Option.some.injEq, Obj.cells.injEq] at hh
    exact ht hh.2.1.symm
end
/-- all tables so far -/
structure AllAt (w0 w : World) (v : Value) (k : Nat) (D : Nat → L) (l : List Int) (xs : List Value) : Prop where
  own : w.ownsRow w0.heap.size 94 1 v k xs
  tab : ∀ j, j < k → ∃ x, xs[j]? = some x ∧ TabAt w 0 x (l.length + 1) (mat (D j) l)
  below : Below w0.heap.size w0 w
section
variable {w0 w w' : World} {v v' : Value} {k : Nat} {D : Nat → L} {l : List Int} {xs : List Value}
theorem AllAt.next (h : AllAt w0 w v k D l xs) (hb : Below w.heap.size w w') : AllAt w0 w' v k D l xs :=
  ⟨own_next h.own hb, fun j hj => by
    obtain ⟨x, h1, h2⟩ := h.tab j hj
    exact ⟨x, h1, h2.next hb⟩, h.below.trans (hb.mono h.below.size)⟩
theorem AllAt.at' (h : AllAt w0 w v k D l xs) {j : Nat} (hj : j < k) : ∃ g cap x, v = .slice (some ⟨g, 0, none⟩) k cap ∧ w.cell? ⟨g, j, none⟩ = some x ∧ TabAt w 0 x (l.length + 1) (mat (D j) l) := by
  obtain ⟨x, h1, h2⟩ := h.tab j hj
  obtain ⟨g, cap, rfl, _, _⟩ := h.own.form (by omega)
  have hl := h.own.1
  exact ⟨g, cap, x, rfl, by rw [h.own.cellAt j (by omega), h1], h2⟩
/-- a table more -/
theorem AllAt.app (h : AllAt w0 w v k D l xs) {x : Value} {W : World} (hb : Below w.heap.size w W) (hx : TabAt W 0 x (l.length + 1) (mat (D k) l)) {o : Obj} (hown : w'.ownsRow w0.heap.size 94 1 v' (k + 1) (xs ++ [x])) (hg : (W.alloc o).grownBy w' v.ownBlock) : AllAt w0 w' v' (k + 1) D l (xs ++ [x]) := by
  have h1 := h.next hb
  have bA := (Below.refl W.heap.size W).alloc (Nat.le_refl _) o
  have h2 := h1.next bA
  have hl := h.own.1
  have hgo : ∀ g, v.ownBlock = some g → ∃ cs t, (W.alloc o).heap[g]? = some (.cells cs t (0, 0)) ∧ t ≠ 4 ∧ t ≠ 93 := fun g e => by
    obtain ⟨_, cs, hh⟩ := row_of h2.own e
    exact ⟨cs, _, hh, by decide, by decide⟩
  refine ⟨hown, fun j hj => ?_, h2.below.grown hg h2.below.size (fun q hq => (h2.own.lt q hq).1)⟩
  rcases Nat.lt_or_ge j k with hjk | hjk
  · obtain ⟨y, y1, y2⟩ := h2.tab j hjk
    exact ⟨y, by rw [List.getElem?_append_left (by omega)]; exact y1, y2.grown hg hgo⟩
  · obtain rfl : j = k := by omega
    exact ⟨x, by rw [List.getElem?_append_right (by omega), show j - xs.length = 0 by omega]; rfl, (hx.next bA).grown hg hgo⟩
end
end Go.Proofs.YtgjiofkjogjhhaaGreatDoor.Dv

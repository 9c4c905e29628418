/- The document's Check. The document's Size. Is a tree too much to be asked of? The law DerivMatches. Trees among a row's arguments: what they give to a walk. What the rows' listed variables give to the walk of DerivMatches. -/
import Derived.Test.YtbkafoaoddajoaaGreatDoorPk15
import Derived.Test.YtbkafoaoddajoaaGreatDoorPk03
import Derived.Test.YtbkafoaoddajoaaGreatDoorPk17
import Derived.Deep.RegionHeld3
import Derived.Deep.DeepMust
import Derived.Test.YtbkafoaoddajoaaGreatDoorPk02
import Derived.Deep.SlicePairs
import Derived.ChangeSlices
import Derived.Carry
import Derived.OpenShut
import Derived.ChangeArms
import Derived.Deep.Slices
import Derived.DataReads
import Derived.WideShapes
import Derived.Test.YtbkafoaoddajoaaGreatDoorRows
import Derived.Lib.LaidU8T

namespace Go.Proofs.YtbkafoaoddajoaaGreatDoor.Ar
open Go Go.RowKit Go.Shelf
open Go.Proofs.YtbkafoaoddajoaaGreatDoor.Rg (R RngsAt RowsAt nthL add_zero own_next)

set_option maxRecDepth 100000 in
set_option maxHeartbeats 8000000 in
theorem rnode_any (t : Tr) (i : Nat) (hi : i < t.ns.length) (v : Value) (w : World) (h : TreeAt w v t) :
    Calls Tryz.prog 22 #[v, .int .i64 i] w fun e w' => e = .returned (.bool (nodeB (nd t.ns i) i t.sets.length)) ∧ Below w.heap.size w w' := by
  obtain ⟨ao, cap, so, scap, rfl, hm, hm2, hn, _⟩ := h.shape
  obtain ⟨g, rfl, hN⟩ := hn i hi
  obtain ⟨c0, c1, c2, c3, c4, c5⟩ := hN
  have hlt := cell_lt c0
  clear hn h
  generalize nd t.ns i = n at *
  rcases op_ways n with z1 | ⟨z1, z2⟩ | ⟨z1, z2, z3⟩ | ⟨z1, z2, z3, z4⟩ | ⟨z1, z2, z3, z4, z5⟩ | ⟨z1, z2, z3, z4, z5⟩
  · have E := Lib.hid (nodeB_1 (n := n) (i := i) (s := t.sets.length) (by simpa using z1))
    go_enter Tryz.func22, Tryz.ntmps22
    go_wp2
    all_goals (
      go_ret
      refine ⟨ret_b ?_, ((Below.refl w.heap.size w).alloc (Nat.le_refl _) _).alloc (by simp) _⟩
      rw [E.out, Bool.eq_iff_iff]
      simp
      omega)
  · have E := Lib.hid (nodeB_2 (n := n) (i := i) (s := t.sets.length) (by simpa using z2))
    go_enter Tryz.func22, Tryz.ntmps22
    go_wp2
    all_goals (
      go_ret
      refine ⟨ret_b ?_, ((Below.refl w.heap.size w).alloc (Nat.le_refl _) _).alloc (by simp) _⟩
      rw [E.out, Bool.eq_iff_iff]
      simp
      omega)
  · have E := Lib.hid (nodeB_3 (n := n) (i := i) (s := t.sets.length) (.inl (by simpa using z3)))
    go_enter Tryz.func22, Tryz.ntmps22
    go_wp2
    all_goals (
      go_ret
      refine ⟨ret_b ?_, ((Below.refl w.heap.size w).alloc (Nat.le_refl _) _).alloc (by simp) _⟩
      rw [E.out, Bool.eq_iff_iff]
      simp
      omega)
  · have E := Lib.hid (nodeB_3 (n := n) (i := i) (s := t.sets.length) (.inr (by simpa using z4)))
    go_enter Tryz.func22, Tryz.ntmps22
    go_wp2
    all_goals (
      go_ret
      refine ⟨ret_b ?_, ((Below.refl w.heap.size w).alloc (Nat.le_refl _) _).alloc (by simp) _⟩
      rw [E.out, Bool.eq_iff_iff]
      simp
      omega)
  · have E := Lib.hid (nodeB_5 (n := n) (i := i) (s := t.sets.length) (by simpa using z5))
    have ct := Lib.hid (fun w => rtimes_any n.lo n.hi w)
    generalize timesB n.lo n.hi = b at *
    go_enter Tryz.func22, Tryz.ntmps22
    go_wp2_with (go_at_call 44; (with_reducible refine (ct.out _).mono ?_); rintro e w1 ⟨rfl, rfl⟩)
    all_goals (
      go_ret
      refine ⟨ret_b ?_, ((Below.refl w.heap.size w).alloc (Nat.le_refl _) _).alloc (by simp) _⟩
      rw [E.out]
      cases b
      all_goals (rw [Bool.eq_iff_iff]; simp)
      all_goals omega)
  · have E := Lib.hid (nodeB_0 (n := n) (i := i) (s := t.sets.length) (by simpa using z1) (by simpa using z2) (by simp at z3 z4; omega) (by simpa using z5))
    go_enter Tryz.func22, Tryz.ntmps22
    go_wp2
    all_goals (
      go_ret
      refine ⟨ret_b ?_, ((Below.refl w.heap.size w).alloc (Nat.le_refl _) _).alloc (by simp) _⟩
      exact E.out.symm)

end Go.Proofs.YtbkafoaoddajoaaGreatDoor.Ar

namespace Go.Proofs.YtbkafoaoddajoaaGreatDoor.Ar
open Go Go.RowKit Go.Shelf
open Go.Proofs.YtbkafoaoddajoaaGreatDoor.Rg (R RngsAt RowsAt nthL add_zero own_next rightB rright_all)

set_option maxRecDepth 100000 in
set_option maxHeartbeats 8000000 in
theorem rcheck_any (t : Tr) (v : Value) (w : World) (h : TreeAt w v t) (hl : ∀ k, k < t.sets.length → (nthL t.sets k).length ≤ 40000) :
    Calls Tryz.prog 8 #[v] w fun e w' => e = .returned (.int .i64 (checkE t)) ∧ Below w.heap.size w w' := by
  have HV := Lib.hid h
  obtain ⟨ao, cap, so, scap, rfl, hm, hm2, hn, hs⟩ := h.shape
  have HN := Lib.hid hn
  have HS := Lib.hid hs
  clear hn hs h
  have b1 := (Below.refl w.heap.size w).alloc (Nat.le_refl _) (.cells #[.slice ao t.ns.length cap, .slice so t.sets.length scap, .int .i64 t.root] 25)
  have B1 := Lib.hid b1
  have T0 := Lib.hid (TBox.new w (.slice ao t.ns.length cap) (.slice so t.sets.length scap) t.root)
  by_cases hbig : 4096 < t.ns.length ∨ 4096 < t.sets.length
  · rw [check_big hbig]
    have hh : (4096 : Int) < t.ns.length ∨ (¬ (4096 : Int) < t.ns.length ∧ (4096 : Int) < t.sets.length) := by omega
    clear hbig
    rcases hh with h1 | ⟨h1, h2⟩
    all_goals (
      go_enter Tryz.func8, Tryz.ntmps8
      go_wp2
      go_ret
      exact ⟨rfl, b1⟩)
  · have n1 : ¬ (4096 : Int) < t.ns.length := by omega
    have n2 : ¬ (4096 : Int) < t.sets.length := by omega
    have CE := Lib.hid (show checkE t = if okB t = true then 0 else 3 by unfold checkE; rw [if_neg hbig])
    have hOK : okB t = (rootB t && setsB t.sets t.sets.length && allB t.ns t.sets.length t.ns.length) := rfl
    have OK := Lib.hid hOK
    have HR := Lib.hid (show rootB t = (decide (0 ≤ t.root) && decide (t.root < t.ns.length)) from rfl)
    have HL := Lib.hid hl
    generalize checkE t = E at *
    generalize okB t = ok at *
    have hrel0 : ∃ r, rootB t = r := ⟨_, rfl⟩
    obtain ⟨r, hr⟩ := hrel0
    rw [hr] at HR
    have RT := Lib.hid hr
    clear hbig hOK hr hl
    have HW := Lib.hid (show Below (w.heap.size + 1) (w.alloc (.cells #[.slice ao t.ns.length cap, .slice so t.sets.length scap, .int .i64 t.root] 25)) (w.alloc (.cells #[.slice ao t.ns.length cap, .slice so t.sets.length scap, .int .i64 t.root] 25)) from Below.refl _ _)
    have HSZ : (w.alloc (.cells #[.slice ao t.ns.length cap, .slice so t.sets.length scap, .int .i64 t.root] 25)).heap.size = w.heap.size + 1 := by simp
    obtain ⟨f0, f1, f2⟩ := T0.out
    have hrr : (r = true ∧ (0 : Int) ≤ t.root ∧ t.root < (t.ns.length : Int)) ∨ (r = false ∧ ¬ (0 : Int) ≤ t.root) ∨ (r = false ∧ (0 : Int) ≤ t.root ∧ ¬ t.root < (t.ns.length : Int)) := by
      have := HR.out
      by_cases h1 : 0 ≤ t.root
      · by_cases h2 : t.root < t.ns.length
        · left; refine ⟨?_, h1, h2⟩; rw [this]; simp [h1, h2]
        · right; right; refine ⟨?_, h1, h2⟩; rw [this]; simp [h2]
      · right; left; refine ⟨?_, h1⟩; rw [this]; simp [h1]
    have AN := Lib.hid (fun W (h : TreeAt W (.agg #[.slice ao t.ns.length cap, .slice so t.sets.length scap, .int .i64 t.root]) t) k (hk : k < t.ns.length) => rnode_any t k hk _ W h)
    rcases hrr with ⟨rfl, h1, h2⟩ | ⟨rfl, h1⟩ | ⟨rfl, h1, h2⟩
    all_goals (
      go_enter Tryz.func8, Tryz.ntmps8
      go_wp2
      generalize w.alloc (.cells #[.slice ao t.ns.length cap, .slice so t.sets.length scap, .int .i64 t.root] 25) = W1 at *
      clear f0 f1 f2
      go_loopw [3, 4] (fun o i wr => ∃ k : Nat, i = .int .i64 k ∧ k ≤ t.sets.length ∧ (∃ b, o = .bool b ∧ b = (rootB t && setsB t.sets k)) ∧ Below (w.heap.size + 1) W1 wr) (fun _ i _ => t.sets.length - (intOf i).toNat)
      case atStart => exact ⟨0, rfl, Nat.zero_le _, ⟨_, rfl, by rw [RT.out]; rfl⟩, HW.out⟩
      case round =>
        obtain ⟨k, rfl, hk, ⟨b, rfl, hb⟩, hbw⟩ := hrel
        obtain ⟨q0, q1, q2⟩ := T0.out.next (hbw.mono (by omega))
        have hsz := hbw.size
        have HBW := Lib.hid hbw
        clear hbw
        by_cases hlt : k < t.sets.length
        · obtain ⟨gs, x, rfl, x1, x2⟩ := HS.out k hlt
          have hB := B1.out.trans (HBW.out.mono (by omega))
          have y1 := cell_next x1 hB
          have HR := Lib.hid (rright_all (nthL t.sets k) x wr (x2.next hB) (HL.out k hlt))
          have hss : (rootB t && setsB t.sets (k + 1)) = (b && rightB (nthL t.sets k)) := by rw [setsB_succ hlt, hb, Bool.and_assoc]; rfl
          have HSS := Lib.hid hss
          clear hss hb x1 x2 hB
          generalize rightB (nthL t.sets k) = c at *
          cases b
          all_goals (
            go_wp2_with (go_at_call 21; (with_reducible refine HR.out.mono ?_); rintro e w2 ⟨rfl, hb2⟩; go_must (have B2 := Lib.hid (HBW.out.trans (hb2.mono (by omega))); clear hb2))
            go_roundw
            case rel => first | exact ⟨k + 1, by go_num, by omega, ⟨_, rfl, by rw [HSS.out]; simp⟩, B2.out⟩ | exact ⟨k + 1, by go_num, by omega, ⟨_, rfl, by rw [HSS.out]; simp⟩, HBW.out⟩
            case measure => simp [intOf]; omega)
        · obtain rfl : k = t.sets.length := by omega
          have HB0 := Lib.hid hb
          clear hb
          go_wp2
          go_loopw [3, 5] (fun o i wr => ∃ k : Nat, i = .int .i64 k ∧ k ≤ t.ns.length ∧ (∃ c, o = .bool c ∧ c = (b && allB t.ns t.sets.length k)) ∧ Below (w.heap.size + 1) W1 wr) (fun _ i _ => t.ns.length - (intOf i).toNat)
          case atStart => exact ⟨0, rfl, Nat.zero_le _, ⟨_, rfl, by cases b <;> rfl⟩, HBW.out⟩
          case round =>
            clear q0 q1 q2 hsz
            obtain ⟨k, rfl, hk, ⟨c, rfl, hc⟩, hbw⟩ := hrel
            obtain ⟨q0, q1, q2⟩ := T0.out.next (hbw.mono (by omega))
            have hsz := hbw.size
            have HBW2 := Lib.hid hbw
            clear hbw
            by_cases hlt : k < t.ns.length
            · have hB := B1.out.trans (HBW2.out.mono (by omega))
              have HM := Lib.hid (AN.out wr (HV.out.next hB) k hlt)
              have hss : (b && allB t.ns t.sets.length (k + 1)) = (c && nodeB (nd t.ns k) k t.sets.length) := by rw [allB_succ, hc, Bool.and_assoc]
              have HSS := Lib.hid hss
              clear hss hc hB
              generalize nodeB (nd t.ns k) k t.sets.length = d at *
              cases c
              all_goals (
                go_wp2_with (go_at_call 22; (with_reducible refine HM.out.mono ?_); rintro e w2 ⟨rfl, hb2⟩; go_must (have B2 := Lib.hid (HBW2.out.trans (hb2.mono (by omega))); clear hb2))
                go_roundw
                case rel => first | exact ⟨k + 1, by go_num, by omega, ⟨_, rfl, by rw [HSS.out]; simp⟩, B2.out⟩ | exact ⟨k + 1, by go_num, by omega, ⟨_, rfl, by rw [HSS.out]; simp⟩, HBW2.out⟩
                case measure => simp [intOf]; omega)
            · obtain rfl : k = t.ns.length := by omega
              have hok : ok = c := by rw [OK.out, hc, HB0.out]
              have HOK := Lib.hid hok
              clear hok hc
              cases c
              all_goals (
                go_wp2
                go_ret
                exact ⟨ret_e (by rw [CE.out, HOK.out]; rfl), B1.out.trans (HBW2.out.mono (by omega))⟩))

end Go.Proofs.YtbkafoaoddajoaaGreatDoor.Ar

namespace Go.Proofs.YtbkafoaoddajoaaGreatDoor.Ar
open Go Go.RowKit Go.Shelf
open Go.Proofs.YtbkafoaoddajoaaGreatDoor.Rg (R RngsAt RowsAt nthL add_zero own_next)

set_option maxRecDepth 100000 in
set_option maxHeartbeats 4000000 in
theorem rsize_any (t : Tr) (ht : Ok t) (hb : Bnd gZ t.ns) : ∀ (i : Nat), i < t.ns.length → ∀ (v : Value) (w : World), TreeAt w v t →
    Calls Tryz.prog 32 #[v, .int .i64 i] w fun e w' => e = .returned (.int .i64 (reck gZ t.ns i)) ∧ Below w.heap.size w w' := by
  intro i
  induction i using Nat.strongRecOn with
  | ind i ih =>
    intro hi v w hv
    have HV := Lib.hid hv
    have IH := Lib.hid ih
    have HBD := Lib.hid hb
    obtain ⟨ao, cap, so, scap, rfl, hm, hm2, hn, _⟩ := hv.shape
    obtain ⟨g, rfl, hN⟩ := hn i hi
    obtain ⟨c0, c1, c2, c3, c4, c5⟩ := hN
    have hlt := cell_lt c0
    have hw := nodeB_ways (ht.node i hi)
    have h2 := Lib.hid (fun h ha hb => reck_two (g := gZ) (l := t.ns) (i := i) h ha hb)
    have h1 := Lib.hid (fun h ha => reck_one (g := gZ) (l := t.ns) (i := i) h ha)
    have h0 := Lib.hid (fun h ha => reck_none (g := gZ) (l := t.ns) (i := i) h ha)
    clear hn hv ih hb ht
    generalize nd t.ns i = n at *
    by_cases ho : n.op = 3 ∨ n.op = 4
    · have hx : 0 ≤ n.a ∧ n.a < i ∧ 0 ≤ n.b ∧ n.b < i := by omega
      obtain ⟨ha0, ha1, hb0, hb1⟩ := hx
      obtain ⟨a, ha⟩ := Int.eq_ofNat_of_zero_le ha0
      obtain ⟨b, hb⟩ := Int.eq_ofNat_of_zero_le hb0
      have hai : a < i := by omega
      have hbi : b < i := by omega
      have e2 := h2.out ho (by omega) (by omega)
      rw [ha, hb] at e2
      have B1 := HBD.out a (by omega)
      have B2 := HBD.out b (by omega)
      simp only [Int.toNat_natCast] at e2
      rw [gZ_two] at e2
      rw [ha] at c1
      rw [hb] at c2
      have E2 := Lib.hid e2
      have ca := Lib.hid (fun v W (h : TreeAt W v t) => IH.out a hai (by omega) v W h)
      have cb := Lib.hid (fun v W (h : TreeAt W v t) => IH.out b hbi (by omega) v W h)
      have hop : (n.op == 3) = true ∨ ((n.op == 3) = false ∧ (n.op == 4) = true) := by
        rcases ho with h | h
        · exact .inl (by simpa using h)
        · exact .inr ⟨by simp; omega, by simpa using h⟩
      clear hw ha hb ha0 ha1 hb0 hb1 e2 h2 h1 h0 IH HBD ho
      generalize reck gZ t.ns i = r at *
      generalize reck gZ t.ns a = ra at *
      generalize reck gZ t.ns b = rb at *
      rcases hop with hop | ⟨hop, hop2⟩
      all_goals (
        go_enter Tryz.func32, Tryz.ntmps32
        go_wp2
        have r0 : Below w.heap.size w ((w.alloc (.cells #[.slice (some g) t.ns.length cap, .slice so t.sets.length scap, .int .i64 t.root] 25)).alloc (.cells #[.int .i64 n.op, .int .i64 a, .int .i64 b, .int .i64 n.lo, .int .i64 n.hi, .int .i64 n.set] 35)) := ((Below.refl w.heap.size w).alloc (Nat.le_refl _) _).alloc (by simp) _
        have f0 : ((w.alloc (.cells #[.slice (some g) t.ns.length cap, .slice so t.sets.length scap, .int .i64 t.root] 25)).alloc (.cells #[.int .i64 n.op, .int .i64 a, .int .i64 b, .int .i64 n.lo, .int .i64 n.hi, .int .i64 n.set] 35)).cell? ⟨w.heap.size, 0, none⟩ = some (.slice (some g) t.ns.length cap) := by simp
        have f1 : ((w.alloc (.cells #[.slice (some g) t.ns.length cap, .slice so t.sets.length scap, .int .i64 t.root] 25)).alloc (.cells #[.int .i64 n.op, .int .i64 a, .int .i64 b, .int .i64 n.lo, .int .i64 n.hi, .int .i64 n.set] 35)).cell? ⟨w.heap.size, 1, none⟩ = some (.slice so t.sets.length scap) := by simp
        have f2 : ((w.alloc (.cells #[.slice (some g) t.ns.length cap, .slice so t.sets.length scap, .int .i64 t.root] 25)).alloc (.cells #[.int .i64 n.op, .int .i64 a, .int .i64 b, .int .i64 n.lo, .int .i64 n.hi, .int .i64 n.set] 35)).cell? ⟨w.heap.size, 2, none⟩ = some (.int .i64 t.root) := by simp
        have f3 : ((w.alloc (.cells #[.slice (some g) t.ns.length cap, .slice so t.sets.length scap, .int .i64 t.root] 25)).alloc (.cells #[.int .i64 n.op, .int .i64 a, .int .i64 b, .int .i64 n.lo, .int .i64 n.hi, .int .i64 n.set] 35)).cell? ⟨w.heap.size + 1, 1, none⟩ = some (.int .i64 (a : Int)) := by simp
        have f4 : ((w.alloc (.cells #[.slice (some g) t.ns.length cap, .slice so t.sets.length scap, .int .i64 t.root] 25)).alloc (.cells #[.int .i64 n.op, .int .i64 a, .int .i64 b, .int .i64 n.lo, .int .i64 n.hi, .int .i64 n.set] 35)).cell? ⟨w.heap.size + 1, 2, none⟩ = some (.int .i64 (b : Int)) := by simp
        generalize ((w.alloc (.cells #[.slice (some g) t.ns.length cap, .slice so t.sets.length scap, .int .i64 t.root] 25)).alloc (.cells #[.int .i64 n.op, .int .i64 a, .int .i64 b, .int .i64 n.lo, .int .i64 n.hi, .int .i64 n.set] 35)) = W at *
        replace f0 : W.drew.cell? _ = _ := f0
        replace f1 : W.drew.cell? _ = _ := f1
        replace f2 : W.drew.cell? _ = _ := f2
        replace f3 : W.drew.cell? _ = _ := f3
        replace f4 : W.drew.cell? _ = _ := f4
        replace r0 := r0.drew
        go_region_held3 (fun W => W.cell? ⟨w.heap.size, 0, none⟩ = some (.slice (some g) t.ns.length cap) ∧ W.cell? ⟨w.heap.size, 1, none⟩ = some (.slice so t.sets.length scap) ∧ W.cell? ⟨w.heap.size, 2, none⟩ = some (.int .i64 t.root) ∧ W.cell? ⟨w.heap.size + 1, 1, none⟩ = some (.int .i64 (a : Int)) ∧ W.cell? ⟨w.heap.size + 1, 2, none⟩ = some (.int .i64 (b : Int)) ∧ Below w.heap.size w W) (first | exact ⟨by assumption, by assumption, by assumption, by assumption, by assumption, by assumption⟩ | go_keep)
          (first
            | (go_at_call 32; (first | (with_reducible refine (ca.out _ _ (HV.out.next (by assumption))).mono ?_) | (with_reducible refine (cb.out _ _ (HV.out.next (by assumption))).mono ?_)); rintro e w1 ⟨rfl, hb1⟩; go_must (have q1 := cell_next (a := ⟨w.heap.size, 0, none⟩) (v := .slice (some g) t.ns.length cap) (by assumption) hb1; have q2 := cell_next (a := ⟨w.heap.size, 1, none⟩) (v := .slice so t.sets.length scap) (by assumption) hb1; have q3 := cell_next (a := ⟨w.heap.size, 2, none⟩) (v := .int .i64 t.root) (by assumption) hb1; have q4 := cell_next (a := ⟨w.heap.size + 1, 1, none⟩) (v := .int .i64 (a : Int)) (by assumption) hb1; have q5 := cell_next (a := ⟨w.heap.size + 1, 2, none⟩) (v := .int .i64 (b : Int)) (by assumption) hb1; have B6 := Below.trans (show Below w.heap.size w _ by assumption) (hb1.mono (Below.size (show Below w.heap.size w _ by assumption)))))
            | fail)
        all_goals (
          go_wp2
          go_ret
          exact ⟨ret_int (by rw [E2.out]; simp only [IntKind.wrap_i64]; omega), by assumption⟩))
    · by_cases h5 : n.op = 5
      · have hx : 0 ≤ n.a ∧ n.a < i := by omega
        obtain ⟨ha0, ha1⟩ := hx
        obtain ⟨a, ha⟩ := Int.eq_ofNat_of_zero_le ha0
        have hai : a < i := by omega
        have e2 := h1.out h5 (by omega)
        rw [ha] at e2
        have B1 := HBD.out a (by omega)
        simp only [Int.toNat_natCast] at e2
        rw [gZ_one] at e2
        rw [ha] at c1
        have E2 := Lib.hid e2
        have ca := Lib.hid (fun v W (h : TreeAt W v t) => IH.out a hai (by omega) v W h)
        have o3 : (n.op == 3) = false := by simp; omega
        have o4 : (n.op == 4) = false := by simp; omega
        have o5 : (n.op == 5) = true := by simpa using h5
        clear hw ha ha0 ha1 e2 h2 h1 h0 IH HBD ho h5
        generalize reck gZ t.ns i = r at *
        generalize reck gZ t.ns a = ra at *
        go_enter Tryz.func32, Tryz.ntmps32
        go_wp2_with (first
          | (go_at_call 32; (with_reducible refine (ca.out _ _ (HV.out.next (((Below.refl w.heap.size w).alloc (Nat.le_refl _) _).alloc (by simp) _))).mono ?_); rintro e w1 ⟨rfl, hb1⟩; go_must (have H1 := Lib.hid ((((Below.refl w.heap.size w).alloc (Nat.le_refl _) _).alloc (by simp) _).trans (hb1.mono (by simp; omega))); clear hb1))
          | fail)
        go_ret
        exact ⟨ret_int (by rw [E2.out]), H1.out⟩
      · have e2 := h0.out ho h5
        rw [gZ_none] at e2
        have E2 := Lib.hid e2
        have o3 : (n.op == 3) = false := by simp; omega
        have o4 : (n.op == 4) = false := by simp; omega
        have o5 : (n.op == 5) = false := by simpa using h5
        clear hw e2 h2 h1 h0 IH HBD ho h5
        generalize reck gZ t.ns i = r at *
        go_enter Tryz.func32, Tryz.ntmps32
        go_wp2
        go_ret
        exact ⟨ret_int E2.out.symm, ((Below.refl w.heap.size w).alloc (Nat.le_refl _) _).alloc (by simp) _⟩

end Go.Proofs.YtbkafoaoddajoaaGreatDoor.Ar

namespace Go.Proofs.YtbkafoaoddajoaaGreatDoor.Rp
open Go Go.RowKit Go.Shelf
open Go.Proofs.YtbkafoaoddajoaaGreatDoor.Ar (Nd nd Tr Ok TreeAt TBox checkE check_ok Near far_b farB_no farB_yes rcheck_any rsize_any bnd_gZ reck gZ)
open Go.Proofs.YtbkafoaoddajoaaGreatDoor.Rg (nthL)

/-- is a tree too much -/
structure f10 (t : Tr) (b : Bool) : Prop where
  far : ¬ Near t → b = true
  bad : Near t → checkE t ≠ 0 → b = false
  ok : Near t → checkE t = 0 → b = decide (200 < reck gZ t.ns t.root.toNat)

set_option maxRecDepth 100000 in
set_option maxHeartbeats 4000000 in
theorem far10_any (t : Tr) (v : Value) (w : World) (hv : TreeAt w v t) : Calls Tryz.prog 15 #[v] w fun e w' => ∃ b, e = .returned (.bool b) ∧ f10 t b ∧ Below w.heap.size w w' := by
  have HV := Lib.hid hv
  obtain ⟨ao, cap, so, scap, rfl, _, _, _, _⟩ := hv.shape
  have B0 := Lib.hid ((Below.refl w.heap.size w).alloc (Nat.le_refl _) (.cells #[.slice ao t.ns.length cap, .slice so t.sets.length scap, .int .i64 t.root] 25))
  have CF := Lib.hid (fun W (hb : Below w.heap.size w W) => far_b t _ W (HV.out.next hb))
  have T0 := Lib.hid (TBox.new w (.slice ao t.ns.length cap) (.slice so t.sets.length scap) t.root)
  clear hv
  by_cases hn : Near t
  · rw [farB_no hn] at CF
    have CC := Lib.hid (fun W (hb : Below w.heap.size w W) => rcheck_any t _ W (HV.out.next hb) (fun k hk => by have := hn.each k hk; omega))
    by_cases hc : checkE t = 0
    · have hr0 := (check_ok hc).1.root0
      have hr1 := (check_ok hc).1.root1
      obtain ⟨q, hq⟩ := Int.eq_ofNat_of_zero_le hr0
      have hqn : q < t.ns.length := by omega
      have CZ := Lib.hid (fun W (hb : Below w.heap.size w W) => rsize_any t (check_ok hc).1 (bnd_gZ (check_ok hc).1 hn) q hqn _ W (HV.out.next hb))
      have HF := Lib.hid (fun b (h : b = decide (200 < reck gZ t.ns q)) => show f10 t b from ⟨fun h' => absurd hn h', fun _ h' => absurd hc h', fun _ _ => by rw [h, hq, Int.toNat_natCast]⟩)
      rw [hc] at CC
      rw [hq] at CZ CF CC T0 B0 ⊢
      generalize reck gZ t.ns q = z at *
      clear hc hr0 hr1 hq hn HV
      by_cases h200 : 200 < z
      all_goals (
        go_enter Tryz.func15, Tryz.ntmps15
        go_wp2_with (first
          | (go_at_call 31; (with_reducible refine (CF.out _ B0.out).mono ?_); rintro e w1 ⟨rfl, hb⟩; go_must (obtain ⟨a0, a1, a2⟩ := T0.out.next hb; have B1 := Lib.hid (B0.out.trans (hb.mono B0.out.size)); clear hb))
          | (go_at_call 8; (with_reducible refine (CC.out _ B1.out).mono ?_); rintro e w2 ⟨rfl, hb⟩; go_must (have b0 := cell_next a0 hb; have b1 := cell_next a1 hb; have b2 := cell_next a2 hb; have B2 := Lib.hid (B1.out.trans (hb.mono B1.out.size)); clear hb a0 a1 a2))
          | (go_at_call 32; (with_reducible refine (CZ.out _ B2.out).mono ?_); rintro e w3 ⟨rfl, hb⟩; go_must (have B3 := Lib.hid (B2.out.trans (hb.mono B2.out.size)); clear hb))
          | fail)
        go_ret
        exact ⟨_, rfl, HF.out _ (by simp; try omega), B3.out⟩)
    · have HF := Lib.hid (show f10 t false from ⟨fun h' => absurd hn h', fun _ _ => rfl, fun _ h' => absurd h' hc⟩)
      have hne : (checkE t == 0) = false := by simpa using hc
      generalize checkE t = E at *
      clear hc hn HV
      go_enter Tryz.func15, Tryz.ntmps15
      go_wp2_with (first
        | (go_at_call 31; (with_reducible refine (CF.out _ B0.out).mono ?_); rintro e w1 ⟨rfl, hb⟩; go_must (obtain ⟨a0, a1, a2⟩ := T0.out.next hb; have B1 := Lib.hid (B0.out.trans (hb.mono B0.out.size)); clear hb))
        | (go_at_call 8; (with_reducible refine (CC.out _ B1.out).mono ?_); rintro e w2 ⟨rfl, hb⟩; go_must (have b0 := cell_next a0 hb; have b1 := cell_next a1 hb; have b2 := cell_next a2 hb; have B2 := Lib.hid (B1.out.trans (hb.mono B1.out.size)); clear hb a0 a1 a2))
        | fail)
      go_ret
      exact ⟨_, rfl, HF.out, B2.out⟩
  · rw [farB_yes hn] at CF
    have HF := Lib.hid (show f10 t true from ⟨fun _ => rfl, fun h' => absurd h' hn, fun h' => absurd h' hn⟩)
    clear hn HV
    go_enter Tryz.func15, Tryz.ntmps15
    go_wp2_with (first
      | (go_at_call 31; (with_reducible refine (CF.out _ B0.out).mono ?_); rintro e w1 ⟨rfl, hb⟩; go_must (have B1 := Lib.hid (B0.out.trans (hb.mono B0.out.size)); clear hb))
      | fail)
    go_ret
    exact ⟨_, rfl, HF.out, B1.out⟩

end Go.Proofs.YtbkafoaoddajoaaGreatDoor.Rp

namespace Go.Proofs.YtbkafoaoddajoaaGreatDoor.Dv
open Go Go.RowKit Go.Shelf Go.Maps
open Go.Proofs.YtbkafoaoddajoaaGreatDoor.Ar (Nd nd nodeB Tr Ok TreeAt TBox Near checkE check_ok check_any rcheck_any)
open Go.Proofs.YtbkafoaoddajoaaGreatDoor.Rg (R RngsAt RowsAt nthL add_zero own_next)
open Go.Proofs.YtbkafoaoddajoaaGreatDoor.Ut (allL validL valid_any Tabs tabs_next rall_any rvalid_any)
open Go.Proofs.YtbkafoaoddajoaaGreatDoor.Rp (exT ex_ok ex_check SomeOut some_any f10 far10_any)

theorem ex_yes : matchesF exT [98, 99, 98, 99] = (true, 0) := by
  unfold matchesF
  rw [if_pos ex_check, if_pos (by decide +kernel)]
  decide +kernel
theorem ex_no : matchesF exT [97, 98] = (false, 0) := by
  unfold matchesF
  rw [if_pos ex_check, if_pos (by decide +kernel)]
  decide +kernel
theorem ex_null : nullF exT = true := by
  unfold nullF
  rw [if_pos ex_check]
  decide +kernel
/-- the empty row -/
theorem null_row {t : Tr} (hc : checkE t = 0) : nullF t = rowB t [] := by
  obtain ⟨ht, hN, _⟩ := check_ok hc
  obtain ⟨g, hf, hl, hd⟩ := mkF_out ht hN
  unfold nullF
  rw [if_pos hc, Bool.eq_iff_iff, rowB_iff, g.bare _ hl, hd]
/-- what is told of a text is right, or it is told that too many parts came -/
theorem match_has {t : Tr} (hc : checkE t = 0) (s : List UInt8) : ((matchesF t s).2 = 0 ∧ (matchesF t s).1 = hasB' t s) ∨ ((matchesF t s).2 = 6 ∧ (matchesF t s).1 = false ∧ s ≠ []) := by
  obtain ⟨ht, hN, _⟩ := check_ok hc
  unfold matchesF hasB'
  rw [if_pos hc]
  by_cases hv : validL s = true
  · rw [if_pos hv, hv, Bool.true_and]
    rcases matchF_right ht hN (allL s) with ⟨h1, h2⟩ | ⟨h1, h2, h3⟩
    · exact .inl ⟨h1, by rw [Bool.eq_iff_iff, rowB_iff]; exact h2⟩
    · exact .inr ⟨h1, h2, fun e => h3 (by rw [e]; exact Ut.allL_nil)⟩
  · rw [if_neg hv]
    rw [Bool.not_eq_true] at hv
    exact .inl ⟨rfl, by rw [hv]; rfl⟩

section
variable {w : World}
set_option maxRecDepth 100000 in
set_option maxHeartbeats 4000000 in
theorem alive_any (w : World) (hU : Tabs w) : Calls Tryz.prog 6 #[] w fun e w' => e = .returned (.bool true) ∧ Below w.heap.size w w' := by
  have CS := Lib.hid some_any
  unfold SomeOut at CS
  have CM1 := Lib.hid (fun v W (hW : Below w.heap.size w W) (h : TreeAt W v exT) => matches_any (s := ⟨#[98, 99, 98, 99]⟩) h (tabs_next hU hW) (by unfold maxLen; decide))
  have CM2 := Lib.hid (fun v W (hW : Below w.heap.size w W) (h : TreeAt W v exT) => matches_any (s := ⟨#[97, 98]⟩) h (tabs_next hU hW) (by unfold maxLen; decide))
  have CN := Lib.hid (fun v W (h : TreeAt W v exT) => nullable_any h)
  rw [show (ByteArray.mk #[98, 99, 98, 99]).data.toList = [98, 99, 98, 99] from rfl, ex_yes] at CM1
  rw [show (ByteArray.mk #[97, 98]).data.toList = [97, 98] from rfl, ex_no] at CM2
  rw [ex_null] at CN
  clear hU
  go_enter Tryz.func6, Tryz.ntmps6
  go_wp2_with (first
    | (go_at_call 16; (with_reducible refine (CS.out _).mono ?_); rintro e w1 ⟨v, rfl, ht, hb⟩; go_must ((first | (have B5 := Lib.hid (B4.out.trans (hb.mono B4.out.size)); have T5 := Lib.hid ht) | (have B3 := Lib.hid (B2.out.trans (hb.mono B2.out.size)); have T3 := Lib.hid ht) | (have B1 := Lib.hid hb; have T1 := Lib.hid ht)); clear ht hb))
    | (go_at_call 7; (with_reducible refine (CM1.out _ _ B1.out T1.out).mono ?_); rintro e w2 ⟨rfl, hb⟩; go_must (have B2 := Lib.hid (B1.out.trans (hb.mono B1.out.size)); clear hb))
    | (go_at_call 7; (with_reducible refine (CM2.out _ _ B3.out T3.out).mono ?_); rintro e w4 ⟨rfl, hb⟩; go_must (have B4 := Lib.hid (B3.out.trans (hb.mono B3.out.size)); clear hb))
    | (go_at_call 9; (with_reducible refine (CN.out _ _ T5.out).mono ?_); rintro e w6 ⟨rfl, hb⟩; go_must (have B6 := Lib.hid (B5.out.trans (hb.mono B5.out.size)); clear hb))
    | fail)
  go_ret
  exact ⟨rfl, B6.out⟩

open Classical in
noncomputable def f10v (t : Tr) : Bool := if Near t then if checkE t = 0 then decide (200 < Ar.reck Ar.gZ t.ns t.root.toNat) else false else true
theorem f10v_of {t : Tr} {b : Bool} (h : f10 t b) : b = f10v t := by
  unfold f10v
  by_cases hn : Near t
  · rw [if_pos hn]
    by_cases hc : checkE t = 0
    · rw [if_pos hc, h.ok hn hc]
    · rw [if_neg hc, h.bad hn hc]
  · rw [if_neg hn, h.far hn]
noncomputable def lightB (t : Tr) (n : Nat) : Bool := !f10v t && decide ((t.ns.length : Int) ≤ 30) && decide ((n : Int) ≤ 16)
theorem light_yes {t : Tr} {n : Nat} (h : lightB t n = true) : Near t ∧ t.ns.length ≤ 30 ∧ n ≤ 16 := by
  unfold lightB at h
  simp only [Bool.and_eq_true, decide_eq_true_eq, Bool.not_eq_true'] at h
  refine ⟨Classical.byContradiction fun hn => ?_, by omega, by omega⟩
  have h1 := h.1.1
  unfold f10v at h1
  rw [if_neg hn] at h1
  cases h1
set_option maxRecDepth 100000 in
set_option maxHeartbeats 4000000 in
theorem light_any (t : Tr) (s : ByteArray) (v : Value) (w : World) (hv : TreeAt w v t) : Calls Tryz.prog 5 #[v, .string s] w fun e w' => e = .returned (.bool (lightB t s.size)) ∧ Below w.heap.size w w' := by
  have HV := Lib.hid hv
  obtain ⟨ao, cap, so, scap, rfl, _, _, _, _⟩ := hv.shape
  have b1 := (Below.refl w.heap.size w).alloc (Nat.le_refl _) (.cells #[.slice ao t.ns.length cap, .slice so t.sets.length scap, .int .i64 t.root] 25)
  have B0 := Lib.hid b1
  have T0 := Lib.hid (TBox.new w (.slice ao t.ns.length cap) (.slice so t.sets.length scap) t.root)
  have cf : Calls Tryz.prog 15 #[.agg #[.slice ao t.ns.length cap, .slice so t.sets.length scap, .int .i64 t.root]] (w.alloc (.cells #[.slice ao t.ns.length cap, .slice so t.sets.length scap, .int .i64 t.root] 25)) fun e w' => e = .returned (.bool (f10v t)) ∧ Below (w.alloc (.cells #[.slice ao t.ns.length cap, .slice so t.sets.length scap, .int .i64 t.root] 25)).heap.size (w.alloc (.cells #[.slice ao t.ns.length cap, .slice so t.sets.length scap, .int .i64 t.root] 25)) w' := by
    refine (far10_any t _ _ (hv.next b1)).mono ?_
    rintro e w' ⟨b, rfl, hf, hb⟩
    exact ⟨by rw [f10v_of hf], hb⟩
  have CF := Lib.hid cf
  have hsl := Lib.hid (Lib.size_eq s)
  clear hv b1 cf
  have hL : lightB t s.size = (!f10v t && decide ((t.ns.length : Int) ≤ 30) && decide ((s.size : Int) ≤ 16)) := rfl
  rw [hL]
  clear hL
  generalize f10v t = b at *
  by_cases n1 : (t.ns.length : Int) ≤ 30
  · by_cases n2 : (s.size : Int) ≤ 16
    · rw [decide_eq_true n1, decide_eq_true n2]
      cases b
      all_goals (
        go_enter Tryz.func5, Tryz.ntmps5
        go_wp2_with (first
          | (go_at_call 15; (with_reducible refine CF.out.mono ?_); rintro e w1 ⟨rfl, hb⟩; go_must (obtain ⟨a0, a1, a2⟩ := T0.out.next hb; have B1 := Lib.hid (B0.out.trans (hb.mono B0.out.size)); clear hb))
          | fail)
        go_ret
        exact ⟨rfl, B1.out⟩)
    · rw [decide_eq_true n1, decide_eq_false n2]
      have n3 : decide ((s.size : Int) ≤ 16) = false := decide_eq_false n2
      cases b
      all_goals (
        go_enter Tryz.func5, Tryz.ntmps5
        go_wp2_with (first
          | (go_at_call 15; (with_reducible refine CF.out.mono ?_); rintro e w1 ⟨rfl, hb⟩; go_must (obtain ⟨a0, a1, a2⟩ := T0.out.next hb; have B1 := Lib.hid (B0.out.trans (hb.mono B0.out.size)); clear hb))
          | fail)
        go_ret
        exact ⟨rfl, B1.out⟩)
  · rw [decide_eq_false n1]
    have n3 : decide ((t.ns.length : Int) ≤ 30) = false := decide_eq_false n1
    cases b
    all_goals (
      go_enter Tryz.func5, Tryz.ntmps5
      go_wp2_with (first
        | (go_at_call 15; (with_reducible refine CF.out.mono ?_); rintro e w1 ⟨rfl, hb⟩; go_must (obtain ⟨a0, a1, a2⟩ := T0.out.next hb; have B1 := Lib.hid (B0.out.trans (hb.mono B0.out.size)); clear hb))
        | fail)
      go_ret
      exact ⟨rfl, B1.out⟩)

set_option maxRecDepth 100000 in
set_option maxHeartbeats 4000000 in
theorem law_dark (t : Tr) (s : ByteArray) (v : Value) (w : World) (hv : TreeAt w v t) (hU : Tabs w) (F : ∀ (v : Value) (w : World), TreeAt w v t → Calls Tryz.prog 5 #[v, .string s] w fun e w' => e = .returned (.bool false) ∧ Below w.heap.size w w') :
    Calls Tryz.prog 3 #[v, .string s] w fun e w' => e = .returned (.bool true) ∧ Below w.heap.size w w' := by
  have HV := Lib.hid hv
  obtain ⟨ao, cap, so, scap, rfl, _, _, _, _⟩ := hv.shape
  have B0 := Lib.hid ((Below.refl w.heap.size w).alloc (Nat.le_refl _) (.cells #[.slice ao t.ns.length cap, .slice so t.sets.length scap, .int .i64 t.root] 25))
  have T0 := Lib.hid (TBox.new w (.slice ao t.ns.length cap) (.slice so t.sets.length scap) t.root)
  have CA := Lib.hid (fun W (hb : Below w.heap.size w W) => alive_any W (tabs_next hU hb))
  have CF := Lib.hid (fun W (hb : Below w.heap.size w W) => F _ W (HV.out.next hb))
  clear hv hU HV F
  go_enter Tryz.func3, Tryz.ntmps3
  go_wp2_with (first
    | (go_at_call 5; (with_reducible refine (CF.out _ B0.out).mono ?_); rintro e w1 ⟨rfl, hb⟩; go_must (have B1 := Lib.hid (B0.out.trans (hb.mono B0.out.size)); clear hb))
    | (go_at_call 6; (with_reducible refine (CA.out _ B1.out).mono ?_); rintro e w9 ⟨rfl, hb⟩; go_must (have B9 := Lib.hid (B1.out.trans (hb.mono B1.out.size)); clear hb))
    | fail)
  go_ret
  exact ⟨rfl, B9.out⟩

set_option maxRecDepth 100000 in
set_option maxHeartbeats 8000000 in
theorem law_bad (t : Tr) (s : ByteArray) (v : Value) (w : World) (hv : TreeAt w v t) (hU : Tabs w) (hn : Near t) (hs : s.size ≤ 16) (hc : checkE t ≠ 0) (F : ∀ (v : Value) (w : World), TreeAt w v t → Calls Tryz.prog 5 #[v, .string s] w fun e w' => e = .returned (.bool true) ∧ Below w.heap.size w w') :
    Calls Tryz.prog 3 #[v, .string s] w fun e w' => e = .returned (.bool true) ∧ Below w.heap.size w w' := by
  have HV := Lib.hid hv
  obtain ⟨ao, cap, so, scap, rfl, _, _, _, _⟩ := hv.shape
  have B0 := Lib.hid ((Below.refl w.heap.size w).alloc (Nat.le_refl _) (.cells #[.slice ao t.ns.length cap, .slice so t.sets.length scap, .int .i64 t.root] 25))
  have T0 := Lib.hid (TBox.new w (.slice ao t.ns.length cap) (.slice so t.sets.length scap) t.root)
  have CA := Lib.hid (fun W (hb : Below w.heap.size w W) => alive_any W (tabs_next hU hb))
  have CF := Lib.hid (fun W (hb : Below w.heap.size w W) => F _ W (HV.out.next hb))
  have CM := Lib.hid (fun W (hb : Below w.heap.size w W) => matches_any (HV.out.next hb) (tabs_next hU hb) (s := s) (by unfold maxLen; omega))
  have CN := Lib.hid (fun W (hb : Below w.heap.size w W) => nullable_any (HV.out.next hb))
  have CC := Lib.hid (fun W (hb : Below w.heap.size w W) => rcheck_any t _ W (HV.out.next hb) (fun k hk => by have := hn.each k hk; omega))
  rw [show matchesF t s.data.toList = (false, checkE t) by unfold matchesF; rw [if_neg hc]] at CM
  rw [show nullF t = false by unfold nullF; rw [if_neg hc]] at CN
  have hne : (checkE t == 0) = false := by simpa using hc
  generalize checkE t = E at *
  clear hv hU HV F hc hn
  go_enter Tryz.func3, Tryz.ntmps3
  go_wp2_with (first
    | (go_at_call 5; (with_reducible refine (CF.out _ B0.out).mono ?_); rintro e w1 ⟨rfl, hb⟩; go_must (obtain ⟨a0, a1, a2⟩ := T0.out.next hb; have B1 := Lib.hid (B0.out.trans (hb.mono B0.out.size)); clear hb))
    | (go_at_call 7; (with_reducible refine (CM.out _ B1.out).mono ?_); rintro e w2 ⟨rfl, hb⟩; go_must (have b0 := cell_next a0 hb; have b1 := cell_next a1 hb; have b2 := cell_next a2 hb; have B2 := Lib.hid (B1.out.trans (hb.mono B1.out.size)); clear hb a0 a1 a2))
    | (go_at_call 8; (with_reducible refine (CC.out _ B2.out).mono ?_); rintro e w3 ⟨rfl, hb⟩; go_must (have c0 := cell_next b0 hb; have c1 := cell_next b1 hb; have c2 := cell_next b2 hb; have B3 := Lib.hid (B2.out.trans (hb.mono B2.out.size)); clear hb b0 b1 b2))
    | (go_at_call 9; (with_reducible refine (CN.out _ B3.out).mono ?_); rintro e w4 ⟨rfl, hb⟩; go_must (have d0 := cell_next c0 hb; have d1 := cell_next c1 hb; have d2 := cell_next c2 hb; have B4 := Lib.hid (B3.out.trans (hb.mono B3.out.size)); clear hb c0 c1 c2))
    | (go_at_call 6; (with_reducible refine (CA.out _ B4.out).mono ?_); rintro e w9 ⟨rfl, hb⟩; go_must (have B9 := Lib.hid (B4.out.trans (hb.mono B4.out.size)); clear hb))
    | fail)
  go_ret
  exact ⟨rfl, B9.out⟩

set_option maxRecDepth 100000 in
set_option maxHeartbeats 8000000 in
theorem law_good (t : Tr) (s : ByteArray) (v : Value) (w : World) (hv : TreeAt w v t) (hU : Tabs w) (hn : Near t) (hs : s.size ≤ 16) (hc : checkE t = 0) (F : ∀ (v : Value) (w : World), TreeAt w v t → Calls Tryz.prog 5 #[v, .string s] w fun e w' => e = .returned (.bool true) ∧ Below w.heap.size w w') :
    Calls Tryz.prog 3 #[v, .string s] w fun e w' => e = .returned (.bool true) ∧ Below w.heap.size w w' := by
  have HV := Lib.hid hv
  obtain ⟨ao, cap, so, scap, rfl, _, _, _, _⟩ := hv.shape
  have B0 := Lib.hid ((Below.refl w.heap.size w).alloc (Nat.le_refl _) (.cells #[.slice ao t.ns.length cap, .slice so t.sets.length scap, .int .i64 t.root] 25))
  have T0 := Lib.hid (TBox.new w (.slice ao t.ns.length cap) (.slice so t.sets.length scap) t.root)
  obtain ⟨ht, hN, _⟩ := check_ok hc
  have CA := Lib.hid (fun W (hb : Below w.heap.size w W) => alive_any W (tabs_next hU hb))
  have CF := Lib.hid (fun W (hb : Below w.heap.size w W) => F _ W (HV.out.next hb))
  have CM := Lib.hid (fun W (hb : Below w.heap.size w W) => matches_any (HV.out.next hb) (tabs_next hU hb) (s := s) (by unfold maxLen; omega))
  have CN := Lib.hid (fun W (hb : Below w.heap.size w W) => nullable_any (HV.out.next hb))
  have CC := Lib.hid (fun W (hb : Below w.heap.size w W) => rcheck_any t _ W (HV.out.next hb) (fun k hk => by have := hn.each k hk; omega))
  have CR := Lib.hid (fun W (hb : Below w.heap.size w W) => rrow_any ht (HV.out.next hb) hN (vl := .slice none 0 0) (l := []) (.inl ⟨rfl, rfl⟩) (by simp))
  have CH := Lib.hid (fun W (hb : Below w.heap.size w W) => rhasT_any ht (HV.out.next hb) hN (s := s) (by omega))
  have hne : s.data.toList ≠ [] → (0 : Int) < s.size := fun h => by
    have := List.length_pos_iff.2 h
    rw [← Lib.size_eq] at this
    omega
  have hm := match_has hc s.data.toList
  rw [hc] at CC
  rw [null_row hc] at CN
  generalize rowB t [] = z at *
  generalize hasB' t s.data.toList = y at *
  generalize matchesF t s.data.toList = p at *
  generalize hls : s.data.toList = ls at *
  obtain ⟨p1, p2⟩ := p
  dsimp only at hm CM
  clear hv hU HV F hc hn ht hN hls
  rcases hm with ⟨rfl, rfl⟩ | ⟨rfl, rfl, h3⟩
  · clear hne
    cases z <;> cases p1
    all_goals (
      go_enter Tryz.func3, Tryz.ntmps3
      go_upto_region 7 with (first
        | (go_at_call 5; (with_reducible refine (CF.out _ B0.out).mono ?_); rintro e w1 ⟨rfl, hb⟩; go_must (have T1 := Lib.hid (T0.out.next hb); obtain ⟨a0, a1, a2⟩ := T1.out; have B1 := Lib.hid (B0.out.trans (hb.mono B0.out.size)); clear hb))
        | (go_at_call 7; (with_reducible refine (CM.out _ B1.out).mono ?_); rintro e w2 ⟨rfl, hb⟩; go_must (have T2 := Lib.hid (T1.out.next hb); obtain ⟨b0, b1, b2⟩ := T2.out; have B2 := Lib.hid (B1.out.trans (hb.mono B1.out.size)); clear hb a0 a1 a2))
        | (go_at_call 8; (with_reducible refine (CC.out _ B2.out).mono ?_); rintro e w3 ⟨rfl, hb⟩; go_must (have T3 := Lib.hid (T2.out.next hb); obtain ⟨c0, c1, c2⟩ := T3.out; have B3 := Lib.hid (B2.out.trans (hb.mono B2.out.size)); clear hb b0 b1 b2))
        | fail)
      have B3' := Lib.hid (B3.out.trans ((drewB w3).mono B3.out.size))
      have T3' := Lib.hid (T3.out.next (drewB w3))
      obtain ⟨x0, x1, x2⟩ := T3'.out
      go_region_held3 (fun X => X.cell? ⟨w.heap.size, 0, none⟩ = some (.slice ao t.ns.length cap) ∧ X.cell? ⟨w.heap.size, 1, none⟩ = some (.slice so t.sets.length scap) ∧ X.cell? ⟨w.heap.size, 2, none⟩ = some (.int .i64 t.root)) (first | exact ⟨by assumption, by assumption, by assumption⟩ | go_keep)
        (first
          | (go_at_call 9; ((with_reducible refine (CN.out _ B3'.out).mono ?_); rintro e w4 ⟨rfl, hb⟩); go_must (have T4 := Lib.hid (T3'.out.next hb); obtain ⟨d0, d1, d2⟩ := T4.out; have B4 := Lib.hid (B3'.out.trans (hb.mono B3'.out.size)); clear hb))
          | (go_at_call 10; ((with_reducible refine (CR.out _ B4.out).mono ?_); rintro e w5 ⟨rfl, hb⟩); go_must (have T5 := Lib.hid (T4.out.next hb); obtain ⟨f0, f1, f2⟩ := T5.out; have B5 := Lib.hid (B4.out.trans (hb.mono B4.out.size)); clear hb d0 d1 d2))
          | fail)
      go_wp2_with (first
        | (go_at_call 11; (with_reducible refine (CH.out _ B5.out).mono ?_); rintro e w6 ⟨rfl, hb⟩; go_must (have B6 := Lib.hid (B5.out.trans (hb.mono B5.out.size)); clear hb))
        | (go_at_call 6; (with_reducible refine (CA.out _ B6.out).mono ?_); rintro e w9 ⟨rfl, hb⟩; go_must (have B9 := Lib.hid (B6.out.trans (hb.mono B6.out.size)); clear hb))
        | fail)
      go_ret
      exact ⟨rfl, B9.out⟩)
  · have hpos := hne h3
    clear hne h3
    cases z
    all_goals (
      go_enter Tryz.func3, Tryz.ntmps3
      go_upto_region 7 with (first
        | (go_at_call 5; (with_reducible refine (CF.out _ B0.out).mono ?_); rintro e w1 ⟨rfl, hb⟩; go_must (have T1 := Lib.hid (T0.out.next hb); obtain ⟨a0, a1, a2⟩ := T1.out; have B1 := Lib.hid (B0.out.trans (hb.mono B0.out.size)); clear hb))
        | (go_at_call 7; (with_reducible refine (CM.out _ B1.out).mono ?_); rintro e w2 ⟨rfl, hb⟩; go_must (have T2 := Lib.hid (T1.out.next hb); obtain ⟨b0, b1, b2⟩ := T2.out; have B2 := Lib.hid (B1.out.trans (hb.mono B1.out.size)); clear hb a0 a1 a2))
        | (go_at_call 8; (with_reducible refine (CC.out _ B2.out).mono ?_); rintro e w3 ⟨rfl, hb⟩; go_must (have T3 := Lib.hid (T2.out.next hb); obtain ⟨c0, c1, c2⟩ := T3.out; have B3 := Lib.hid (B2.out.trans (hb.mono B2.out.size)); clear hb b0 b1 b2))
        | fail)
      have B3' := Lib.hid (B3.out.trans ((drewB w3).mono B3.out.size))
      have T3' := Lib.hid (T3.out.next (drewB w3))
      obtain ⟨x0, x1, x2⟩ := T3'.out
      go_region_held3 (fun X => X.cell? ⟨w.heap.size, 0, none⟩ = some (.slice ao t.ns.length cap) ∧ X.cell? ⟨w.heap.size, 1, none⟩ = some (.slice so t.sets.length scap) ∧ X.cell? ⟨w.heap.size, 2, none⟩ = some (.int .i64 t.root)) (first | exact ⟨by assumption, by assumption, by assumption⟩ | go_keep)
        (first
          | (go_at_call 9; ((with_reducible refine (CN.out _ B3'.out).mono ?_); rintro e w4 ⟨rfl, hb⟩); go_must (have T4 := Lib.hid (T3'.out.next hb); obtain ⟨d0, d1, d2⟩ := T4.out; have B4 := Lib.hid (B3'.out.trans (hb.mono B3'.out.size)); clear hb))
          | (go_at_call 10; ((with_reducible refine (CR.out _ B4.out).mono ?_); rintro e w5 ⟨rfl, hb⟩); go_must (have T5 := Lib.hid (T4.out.next hb); obtain ⟨f0, f1, f2⟩ := T5.out; have B5 := Lib.hid (B4.out.trans (hb.mono B4.out.size)); clear hb d0 d1 d2))
          | fail)
      go_wp2_with (first
        | (go_at_call 6; (with_reducible refine (CA.out _ B5.out).mono ?_); rintro e w9 ⟨rfl, hb⟩; go_must (have B9 := Lib.hid (B5.out.trans (hb.mono B5.out.size)); clear hb))
        | fail)
      go_ret
      exact ⟨rfl, B9.out⟩)

/-- the law -/
theorem walkMatches (t : Tr) (s : ByteArray) (v : Value) (w : World) (hv : TreeAt w v t) (hU : Tabs w) :
    Calls Tryz.prog 3 #[v, .string s] w fun e w' => e = .returned (.bool true) ∧ Below w.heap.size w w' := by
  cases hb : lightB t s.size
  · exact law_dark t s v w hv hU fun v w hv => hb ▸ light_any t s v w hv
  · obtain ⟨h1, h2, h3⟩ := light_yes hb
    by_cases hc : checkE t = 0
    · exact law_good t s v w hv hU h1 h3 hc fun v w hv => hb ▸ light_any t s v w hv
    · exact law_bad t s v w hv hU h1 h3 hc fun v w hv => hb ▸ light_any t s v w hv
end
end Go.Proofs.YtbkafoaoddajoaaGreatDoor.Dv

namespace Go.Proofs.YtbkafoaoddajoaaGreatDoor.Ar
open Go Go.RowKit Go.Shelf Go.ChangeShapes Go.WideShapes Go.Deep
open Go.Proofs.YtbkafoaoddajoaaGreatDoor.Rg (R RngsAt RowsAt nthL nth add_zero own_next add_pair)

set_option maxRecDepth 4000
theorem add_nxt (a : Addr) (m o : Nat) : a.add (m + (o + 1)) = ⟨(a.add m).block, (a.add m).off + (o + 1), none⟩ := by
  unfold Addr.add
  by_cases h : m = 0
  · simp [h]
  · simp [h]; omega
section
variable {H : Type} {enc : TypeId × Value → H} {W : World} {base : Nat} {sp : Nat → Bool} {held : Bool} {fuel : Nat} {cs : List Value} {x : DataW H × List MemPlace}
theorem int_cell {t : TypeId} (ht : Tryz.prog.underlying t = some (.int .i64)) {u : Value} {y : Option (DataW H × List MemPlace)} (h : DataW.trod enc Tryz.prog W base sp held fuel t [u] = y) (hy : y ≠ none) : ∃ n : Int, u = .int .i64 n := by
  obtain ⟨z, rfl⟩ := Option.ne_none_iff_exists'.1 hy
  obtain ⟨n, hn, _, _⟩ := DataW.trod_int ht h
  exact ⟨n, by simpa using hn⟩
/-- a slice of ranges, by its cell -/
theorem rngs_cell (h : DataW.trod enc Tryz.prog W base sp held fuel 51 cs = some x) : ∃ v l, cs = [v] ∧ RngsAt W v l := by
  rcases open_slice_pairs Tryz.underlying51 Tryz.underlying92 (by kernel_rfl) rfl rfl (by kernel_rfl) (by kernel_rfl) h with ⟨hcs, _⟩ | ⟨a, len', cap', m, n, V0, V1, D0, D1, P0, P1, hcs, _, hl, hm, hmm, _, hi⟩
  · exact ⟨_, [], hcs, .inl ⟨rfl, rfl⟩⟩
  · have hlm : len' ≤ m := by rw [hmm]; split <;> omega
    refine ⟨_, (List.range len').map fun i => (intOf (V0 i), intOf (V1 i)), hcs, .inr ⟨a, cap', by simp, by simp; omega, fun i hil => ?_⟩⟩
    have hil' : i < len' := by simpa using hil
    obtain ⟨h1, h2, h3, h4⟩ := hi i (by omega)
    obtain ⟨p, hp, _, _⟩ := DataW.trod_int Tryz.underlying3 h3
    obtain ⟨q, hq, _, _⟩ := DataW.trod_int Tryz.underlying3 h4
    have ex : V0 i = .int .i64 p := by simpa using hp
    have ey : V1 i = .int .i64 q := by simpa using hq
    have hn : nth ((List.range len').map fun i => (intOf (V0 i), intOf (V1 i))) i = (p, q) := by
      simp [nth, List.getD, hil', ex, ey, intOf]
    rw [hn]
    refine ⟨by rw [h1, ex], ?_⟩
    rw [add_pair] at h2
    rw [h2, ey]
/-- a slice of slices of ranges -/
theorem rows_cell (h : DataW.trod enc Tryz.prog W base sp held fuel 23 cs = some x) : ∃ v L, cs = [v] ∧ RowsAt W v L := by
  rcases open_slice1 Tryz.underlying23 (by kernel_rfl) h with ⟨hcs, _⟩ | ⟨a, len, cap, m, n, V, D, Pl, hcs, _, hl, hm, hmm, _, hi⟩
  · exact ⟨_, [], hcs, .inl ⟨rfl, rfl⟩⟩
  · have hlm : len ≤ m := by rw [hmm]; split <;> omega
    have hex : ∀ i, ∃ l : List R, i < len → RngsAt W (V i) l := fun i => by
      by_cases hil : i < len
      · obtain ⟨_, h2⟩ := hi i (by omega)
        obtain ⟨v, l, hv, hr⟩ := rngs_cell h2
        simp only [List.cons.injEq, and_true] at hv
        subst hv
        exact ⟨l, fun _ => hr⟩
      · exact ⟨[], fun h => absurd h hil⟩
    obtain ⟨f, hf⟩ := Classical.skolem.1 hex
    refine ⟨_, (List.range len).map f, hcs, .inr ⟨a, cap, by simp, by simp; omega, fun i hil => ?_⟩⟩
    have hil' : i < len := by simpa using hil
    refine ⟨V i, (hi i (by omega)).1, ?_⟩
    have : nthL ((List.range len).map f) i = f i := by simp [nthL, List.getD, hil']
    rw [this]
    exact hf i hil'
/-- six numbers -/
theorem node_cells (h : DataW.trod enc Tryz.prog W base sp held fuel 35 cs = some x) : ∃ n : Nd, cs = cellsN n := by
  obtain ⟨xs, k, _, _, hl, hxl, hf⟩ := DataW.trod_struct Tryz.underlying35 h
  rw [show Tryz.prog.cellsOf 35 = 6 by kernel_rfl] at hl
  have hci : Tryz.prog.cellsOf 3 = 1 := by kernel_rfl
  match cs, hl, xs, hxl with
  | [c0, c1, c2, c3, c4, c5], _, [y0, y1, y2, y3, y4, y5], _ =>
    have g0 : DataW.trod enc Tryz.prog W base sp held k 3 ((([c0, c1, c2, c3, c4, c5] : List Value).drop 0).take (Tryz.prog.cellsOf 3)) = some y0 := hf 0 _ rfl
    have g1 : DataW.trod enc Tryz.prog W base sp held k 3 ((([c0, c1, c2, c3, c4, c5] : List Value).drop 1).take (Tryz.prog.cellsOf 3)) = some y1 := hf 1 _ rfl
    have g2 : DataW.trod enc Tryz.prog W base sp held k 3 ((([c0, c1, c2, c3, c4, c5] : List Value).drop 2).take (Tryz.prog.cellsOf 3)) = some y2 := hf 2 _ rfl
    have g3 : DataW.trod enc Tryz.prog W base sp held k 3 ((([c0, c1, c2, c3, c4, c5] : List Value).drop 3).take (Tryz.prog.cellsOf 3)) = some y3 := hf 3 _ rfl
    have g4 : DataW.trod enc Tryz.prog W base sp held k 3 ((([c0, c1, c2, c3, c4, c5] : List Value).drop 4).take (Tryz.prog.cellsOf 3)) = some y4 := hf 4 _ rfl
    have g5 : DataW.trod enc Tryz.prog W base sp held k 3 ((([c0, c1, c2, c3, c4, c5] : List Value).drop 5).take (Tryz.prog.cellsOf 3)) = some y5 := hf 5 _ rfl
    rw [hci] at g0 g1 g2 g3 g4 g5
    obtain ⟨n0, rfl⟩ := int_cell Tryz.underlying3 g0 (by simp)
    obtain ⟨n1, rfl⟩ := int_cell Tryz.underlying3 g1 (by simp)
    obtain ⟨n2, rfl⟩ := int_cell Tryz.underlying3 g2 (by simp)
    obtain ⟨n3, rfl⟩ := int_cell Tryz.underlying3 g3 (by simp)
    obtain ⟨n4, rfl⟩ := int_cell Tryz.underlying3 g4 (by simp)
    obtain ⟨n5, rfl⟩ := int_cell Tryz.underlying3 g5 (by simp)
    exact ⟨⟨n0, n1, n2, n3, n4, n5⟩, rfl⟩
/-- a slice of nodes -/
theorem nodes_cell (h : DataW.trod enc Tryz.prog W base sp held fuel 22 cs = some x) : ∃ v l, cs = [v] ∧ NodesAt W v l := by
  rcases open_slice Tryz.underlying22 h with ⟨hcs, _⟩ | ⟨a, len, cap, m, n, D, Pl, hcs, _, hl, hm, hmm, _, hi⟩
  · exact ⟨_, [], hcs, .inl ⟨rfl, rfl⟩⟩
  · have hlm : len ≤ m := by rw [hmm]; split <;> omega
    have hex : ∀ i, ∃ n : Nd, i < len → NodeAt W (a.add (i * 6)) n := fun i => by
      by_cases hil : i < len
      · obtain ⟨cs', h1, h2⟩ := hi i (by omega)
        obtain ⟨nn, rfl⟩ := node_cells h2
        rw [show Tryz.prog.cellsOf 35 = 6 by kernel_rfl] at h1
        obtain ⟨_, _, hc⟩ := World.cells?_some h1
        have k0 := hc 0 (by omega)
        have k1 := hc 1 (by omega)
        have k2 := hc 2 (by omega)
        have k3 := hc 3 (by omega)
        have k4 := hc 4 (by omega)
        have k5 := hc 5 (by omega)
        rw [add_add] at k0 k1 k2 k3 k4 k5
        rw [Nat.add_zero] at k0
        rw [add_nxt] at k1 k2 k3 k4 k5
        exact ⟨nn, fun _ => ⟨k0, k1, k2, k3, k4, k5⟩⟩
      · exact ⟨default, fun h => absurd h hil⟩
    obtain ⟨f, hf⟩ := Classical.skolem.1 hex
    refine ⟨_, (List.range len).map f, hcs, .inr ⟨a, cap, by simp, by simp; omega, fun i hil => ?_⟩⟩
    have hil' : i < len := by simpa using hil
    have : nd ((List.range len).map f) i = f i := by simp [nd, List.getD, hil']
    rw [this]
    exact hf i hil'
/-- a tree's three cells -/
theorem tree_cells (h : DataW.trod enc Tryz.prog W base sp held fuel 25 cs = some x) : ∃ vn vs, ∃ t : Tr, cs = [vn, vs, .int .i64 t.root] ∧ NodesAt W vn t.ns ∧ RowsAt W vs t.sets := by
  obtain ⟨xs, k, _, _, hl, hxl, hf⟩ := DataW.trod_struct Tryz.underlying25 h
  rw [show Tryz.prog.cellsOf 25 = 3 by kernel_rfl] at hl
  match cs, hl, xs, hxl with
  | [c0, c1, c2], _, [y0, y1, y2], _ =>
    have g0 : DataW.trod enc Tryz.prog W base sp held k 22 ((([c0, c1, c2] : List Value).drop 0).take (Tryz.prog.cellsOf 22)) = some y0 := hf 0 _ rfl
    have g1 : DataW.trod enc Tryz.prog W base sp held k 23 ((([c0, c1, c2] : List Value).drop 1).take (Tryz.prog.cellsOf 23)) = some y1 := hf 1 _ rfl
    have g2 : DataW.trod enc Tryz.prog W base sp held k 3 ((([c0, c1, c2] : List Value).drop 2).take (Tryz.prog.cellsOf 3)) = some y2 := hf 2 _ rfl
    rw [show Tryz.prog.cellsOf 22 = 1 by kernel_rfl] at g0
    rw [show Tryz.prog.cellsOf 23 = 1 by kernel_rfl] at g1
    rw [show Tryz.prog.cellsOf 3 = 1 by kernel_rfl] at g2
    obtain ⟨vn, l, e0, hn⟩ := nodes_cell (x := y0) g0
    obtain ⟨vs, L, e1, hs⟩ := rows_cell (x := y1) g1
    obtain ⟨r, rfl⟩ := int_cell Tryz.underlying3 g2 (by simp)
    have e0' : c0 = vn := by simpa using e0
    have e1' : c1 = vs := by simpa using e1
    subst e0' e1'
    exact ⟨c0, c1, ⟨l, L, r⟩, rfl, hn, hs⟩
end

section
variable {H : Type} {enc : TypeId × Value → H} {W : World} {v : Value} {d : DataW H} {ps : List MemPlace} {base b2 : Nat} {sp : Nat → Bool} {held : Bool}
theorem tree_of_trod (ho : Value.okWide Tryz.prog W .any b2 25 v) (h : DataW.Trod enc Tryz.prog W base sp held 25 v d ps) : ∃ t, TreeAt W v t := by
  obtain ⟨⟨cs⟩, rfl, _⟩ := okWide_struct Tryz.underlying25 ho
  obtain ⟨fuel, hf⟩ := h
  obtain ⟨vn, vs, t, e, hn, hs⟩ := tree_cells hf
  have e' : cs = [vn, vs, .int .i64 t.root] := by simpa [Value.cells] using e
  subst e'
  exact ⟨t, vn, vs, rfl, hn, hs⟩
end

end Go.Proofs.YtbkafoaoddajoaaGreatDoor.Ar

namespace Go.Proofs.YtbkafoaoddajoaaGreatDoor.Dv
open Go Go.RowKit Go.Shelf Go.ChangeShapes Go.WideShapes Go.Deep
open Go.Proofs.YtbkafoaoddajoaaGreatDoor.Ar (Tr TreeAt)
open Go.Proofs.YtbkafoaoddajoaaGreatDoor.Ut (Tabs)

theorem u8types : U8Types Tryz.prog Tryz.lays260_ren := U8Types.of260 Tryz.lays260
theorem u8extra : U8Extra Tryz.prog Tryz.lays260_ren where
  n3 := by kernel_rfl
  n4 := by kernel_rfl
  y3 := by kernel_rfl
  y4 := by kernel_rfl
  c5 := by kernel_rfl
  c119 := by kernel_rfl
  c138 := by kernel_rfl
theorem first_is : Rows.laid_unicode_utf8_first = Lib.firstData := by kernel_rfl
theorem accept_is : (Rows.laid_unicode_utf8_acceptRanges : DataW Unit) = Lib.acceptData := by kernel_rfl
theorem st_of_laid {W : World} (h : laidMet Tryz.prog [("unicode/utf8.acceptRanges", Rows.laid_unicode_utf8_acceptRanges), ("unicode/utf8.first", Rows.laid_unicode_utf8_first)] W) : Tabs W :=
  utf8Tabs_of_readsT u8types u8extra (first_is ▸ Lib.laidMet.reads h (List.mem_cons_of_mem _ List.mem_cons_self)) (accept_is ▸ Lib.laidMet.reads h List.mem_cons_self)
set_option maxRecDepth 100000 in
theorem tree_of_trod {H : Type} {enc : TypeId × Value → H} {W : World} {v : Value} {d : DataW H} {ps : List MemPlace} {base b2 : Nat} {sp : Nat → Bool} {held : Bool} (ho : Value.okWide Tryz.prog W .any b2 25 v) (h : DataW.Trod enc Tryz.prog W base sp held 25 v d ps) : ∃ t, TreeAt W v t := Ar.tree_of_trod ho h
theorem walkMatchesC (t : Tr) (v : Value) (s : ByteArray) (w : World) (hv : TreeAt w v t) (_hs : s.size ≤ maxLen) (hst : Tabs w) :
    Calls Tryz.prog 3 #[v, .string s] w fun e w' => e = .returned (.bool true) ∧ Below w.heap.size w w' := walkMatches t s v w hv hst

end Go.Proofs.YtbkafoaoddajoaaGreatDoor.Dv

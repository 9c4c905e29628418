/- The program's Of: two marks on each byte. -/
import Derived.Test.YtchfpokhngbpmaaAbFirst
import Derived.Test.YtchfpokhngbpmaaAbApart
import Derived.Deep.RegionHeld
namespace Go.Proofs.Ytchfpokhngbpmaa.Ab
open Go.RowKit
open Go.Proofs.Ytchfpokhngbpmaa.Rg (RngsAt nth)

/-- a block of 256 numbers -/
def Marks (w : World) (B : Nat) (f : Nat → Int) : Prop := ∀ i, i < 256 → w.cell? ⟨B, i, none⟩ = some (.int .i64 (f i)) ∧ w.frozen? ⟨B, i, none⟩ = false
def upd (f : Nat → Int) (k : Nat) (x : Int) : Nat → Int := fun i => if i = k then x else f i

theorem zero256 : ∃ cs : Array Value, (∀ w, (zeroValue 40).run Try.prog w = .ok (.agg cs) w) ∧ ∀ i, i < 256 → cs[i]? = some (.int .i64 0) := by
  refine ⟨(List.replicate 256 (.int .i64 0)).toArray, fun w => by kernel_rfl, fun i hi => ?_⟩
  rw [List.getElem?_toArray, List.getElem?_replicate, if_pos hi]
theorem Marks.made (w : World) {cs : Array Value} {t : TypeId} (h : ∀ i, i < 256 → cs[i]? = some (.int .i64 0)) : Marks (w.alloc (.cells cs t)) w.heap.size (fun _ => 0) := fun i hi =>
  ⟨by rw [World.cell?_alloc_new]; exact h i hi, by simp⟩
theorem Marks.alloc {w : World} {B : Nat} {f : Nat → Int} (h : Marks w B f) (o : Obj) : Marks (w.alloc o) B f := fun i hi =>
  ⟨cell_next (h i hi).1 ((Below.refl _ _).alloc (Nat.le_refl _) o), by rw [World.frozen?_alloc_past o B i (cell_lt (h i hi).1)]; exact (h i hi).2⟩
theorem Marks.set {w : World} {B : Nat} {f : Nat → Int} (h : Marks w B f) (k : Nat) (x : Int) : Marks (w.setCell ⟨B, k, none⟩ (.int .i64 x)) B (upd f k x) := fun i hi => by
  refine ⟨?_, by rw [World.frozen?_setCell]; exact (h i hi).2⟩
  unfold upd
  by_cases e : i = k
  · subst e
    rw [if_pos rfl]
    exact World.cell?_setCell_same _ _ _ (h i hi).1
  · rw [if_neg e, World.cell?_setCell_other _ _ _ _ (fun h => e (by simpa using h.symm))]
    exact (h i hi).1
theorem Marks.far {w : World} {B C : Nat} {f : Nat → Int} (h : Marks w B f) (hne : B ≠ C) (k : Nat) (x : Value) : Marks (w.setCell ⟨C, k, none⟩ x) B f := fun i hi =>
  ⟨by rw [World.cell?_setCell_far _ _ _ _ (Ne.symm hne)]; exact (h i hi).1, by rw [World.frozen?_setCell]; exact (h i hi).2⟩
theorem upd_same (f : Nat → Int) (k : Nat) (x : Int) : upd f k x k = x := by simp [upd]
theorem upd_other (f : Nat → Int) {k d : Nat} (x : Int) (h : d < k) : upd f k x d = f d := by simp [upd]; omega

/-- the marks on a byte when the first j ranges have been looked at -/
def pb (l : List R) (k j : Nat) : Int := (l.take j).foldl (fun m r => if inR r k then max m r.1 else m) (-1)
def pe (l : List R) (k j : Nat) : Int := (l.take j).foldl (fun m r => if inR r k then min m r.2 else m) 256
theorem pb_succ {l : List R} {j : Nat} (k : Nat) (h : j < l.length) : pb l k (j + 1) = if inR (nth l j) k then max (pb l k j) (nth l j).1 else pb l k j := by
  unfold pb
  rw [List.take_add_one, List.getElem?_eq_getElem h, List.foldl_append, Rg.nth_eq h]; rfl
theorem pe_succ {l : List R} {j : Nat} (k : Nat) (h : j < l.length) : pe l k (j + 1) = if inR (nth l j) k then min (pe l k j) (nth l j).2 else pe l k j := by
  unfold pe
  rw [List.take_add_one, List.getElem?_eq_getElem h, List.foldl_append, Rg.nth_eq h]; rfl
theorem pb_end (l : List R) (k : Nat) : pb l k l.length = bg l k := by unfold pb; rw [List.take_length]; rfl
theorem pe_end (l : List R) (k : Nat) : pe l k l.length = en l k := by unfold pe; rw [List.take_length]; rfl

/-- the two blocks: the first k bytes have their marks; the k-th one has x and y -/
structure Two (l : List R) (w : World) (k : Nat) (x y : Int) (wr : World) : Prop where
  ex : ∃ f g, Marks wr w.heap.size f ∧ Marks wr (w.heap.size + 1) g ∧ (∀ d, d < k → f d = bg l d) ∧ (∀ d, d < k → g d = en l d) ∧ f k = x ∧ g k = y
  below : Below w.heap.size w wr
  room : w.heap.size + 2 ≤ wr.heap.size
theorem Two.cells {l : List R} {w wr : World} {k : Nat} {x y : Int} (h : Two l w k x y wr) (hk : k < 256) :
    wr.cell? ⟨w.heap.size, k, none⟩ = some (.int .i64 x) ∧ wr.frozen? ⟨w.heap.size, k, none⟩ = false ∧ wr.cell? ⟨w.heap.size + 1, k, none⟩ = some (.int .i64 y) ∧ wr.frozen? ⟨w.heap.size + 1, k, none⟩ = false := by
  obtain ⟨f, g, h1, h2, _, _, rfl, rfl⟩ := h.ex
  exact ⟨(h1 k hk).1, (h1 k hk).2, (h2 k hk).1, (h2 k hk).2⟩
theorem Two.alloc {l : List R} {w wr : World} {k : Nat} {x y : Int} (h : Two l w k x y wr) (o : Obj) : Two l w k x y (wr.alloc o) := by
  obtain ⟨f, g, h1, h2, h3⟩ := h.ex
  exact ⟨⟨f, g, h1.alloc o, h2.alloc o, h3⟩, h.below.alloc h.below.size o, by have := h.room; simp; omega⟩
theorem Two.set {l : List R} {w wr : World} {k : Nat} {x y : Int} (h : Two l w k x y wr) (x' y' : Int) : Two l w k x' y' ((wr.setCell ⟨w.heap.size, k, none⟩ (.int .i64 x')).setCell ⟨w.heap.size + 1, k, none⟩ (.int .i64 y')) := by
  obtain ⟨f, g, h1, h2, h3, h4, _, _⟩ := h.ex
  refine ⟨⟨upd f k x', upd g k y', (h1.set k x').far (by omega) k _, (h2.far (by omega) k _).set k y', fun d hd => by rw [upd_other f x' hd]; exact h3 d hd, fun d hd => by rw [upd_other g y' hd]; exact h4 d hd, upd_same f k x', upd_same g k y'⟩, ?_, by simpa using h.room⟩
  exact (h.below.setCell (p := ⟨w.heap.size, k, none⟩) (Nat.le_refl _) _).setCell (p := ⟨w.heap.size + 1, k, none⟩) (Nat.le_succ _) _
theorem Two.set1 {l : List R} {w wr : World} {k : Nat} {x y : Int} (h : Two l w k x y wr) (x' : Int) : Two l w k x' y (wr.setCell ⟨w.heap.size, k, none⟩ (.int .i64 x')) := by
  obtain ⟨f, g, h1, h2, h3, h4, _, h6⟩ := h.ex
  exact ⟨⟨upd f k x', g, h1.set k x', h2.far (by omega) k _, fun d hd => by rw [upd_other f x' hd]; exact h3 d hd, h4, upd_same f k x', h6⟩, h.below.setCell (p := ⟨w.heap.size, k, none⟩) (Nat.le_refl _) _, by simpa using h.room⟩
theorem Two.set2 {l : List R} {w wr : World} {k : Nat} {x y : Int} (h : Two l w k x y wr) (y' : Int) : Two l w k x y' (wr.setCell ⟨w.heap.size + 1, k, none⟩ (.int .i64 y')) := by
  obtain ⟨f, g, h1, h2, h3, h4, h5, _⟩ := h.ex
  exact ⟨⟨f, upd g k y', h1.far (by omega) k _, h2.set k y', h3, fun d hd => by rw [upd_other g y' hd]; exact h4 d hd, h5, upd_same g k y'⟩, h.below.setCell (p := ⟨w.heap.size + 1, k, none⟩) (Nat.le_succ _) _, by simpa using h.room⟩
theorem Two.next {l : List R} {w wr : World} {k : Nat} (h : Two l w k (bg l k) (en l k) wr) : ∃ x y, Two l w (k + 1) x y wr := by
  obtain ⟨f, g, h1, h2, h3, h4, h5, h6⟩ := h.ex
  refine ⟨_, _, ⟨f, g, h1, h2, fun d hd => ?_, fun d hd => ?_, rfl, rfl⟩, h.below, h.room⟩
  · by_cases e : d = k
    · subst e; exact h5
    · exact h3 d (by omega)
  · by_cases e : d = k
    · subst e; exact h6
    · exact h4 d (by omega)
theorem bgL_len (l : List R) : (bgL l).length = 256 := by simp [bgL]
theorem enL_len (l : List R) : (enL l).length = 256 := by simp [enL]
theorem Two.ends {l : List R} {w wr : World} {x y : Int} (h : Two l w 256 x y wr) : IntsAt wr (.slice (some ⟨w.heap.size, 0, none⟩) 256 256) (bgL l) ∧ IntsAt wr (.slice (some ⟨w.heap.size + 1, 0, none⟩) 256 256) (enL l) := by
  obtain ⟨f, g, h1, h2, h3, h4, _, _⟩ := h.ex
  refine ⟨.inr ⟨_, 256, by rw [bgL_len], by rw [bgL_len]; unfold maxLen; omega, fun i hi => ?_⟩, .inr ⟨_, 256, by rw [enL_len], by rw [enL_len]; unfold maxLen; omega, fun i hi => ?_⟩⟩
  · rw [bgL_len] at hi
    rw [Rg.add_zero, (h1 i hi).1, h3 i hi]
    simp [bgL, List.getD, hi]
  · rw [enL_len] at hi
    rw [Rg.add_zero, (h2 i hi).1, h4 i hi]
    simp [enL, List.getD, hi]
theorem wf_bgL (l : List R) : WfL (bgL l) := fun i => by
  refine WalkArith.wf_i64 ?_
  by_cases hi : i < 256
  · have e : num (bgL l) i = bg l i := by simp [num, bgL, List.getD, hi]
    have := bg_in l i
    rw [e]; omega
  · rw [num_out (by rw [bgL_len]; omega)]; omega
theorem wf_enL (l : List R) : WfL (enL l) := fun i => by
  refine WalkArith.wf_i64 ?_
  by_cases hi : i < 256
  · have e : num (enL l) i = en l i := by simp [num, enL, List.getD, hi]
    have := en_in l hi
    rw [e]; omega
  · rw [num_out (by rw [enL_len]; omega)]; omega
theorem Two.drew {l : List R} {w wr : World} {k : Nat} {x y : Int} (h : Two l w k x y wr) : Two l w k x y wr.drew :=
  ⟨h.ex, h.below.drew, h.room⟩
theorem two_start (l : List R) (w : World) {cs : Array Value} {t : TypeId} (h : ∀ i, i < 256 → cs[i]? = some (.int .i64 0)) : Two l w 0 0 0 ((w.alloc (.cells cs t)).alloc (.cells cs t)) := by
  have e : (w.alloc (.cells cs t)).heap.size = w.heap.size + 1 := by simp
  refine ⟨⟨fun _ => 0, fun _ => 0, (Marks.made w h).alloc _, ?_, fun d hd => by omega, fun d hd => by omega, rfl, rfl⟩, ((Below.refl _ _).alloc (Nat.le_refl _) _).alloc (by omega) _, by simp⟩
  rw [← e]
  exact Marks.made _ h

set_option maxRecDepth 100000 in
set_option maxHeartbeats 4000000 in
theorem of_any (v : Value) (l : List R) (w : World) (h : RngsAt w v l) : Calls Try.prog 7 #[v] w (Told (cnt (eR l) 256) (clsL (eR l) 256) w) := by
  obtain ⟨ao, cap, rfl, hm, hc⟩ := h.shape
  have HC := Lib.hid hc
  clear hc h
  obtain ⟨cs, hz, hcs⟩ := zero256
  have HCS := Lib.hid hcs
  clear hcs
  go_enter Try.func7, Try.ntmps7
  have hst : Two l w 0 0 0 ((w.alloc (.cells cs 40)).alloc (.cells cs 40)) := two_start l w HCS.out
  have HST := Lib.hid hst
  clear hst
  go_wp2
  go_loopw [9] (fun i wr => ∃ (k : Nat) (x y : Int), k ≤ 256 ∧ i = .int .i64 k ∧ Two l w k x y wr) (fun i _ => 256 - (intOf i).toNat)
  case atStart => exact ⟨0, 0, 0, by omega, rfl, HST.out⟩
  case round =>
    obtain ⟨k, x, y, hk, rfl, htwo⟩ := hrel
    by_cases hlt : k < 256
    · have h256 : (k : Int) < 256 := by omega
      obtain ⟨c1, f1, c2, f2⟩ := htwo.cells hlt
      have HT := Lib.hid (htwo.set (-1) 256)
      have hroom := htwo.room
      clear htwo
      go_wp2
      go_loopw [18] (fun i wr => ∃ j : Nat, j ≤ l.length ∧ i = .int .i64 j ∧ Two l w k (pb l k j) (pe l k j) wr) (fun i _ => l.length - (intOf i).toNat)
      case atStart => exact ⟨0, by omega, rfl, HT.out⟩
      case round =>
        obtain ⟨j, hj, rfl, htwo⟩ := hrel
        by_cases hjl : j < l.length
        · obtain ⟨ad, rfl, hx0, hx1⟩ := HC.out j hjl
          have hcell := cell_next hx0 htwo.below
          have hcell2 := cell_next hx1 htwo.below
          have hp1 := pb_succ k hjl
          have hp2 := pe_succ k hjl
          have wi := in_ways (nth l j) k
          generalize nth l j = r at *
          obtain ⟨lo, hi⟩ := r
          simp only at wi hcell hcell2 hp1 hp2
          have HT2 := Lib.hid (htwo.alloc (.cells #[.int .i64 lo, .int .i64 hi] 39))
          have hroom2 := htwo.room
          clear htwo hx0 hx1 c1 f1 c2 f2
          rcases wi with ⟨hin, h1, h2⟩ | ⟨hin, h1⟩ | ⟨hin, h1, h2⟩
          · rw [hin, if_pos rfl] at hp1 hp2
            obtain ⟨c1, f1, c2, f2⟩ := HT2.out.cells hlt
            have d1 : decide ((k : Int) ≤ hi) = true := decide_eq_true h2
            have HP := Lib.hid (And.intro hp1 hp2)
            clear hp1 hp2 hin
            generalize pb l k j = p at *
            generalize pe l k j = q at *
            rcases Int.lt_or_le p lo with hpl | hpl
            all_goals (rcases Int.lt_trichotomy q hi with hq | hq | hq)
            · (have HV := Lib.hid (show pb l k (j + 1) = lo ∧ pe l k (j + 1) = q by have := HP.out; omega)
               clear HP
               go_wp2
               go_region
               go_wp2
               go_roundw
               case rel => exact ⟨j + 1, by omega, by go_num, by rw [HV.out.1, HV.out.2]; first | exact (HT2.out.set1 lo).drew | exact (HT2.out.set lo q).drew⟩
               case measure => simp [intOf]; omega)
            · subst hq
              (have HV := Lib.hid (show pb l k (j + 1) = lo ∧ pe l k (j + 1) = q by have := HP.out; omega)
               clear HP
               go_wp2
               go_region
               go_wp2
               go_roundw
               case rel => exact ⟨j + 1, by omega, by go_num, by rw [HV.out.1, HV.out.2]; first | exact (HT2.out.set1 lo).drew | exact (HT2.out.set lo q).drew⟩
               case measure => simp [intOf]; omega)
            · (have HV := Lib.hid (show pb l k (j + 1) = lo ∧ pe l k (j + 1) = hi by have := HP.out; omega)
               clear HP
               go_wp2
               go_region
               go_wp2
               go_roundw
               case rel => exact ⟨j + 1, by omega, by go_num, by rw [HV.out.1, HV.out.2]; exact (HT2.out.set lo hi).drew⟩
               case measure => simp [intOf]; omega)
            · (have HV := Lib.hid (show pb l k (j + 1) = p ∧ pe l k (j + 1) = q by have := HP.out; omega)
               clear HP
               go_wp2
               go_region
               go_wp2
               go_roundw
               case rel => exact ⟨j + 1, by omega, by go_num, by rw [HV.out.1, HV.out.2]; first | exact HT2.out.drew | exact (HT2.out.set p q).drew⟩
               case measure => simp [intOf]; omega)
            · subst hq
              (have HV := Lib.hid (show pb l k (j + 1) = p ∧ pe l k (j + 1) = q by have := HP.out; omega)
               clear HP
               go_wp2
               go_region
               go_wp2
               go_roundw
               case rel => exact ⟨j + 1, by omega, by go_num, by rw [HV.out.1, HV.out.2]; first | exact HT2.out.drew | exact (HT2.out.set p q).drew⟩
               case measure => simp [intOf]; omega)
            · (have HV := Lib.hid (show pb l k (j + 1) = p ∧ pe l k (j + 1) = hi by have := HP.out; omega)
               clear HP
               go_wp2
               go_region
               go_wp2
               go_roundw
               case rel => exact ⟨j + 1, by omega, by go_num, by rw [HV.out.1, HV.out.2]; first | exact (HT2.out.set2 hi).drew | exact (HT2.out.set p hi).drew⟩
               case measure => simp [intOf]; omega)
          · rw [hin, if_neg (by simp)] at hp1 hp2
            have HP := Lib.hid (And.intro hp1 hp2)
            clear hp1 hp2 hin
            go_wp2
            go_roundw
            case rel => exact ⟨j + 1, by omega, by go_num, by rw [HP.out.1, HP.out.2]; exact HT2.out⟩
            case measure => simp [intOf]; omega
          · rw [hin, if_neg (by simp)] at hp1 hp2
            have d1 : decide ((k : Int) ≤ hi) = false := decide_eq_false (by omega)
            have HP := Lib.hid (And.intro hp1 hp2)
            clear hp1 hp2 hin
            go_wp2
            go_roundw
            case rel => exact ⟨j + 1, by omega, by go_num, by rw [HP.out.1, HP.out.2]; exact HT2.out⟩
            case measure => simp [intOf]; omega
        · obtain rfl : j = l.length := by omega
          rw [pb_end, pe_end] at htwo
          have HN := Lib.hid htwo.next
          clear htwo
          go_wp2
          obtain ⟨x2, y2, HX⟩ := HN.out
          go_roundw
          case rel => exact ⟨k + 1, x2, y2, by omega, by go_num, HX⟩
          case measure => simp [intOf]; omega
    · obtain rfl : k = 256 := by omega
      have hend := htwo.drew.ends
      have HB := Lib.hid htwo.drew.below
      clear htwo
      have hjn := Lib.hid (join_any (.slice (some ⟨w.heap.size, 0, none⟩) 256 256) (.slice (some ⟨w.heap.size + 1, 0, none⟩) 256 256) (bgL l) (enL l) wr.drew hend.1 hend.2 (wf_bgL l) (wf_enL l))
      rw [(of_marks l).1, (of_marks l).2] at hjn
      clear hend
      go_wp2
      go_region_with (first | (go_at_call 17; (with_reducible refine hjn.out.mono ?_); rintro e w2 ⟨v2, rfl, hv2, hb2⟩) | fail)
      all_goals (
        go_wp2
        go_ret2
        exact ⟨_, rfl, hv2, HB.out.trans (hb2.mono HB.out.size)⟩)

end Go.Proofs.Ytchfpokhngbpmaa.Ab

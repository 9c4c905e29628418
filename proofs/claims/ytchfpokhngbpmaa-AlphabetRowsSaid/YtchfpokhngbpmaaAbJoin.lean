/- The program's Join. -/
import Derived.Test.YtchfpokhngbpmaaAbKey
import Derived.Test.YtchfpokhngbpmaaAbRef
namespace Go.Proofs.Ytchfpokhngbpmaa.Ab
open Go.RowKit Go.Maps

/-- what the rounds keep -/
def JRel (a b : List Int) (w : World) (M : Nat) (i : Value) (wr : World) : Prop :=
  ∃ (k : Nat) (D : DataW Unit), k ≤ 256 ∧ i = .int .i64 k ∧ wr.ownsRow w.heap.size 3 1 (.slice (some ⟨w.heap.size, 0, none⟩) 256 256) 256 (partL (eJ a b) k) ∧ wr.ownsMap Try.prog 43 (plainElem Try.prog 3) M k D ∧ InD a b k D ∧ Below w.heap.size w wr

theorem lit_inj {H : Type} {x y : Int} (h : (DataW.lit (.int .i64 x) : DataW H) = .lit (.int .i64 y)) : x = y := by simpa using h
theorem hkey_of {a b : List Int} (wa : WfL a) (wb : WfL b) (k : Nat) : keyOf Try.prog 43 (.agg #[.int .i64 (num a k), .int .i64 (num b k)]) = some (kl (num a k) (num b k)) := key_mk (wa k) (wb k)

theorem wf_cnt {n : Nat} (h : n ≤ 256) : Wf (n : Int) := by
  exact WalkArith.wf_i64 (by omega)
/-- the row, behind a store into the map -/
theorem row_past {w w3 : World} {B M k : Nat} {e : Nat → Nat → Bool} (hrow : w.ownsRow B 3 1 (.slice (some ⟨B, 0, none⟩) 256 256) 256 (partL e k)) (hg : w.grownBy w3 (some M)) (hM : B < M) (hk : k < 256) :
    w3.cell? ⟨B, k, none⟩ = some (.int .i64 0) ∧ w3.frozen? ⟨B, k, none⟩ = false ∧ w3.ownsRow B 3 1 (.slice (some ⟨B, 0, none⟩) 256 256) 256 (partL e k) := by
  have h3 : w3.ownsRow B 3 1 (.slice (some ⟨B, 0, none⟩) 256 256) 256 (partL e k) := hrow.kept hg (.inr (by simp [Value.ownBlock]; omega))
  exact ⟨by rw [h3.cellAt k (by omega)]; exact partL_at _ hk, h3.frozenAt k, h3⟩
theorem jend_old {w wr : World} {M k : Nat} {a b : List Int} {D : DataW Unit} {o : Obj} (hrow : wr.ownsRow w.heap.size 3 1 (.slice (some ⟨w.heap.size, 0, none⟩) 256 256) 256 (partL (eJ a b) k)) (hmap : wr.ownsMap Try.prog 43 (plainElem Try.prog 3) M k D) (_ : InD a b (k + 1) D) (hb : Below w.heap.size w wr) (hM : w.heap.size < M) (hk : k < 256) :
    ((wr.alloc o).setCell ⟨w.heap.size, k, none⟩ (.int .i64 (cls (eJ a b) k))).ownsRow w.heap.size 3 1 (.slice (some ⟨w.heap.size, 0, none⟩) 256 256) 256 (partL (eJ a b) (k + 1)) ∧
    ((wr.alloc o).setCell ⟨w.heap.size, k, none⟩ (.int .i64 (cls (eJ a b) k))).ownsMap Try.prog 43 (plainElem Try.prog 3) M (k + 1) D ∧
    Below w.heap.size w ((wr.alloc o).setCell ⟨w.heap.size, k, none⟩ (.int .i64 (cls (eJ a b) k))) := by
  refine ⟨?_, ((hmap.alloc o).setCell (by simp; omega) _).mono (Nat.le_succ _), (hb.alloc hb.size o).setCell (p := ⟨w.heap.size, k, none⟩) (Nat.le_refl _) _⟩
  rw [← partL_set _ hk]
  exact ((hrow.alloc o).stored k _).1
theorem jend_new {w wr w3 : World} {M k n : Nat} {a b : List Int} {D : DataW Unit} {o : Obj} (hc : cls (eJ a b) k = n) (hrow : w3.ownsRow w.heap.size 3 1 (.slice (some ⟨w.heap.size, 0, none⟩) 256 256) 256 (partL (eJ a b) k)) (hmap : w3.ownsMap Try.prog 43 (plainElem Try.prog 3) M (k + 1) D) (hg : (wr.alloc o).grownBy w3 (some M)) (hb : Below w.heap.size w wr) (hM : w.heap.size < M) (hk : k < 256) :
    (w3.setCell ⟨w.heap.size, k, none⟩ (.int .i64 n)).ownsRow w.heap.size 3 1 (.slice (some ⟨w.heap.size, 0, none⟩) 256 256) 256 (partL (eJ a b) (k + 1)) ∧
    (w3.setCell ⟨w.heap.size, k, none⟩ (.int .i64 n)).ownsMap Try.prog 43 (plainElem Try.prog 3) M (k + 1) D ∧
    Below w.heap.size w (w3.setCell ⟨w.heap.size, k, none⟩ (.int .i64 n)) := by
  subst hc
  have hsz := hb.size
  refine ⟨?_, hmap.setCell (by simp; omega) _, ((hb.alloc hsz o).grown hg (by simp; omega) fun j hj => by cases hj; omega).setCell (p := ⟨w.heap.size, k, none⟩) (Nat.le_refl _) _⟩
  rw [← partL_set _ hk]
  exact (hrow.stored k _).1

set_option maxRecDepth 100000 in
set_option maxHeartbeats 4000000 in
theorem join_any (va vb : Value) (a b : List Int) (w : World) (ha : IntsAt w va a) (hb : IntsAt w vb b) (wa : WfL a) (wb : WfL b) :
    Calls Try.prog 17 #[va, vb] w (Told (cnt (eJ a b) 256) (clsL (eJ a b) 256) w) := by
  obtain ⟨i0, hi, hz0, hz1, hz2⟩ := info_parts infoI
  have hna := Lib.hid (fun W (h : Below w.heap.size w W) i => at_any va a i W (ha.next h))
  have hnb := Lib.hid (fun W (h : Below w.heap.size w W) i => at_any vb b i W (hb.next h))
  clear ha hb
  have hmm := @run_makeMap Try.prog
  go_enter Try.func17, Try.ntmps17
  go_wp2_with (first
    | (at_make; refine wpList_make_full _ rfl _ _ 24 rfl w.heap.size 3 i0 (.int .i64 0) 1 Try.underlying24 hi hz0 hz1 .i64 .i64 256 256 256 rfl rfl (by omega) (by omega) (by omega) (by unfold maxLen; omega) (Nat.le_refl _) ?_; intro w1 hown1 hgrow1))
  rw [partL_start (eJ a b)] at hown1
  have hb1 : Below w.heap.size w w1 := (Below.refl _ _).grown hgrow1 (Nat.le_refl _) (fun k hk => by cases hk)
  have hM : w.heap.size < w1.heap.size := (hown1.lt _ rfl).2
  obtain ⟨M, hMe⟩ : ∃ M, M = w1.heap.size := ⟨_, rfl⟩
  have hst : JRel a b w M (.int .i64 0) (w1.alloc (.map #[] 0)) := ⟨0, .map [], by omega, rfl, hown1.alloc _, by rw [hMe]; exact World.ownsMap_made _ _ _ _, InD.start a b, hb1.alloc (by omega) _⟩
  rw [← hMe]
  have HST := Lib.hid hst
  have hM2 : w.heap.size < M := by omega
  clear hMe hst hown1 hgrow1
  go_loopw [14] (fun i wr => JRel a b w M i wr) (fun i _ => 256 - (intOf i).toNat)
  case atStart => exact HST.out
  case round =>
    obtain ⟨k, D, hk, rfl, hrow, hmap, hD, hbw⟩ := hrel
    have hsz := hbw.size
    have hk64 := hkey_of wa wb k
    by_cases hlt : k < 256
    · have h256 : (k : Int) < 256 := by omega
      have HROW := Lib.hid hrow
      have HD := Lib.hid hD
      have HBW := Lib.hid hbw
      have hMs := hmap.lt
      clear hrow hD
      cases hh : Maps.has D (kl (num a k) (num b k))
      · have hT := hmap.tidy law2
        obtain ⟨hD2, hcls⟩ := HD.out.new wa wb hT hh
        have hsize := HD.out.size
        have hwn : Wf ((cnt (eJ a b) k : Nat) : Int) := wf_cnt (by have := cnt_le (e := eJ a b) k; omega)
        have HC := Lib.hid hcls
        have HD2 := Lib.hid hD2
        clear hD2 hcls hT
        generalize cnt (eJ a b) k = n at *
        go_wp2_with (first
          | (go_at_call 20; (first | (with_reducible refine (hna.out _ HBW.out k).mono ?_) | (with_reducible refine (hnb.out _ HBW.out k).mono ?_)); rintro e wr ⟨rfl, rfl⟩)
          | (at_lookup; refine wpList_lookup_own_ok_int _ rfl _ _ 41 rfl 43 3 .i64 law2 Try.underlying41 Try.underlying3 (zeroI _) M k D rfl (hmap.alloc _) _ _ rfl hk64 ?_; intro c hat hwc; rw [hh]; clear hat hwc)
          | (at_len; refine wpList_len_own _ rfl _ 41 rfl 43 3 Try.underlying41 _ M k D rfl (hmap.alloc _) ?_; rw [hsize])
          | (at_mapUpdate; refine wpList_mapUpdate_own _ rfl _ _ _ 41 rfl 43 3 law2 Try.underlying41 _ M k D rfl (hmap.alloc _) (by unfold maxLen; omega) _ _ _ rfl rfl hk64 _ [] (plainElem_int Try.underlying3 hwn) ?_; intro w3 hown3 hgrow3; obtain ⟨cm, fz, hrow3⟩ := row_past (HROW.out.alloc _) hgrow3 hM2 hlt)
          | fail)
        have hend := jend_new (n := n) HC.out hrow3 hown3 hgrow3 HBW.out hM2 hlt
        have HE := Lib.hid hend
        clear hend
        go_roundw
        case rel => exact ⟨k + 1, _, by omega, by go_num, HE.out.1, HE.out.2.1, HD2.out, HE.out.2.2⟩
        case measure => simp [intOf]; omega
      · obtain ⟨hD2, hlk⟩ := HD.out.old wa wb hh
        have HD2 := Lib.hid hD2
        clear hD2
        have cm : (wr.alloc (.cells #[.int .i64 (num a k), .int .i64 (num b k)] 43)).cell? ⟨w.heap.size, k, none⟩ = some (.int .i64 0) := by rw [(HROW.out.alloc _).cellAt k (by omega)]; exact partL_at _ hlt
        have fz : (wr.alloc (.cells #[.int .i64 (num a k), .int .i64 (num b k)] 43)).frozen? ⟨w.heap.size, k, none⟩ = false := (HROW.out.alloc _).frozenAt k
        go_wp2_with (first
          | (go_at_call 20; (first | (with_reducible refine (hna.out _ HBW.out k).mono ?_) | (with_reducible refine (hnb.out _ HBW.out k).mono ?_)); rintro e wr ⟨rfl, rfl⟩)
          | (at_lookup; refine wpList_lookup_own_ok_int _ rfl _ _ 41 rfl 43 3 .i64 law2 Try.underlying41 Try.underlying3 (zeroI _) M k D rfl (hmap.alloc _) _ _ rfl hk64 ?_; intro c hat hwc; rw [hh]; obtain rfl : c = cls (eJ a b) k := (lit_inj (hat.symm.trans hlk)))
          | fail)
        have hend := jend_old (o := .cells #[.int .i64 (num a k), .int .i64 (num b k)] 43) HROW.out hmap HD2.out HBW.out (by omega) hlt
        have HE := Lib.hid hend
        clear hend
        go_roundw
        case rel => exact ⟨k + 1, D, by omega, by go_num, HE.out.1, HE.out.2.1, HD2.out, HE.out.2.2⟩
        case measure => simp [intOf]; omega
    · obtain rfl : k = 256 := by omega
      rw [partL_end] at hrow
      have hr : Row wr w.heap.size (.slice (some ⟨w.heap.size, 0, none⟩) 256 256) (clsL (eJ a b) 256) := by unfold Row; rw [clsL_len]; exact hrow
      have HR := Lib.hid hr
      have hsize := hD.size
      have HBW := Lib.hid hbw
      clear hrow hr hbw
      go_wp2_with (first
          | (at_len; refine wpList_len_own _ rfl _ 41 rfl 43 3 Try.underlying41 _ M 256 D rfl hmap ?_; rw [hsize])
          | fail)
      go_ret2
      exact ⟨_, rfl, ints_of_row HR.out, HBW.out⟩

end Go.Proofs.Ytchfpokhngbpmaa.Ab

/- The first law: calls one after the other. -/
import Derived.Test.YtcjpelmcofeknaaDoorBtPFacts
import Derived.Deep.RegionHeld3
namespace Go.Proofs.YtcjpelmcofeknaaDoor.Bt
open Go Go.RowKit Go.Proofs.YtcjpelmcofeknaaDoor.Ut

/-- a call: its kind, its number, its row -/
structure PA where
  k : Int
  n : Int
  v : Value
  l : List Int
/-- calls in memory -/
def ActsAt (w : World) (v : Value) (acts : List PA) : Prop :=
  (v = .slice none 0 0 ∧ acts = []) ∨ ∃ (a : Addr) (cap : Nat), v = .slice (some a) acts.length cap ∧ acts.length ≤ maxLen ∧ ∀ i (h : i < acts.length), w.cell? (a.add (i * 3)) = some (.int .i64 acts[i].k) ∧ w.cell? ⟨(a.add (i * 3)).block, (a.add (i * 3)).off + 1, none⟩ = some (.int .i64 acts[i].n) ∧ w.cell? ⟨(a.add (i * 3)).block, (a.add (i * 3)).off + 2, none⟩ = some acts[i].v ∧ IntsAt w acts[i].v acts[i].l
theorem ActsAt.next {w w' : World} {v : Value} {acts : List PA} (h : ActsAt w v acts) (hb : Below w.heap.size w w') : ActsAt w' v acts := by
  rcases h with h | ⟨a, cap, hv, hm, hc⟩
  · exact .inl h
  · exact .inr ⟨a, cap, hv, hm, fun i hi => by
      obtain ⟨h1, h2, h3, h4⟩ := hc i hi
      exact ⟨cell_next h1 hb, cell_next h2 hb, cell_next h3 hb, h4.next hb⟩⟩
theorem ActsAt.shape {w : World} {v : Value} {acts : List PA} (h : ActsAt w v acts) : ∃ (ao : Option Addr) (cap : Nat), v = .slice ao acts.length cap ∧ acts.length ≤ 9223372036854775807 ∧ ∀ i (h : i < acts.length), ∃ a, ao = some a ∧ w.cell? (a.add (i * 3)) = some (.int .i64 acts[i].k) ∧ w.cell? ⟨(a.add (i * 3)).block, (a.add (i * 3)).off + 1, none⟩ = some (.int .i64 acts[i].n) ∧ w.cell? ⟨(a.add (i * 3)).block, (a.add (i * 3)).off + 2, none⟩ = some acts[i].v ∧ IntsAt w acts[i].v acts[i].l := by
  rcases h with ⟨rfl, rfl⟩ | ⟨a, cap, hv, hm, hc⟩
  · exact ⟨none, 0, rfl, by simp, fun i hi => by simp at hi⟩
  · exact ⟨some a, cap, hv, by unfold maxLen at hm; omega, fun i hi => ⟨a, rfl, hc i hi⟩⟩

/-- rows of other elements lie apart -/
theorem rows_apart {w : World} {B1 B2 s1 s2 n1 n2 : Nat} {e1 e2 : TypeId} {v1 v2 : Value} {x1 x2 : List Value} (h : w.ownsRow B1 e1 s1 v1 n1 x1) (k : w.ownsRow B2 e2 s2 v2 n2 x2) (hne : e1 ≠ e2) : v1.ownBlock = none ∨ v1.ownBlock ≠ v2.ownBlock := by
  rcases h.2 with ⟨rfl, _⟩ | ⟨g, cap, cur, rfl, _, hg, _⟩
  · exact .inl (by simp [Value.ownBlock])
  · refine .inr fun e => ?_
    rcases k.2 with ⟨rfl, _⟩ | ⟨g2, cap2, cur2, rfl, _, hg2, _⟩
    · simp [Value.ownBlock] at e
    · have : g = g2 := by simpa [Value.ownBlock] using e
      subst this
      rw [hg] at hg2
      simp only [Option.some.injEq, Obj.cells.injEq] at hg2
      exact hne hg2.2.1

theorem ints_cells {w : World} {io : Option Addr} {n ic : Nat} {l : List Int} (h : IntsAt w (.slice io n ic) l) : ∀ i, i < l.length → ∃ ad, io = some ad ∧ w.cell? (ad.add i) = some (.int .i64 (l.getD i 0)) := by
  obtain ⟨ao, cap, e, _, hc⟩ := h.shape
  cases e
  exact hc

/-- a call in a box -/
def BoxA (W : World) (b : Nat) (k n : Int) (v : Value) : Prop := W.heap[b]? = some (.cells #[.int .i64 k, .int .i64 n, v] 31 (0, 0))
theorem BoxA.lt {W : World} {b : Nat} {k n : Int} {v : Value} (h : BoxA W b k n v) : b < W.heap.size := (Array.getElem?_eq_some_iff.1 h).1
theorem BoxA.cells {W : World} {b : Nat} {k n : Int} {v : Value} (h : BoxA W b k n v) : W.cell? ⟨b, 0, none⟩ = some (.int .i64 k) ∧ W.cell? ⟨b, 1, none⟩ = some (.int .i64 n) ∧ W.cell? ⟨b, 2, none⟩ = some v := by simp [World.cell?, show W.heap[b]? = _ from h]
theorem BoxA.next {W W' : World} {b : Nat} {k n : Int} {v : Value} (h : BoxA W b k n v) (hb : Below W.heap.size W W') : BoxA W' b k n v := (hb.block b h.lt).trans h
theorem BoxA.kept {W W' : World} {row : Option Nat} {b : Nat} {k n : Int} {v : Value} (h : BoxA W b k n v) (hg : W.grownBy W' row) (hne : some b ≠ row) : BoxA W' b k n v := (hg.block b h.lt hne).trans h
theorem BoxA.not_row {W : World} {b B room : Nat} {k n : Int} {u v : Value} {L : List Nat} (h : BoxA W b k n u) (hs : SetAt W B room v L) : some b ≠ v.ownBlock := by
  rcases hs.row.2 with ⟨rfl, _⟩ | ⟨g, cap, cur, rfl, _, hg, _⟩
  · simp [Value.ownBlock]
  · intro e
    have : b = g := by simpa [Value.ownBlock] using e
    subst this
    rw [show W.heap[b]? = _ from h] at hg
    simp only [Option.some.injEq, Obj.cells.injEq] at hg
    exact absurd hg.2.1 (by decide)

/-- the set in its box, and the wanted row beside it -/
structure PI (w : World) (bs room : Nat) (v : Value) (L : List Nat) (x : Value) (W : World) : Prop where
  inn : SetIn w bs room v L W
  row : W.ownsRow w.heap.size 3 1 x (nums L).length (iV (nums L))
theorem PI.next {w W W' : World} {bs room : Nat} {v x : Value} {L : List Nat} (h : PI w bs room v L x W) (hb : Below W.heap.size W W') : PI w bs room v L x W' := ⟨h.inn.next hb, row_next h.row hb⟩

set_option maxRecDepth 100000 in
set_option maxHeartbeats 8000000 in
theorem plays_any (rm ask : Int) (lv : Value) (acts : List PA) (w : World) (hT : Tab w) (hl : ActsAt w lv acts) :
    Calls Tryd.prog 3 #[.int .i64 rm, lv, .int .i64 ask] w fun e w' => e = .returned (.bool true) ∧ Below w.heap.size w w' := by
  have AL := Lib.hid (fun W (hW : Below w.heap.size w W) => alive_any W (hT.next hW))
  obtain ⟨ao, cap, rfl, hm, hc⟩ := hl.shape
  have HC := Lib.hid hc
  have HT := Lib.hid hT
  clear hT hl hc
  by_cases h60 : 60 < acts.length
  · have h1 : (60 : Int) < (acts.length : Int) := by omega
    go_enter Tryd.func3, Tryd.ntmps3
    go_wp2_with (go_at_call 6; (with_reducible refine (AL.out _ (Below.refl _ _)).mono ?_); rintro e w' ⟨rfl, hb⟩)
    go_ret
    exact ⟨rfl, hb⟩
  have h1 : ¬ (60 : Int) < (acts.length : Int) := by omega
  have N := Lib.hid (new_any rm w)
  have RR := Lib.hid (fun W => rroom_any rm W)
  rw [roomI_F] at RR
  have hrm := room_le rm
  generalize roomF rm = room at *
  go_enter Tryd.func3, Tryd.ntmps3
  go_wp2_with (first
    | (go_at_call 7; (with_reducible refine N.out.mono ?_); rintro e w1 ⟨v, rfl, hs, hb⟩; obtain ⟨bo, bn, bc, rfl⟩ := hs.val; unfold setV;
        have P0 := Lib.hid (PI.mk (x := .slice none 0 0) (SetIn.made hb hs) (by
          have : nums (List.replicate ((room + 63) / 64) 0) = [] := (nums_is (by simp) fun n => by simp [hasI, zeros_mem]).symm
          rw [this]; exact World.ownsRow_nil _ _ _ _));
        clear hs hb)
    | (go_at_call 8; (with_reducible refine (RR.out _).mono ?_); rintro e w2 ⟨rfl, hw⟩; subst hw))
  go_loopw [8, 28] (fun x i wr => ∃ (k : Nat) (L : List Nat), k ≤ acts.length ∧ i = .int .i64 k ∧ (nums L).length ≤ 31 * k ∧ PI w w1.heap.size room (.slice bo bn bc) L x wr) (fun _ i _ => acts.length - (intOf i).toNat)
  case atStart => exact ⟨0, _, by omega, rfl, by
    have : nums (List.replicate ((room + 63) / 64) 0) = [] := (nums_is (by simp) fun n => by simp [hasI, zeros_mem]).symm
    rw [this]; simp, P0.out⟩
  case round =>
    obtain ⟨k, L, hk, rfl, hlen, hp⟩ := hrel
    by_cases hlt : k < acts.length
    · obtain ⟨a, rfl, c0, c1, c2, hi⟩ := HC.out k hlt
      have hbw := hp.inn.below
      have x0 := cell_next c0 hbw
      have x1 := cell_next c1 hbw
      have x2 := cell_next c2 hbw
      have hir := hi.next hbw
      clear c0 c1 c2
      generalize acts[k] = pa at *
      obtain ⟨kd, n, av, al⟩ := pa
      simp only at x0 x1 x2 hir hi
      obtain ⟨io, ic, rfl, him, hic⟩ := hir.shape
      have HI := Lib.hid hi
      obtain ⟨a1, c1, rfl⟩ := own_slice hp.row
      obtain ⟨ln, hln⟩ : ∃ ln, (nums L).length = ln := ⟨_, rfl⟩
      have hpn := hp.next ((Below.refl wr.heap.size wr).alloc (Nat.le_refl _) (.cells #[.int .i64 kd, .int .i64 n, .slice io al.length ic] 31))
      have hbA : BoxA (wr.alloc (.cells #[.int .i64 kd, .int .i64 n, .slice io al.length ic] 31)) wr.heap.size kd n (.slice io al.length ic) := World.alloc_heap_new wr _
      have HP := Lib.hid hpn
      have HA := Lib.hid hbA
      have HLN := Lib.hid hln
      clear hp hpn hbA hir hic hbw hi
      rw [hln] at hlen ⊢
      clear hln
      by_cases h30 : 30 < al.length
      · have h2 : (30 : Int) < (al.length : Int) := by omega
        go_wp2_with (go_at_call 6; (with_reducible refine (AL.out _ HP.out.inn.below).mono ?_); rintro e w' ⟨rfl, hb⟩)
        go_ret
        exact ⟨rfl, HP.out.inn.below.trans (hb.mono HP.out.inn.below.size)⟩
      · have h2 : ¬ (30 : Int) < (al.length : Int) := by omega
        by_cases hk0 : kd = 0
        · subst hk0
          go_wp2
          generalize wr.alloc (.cells #[.int .i64 0, .int .i64 n, .slice io al.length ic] 31) = W1 at *
          generalize wr.heap.size = A at *
          have hln := HLN.out
          have PW := HP.out
          have BW := HA.out
          have BC := Lib.hid BW.cells
          have SC := Lib.hid PW.inn.box.cells
          obtain ⟨F, hF⟩ : ∃ F, F = addF (nums L) n (room : Int) := ⟨_, rfl⟩
          obtain ⟨nx, hnx⟩ : ∃ nx, nx = F.length := ⟨_, rfl⟩
          have hnl : nx ≤ 31 * (k + 1) := by rw [hnx, hF]; have := (addF_len (l := nums L) (n := n) (room := room)).1; omega
          have hok := ok_add room L n
          rw [← hF, ← hnx, hln] at hok
          obtain ⟨ob, hob⟩ : ∃ ob, ob = decide (nx ≠ ln) := ⟨_, rfl⟩
          rw [← hob] at hok
          have HOB := Lib.hid hob
          clear hob
          have RA := Lib.hid (show Calls Tryd.prog 9 #[.slice a1 ln c1, .int .i64 n, .int .i64 (room : Nat)] W1.drew (fun e W' => ∃ a2 c2, e = .returned (.slice a2 nx c2) ∧ W'.ownsRow w.heap.size 3 1 (.slice a2 nx c2) nx (iV F) ∧ Below W1.drew.heap.size W1.drew W' ∧ W'.cell? ⟨A, 1, none⟩ = some (.int .i64 n) ∧ W'.cell? ⟨w1.heap.size, 0, none⟩ = some (.int .i64 (room : Nat)) ∧ W'.cell? ⟨w1.heap.size, 1, none⟩ = some (.slice bo bn bc)) from by
            have PD := PW.next ((Below.refl _ _).drew)
            have hrow := PD.row
            have base := radd_any (.slice a1 (nums L).length c1) (nums L) n (room : Int) w.heap.size W1.drew PD.inn.below.size (by omega) hrow
            rw [hln] at base
            refine base.mono ?_
            rintro e W' ⟨v', rfl, ho, hb⟩
            rw [← hF, ← hnx] at ho
            obtain ⟨a2, c2, rfl⟩ := own_slice ho
            obtain ⟨_, q1, _⟩ := ((BW.next ((Below.refl _ _).drew)).next hb).cells
            obtain ⟨q2, q3⟩ := (PD.inn.next hb).box.cells
            exact ⟨a2, c2, rfl, by rw [hnx]; rw [← hnx]; exact ho, hb, q1, q2, q3⟩)
          have SA := Lib.hid (fun (W : World) (hW : Below W1.drew.heap.size W1.drew W) (x' : Value) (hx' : W.ownsRow w.heap.size 3 1 x' nx (iV F)) => show Calls Tryd.prog 10 #[.agg #[.int .i64 (room : Nat), .slice bo bn bc], .int .i64 n] W (fun e W' => ∃ L', e = .returned (.bool ob) ∧ PI w w1.heap.size room (.slice bo bn bc) L' x' W' ∧ (nums L').length ≤ 31 * (k + 1) ∧ W'.cell? ⟨A, 1, none⟩ = some (.int .i64 n) ∧ W'.cell? ⟨w1.heap.size, 0, none⟩ = some (.int .i64 (room : Nat)) ∧ W'.cell? ⟨w1.heap.size, 1, none⟩ = some (.slice bo bn bc)) from by
            have E := PW.inn.next (((Below.refl _ _).drew).trans (hW.mono ((Below.refl W1.heap.size W1).drew).size))
            have BE := BW.next (((Below.refl _ _).drew).trans (hW.mono ((Below.refl W1.heap.size W1).drew).size))
            have base := add_val (n := n) ob E hok
            refine base.mono ?_
            rintro e W' ⟨L', rfl, h1, h2, h3⟩
            have hn : F = nums L' := by rw [hF]; exact next_add h2
            have hk' := hx'.kept h3 (rows_apart hx' E.set.row (by decide))
            rw [hnx, hn] at hk'
            obtain ⟨_, q1, _⟩ := (BE.kept h3 (BE.not_row E.set)).cells
            obtain ⟨q2, q3⟩ := h1.box.cells
            exact ⟨L', rfl, ⟨h1, hk'⟩, by rw [← hn, ← hnx]; exact hnl, q1, q2, q3⟩)
          clear hok
          clear PW BW hF hnx
          obtain ⟨b0, b1, b2⟩ := BC.out
          obtain ⟨d0, d1⟩ := SC.out
          go_region_held3 (fun W => W.cell? ⟨A, 1, none⟩ = some (.int .i64 n) ∧ W.cell? ⟨w1.heap.size, 0, none⟩ = some (.int .i64 (room : Nat)) ∧ W.cell? ⟨w1.heap.size, 1, none⟩ = some (.slice bo bn bc)) (first | assumption | exact ⟨b1, d0, d1⟩ | go_keep)
            (first
              | (go_at_call 9; (with_reducible refine RA.out.mono ?_); rintro e w2 ⟨a2, c2, rfl, ho2, hb2, hS2⟩; have HO2 := Lib.hid ho2; have HB2 := Lib.hid hb2; clear ho2 hb2)
              | (go_at_call 10; (with_reducible refine (SA.out _ HB2.out _ HO2.out).mono ?_); rintro e w3 ⟨L', rfl, hp3, hl3, hS3⟩; have HP3 := Lib.hid (And.intro hp3 hl3); clear hp3 hl3))
          by_cases hq : nx = ln
          · obtain rfl : ob = false := by rw [HOB.out]; simp [hq]
            clear HOB
            obtain rfl : nx = ln := hq
            go_wp2
            go_roundw
            case rel => exact ⟨k + 1, L', by omega, by go_num, HP3.out.2, HP3.out.1⟩
            case measure => simp [intOf]; omega
          · obtain rfl : ob = true := by rw [HOB.out]; simp [hq]
            clear HOB
            have e1 : ((nx : Int) != (ln : Int)) = true := by simp; omega
            go_wp2
            go_roundw
            case rel => exact ⟨k + 1, L', by omega, by go_num, HP3.out.2, HP3.out.1⟩
            case measure => simp [intOf]; omega
        · by_cases hk1 : kd = 1
          · subst hk1
            go_wp2
            generalize wr.alloc (.cells #[.int .i64 1, .int .i64 n, .slice io al.length ic] 31) = W1 at *
            generalize wr.heap.size = A at *
            have hln := HLN.out
            have PW := HP.out
            have BW := HA.out
            have BC := Lib.hid BW.cells
            have SC := Lib.hid PW.inn.box.cells
            obtain ⟨F, hF⟩ : ∃ F, F = (nums L).filter (fun x => decide (x ≠ n)) := ⟨_, rfl⟩
            obtain ⟨nx, hnx⟩ : ∃ nx, nx = F.length := ⟨_, rfl⟩
            have hnl : nx ≤ 31 * (k + 1) := by rw [hnx, hF]; have := List.length_filter_le (fun x => decide (x ≠ n)) (nums L); omega
            have hok := ok_drop L n
            rw [← hF, ← hnx, hln] at hok
            obtain ⟨ob, hob⟩ : ∃ ob, ob = decide (nx ≠ ln) := ⟨_, rfl⟩
            rw [← hob] at hok
            have HOB := Lib.hid hob
            clear hob
            have RA := Lib.hid (show Calls Tryd.prog 11 #[.slice a1 ln c1, .int .i64 n] W1.drew (fun e W' => ∃ a2 c2, e = .returned (.slice a2 nx c2) ∧ W'.ownsRow w.heap.size 3 1 (.slice a2 nx c2) nx (iV F) ∧ Below W1.drew.heap.size W1.drew W' ∧ W'.cell? ⟨A, 1, none⟩ = some (.int .i64 n) ∧ W'.cell? ⟨w1.heap.size, 0, none⟩ = some (.int .i64 (room : Nat)) ∧ W'.cell? ⟨w1.heap.size, 1, none⟩ = some (.slice bo bn bc)) from by
              have PD := PW.next ((Below.refl _ _).drew)
              have hrow := PD.row
              have base := rdrop_any (.slice a1 (nums L).length c1) (nums L) n w.heap.size W1.drew PD.inn.below.size (by omega) (ints_of_row hrow)
              rw [hln] at base
              refine base.mono ?_
              rintro e W' ⟨v', rfl, ho, hb⟩
              rw [← hF, ← hnx] at ho
              obtain ⟨a2, c2, rfl⟩ := own_slice ho
              obtain ⟨_, q1, _⟩ := ((BW.next ((Below.refl _ _).drew)).next hb).cells
              obtain ⟨q2, q3⟩ := (PD.inn.next hb).box.cells
              exact ⟨a2, c2, rfl, by rw [hnx]; rw [← hnx]; exact ho, hb, q1, q2, q3⟩)
            have SA := Lib.hid (fun (W : World) (hW : Below W1.drew.heap.size W1.drew W) (x' : Value) (hx' : W.ownsRow w.heap.size 3 1 x' nx (iV F)) => show Calls Tryd.prog 12 #[.agg #[.int .i64 (room : Nat), .slice bo bn bc], .int .i64 n] W (fun e W' => ∃ L', e = .returned (.bool ob) ∧ PI w w1.heap.size room (.slice bo bn bc) L' x' W' ∧ (nums L').length ≤ 31 * (k + 1) ∧ W'.cell? ⟨A, 1, none⟩ = some (.int .i64 n) ∧ W'.cell? ⟨w1.heap.size, 0, none⟩ = some (.int .i64 (room : Nat)) ∧ W'.cell? ⟨w1.heap.size, 1, none⟩ = some (.slice bo bn bc)) from by
              have E := PW.inn.next (((Below.refl _ _).drew).trans (hW.mono ((Below.refl W1.heap.size W1).drew).size))
              have BE := BW.next (((Below.refl _ _).drew).trans (hW.mono ((Below.refl W1.heap.size W1).drew).size))
              have base := drop_val (n := n) ob E hok
              refine base.mono ?_
              rintro e W' ⟨L', rfl, h1, h2, h3⟩
              have hn : F = nums L' := by rw [hF]; exact next_drop h2
              have hk' := hx'.kept h3 (rows_apart hx' E.set.row (by decide))
              rw [hnx, hn] at hk'
              obtain ⟨_, q1, _⟩ := (BE.kept h3 (BE.not_row E.set)).cells
              obtain ⟨q2, q3⟩ := h1.box.cells
              exact ⟨L', rfl, ⟨h1, hk'⟩, by rw [← hn, ← hnx]; exact hnl, q1, q2, q3⟩)
            clear hok
            clear PW BW hF hnx
            obtain ⟨b0, b1, b2⟩ := BC.out
            obtain ⟨d0, d1⟩ := SC.out
            go_region_held3 (fun W => W.cell? ⟨A, 1, none⟩ = some (.int .i64 n) ∧ W.cell? ⟨w1.heap.size, 0, none⟩ = some (.int .i64 (room : Nat)) ∧ W.cell? ⟨w1.heap.size, 1, none⟩ = some (.slice bo bn bc)) (first | assumption | exact ⟨b1, d0, d1⟩ | go_keep)
              (first
                | (go_at_call 11; (with_reducible refine RA.out.mono ?_); rintro e w2 ⟨a2, c2, rfl, ho2, hb2, hS2⟩; have HO2 := Lib.hid ho2; have HB2 := Lib.hid hb2; clear ho2 hb2)
                | (go_at_call 12; (with_reducible refine (SA.out _ HB2.out _ HO2.out).mono ?_); rintro e w3 ⟨L', rfl, hp3, hl3, hS3⟩; have HP3 := Lib.hid (And.intro hp3 hl3); clear hp3 hl3))
            by_cases hq : nx = ln
            · obtain rfl : ob = false := by rw [HOB.out]; simp [hq]
              clear HOB
              obtain rfl : nx = ln := hq
              go_wp2
              go_roundw
              case rel => exact ⟨k + 1, L', by omega, by go_num, HP3.out.2, HP3.out.1⟩
              case measure => simp [intOf]; omega
            · obtain rfl : ob = true := by rw [HOB.out]; simp [hq]
              clear HOB
              have e1 : ((nx : Int) != (ln : Int)) = true := by simp; omega
              go_wp2
              go_roundw
              case rel => exact ⟨k + 1, L', by omega, by go_num, HP3.out.2, HP3.out.1⟩
              case measure => simp [intOf]; omega
          · skip
            go_wp2
            generalize wr.alloc (.cells #[.int .i64 kd, .int .i64 n, .slice io al.length ic] 31) = W1 at *
            generalize wr.heap.size = A at *
            have hln := HLN.out
            have PW : PI w w1.heap.size room (.slice bo bn bc) L (.slice a1 ln c1) W1 := by have h := HP.out; rw [hln] at h; exact h
            have RR1 := Lib.hid (show ∃ (j : Nat) (G : List Int), j ≤ al.length ∧ Value.int .i64 0 = .int .i64 j ∧ G.length ≤ ln + j ∧ PI w w1.heap.size room (.slice bo bn bc) L (.slice a1 ln c1) W1 ∧ BoxA W1 A kd n (.slice io al.length ic) ∧ W1.ownsRow w.heap.size 3 1 (.slice a1 ln c1) G.length (iV G) from ⟨0, nums L, by omega, rfl, by omega, PW, HA.out, by have h := HP.out.row; rw [hln] at h ⊢; exact h⟩)
            clear PW HP HA
            go_loopw [12, 43] (fun x i W => ∃ (j : Nat) (G : List Int), j ≤ al.length ∧ i = .int .i64 j ∧ G.length ≤ ln + j ∧ PI w w1.heap.size room (.slice bo bn bc) L (.slice a1 ln c1) W ∧ BoxA W A kd n (.slice io al.length ic) ∧ W.ownsRow w.heap.size 3 1 x G.length (iV G)) (fun _ i _ => al.length - (intOf i).toNat)
            case atStart => exact RR1.out
            case round =>
              clear RR1
              obtain ⟨j, G, hj, rfl, hG, hp, ha, hg⟩ := hrel
              by_cases hjl : j < al.length
              · obtain ⟨g, rfl, y0⟩ := ints_cells HI.out j hjl
                have y1 := cell_next y0 hp.inn.below
                clear y0
                generalize al.getD j 0 = c at *
                obtain ⟨a2, c2, rfl⟩ := own_slice hg
                have RA := Lib.hid (radd_any _ G c (room : Int) w.heap.size wr hp.inn.below.size (by omega) hg)
                have HPP := Lib.hid hp
                have HAA := Lib.hid ha
                clear hp ha hg
                generalize hgl : G.length = gl at *
                have HGL := Lib.hid hgl
                clear hgl
                go_wp2_with (go_at_call 9; (with_reducible refine RA.out.mono ?_); rintro e w2 ⟨v', rfl, ho, hb⟩; obtain ⟨a3, c3, rfl⟩ := own_slice ho)
                go_roundw
                case rel => exact ⟨j + 1, _, by omega, by go_num, by have := (addF_len (l := G) (n := c) (room := room)).1; have := HGL.out; omega, HPP.out.next hb, HAA.out.next hb, ho⟩
                case measure => simp [intOf]; omega
              · obtain rfl : j = al.length := by omega
                obtain ⟨a2, c2, rfl⟩ := own_slice hg
                have hsd := hp.inn.below.size
                have hBd : Below w.heap.size w wr.drew := hp.inn.below.drew
                have hPd := hp.next ((Below.refl wr.heap.size wr).drew)
                have hAd := ha.next ((Below.refl wr.heap.size wr).drew)
                clear hg hG
                obtain ⟨rt, hrt⟩ : ∃ rt : Nat, rt = roomF 1000 := ⟨_, rfl⟩
                have hrt2 : rt = 1000 := by rw [hrt]; decide
                have BC := Lib.hid ha.cells
                have SC := Lib.hid hp.inn.box.cells
                have OF := Lib.hid (show Calls Tryd.prog 14 #[.int .i64 1000, .slice io al.length ic] wr.drew (fun e W' => ∃ b2 n2 d2 L2, e = .returned (.agg #[.int .i64 (rt : Nat), .slice b2 n2 d2]) ∧ SetAt W' wr.drew.heap.size rt (.slice b2 n2 d2) L2 ∧ (∀ m, memL L2 m = ofB 1000 al m) ∧ Below wr.drew.heap.size wr.drew W' ∧ W'.cell? ⟨A, 2, none⟩ = some (.slice io al.length ic) ∧ W'.cell? ⟨w1.heap.size, 0, none⟩ = some (.int .i64 (room : Nat)) ∧ W'.cell? ⟨w1.heap.size, 1, none⟩ = some (.slice bo bn bc)) from by
                  have base := of_any 1000 _ al wr.drew (HI.out.next hBd)
                  rw [← hrt] at base
                  refine base.mono ?_
                  rintro e W' ⟨v', L2, rfl, hs, hm2, hb⟩
                  obtain ⟨b2, n2, d2, rfl⟩ := hs.val
                  obtain ⟨_, _, q1⟩ := (hAd.next hb).cells
                  obtain ⟨q2, q3⟩ := (hPd.inn.next hb).box.cells
                  exact ⟨b2, n2, d2, L2, rfl, hs, by rw [hrt2] at hm2; exact hm2, hb, q1, q2, q3⟩)
                have JO := Lib.hid (fun (W : World) (hW : Below wr.drew.heap.size wr.drew W) (b2 : Option Addr) (n2 d2 : Nat) (L2 : List Nat) (hs2 : SetAt W wr.drew.heap.size rt (.slice b2 n2 d2) L2) => show Calls Tryd.prog 13 #[.agg #[.int .i64 (room : Nat), .slice bo bn bc], .agg #[.int .i64 (rt : Nat), .slice b2 n2 d2]] W (fun e W' => ∃ L' ob, e = .returned (.bool ob) ∧ SetIn w w1.heap.size room (.slice bo bn bc) L' W' ∧ Joined room L L' (fromL 0 L2) ob ∧ W'.ownsRow w.heap.size 3 1 (.slice a1 ln c1) ln (iV (nums L)) ∧ W'.cell? ⟨A, 2, none⟩ = some (.slice io al.length ic) ∧ W'.cell? ⟨w1.heap.size, 0, none⟩ = some (.int .i64 (room : Nat)) ∧ W'.cell? ⟨w1.heap.size, 1, none⟩ = some (.slice bo bn bc)) from by
                  have E := hPd.next hW
                  have BE := hAd.next hW
                  have hne : (Value.slice b2 n2 d2).ownBlock = none ∨ (Value.slice b2 n2 d2).ownBlock ≠ (Value.slice bo bn bc).ownBlock := by
                    by_cases h0 : (Value.slice b2 n2 d2).ownBlock = none
                    · exact .inl h0
                    · refine .inr fun e => ?_
                      obtain ⟨q, hq⟩ := Option.ne_none_iff_exists'.1 h0
                      have h1 := (hs2.row.lt q hq).1
                      rw [hq] at e
                      have h2 := (hPd.inn.set.row.lt q e.symm).2
                      omega
                  have base := join_any w.heap.size room wr.drew.heap.size rt _ _ L L2 W E.inn.set hs2 hne
                  refine base.mono ?_
                  rintro e W' ⟨L', ob, rfl, h1, h2, h3⟩
                  have E2 := E.inn.turn h1 h3
                  have hrow := E.row
                  rw [hln] at hrow
                  have hk' := hrow.kept h3 (rows_apart hrow E.inn.set.row (by decide))
                  obtain ⟨_, _, q1⟩ := (BE.kept h3 (BE.not_row E.inn.set)).cells
                  obtain ⟨q2, q3⟩ := E2.box.cells
                  exact ⟨L', ob, rfl, E2, h2, hk', q1, q2, q3⟩)
                clear hp ha hPd hAd hBd hsd hrt hrt2
                obtain ⟨b0, b1, b2⟩ := BC.out
                obtain ⟨d0, d1⟩ := SC.out
                go_wp2
                go_region_held3 (fun W => W.cell? ⟨A, 2, none⟩ = some (.slice io al.length ic) ∧ W.cell? ⟨w1.heap.size, 0, none⟩ = some (.int .i64 (room : Nat)) ∧ W.cell? ⟨w1.heap.size, 1, none⟩ = some (.slice bo bn bc)) (first | assumption | exact ⟨b2, d0, d1⟩ | go_keep)
                  (first
                    | (go_at_call 14; (with_reducible refine OF.out.mono ?_); rintro e w2 ⟨t2, n2, d2, L2, rfl, hs2, hm2, hb2, hS2⟩; have HS2 := Lib.hid hs2; have HM2 := Lib.hid hm2; have HB2 := Lib.hid hb2; clear hs2 hm2 hb2)
                    | (go_at_call 13; (with_reducible refine (JO.out _ HB2.out _ _ _ _ HS2.out).mono ?_); rintro e w3 ⟨L', ob, rfl, hp3, hj3, hk3, hS3⟩; have HP3 := Lib.hid hp3; have HJ3 := Lib.hid hj3; have HK3 := Lib.hid hk3; clear hp3 hj3 hk3))
                obtain ⟨g0, g1, g2⟩ := hS3
                go_wp2
                have HN3 := Lib.hid (next_join HJ3.out HM2.out)
                have HO3 := Lib.hid (ok_join HJ3.out HM2.out)
                have RR2 := Lib.hid (show ∃ (j : Nat) (G : List Int), j ≤ al.length ∧ Value.int .i64 0 = .int .i64 j ∧ G = joinF (al.take j) room (nums L) ∧ SetIn w w1.heap.size room (.slice bo bn bc) L' w3 ∧ w3.ownsRow w.heap.size 3 1 (.slice a1 ln c1) G.length (iV G) from ⟨0, nums L, by omega, rfl, by simp [joinF], HP3.out, by have h := HK3.out; rw [hln]; exact h⟩)
                clear OF JO HP3 HK3 HJ3 HM2 HS2 HB2
                go_loopw [12, 61] (fun x i W => ∃ (j : Nat) (G : List Int), j ≤ al.length ∧ i = .int .i64 j ∧ G = joinF (al.take j) room (nums L) ∧ SetIn w w1.heap.size room (.slice bo bn bc) L' W ∧ W.ownsRow w.heap.size 3 1 x G.length (iV G)) (fun _ i _ => al.length - (intOf i).toNat)
                case atStart => exact RR2.out
                case round =>
                  clear RR2
                  obtain ⟨j, G, hj, rfl, hG, hp, hg⟩ := hrel
                  have hgl2 : G.length ≤ 31 * k + 30 := by
                    rw [hG]
                    have := joinF_len (room : Int) (al.take j) (nums L)
                    have := List.length_take_le j al
                    omega
                  by_cases hjl : j < al.length
                  · obtain ⟨g, rfl, y0⟩ := ints_cells HI.out j hjl
                    have y1 := cell_next y0 hp.below
                    clear y0
                    have hS := joinF_snoc al j (room : Int) (nums L) hjl
                    rw [← hG] at hS
                    clear hG
                    generalize al.getD j 0 = c at *
                    obtain ⟨a2, c2, rfl⟩ := own_slice hg
                    by_cases hc1 : c < 1000
                    · rw [if_pos hc1] at hS
                      have RA := Lib.hid (radd_any _ G c (room : Int) w.heap.size wr hp.below.size (by omega) hg)
                      have HSS := Lib.hid hS
                      have HPP := Lib.hid hp
                      clear hp hg hS
                      generalize hgl : G.length = gl at *
                      have HGL := Lib.hid hgl
                      clear hgl
                      go_wp2_with (go_at_call 9; (with_reducible refine RA.out.mono ?_); rintro e w2 ⟨v', rfl, ho, hb⟩; obtain ⟨a3, c3, rfl⟩ := own_slice ho)
                      go_roundw
                      case rel => exact ⟨j + 1, _, by omega, by go_num, HSS.out.symm, HPP.out.next hb, ho⟩
                      case measure => simp [intOf]; omega
                    · rw [if_neg hc1] at hS
                      have HSS := Lib.hid hS
                      have HPP := Lib.hid hp
                      have HGG := Lib.hid hg
                      clear hp hg hS
                      generalize hgl : G.length = gl at *
                      have HGL := Lib.hid hgl
                      clear hgl
                      go_wp2
                      go_roundw
                      case rel => exact ⟨j + 1, G, by omega, by go_num, HSS.out.symm, HPP.out, by rw [HGL.out]; exact HGG.out⟩
                      case measure => simp [intOf]; omega
                  · obtain rfl : j = al.length := by omega
                    rw [List.take_length] at hG
                    have hok := HO3.out
                    have hnx := HN3.out
                    rw [← hG] at hok hnx
                    obtain ⟨a2, c2, rfl⟩ := own_slice hg
                    obtain ⟨nx, hnl⟩ : ∃ nx, nx = G.length := ⟨_, rfl⟩
                    have h31 : nx ≤ 31 * (k + 1) := by omega
                    have hPI : PI w w1.heap.size room (.slice bo bn bc) L' (.slice a2 nx c2) wr := ⟨hp, by rw [← hnx, hnl]; exact hg⟩
                    have hl' : (nums L').length ≤ 31 * (k + 1) := by rw [← hnx]; omega
                    rw [← hnl] at hok ⊢
                    rw [hln] at hok
                    have HPP := Lib.hid (And.intro hPI hl')
                    clear hp hg hPI hnx hG hgl2 HN3 HO3 hl'
                    clear hnl
                    by_cases hq : nx = ln
                    · obtain rfl : ob = false := by rw [hok]; simp [hq]
                      clear hok
                      obtain rfl : nx = ln := hq
                      go_wp2
                      go_roundw
                      case rel => exact ⟨k + 1, L', by omega, by go_num, HPP.out.2, HPP.out.1⟩
                      case measure => simp [intOf]; omega
                    · obtain rfl : ob = true := by rw [hok]; simp [hq]
                      clear hok
                      have e1 : ((nx : Int) != (ln : Int)) = true := by simp; omega
                      go_wp2
                      go_roundw
                      case rel => exact ⟨k + 1, L', by omega, by go_num, HPP.out.2, HPP.out.1⟩
                      case measure => simp [intOf]; omega
    · obtain rfl : k = acts.length := by omega
      obtain ⟨a1, c1, rfl⟩ := own_slice hp.row
      obtain ⟨ln, hln⟩ : ∃ ln, (nums L).length = ln := ⟨_, rfl⟩
      have PW : PI w w1.heap.size room (.slice bo bn bc) L (.slice a1 ln c1) wr := by have h := hp; rw [hln] at h; exact h
      have hcnt : cntX (fromL 0 L) = ln := by rw [cnt_nums, hln]
      obtain ⟨hb, hhb⟩ : ∃ hb, hb = hasI L ask := ⟨_, rfl⟩
      have hdec : decide (ask ∈ nums L) = hb := by rw [hhb, Bool.eq_iff_iff, decide_eq_true_eq]; exact mem_nums L ask
      obtain ⟨x0, x1⟩ := PW.inn.box.cells
      have CAll := Lib.hid (fun (W : World) (h : PI w w1.heap.size room (.slice bo bn bc) L (.slice a1 ln c1) W) => show Calls Tryd.prog 16 #[.agg #[.int .i64 (room : Nat), .slice bo bn bc]] W (fun e W' => ∃ a2 c2, e = .returned (.slice a2 ln c2) ∧ IntsAt W' (.slice a2 ln c2) (nums L) ∧ PI w w1.heap.size room (.slice bo bn bc) L (.slice a1 ln c1) W' ∧ W'.cell? ⟨w1.heap.size, 0, none⟩ = some (.int .i64 (room : Nat)) ∧ W'.cell? ⟨w1.heap.size, 1, none⟩ = some (.slice bo bn bc)) from by
        refine (all_any w.heap.size room _ L W (HT.out.next h.inn.below) h.inn.set).mono ?_
        rintro e W' ⟨v', rfl, ho, hb⟩
        have hi := ints_of_row ho
        obtain ⟨a2, c2, rfl⟩ := own_slice ho
        obtain ⟨q0, q1⟩ := (h.next hb).inn.box.cells
        have e : (allX (fromL 0 L)).length = ln := hln
        rw [e] at hi ⊢
        exact ⟨a2, c2, rfl, hi, h.next hb, q0, q1⟩)
      have CSame := Lib.hid (fun (W : World) (a2 : Option Addr) (c2 : Nat) (hi : IntsAt W (.slice a2 ln c2) (nums L)) (h : PI w w1.heap.size room (.slice bo bn bc) L (.slice a1 ln c1) W) => show Calls Tryd.prog 15 #[.slice a2 ln c2, .slice a1 ln c1] W (fun e W' => e = .returned (.bool true) ∧ PI w w1.heap.size room (.slice bo bn bc) L (.slice a1 ln c1) W' ∧ W'.cell? ⟨w1.heap.size, 0, none⟩ = some (.int .i64 (room : Nat)) ∧ W'.cell? ⟨w1.heap.size, 1, none⟩ = some (.slice bo bn bc)) from by
        have hrow := h.row
        rw [hln] at hrow
        have base := same_any _ _ (nums L) (nums L) W hi (ints_of_row (by rw [hln]; exact hrow))
        rw [show decide (nums L = nums L) = true by simp] at base
        refine base.mono ?_
        rintro e W' ⟨rfl, hb⟩
        obtain ⟨q0, q1⟩ := (h.next hb).inn.box.cells
        exact ⟨rfl, h.next hb, q0, q1⟩)
      have CCount := Lib.hid (fun (W : World) (h : PI w w1.heap.size room (.slice bo bn bc) L (.slice a1 ln c1) W) => show Calls Tryd.prog 17 #[.agg #[.int .i64 (room : Nat), .slice bo bn bc]] W (fun e W' => e = .returned (.int .i64 (ln : Nat)) ∧ PI w w1.heap.size room (.slice bo bn bc) L (.slice a1 ln c1) W' ∧ W'.cell? ⟨w1.heap.size, 0, none⟩ = some (.int .i64 (room : Nat)) ∧ W'.cell? ⟨w1.heap.size, 1, none⟩ = some (.slice bo bn bc)) from by
        have base := count_any w.heap.size room _ L W h.inn.set
        rw [hcnt] at base
        refine base.mono ?_
        rintro e W' ⟨rfl, hb⟩
        obtain ⟨q0, q1⟩ := (h.next hb).inn.box.cells
        exact ⟨rfl, h.next hb, q0, q1⟩)
      have CHas := Lib.hid (fun (W : World) (h : PI w w1.heap.size room (.slice bo bn bc) L (.slice a1 ln c1) W) => show Calls Tryd.prog 18 #[.agg #[.int .i64 (room : Nat), .slice bo bn bc], .int .i64 ask] W (fun e W' => e = .returned (.bool hb) ∧ PI w w1.heap.size room (.slice bo bn bc) L (.slice a1 ln c1) W' ∧ W'.cell? ⟨w1.heap.size, 0, none⟩ = some (.int .i64 (room : Nat)) ∧ W'.cell? ⟨w1.heap.size, 1, none⟩ = some (.slice bo bn bc)) from by
        have base := has_any w.heap.size room _ L ask W h.inn.set
        rw [← hhb] at base
        refine base.mono ?_
        rintro e W' ⟨rfl, hb2⟩
        obtain ⟨q0, q1⟩ := (h.next hb2).inn.box.cells
        exact ⟨rfl, h.next hb2, q0, q1⟩)
      have CRHas := Lib.hid (fun (W : World) (h : PI w w1.heap.size room (.slice bo bn bc) L (.slice a1 ln c1) W) => show Calls Tryd.prog 19 #[.slice a1 ln c1, .int .i64 ask] W (fun e W' => e = .returned (.bool hb) ∧ W' = W) from by
        have hrow := h.row
        rw [hln] at hrow
        have base := rhas_any _ (nums L) ask W (ints_of_row (by rw [hln]; exact hrow))
        rw [hdec] at base
        exact base)
      have CRoom := Lib.hid (fun (W : World) (h : PI w w1.heap.size room (.slice bo bn bc) L (.slice a1 ln c1) W) => show Calls Tryd.prog 20 #[.agg #[.int .i64 (room : Nat), .slice bo bn bc]] W (fun e W' => e = .returned (.int .i64 (room : Nat)) ∧ PI w w1.heap.size room (.slice bo bn bc) L (.slice a1 ln c1) W' ∧ W'.cell? ⟨w1.heap.size, 0, none⟩ = some (.int .i64 (room : Nat)) ∧ W'.cell? ⟨w1.heap.size, 1, none⟩ = some (.slice bo bn bc)) from by
        have base := room_any room (.slice bo bn bc) W
        refine base.mono ?_
        rintro e W' ⟨rfl, hb⟩
        obtain ⟨q0, q1⟩ := (h.next hb).inn.box.cells
        exact ⟨rfl, h.next hb, q0, q1⟩)
      rw [hln]
      have P := Lib.hid PW
      clear PW hp hln hlen hhb hdec hcnt
      go_wp2_with (first
        | (go_at_call 16; (with_reducible refine (CAll.out _ P.out).mono ?_); rintro e w2 ⟨a2, c2, rfl, hi2, hp2, y0, y1⟩; have P2 := Lib.hid hp2; have I2 := Lib.hid hi2; clear hi2 hp2)
        | (go_at_call 15; (with_reducible refine (CSame.out _ _ _ I2.out P2.out).mono ?_); rintro e w3 ⟨rfl, hp3, z0, z1⟩; have P3 := Lib.hid hp3; clear hp3)
        | (go_at_call 17; (with_reducible refine (CCount.out _ P3.out).mono ?_); rintro e w4 ⟨rfl, hp4, u0, u1⟩; have P4 := Lib.hid hp4; clear hp4)
        | (go_at_call 18; (with_reducible refine (CHas.out _ P4.out).mono ?_); rintro e w5 ⟨rfl, hp5, v0, v1⟩; have P5 := Lib.hid hp5; clear hp5)
        | (go_at_call 19; (with_reducible refine (CRHas.out _ P5.out).mono ?_); rintro e w6 ⟨rfl, hw6⟩; subst hw6)
        | (go_at_call 20; (with_reducible refine (CRoom.out _ P5.out).mono ?_); rintro e w7 ⟨rfl, hp7, t0, t1⟩; have P7 := Lib.hid hp7; clear hp7)
        | (go_at_call 6; (with_reducible refine (AL.out _ P7.out.inn.below).mono ?_); rintro e w8 ⟨rfl, hb8⟩))
      go_ret
      exact ⟨rfl, P7.out.inn.below.trans (hb8.mono P7.out.inn.below.size)⟩

end Go.Proofs.YtcjpelmcofeknaaDoor.Bt

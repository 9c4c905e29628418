/- The document's Start, Step, Best. -/
import Derived.Test.YtfbphiamelongaaDoorClRClo
namespace Go.Proofs.YtfbphiamelongaaDoor.Cl
open Go Go.RowKit
open Go.Proofs.YtfbphiamelongaaDoor.Bt (grown_cell grown_trans grown_row)

set_option maxRecDepth 100000 in
set_option maxHeartbeats 4000000 in
theorem rstart_any (a : Int) (l : List St) (v : Value) (w : World) (h : NfaAt w v a l) (hr : rightB a l = true) (hn : l.length ≤ 100000) :
    Calls Tryd.prog 22 #[v] w fun e w' => MarksOut w l.length (startP a l) e w' := by
  obtain ⟨ha, hR⟩ := right_iff.1 hr
  have CLO := Lib.hid (fun W (hW : Below w.heap.size w W) B1 u L (hu : BolAt W B1 u L) (hL : L.length = l.length) => rclose_any a l v B1 u L W (h.next hW) hR hn hu hL)
  obtain ⟨sv, rfl, hs⟩ := h
  obtain ⟨ao, cap, rfl, hm, hst⟩ := hs.shape
  obtain ⟨s, rfl⟩ : ∃ s : Nat, a = (s : Int) := ⟨a.toNat, by omega⟩
  have b1 := (Below.refl w.heap.size w).alloc (Nat.le_refl _) (.cells #[.int .i64 (s : Int), .slice ao l.length cap] 24)
  have B1 := Lib.hid b1
  have X := Lib.hid (at_new w (.cells #[.int .i64 (s : Int), .slice ao l.length cap] 24))
  have PS : Hid (∀ out : List Bool, out = (List.replicate l.length false).set s true → ∀ i, Re nilF l (fun j => mq out j = true) i ↔ startP s l i) := Lib.hid (fun out e i => Re.congr (fun j _ => by
    rw [e, mk_set (by rw [List.length_replicate]; omega), mk_none, Bool.or_false, decide_eq_true_eq]
    omega))
  clear hs hst b1 hr hR
  unfold nfaV at *
  generalize startP (s : Int) l = P at *
  go_enter Tryd.func22, Tryd.ntmps22
  go_upto_region 1 with fail
  generalize w.alloc (.cells #[.int .i64 (s : Int), .slice ao l.length cap] 24) = W1 at *
  have c0 := at_cell X.out 0
  have c1 := at_cell X.out 1
  have hl := cell_lt c0
  obtain ⟨w2, m1, m2, m3⟩ := make_marks l.length hn W1.heap.size W1 (Nat.le_refl _)
  have hwB := B1.out.size
  have C2 := Lib.hid (show CR w (s : Int) (.slice ao l.length cap) W1.heap.size _ (List.replicate l.length false) w2 from ⟨at_kept X.out m3 (.inl rfl), m2, B1.out.grown m3 B1.out.size (fun j e => by cases e)⟩)
  generalize hg : W1.heap.size = g at *
  clear hg m2 m3
  obtain ⟨g2, eg, cx, fx⟩ := C2.out.cells (by simp) s (by omega)
  obtain rfl : g = g2 := by simpa using eg
  rw [mk_none] at cx
  have hgl := cell_lt cx
  have S3 := Lib.hid (C2.out.store (by simp) hwB s)
  have M1 := Lib.hid m1
  have d0 := at_cell C2.out.1 0
  have d1 := at_cell C2.out.1 1
  have hl2 := cell_lt d0
  clear m1 eg
  have h0s : (0 : Int) ≤ s := by omega
  have h1s : (s : Int) < (l.length : Int) := ha.2
  have HO : Hid (((List.replicate l.length false).set s true).length = l.length) := Lib.hid (by simp)
  have PS2 := Lib.hid (PS.out _ rfl)
  clear PS
  generalize (List.replicate l.length false).set s true = out at *
  go_wp2
  rw [M1.out]
  clear c0 c1 hl
  go_upto_region 3 with fail
  have e0 := at_cell S3.out.1 0
  have e1 := at_cell S3.out.1 1
  generalize w2.setCell ⟨g, s, none⟩ (.bool true) = W3 at *
  have hl3 := cell_lt e0
  go_wp2_with (go_at_call 16; (refine (CLO.out W3 S3.out.2.2 g _ out S3.out.2.1 HO.out).mono ?_); rintro e w4 ⟨v4, out4, rfl, h1, h2, h3, h4⟩; obtain ⟨vo, vc, rfl, _, _⟩ := h1.shape; go_must (have H4 := Lib.hid (And.intro h1 (And.intro h2 (And.intro h3 h4))); clear h1 h2 h3 h4))
  go_ret
  obtain ⟨h1, h2, h3, h4⟩ := H4.out
  exact ⟨_, out4, rfl, h1.base S3.out.2.2.size, h2, fun i => by rw [h3, PS2.out], S3.out.2.2.trans (h4.mono S3.out.2.2.size)⟩

/-- what came by a byte from the first k states -/
def byK (l : List St) (L : List Bool) (c : Int) (k i : Nat) : Prop := ∃ j, j < k ∧ mq L j = true ∧ (st l j).lo ≤ c ∧ c ≤ (st l j).hi ∧ (st l j).to = (i : Int)
theorem byK_skip {l : List St} {L out : List Bool} {c : Int} {k : Nat} (h : ∀ i, mq out i = true ↔ byK l L c k i) (hn : ¬ (mq L k = true ∧ (st l k).lo ≤ c ∧ c ≤ (st l k).hi)) : ∀ i, mq out i = true ↔ byK l L c (k + 1) i := by
  intro i
  rw [h]
  constructor
  · rintro ⟨j, h1, h2⟩; exact ⟨j, by omega, h2⟩
  · rintro ⟨j, h1, h2, h3, h4, h5⟩
    rcases Nat.lt_or_ge j k with h6 | h6
    · exact ⟨j, h6, h2, h3, h4, h5⟩
    · obtain rfl : j = k := by omega
      exact absurd ⟨h2, h3, h4⟩ hn
theorem byK_mark {l : List St} {L out : List Bool} {c : Int} {k x : Nat} (h : ∀ i, mq out i = true ↔ byK l L c k i) (hy : mq L k = true ∧ (st l k).lo ≤ c ∧ c ≤ (st l k).hi) (hx : (st l k).to = x) (hl : x < out.length) : ∀ i, mq (out.set x true) i = true ↔ byK l L c (k + 1) i := by
  intro i
  rw [mk_set hl, Bool.or_eq_true, decide_eq_true_eq, h]
  constructor
  · rintro (rfl | ⟨j, h1, h2⟩)
    · exact ⟨k, by omega, hy.1, hy.2.1, hy.2.2, hx⟩
    · exact ⟨j, by omega, h2⟩
  · rintro ⟨j, h1, h2, h3, h4, h5⟩
    rcases Nat.lt_or_ge j k with h6 | h6
    · exact .inr ⟨j, h6, h2, h3, h4, h5⟩
    · obtain rfl : j = k := by omega
      exact .inl (by omega)

set_option maxRecDepth 100000 in
set_option maxHeartbeats 8000000 in
theorem rstep_any (a : Int) (l : List St) (v : Value) (B0 : Nat) (u : Value) (L : List Bool) (c : Int) (hc0 : 0 ≤ c) (hc1 : c ≤ 255) (w : World) (h : NfaAt w v a l) (hR : ∀ i, i < l.length → OkS l.length (st l i)) (hn : l.length ≤ 100000) (hu : BolAt w B0 u L) (hL : L.length = l.length) :
    Calls Tryd.prog 21 #[v, u, .int .u8 c] w fun e w' => MarksOut w l.length (stepP l (fun i => mq L i = true) c) e w' := by
  have CLO := Lib.hid (fun W (hW : Below w.heap.size w W) B1 u L (hu : BolAt W B1 u L) (hL : L.length = l.length) => rclose_any a l v B1 u L W (h.next hW) hR hn hu hL)
  have HR := Lib.hid hR
  have HU := Lib.hid hu
  have HL := Lib.hid hL
  obtain ⟨sv, rfl, hs⟩ := h
  obtain ⟨ao, cap, rfl, hm, hst⟩ := hs.shape
  have HST := Lib.hid hst
  obtain ⟨uo, uc, rfl, _, hc⟩ := hu.shape
  rw [hL] at hc ⊢
  have HC := Lib.hid hc
  have b1 := (Below.refl w.heap.size w).alloc (Nat.le_refl _) (.cells #[.int .i64 a, .slice ao l.length cap] 24)
  have B1 := Lib.hid b1
  have X := Lib.hid (at_new w (.cells #[.int .i64 a, .slice ao l.length cap] 24))
  have PS : Hid (∀ out : List Bool, (∀ i, mq out i = true ↔ byK l L c l.length i) → ∀ i, Re nilF l (fun j => mq out j = true) i ↔ stepP l (fun i => mq L i = true) c i) := Lib.hid (fun out e i => Re.congr (fun j _ => e j))
  clear hs hst b1 hR hu hL hc
  unfold nfaV at *
  generalize stepP l (fun i => mq L i = true) c = P at *
  go_enter Tryd.func21, Tryd.ntmps21
  go_upto_region 1 with fail
  generalize w.alloc (.cells #[.int .i64 a, .slice ao l.length cap] 24) = W1 at *
  have c0 := at_cell X.out 0
  have c1 := at_cell X.out 1
  have hl := cell_lt c0
  obtain ⟨w2, m1, m2, m3⟩ := make_marks l.length hn W1.heap.size W1 (Nat.le_refl _)
  have hwB := B1.out.size
  have C2 := Lib.hid (show CR w a (.slice ao l.length cap) W1.heap.size _ (List.replicate l.length false) w2 from ⟨at_kept X.out m3 (.inl rfl), m2, B1.out.grown m3 B1.out.size (fun j e => by cases e)⟩)
  generalize hg : W1.heap.size = g at *
  clear hg m2 m3
  have M1 := Lib.hid m1
  clear m1
  go_wp2
  rw [M1.out]
  go_wp2
  clear c0 c1 hl
  go_loopw [8] (fun i wr => ∃ (k : Nat) (out : List Bool), i = .int .i64 k ∧ k ≤ l.length ∧ out.length = l.length ∧ (∀ i, mq out i = true ↔ byK l L c k i) ∧ CR w a (.slice ao l.length cap) g (.slice (some ⟨g, 0, none⟩) l.length l.length) out wr) (fun i _ => l.length - (intOf i).toNat)
  case atStart => exact ⟨0, _, rfl, by omega, by simp, fun i => by rw [mk_none]; simp [byK], C2.out⟩
  case round =>
    obtain ⟨k, out, rfl, hk, hlen, hm2, hC⟩ := hrel
    obtain ⟨wo, rfl⟩ : ∃ x, x = wr := ⟨_, rfl⟩
    have C3 := Lib.hid hC
    have HM := Lib.hid hm2
    have HN := Lib.hid hlen
    have c0 := at_cell hC.1 0
    have c1 := at_cell hC.1 1
    have hl := cell_lt c0
    clear hC hm2 hlen
    by_cases hlt : k < l.length
    · obtain ⟨gs, rfl, eo, ec, hin0⟩ := HST.out k hlt
      obtain ⟨d0, d1, d2, d3, d4, de⟩ := hin0.next C3.out.2.2
      obtain ⟨gu, rfl, cu0, _⟩ := HC.out k hlt
      have cu := cell_next cu0 C3.out.2.2
      have hul := cell_lt cu
      have OK := Lib.hid (HR.out k hlt)
      have h0i : (0 : Int) ≤ k := by omega
      have h1i : (k : Int) < (l.length : Int) := by omega
      have SK := Lib.hid (byK_skip HM.out)
      have MK := Lib.hid (fun hy (x : Nat) hx hxl => byK_mark HM.out hy (x := x) hx hxl)
      clear hin0 de cu0
      generalize st l k = s at *
      have C4 := Lib.hid (C3.out.next ((Below.refl _ wo).alloc (Nat.le_refl _) (.cells #[.int .i64 s.lo, .int .i64 s.hi, .int .i64 s.to, .slice eo s.eps.length ec, .int .i64 s.tag] 56)))
      have X4 := Lib.hid (at_new wo (.cells #[.int .i64 s.lo, .int .i64 s.hi, .int .i64 s.to, .slice eo s.eps.length ec, .int .i64 s.tag] 56))
      have CU := Lib.hid (cell_next cu ((Below.refl _ wo).alloc (Nat.le_refl _) (.cells #[.int .i64 s.lo, .int .i64 s.hi, .int .i64 s.to, .slice eo s.eps.length ec, .int .i64 s.tag] 56)))
      go_upto_region 6 with fail
      clear c0 c1 hl d0 d1 d2 d3 d4 cu hul
      generalize wo.alloc (.cells #[.int .i64 s.lo, .int .i64 s.hi, .int .i64 s.to, .slice eo s.eps.length ec, .int .i64 s.tag] 56) = W4 at *
      have x0 := at_cell X4.out 0
      have x1 := at_cell X4.out 1
      have x2 := at_cell X4.out 2
      have hl4 := cell_lt x0
      have cu := CU.out
      have hul := cell_lt cu
      cases hz : mq L k
      · rw [hz] at cu
        have Y := Lib.hid (SK.out (by simp [hz]))
        clear hz SK MK CU
        go_wp2
        go_roundw
        case rel => exact ⟨k + 1, out, by go_num, by omega, HN.out, Y.out, C4.out⟩
        case measure => simp [intOf]; omega
      · rw [hz] at cu
        by_cases g1 : s.lo ≤ c
        · by_cases g2 : c ≤ s.hi
          · have ho := OK.out.goes
            have hlo : 0 ≤ s.lo := by omega
            have hto : 0 ≤ s.to ∧ s.to < l.length := by omega
            obtain ⟨x, hx⟩ : ∃ x : Nat, s.to = (x : Int) := ⟨s.to.toNat, by omega⟩
            have Y := Lib.hid (MK.out ⟨hz, g1, g2⟩ x hx (by rw [HN.out]; omega))
            obtain ⟨g3, eg, cx, fx⟩ := C4.out.cells HN.out x (by omega)
            obtain rfl : g = g3 := by simpa using eg
            have hgl := cell_lt cx
            have S4 := Lib.hid (C4.out.store HN.out hwB x)
            have HN2 : Hid ((out.set x true).length = l.length) := Lib.hid (by rw [List.length_set]; exact HN.out)
            rw [hx] at x2
            have hx0 : (0 : Int) ≤ x := by omega
            have hx1 : (x : Int) < l.length := by omega
            clear eg hz SK MK CU ho hto hx OK
            generalize mq out x = z at *
            generalize s.lo = y0 at *
            generalize s.hi = y1 at *
            go_wp2
            go_roundw
            case rel => exact ⟨k + 1, _, by go_num, by omega, HN2.out, Y.out, S4.out⟩
            case measure => simp [intOf]; omega
          · have Y := Lib.hid (SK.out (by simp; omega))
            have ho := OK.out.goes
            clear hz SK MK CU OK
            by_cases hlo : 0 ≤ s.lo
            · clear ho
              generalize s.lo = y0 at *
              generalize s.hi = y1 at *
              go_wp2
              go_roundw
              case rel => exact ⟨k + 1, out, by go_num, by omega, HN.out, Y.out, C4.out⟩
              case measure => simp [intOf]; omega
            · clear ho
              generalize s.lo = y0 at *
              generalize s.hi = y1 at *
              go_wp2
              go_roundw
              case rel => exact ⟨k + 1, out, by go_num, by omega, HN.out, Y.out, C4.out⟩
              case measure => simp [intOf]; omega
        · have Y := Lib.hid (SK.out (by simp; omega))
          have hlo : 0 ≤ s.lo := by omega
          clear hz SK MK CU OK
          generalize s.lo = y0 at *
          generalize s.hi = y1 at *
          go_wp2
          go_roundw
          case rel => exact ⟨k + 1, out, by go_num, by omega, HN.out, Y.out, C4.out⟩
          case measure => simp [intOf]; omega
    · obtain rfl : k = l.length := by omega
      have PS2 := Lib.hid (PS.out out HM.out)
      clear PS
      go_wp2_with (go_at_call 16; (refine (CLO.out wo C3.out.2.2 g _ out C3.out.2.1 HN.out).mono ?_); rintro e w4 ⟨v4, out4, rfl, h1, h2, h3, h4⟩; obtain ⟨vo, vc, rfl, _, _⟩ := h1.shape; go_must (have H4 := Lib.hid (And.intro h1 (And.intro h2 (And.intro h3 h4))); clear h1 h2 h3 h4))
      go_ret
      obtain ⟨h1, h2, h3, h4⟩ := H4.out
      exact ⟨_, out4, rfl, h1.base C3.out.2.2.size, h2, fun i => by rw [h3, PS2.out], C3.out.2.2.trans (h4.mono C3.out.2.2.size)⟩

end Go.Proofs.YtfbphiamelongaaDoor.Cl

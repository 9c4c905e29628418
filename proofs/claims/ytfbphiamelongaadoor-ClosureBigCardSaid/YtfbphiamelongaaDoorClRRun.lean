/- The document's Best, Run, Alive. -/
import Derived.Test.YtfbphiamelongaaDoorClRStep
import Derived.Test.YtfbphiamelongaaDoorClRun
namespace Go.Proofs.YtfbphiamelongaaDoor.Cl
open Go Go.RowKit
open Go.Proofs.YtfbphiamelongaaDoor.Bt (grown_cell grown_trans grown_row)

theorem best_skip {l : List St} {L : List Bool} {k : Nat} {b : Int} (h : BestIs l (fun i => i < k ∧ mq L i = true) b) (hk : mq L k = false ∨ (k < l.length ∧ -1 ≤ (st l k).tag ∧ ((st l k).tag < 0 ∨ (0 ≤ b ∧ b ≤ (st l k).tag)))) : BestIs l (fun i => i < k + 1 ∧ mq L i = true) b := by
  rcases hk with hk | ⟨hkl, ht, hk⟩
  · refine h.same fun i _ => ⟨fun ⟨h1, h2⟩ => ⟨?_, h2⟩, fun ⟨h1, h2⟩ => ⟨by omega, h2⟩⟩
    rcases Nat.lt_or_ge i k with h3 | h3
    · exact h3
    · obtain rfl : i = k := by omega
      rw [hk] at h2; cases h2
  · rcases h with ⟨rfl, h⟩ | ⟨h0, ⟨i, hi, hp, hu⟩, h⟩
    · refine .inl ⟨rfl, fun i hi ⟨h1, h2⟩ => ?_⟩
      rcases Nat.lt_or_ge i k with h3 | h3
      · exact h i hi ⟨h3, h2⟩
      · obtain rfl : i = k := by omega
        omega
    · refine .inr ⟨h0, ⟨i, hi, ⟨by omega, hp.2⟩, hu⟩, fun j hj ⟨h1, h2⟩ => ?_⟩
      rcases Nat.lt_or_ge j k with h3 | h3
      · exact h j hj ⟨h3, h2⟩
      · obtain rfl : j = k := by omega
        omega
theorem best_take {l : List St} {L : List Bool} {k : Nat} {b : Int} (h : BestIs l (fun i => i < k ∧ mq L i = true) b) (hkl : k < l.length) (hm : mq L k = true) (ht : 0 ≤ (st l k).tag) (hb : b < 0 ∨ (st l k).tag < b) : BestIs l (fun i => i < k + 1 ∧ mq L i = true) (st l k).tag := by
  refine .inr ⟨ht, ⟨k, hkl, ⟨by omega, hm⟩, rfl⟩, fun i hi ⟨h1, h2⟩ => ?_⟩
  rcases Nat.lt_or_ge i k with h3 | h3
  · rcases h with ⟨rfl, h⟩ | ⟨h0, _, h⟩
    · exact .inl (h i hi ⟨h3, h2⟩)
    · have := h i hi ⟨h3, h2⟩; omega
  · obtain rfl : i = k := by omega
    exact .inr (Int.le_refl _)

set_option maxRecDepth 100000 in
set_option maxHeartbeats 8000000 in
theorem rbest_any (a : Int) (l : List St) (v : Value) (B0 : Nat) (u : Value) (L : List Bool) (w : World) (h : NfaAt w v a l) (hg : TagsOk l) (hu : BolAt w B0 u L) (hL : L.length = l.length) :
    Calls Tryd.prog 23 #[v, u] w fun e w' => ∃ t : Int, e = .returned (.int .i64 t) ∧ BestIs l (fun i => mq L i = true) t ∧ Below w.heap.size w w' := by
  obtain ⟨sv, rfl, hs⟩ := h
  obtain ⟨ao, cap, rfl, hm, hst⟩ := hs.shape
  have HST := Lib.hid hst
  have HG := Lib.hid hg
  obtain ⟨uo, uc, rfl, _, hc⟩ := hu.shape
  rw [hL] at hc ⊢
  have HC := Lib.hid hc
  have B1 := Lib.hid ((Below.refl w.heap.size w).alloc (Nat.le_refl _) (.cells #[.int .i64 a, .slice ao l.length cap] 24))
  have X := Lib.hid (at_new w (.cells #[.int .i64 a, .slice ao l.length cap] 24))
  have FIN : Hid (∀ t, BestIs l (fun i => i < l.length ∧ mq L i = true) t → BestIs l (fun i => mq L i = true) t) := Lib.hid (fun t ht => ht.same (fun i hi => ⟨fun h => ⟨hi, h⟩, fun h => h.2⟩))
  clear hs hst hu hL hc hg
  unfold nfaV
  go_enter Tryd.func23, Tryd.ntmps23
  go_upto_region 1 with fail
  generalize w.alloc (.cells #[.int .i64 a, .slice ao l.length cap] 24) = W1 at *
  have c0 := at_cell X.out 0
  have c1 := at_cell X.out 1
  have hl := cell_lt c0
  go_wp2
  go_loop [5, 6] (fun b i => ∃ (k : Nat) (t : Int), b = .int .i64 t ∧ i = .int .i64 k ∧ k ≤ l.length ∧ BestIs l (fun i => i < k ∧ mq L i = true) t) (fun _ i => l.length - (intOf i).toNat)
  case atStart => exact ⟨0, -1, rfl, rfl, by omega, BestIs.none.same (fun i _ => ⟨fun h => by omega, fun h => h.elim⟩)⟩
  case round =>
    obtain ⟨k, t, rfl, rfl, hk, hb⟩ := hrel
    have HB := Lib.hid hb
    have hbb := hb.bound
    clear hb
    by_cases hlt : k < l.length
    · obtain ⟨gs, rfl, eo, ec, hin0⟩ := HST.out k hlt
      obtain ⟨d0, d1, d2, d3, d4, de⟩ := hin0.next B1.out
      obtain ⟨gu, rfl, cu0, _⟩ := HC.out k hlt
      have cu := cell_next cu0 B1.out
      have ht := HG.out k hlt
      have SK := Lib.hid (fun h => best_skip HB.out (.inr ⟨hlt, ht.1, h⟩))
      have SN := Lib.hid (fun h => best_skip HB.out (.inl h))
      have TK := Lib.hid (fun hm h0 hx => best_take HB.out hlt hm h0 hx)
      have h0i : (0 : Int) ≤ k := by omega
      have h1i : (k : Int) < (l.length : Int) := by omega
      clear hin0 de cu0 d0 d1 d2 d3
      generalize (st l k).tag = x at *
      cases hz : mq L k
      · rw [hz] at cu
        have Y := Lib.hid (SN.out hz)
        clear hz SK SN TK
        go_wp2
        go_round
        case rel => exact ⟨k + 1, t, rfl, by go_num, by omega, Y.out⟩
        case measure => simp [intOf]; omega
      · rw [hz] at cu
        by_cases h0 : 0 ≤ x
        · by_cases h1 : t < 0
          · have Y := Lib.hid (TK.out hz h0 (.inl h1))
            clear hz SK SN TK
            go_wp2
            go_round
            case rel => exact ⟨k + 1, x, rfl, by go_num, by omega, Y.out⟩
            case measure => simp [intOf]; omega
          · by_cases h2 : x < t
            · have Y := Lib.hid (TK.out hz h0 (.inr h2))
              clear hz SK SN TK
              go_wp2
              go_round
              case rel => exact ⟨k + 1, x, rfl, by go_num, by omega, Y.out⟩
              case measure => simp [intOf]; omega
            · have Y := Lib.hid (SK.out (.inr ⟨by omega, by omega⟩))
              clear hz SK SN TK
              go_wp2
              go_round
              case rel => exact ⟨k + 1, t, rfl, by go_num, by omega, Y.out⟩
              case measure => simp [intOf]; omega
        · have Y := Lib.hid (SK.out (.inl (by omega)))
          clear hz SK SN TK
          go_wp2
          go_round
          case rel => exact ⟨k + 1, t, rfl, by go_num, by omega, Y.out⟩
          case measure => simp [intOf]; omega
    · obtain rfl : k = l.length := by omega
      have Y := Lib.hid (FIN.out t HB.out)
      go_wp2
      go_ret
      exact ⟨t, rfl, Y.out, B1.out⟩

set_option maxRecDepth 100000 in
set_option maxHeartbeats 4000000 in
theorem rrun_any (a : Int) (l : List St) (v : Value) (s : ByteArray) (hs0 : s.size ≤ 1000000000) (w : World) (h : NfaAt w v a l) (hr : rightB a l = true) (hg : TagsOk l) (hn : l.length ≤ 100000) :
    Calls Tryd.prog 26 #[v, .string s] w fun e w' => ∃ t : Int, e = .returned (.int .i64 t) ∧ BestIs l (runP a l (byteI s) s.size) t ∧ Below w.heap.size w w' := by
  have hR := (right_iff.1 hr).2
  have ST := Lib.hid (fun W (hW : Below w.heap.size w W) => rstart_any a l v W (h.next hW) hr hn)
  have SP := Lib.hid (fun W (hW : Below w.heap.size w W) B0 u L c (hc : 0 ≤ c ∧ c ≤ 255) (hu : BolAt W B0 u L) (hL : L.length = l.length) => rstep_any a l v B0 u L c hc.1 hc.2 W (h.next hW) hR hn hu hL)
  have BE := Lib.hid (fun W (hW : Below w.heap.size w W) B0 u L (hu : BolAt W B0 u L) (hL : L.length = l.length) => rbest_any a l v B0 u L W (h.next hW) hg hu hL)
  obtain ⟨sv, rfl, hs⟩ := h
  obtain ⟨ao, cap, rfl, _, _⟩ := hs.shape
  have B1 := Lib.hid ((Below.refl w.heap.size w).alloc (Nat.le_refl _) (.cells #[.int .i64 a, .slice ao l.length cap] 24))
  have X1 := Lib.hid (at_new w (.cells #[.int .i64 a, .slice ao l.length cap] 24))
  clear hs hr hR
  unfold nfaV at *
  go_enter Tryd.func26, Tryd.ntmps26
  go_upto_region 1 with fail
  generalize w.alloc (.cells #[.int .i64 a, .slice ao l.length cap] 24) = W1 at *
  have c0 := at_cell X1.out 0
  have c1 := at_cell X1.out 1
  have hl := cell_lt c0
  go_wp2_with (go_at_call 22; (with_reducible refine (ST.out W1 B1.out).mono ?_); rintro e w2 ⟨v2, out2, rfl, h1, h2, h3, h4⟩; obtain ⟨vo, vc, rfl, _, _⟩ := h1.shape; go_must (have H2 := Lib.hid (And.intro h1 (And.intro h2 (And.intro h3 h4))); clear h1 h2 h3 h4 c0 c1 hl))
  have R0 := Lib.hid (show w2.heap[w.heap.size]? = some (.cells #[.int .i64 a, .slice ao l.length cap] 24 (0, 0)) ∧ BolAt w2 w.heap.size (.slice vo out2.length vc) out2 ∧ Below w.heap.size w w2 from ⟨at_next X1.out H2.out.2.2.2, H2.out.1.base B1.out.size, B1.out.trans (H2.out.2.2.2.mono B1.out.size)⟩)
  go_loopw [5, 6] (fun u i wr => ∃ (k : Nat) (out : List Bool), i = .int .i64 k ∧ k ≤ s.size ∧ out.length = l.length ∧ (∀ m, mq out m = true ↔ runP a l (byteI s) k m) ∧ wr.heap[w.heap.size]? = some (.cells #[.int .i64 a, .slice ao l.length cap] 24 (0, 0)) ∧ BolAt wr w.heap.size u out ∧ Below w.heap.size w wr) (fun _ i _ => s.size - (intOf i).toNat)
  case atStart => exact ⟨0, out2, rfl, by omega, H2.out.2.1, H2.out.2.2.1, R0.out.1, R0.out.2.1, R0.out.2.2⟩
  case round =>
    obtain ⟨k, out, rfl, hk, hlen, hm, hx, hu, hb⟩ := hrel
    have g0 := at_cell hx 0
    have g1 := at_cell hx 1
    have hl := cell_lt g0
    have R := Lib.hid (And.intro hlen (And.intro hm (And.intro hx (And.intro hu hb))))
    obtain ⟨uo, uc, rfl, _, _⟩ := hu.shape
    clear hlen hm hx hu hb
    by_cases hlt : k < s.size
    · have SC := Lib.hid (SP.out wr.drew R.out.2.2.2.2.drew w.heap.size _ out (s[k].toNat : Int) (by rw [byteI_at hlt]; exact byteI_bound s k) (R.out.2.2.2.1.next ((Below.refl _ wr).drew)) R.out.1)
      have PR : Hid (∀ o2 : List Bool, (∀ m, mq o2 m = true ↔ stepP l (fun i => mq out i = true) (s[k].toNat : Int) m) → ∀ m, mq o2 m = true ↔ runP a l (byteI s) (k + 1) m) := Lib.hid (fun o2 h2 m => by
        rw [h2, byteI_at hlt]
        exact stepP_congr (fun j _ => R.out.2.1 j) m)
      generalize hol : out.length = on at *
      clear hol
      go_wp2
      go_region_with (go_at_call 21; (refine SC.out.mono ?_); rintro e w6 ⟨v6, out6, rfl, h1, h2, h3, h4⟩; obtain ⟨vo6, vc6, rfl, _, _⟩ := h1.shape; go_must (have H6 := Lib.hid (And.intro h1 (And.intro h2 (And.intro (PR.out out6 h3) (Below.trans ((Below.refl _ wr).drew) h4)))); clear h1 h2 h3 h4))
      all_goals
        go_wp2
        go_roundw
        case rel => exact ⟨k + 1, out6, by go_num, by omega, H6.out.2.1, H6.out.2.2.1, at_next R.out.2.2.1 H6.out.2.2.2, H6.out.1.base (R.out.2.2.2.2.drew).size, R.out.2.2.2.2.trans (H6.out.2.2.2.mono R.out.2.2.2.2.size)⟩
        case measure => simp [intOf]; omega
    · obtain rfl : k = s.size := by omega
      go_wp2_with (go_at_call 23; (refine (BE.out wr R.out.2.2.2.2 _ _ out R.out.2.2.2.1 R.out.1).mono ?_); rintro e w6 ⟨t, rfl, ht, hb⟩; go_must (have T6 := Lib.hid (And.intro ht hb); clear ht hb))
      go_ret
      exact ⟨t, rfl, T6.out.1.same (fun i _ => (R.out.2.1 i).symm), R.out.2.2.2.2.trans (T6.out.2.mono R.out.2.2.2.2.size)⟩

end Go.Proofs.YtfbphiamelongaaDoor.Cl

/- The document's Alive. -/
import Derived.Test.YtfbphiamelongaaDoorClRRun
import Derived.Deep.RegionHeld3
namespace Go.Proofs.YtfbphiamelongaaDoor.Cl
open Go Go.RowKit
open Go.Proofs.YtfbphiamelongaaDoor.Bt (grown_cell grown_trans grown_row)

/-- what Alive tells -/
def AliveOut (w : World) (P : Prop) (e : Ending) (w' : World) : Prop := ∃ q : Bool, e = .returned (.bool q) ∧ (q = true ↔ P) ∧ Below w.heap.size w w'
theorem best_any_alive {l : List St} {P : Nat → Prop} {t : Int} (h : BestIs l (Re allF l P) t) : decide (0 ≤ t) = true ↔ aliveP l P := by
  rw [decide_eq_true_eq]
  rcases h with ⟨rfl, h⟩ | ⟨h0, ⟨i, hi, hp, ht⟩, _⟩
  · constructor
    · intro h; omega
    · rintro ⟨i, hi, hr, h0⟩
      have := h i hi hr
      omega
  · exact ⟨fun _ => ⟨i, hi, hp, by omega⟩, fun _ => h0⟩

set_option maxRecDepth 100000 in
set_option maxHeartbeats 8000000 in
theorem ralive_any (a : Int) (l : List St) (v : Value) (B0 : Nat) (u : Value) (L : List Bool) (w : World) (h : NfaAt w v a l) (hR : ∀ i, i < l.length → OkS l.length (st l i)) (hg : TagsOk l) (hn : l.length ≤ 100000) (hu : BolAt w B0 u L) (hL : L.length = l.length) :
    Calls Tryd.prog 24 #[v, u] w fun e w' => AliveOut w (aliveP l (fun i => mq L i = true)) e w' := by
  have CLO := Lib.hid (fun W (hW : Below w.heap.size w W) B1 u L (hu : BolAt W B1 u L) (hL : L.length = l.length) => rclose_any a l v B1 u L W (h.next hW) hR hn hu hL)
  have BE := Lib.hid (fun W (hW : Below w.heap.size w W) B0 u L (hu : BolAt W B0 u L) (hL : L.length = l.length) => rbest_any a l v B0 u L W (h.next hW) hg hu hL)
  have HR := Lib.hid hR
  have HU := Lib.hid hu
  have HL := Lib.hid hL
  have hLn : L.length ≤ 100000 := by omega
  obtain ⟨sv, rfl, hs⟩ := h
  obtain ⟨ao, cap, rfl, hm, hst⟩ := hs.shape
  have HST := Lib.hid hst
  have b1 := (Below.refl w.heap.size w).alloc (Nat.le_refl _) (.cells #[.int .i64 a, .slice ao l.length cap] 24)
  have B1' := Lib.hid b1
  have X := Lib.hid (at_new w (.cells #[.int .i64 a, .slice ao l.length cap] 24))
  have HA : Hid (AInv l (fun i => mq L i = true) 0 L) := Lib.hid (AInv.start hL (fun _ _ => Iff.rfl))
  have FIN : Hid (∀ (now o2 : List Bool) (t : Int), (∀ i, mq now i = true ↔ Re allF l (fun i => mq L i = true) i) → (∀ i, mq o2 i = true ↔ Re nilF l (fun i => mq now i = true) i) → BestIs l (fun i => mq o2 i = true) t → (decide (0 ≤ t) = true ↔ aliveP l (fun i => mq L i = true))) := Lib.hid (fun now o2 t h1 h2 ht => best_any_alive (ht.same (fun i _ => by
    rw [h2]
    constructor
    · intro h; exact Re.base ((h1 i).2 h) h.lt
    · intro h; exact Re.idem.1 ((Re.nil_all h).mono (fun j hj hp => Re.base ((h1 j).1 hp) hj) (fun _ _ hx => hx)))))
  obtain ⟨uo, uc, rfl, _, _⟩ := hu.shape
  clear hst hs hR hu b1 hL hg
  unfold nfaV at *
  generalize aliveP l (fun i => mq L i = true) = AP at *
  go_enter Tryd.func24, Tryd.ntmps24
  go_upto_region 1 with fail
  generalize w.alloc (.cells #[.int .i64 a, .slice ao l.length cap] 24) = W1 at *
  go_wp2_with (at_builtin; (refine wpList_appB rfl _ _ rfl W1.heap.size _ rfl (World.ownsRow_made W1 #[] 0 (Nat.le_refl _) (by decide) rfl) B0 _ L rfl ((HU.out.next B1'.out).next ((Below.refl _ W1).alloc (Nat.le_refl _) _)) (by omega) (by simp) ?_); intro v2 w2 ho2 hg2; obtain ⟨ao2, cap2, e2, _, _⟩ := ho2.shape; rw [HL.out] at e2; subst e2; go_must (have b3 := app_below hg2; have C2 := Lib.hid (show CR w a (.slice ao l.length cap) W1.heap.size _ L w2 from ⟨at_next X.out b3, ho2, B1'.out.trans (b3.mono B1'.out.size)⟩); clear ho2 hg2 b3))
  have hwB := B1'.out.size
  go_loopw [5, 6] (fun u i wr => ∃ (k : Nat) (now : List Bool), i = .int .i64 k ∧ k ≤ l.length ∧ AInv l (fun i => mq L i = true) k now ∧ CR w a (.slice ao l.length cap) w.heap.size u now wr) (fun _ i _ => l.length - (intOf i).toNat)
  case atStart => exact ⟨0, L, rfl, by omega, HA.out, C2.out.1, C2.out.2.1.base hwB, C2.out.2.2⟩
  case round =>
    obtain ⟨k, now, rfl, hk, hA, hC⟩ := hrel
    have c0 := at_cell hC.1 0
    have c1 := at_cell hC.1 1
    have hl1 := cell_lt c0
    have C3 := Lib.hid hC
    have A3 := Lib.hid hA
    obtain ⟨uo3, uc3, e3, _, _⟩ := hC.2.1.shape
    rw [hA.len] at e3
    subst e3
    clear hA hC
    by_cases hlt : k < l.length
    · have BI := Lib.hid (BInv.start (l := l) A3.out.len)
      go_wp2
      clear c0 c1 hl1
      go_loopw [7] (fun i wr => ∃ (i' : Nat) (out : List Bool), i = .int .i64 i' ∧ i' ≤ l.length ∧ BInv l now i' out ∧ CR w a (.slice ao l.length cap) w.heap.size (.slice uo3 l.length uc3) out wr) (fun i _ => l.length - (intOf i).toNat)
      case atStart => exact ⟨0, now, rfl, by omega, BI.out, C3.out⟩
      case round =>
        obtain ⟨i, out, rfl, hi, hB, hC⟩ := hrel
        obtain ⟨wo, rfl⟩ : ∃ x, x = wr := ⟨_, rfl⟩
        have c0 := at_cell hC.1 0
        have c1 := at_cell hC.1 1
        have hl1 := cell_lt c0
        have C4 := Lib.hid hC
        have B4 := Lib.hid hB
        clear hC hB
        by_cases hil : i < l.length
        · obtain ⟨g, rfl, eo, ec, hin0⟩ := HST.out i hil
          obtain ⟨d0, d1, d2, d3, d4, de⟩ := hin0.next C4.out.2.2
          have OK := Lib.hid (HR.out i hil)
          have h0i : (0 : Int) ≤ i := by omega
          have h1i : (i : Int) < (l.length : Int) := by omega
          have SK := Lib.hid (fun h => B4.out.skip h)
          have MK := Lib.hid (fun h1 h2 => B4.out.next h1 h2)
          clear hin0 de
          generalize st l i = s at *
          have C5 := Lib.hid (C4.out.next ((Below.refl _ wo).alloc (Nat.le_refl _) (.cells #[.int .i64 s.lo, .int .i64 s.hi, .int .i64 s.to, .slice eo s.eps.length ec, .int .i64 s.tag] 56)))
          have X5 := Lib.hid (at_new wo (.cells #[.int .i64 s.lo, .int .i64 s.hi, .int .i64 s.to, .slice eo s.eps.length ec, .int .i64 s.tag] 56))
          go_upto_region 9 with fail
          clear c0 c1 hl1 d0 d1 d2 d3 d4
          generalize wo.alloc (.cells #[.int .i64 s.lo, .int .i64 s.hi, .int .i64 s.to, .slice eo s.eps.length ec, .int .i64 s.tag] 56) = W5 at *
          have x0 := at_cell X5.out 0
          have x2 := at_cell X5.out 2
          have hl5 := cell_lt x0
          obtain ⟨gu, rfl, ci, cf⟩ := C5.out.cells B4.out.len i hil
          have hul := cell_lt ci
          cases hz : mq out i
          · rw [hz] at ci
            have Y := Lib.hid (SK.out (.inl hz))
            clear hz SK MK
            go_wp2
            go_roundw
            case rel => exact ⟨i + 1, out, by go_num, by omega, Y.out, C5.out⟩
            case measure => simp [intOf]; omega
          · rw [hz] at ci
            by_cases hlo : 0 ≤ s.lo
            · have hto : 0 ≤ s.to ∧ s.to < l.length := by have := OK.out.goes; omega
              have Y0 := MK.out hz hto
              obtain ⟨x, hx⟩ : ∃ x : Nat, s.to = (x : Int) := ⟨s.to.toNat, by omega⟩
              rw [hx, Int.toNat_natCast] at Y0
              have Y := Lib.hid Y0
              obtain ⟨g3, eg, cx, fx⟩ := C5.out.cells B4.out.len x (by omega)
              obtain rfl : gu = g3 := by simpa using eg
              have hgl := cell_lt cx
              have S5 := Lib.hid (C5.out.store B4.out.len (Nat.le_refl _) x)
              rw [hx] at x2
              have hx0 : (0 : Int) ≤ x := by omega
              have hx1 : (x : Int) < l.length := by omega
              clear eg hz SK MK hto hx Y0 OK
              generalize mq out x = z at *
              generalize s.lo = y0 at *
              go_wp2
              go_roundw
              case rel => exact ⟨i + 1, _, by go_num, by omega, Y.out, S5.out⟩
              case measure => simp [intOf]; omega
            · have Y := Lib.hid (SK.out (.inr (by omega)))
              clear hz SK MK OK
              generalize s.lo = y0 at *
              go_wp2
              go_roundw
              case rel => exact ⟨i + 1, out, by go_num, by omega, Y.out, C5.out⟩
              case measure => simp [intOf]; omega
        · obtain rfl : i = l.length := by omega
          have NX := Lib.hid (fun two h2 c => A3.out.next HR.out B4.out (two := two) h2 c)
          go_wp2_with (go_at_call 16; (refine (CLO.out wo C4.out.2.2 _ _ out C4.out.2.1 B4.out.len).mono ?_); rintro e w4 ⟨v4, out4, rfl, h1, h2, h3, h4⟩; obtain ⟨vo, vc, rfl, _, _⟩ := h1.shape; go_must (have H4 := Lib.hid (And.intro h1 (And.intro (NX.out out4 h2 h3) h4)); clear h1 h2 h3 h4))
          go_roundw
          case rel => exact ⟨k + 1, out4, by go_num, by omega, H4.out.2.1, at_next C4.out.1 H4.out.2.2, H4.out.1.base C4.out.2.2.size, C4.out.2.2.trans (H4.out.2.2.mono C4.out.2.2.size)⟩
          case measure => simp [intOf]; omega
    · obtain rfl : k = l.length := by omega
      have LA := Lib.hid (A3.out.last (Nat.le_refl _))
      go_wp2
      go_region_held3 (fun W => W.cell? ⟨w.heap.size, 0, none⟩ = some (.int .i64 a) ∧ W.cell? ⟨w.heap.size, 1, none⟩ = some (.slice ao l.length cap)) (first | exact ⟨by assumption, by assumption⟩ | go_keep)
        (first
        | (go_at_call 16; (refine (CLO.out wr.drew C3.out.2.2.drew _ _ now (C3.out.2.1.next ((Below.refl _ wr).drew)) A3.out.len).mono ?_); rintro e w4 ⟨v4, out4, rfl, h1, h2, h3, h4⟩; obtain ⟨vo, vc, rfl, _, _⟩ := h1.shape; go_must (have h5 : Below wr.heap.size wr w4 := Below.trans ((Below.refl _ wr).drew) h4; have x4 := at_next C3.out.1 h5; have k0 := at_cell x4 0; have k1 := at_cell x4 1; have H4 := Lib.hid (And.intro h1 (And.intro h2 (And.intro h3 (C3.out.2.2.trans (h5.mono C3.out.2.2.size))))); clear h1 h2 h3 h4 h5 x4 c0 c1))
        | (go_at_call 23; (refine (BE.out w4 H4.out.2.2.2 _ _ out4 H4.out.1 H4.out.2.1).mono ?_); rintro e w6 ⟨t, rfl, ht, hb⟩; go_must (have j0 := cell_next k0 hb; have j1 := cell_next k1 hb; have T6 := Lib.hid (And.intro ht hb); clear ht hb k0 k1))
        | fail)
      go_wp2
      go_ret
      exact ⟨_, rfl, FIN.out now out4 t LA.out H4.out.2.2.1 T6.out.1, H4.out.2.2.2.trans (T6.out.2.mono H4.out.2.2.2.size)⟩

end Go.Proofs.YtfbphiamelongaaDoor.Cl

/- The document's Close: round by round, until nothing more is marked. -/
import Derived.Test.YtfbphiamelongaaDoorClBol
import Derived.Deep.Cut
import Derived.Deep.DeepMust
namespace Go.Proofs.YtfbphiamelongaaDoor.Cl
open Go Go.RowKit
open Go.Proofs.YtfbphiamelongaaDoor.Bt (grown_cell grown_trans grown_row)

/-- what stands through the rounds: the automaton's box, the marks -/
def CR (w : World) (a : Int) (sv : Value) (B : Nat) (v : Value) (out : List Bool) (W : World) : Prop :=
  W.heap[w.heap.size]? = some (.cells #[.int .i64 a, sv] 24 (0, 0)) ∧ BolAt W B v out ∧ Below w.heap.size w W
theorem CR.store {w W : World} {a : Int} {sv : Value} {B g n cap : Nat} {out : List Bool} (h : CR w a sv B (.slice (some ⟨g, 0, none⟩) n cap) out W) (hn : out.length = n) (hB : w.heap.size ≤ B) (i : Nat) :
    CR w a sv B (.slice (some ⟨g, 0, none⟩) n cap) (out.set i true) (W.setCell ⟨g, i, none⟩ (.bool true)) := by
  subst hn
  obtain ⟨h1, h2, h3⟩ := h
  obtain ⟨k1, k2⟩ := h2.store i true
  refine ⟨at_kept h1 k2 ?_, k1, h3.grown k2 h3.size (fun j e => ?_)⟩
  · have := ne_row h2 h1 (by decide)
    simpa [Value.ownBlock] using this
  · have := (World.ownsRow.lt h2 j (by simpa [Value.ownBlock] using e)).1
    omega
theorem CR.cells {w W : World} {a : Int} {sv : Value} {B n cap : Nat} {ao : Option Addr} {out : List Bool} (h : CR w a sv B (.slice ao n cap) out W) (hn : out.length = n) (i : Nat) (hi : i < n) : ∃ g, ao = some ⟨g, 0, none⟩ ∧ W.cell? ⟨g, i, none⟩ = some (.bool (mq out i)) ∧ W.frozen? ⟨g, i, none⟩ = false := by
  obtain ⟨ao', cap', e, _, hc⟩ := h.2.1.shape
  simp only [Value.slice.injEq] at e
  obtain ⟨rfl, _, _⟩ := e
  exact hc i (by omega)
theorem app_below {W1 w2 : World} (hg : (W1.alloc (.cells #[] 4)).grownBy w2 (Value.slice (some ⟨W1.heap.size, 0, none⟩) 0 0).ownBlock) : Below W1.heap.size W1 w2 := by
  have b2 := (Below.refl W1.heap.size W1).alloc (Nat.le_refl _) (.cells #[] 4)
  refine b2.grown hg b2.size (fun j e => ?_)
  simp only [Value.ownBlock, Option.some.injEq] at e
  omega
theorem CR.next {w W W' : World} {a : Int} {sv : Value} {B : Nat} {v : Value} {out : List Bool} (h : CR w a sv B v out W) (hb : Below W.heap.size W W') : CR w a sv B v out W' :=
  ⟨at_next h.1 hb, h.2.1.next hb, h.2.2.trans (hb.mono h.2.2.size)⟩
/-- marks that came of others -/
def MarksOut (w : World) (n : Nat) (P : Nat → Prop) (e : Ending) (w' : World) : Prop := ∃ v out, e = .returned v ∧ BolAt w' w.heap.size v out ∧ out.length = n ∧ (∀ i, mq out i = true ↔ P i) ∧ Below w.heap.size w w'

set_option maxRecDepth 100000 in
set_option maxHeartbeats 8000000 in
theorem rclose_any (a : Int) (l : List St) (v : Value) (B1 : Nat) (u : Value) (L : List Bool) (w : World) (h : NfaAt w v a l) (hR : ∀ i, i < l.length → OkS l.length (st l i)) (hn : l.length ≤ 100000) (hu : BolAt w B1 u L) (hL : L.length = l.length) :
    Calls Tryd.prog 16 #[v, u] w fun e w' => MarksOut w l.length (Re nilF l (fun i => mq L i = true)) e w' := by
  obtain ⟨sv, rfl, h⟩ := h
  obtain ⟨ao, cap, rfl, hm, hst⟩ := h.shape
  have HST := Lib.hid hst
  have HR := Lib.hid hR
  have HU := Lib.hid hu
  have b1 := (Below.refl w.heap.size w).alloc (Nat.le_refl _) (.cells #[.int .i64 a, .slice ao l.length cap] 24)
  have B1' := Lib.hid b1
  have X := Lib.hid (at_new w (.cells #[.int .i64 a, .slice ao l.length cap] 24))
  have hs1 : Hid ((w.alloc (.cells #[.int .i64 a, .slice ao l.length cap] 24)).heap.size = w.heap.size + 1) := Lib.hid (World.size_alloc _ _)
  have HL := Lib.hid hL
  have hLn : L.length ≤ 100000 := by omega
  have HO : Hid (OInv l (fun i => mq L i = true) 0 true L) := Lib.hid (OInv.start hL (fun _ _ => Iff.rfl))
  obtain ⟨uo, uc, rfl, _, _⟩ := hu.shape
  clear hst h hR hu b1 hL
  unfold nfaV
  go_enter Tryd.func16, Tryd.ntmps16
  go_upto_region 1 with fail
  generalize w.alloc (.cells #[.int .i64 a, .slice ao l.length cap] 24) = W1 at *
  go_wp2_with (at_builtin; (refine wpList_appB rfl _ _ rfl W1.heap.size _ rfl (World.ownsRow_made W1 #[] 0 (Nat.le_refl _) (by decide) rfl) B1 _ L rfl ((HU.out.next B1'.out).next ((Below.refl _ W1).alloc (Nat.le_refl _) _)) (by omega) (by simp) ?_); intro v2 w2 ho2 hg2; obtain ⟨ao2, cap2, e2, _, _⟩ := ho2.shape; rw [HL.out] at e2; subst e2; go_must (have b3 := app_below hg2; have C2 := Lib.hid (show CR w a (.slice ao l.length cap) W1.heap.size _ L w2 from ⟨at_next X.out b3, ho2, B1'.out.trans (b3.mono B1'.out.size)⟩); clear ho2 hg2 b3))
  have hwB := B1'.out.size
  go_loopw [6, 7] (fun m i wr => ∃ (more : Bool) (k : Nat) (out : List Bool), m = .bool more ∧ i = .int .i64 k ∧ k ≤ l.length ∧ OInv l (fun i => mq L i = true) k more out ∧ CR w a (.slice ao l.length cap) W1.heap.size (.slice ao2 l.length cap2) out wr) (fun _ i _ => l.length - (intOf i).toNat)
  case atStart => exact ⟨true, 0, L, rfl, rfl, by omega, HO.out, C2.out⟩
  case round =>
    obtain ⟨more, k, out, rfl, rfl, hk, hO, hC⟩ := hrel
    have c0 := at_cell hC.1 0
    have c1 := at_cell hC.1 1
    have hl1 := cell_lt c0
    have C3 := Lib.hid hC
    have O3 := Lib.hid hO
    clear hO hC
    by_cases hlt : k < l.length
    · cases more
      · have FIN := Lib.hid (O3.out.last (.inl rfl))
        go_wp2
        go_ret
        exact ⟨_, out, rfl, C3.out.2.1.base hwB, O3.out.c.len, FIN.out, C3.out.2.2⟩
      · have M3 := Lib.hid (O3.out.mid)
        clear O3
        go_wp2
        clear c0 c1 hl1
        go_loopw [6, 8] (fun m i wr => ∃ (more : Bool) (i' : Nat) (out : List Bool), m = .bool more ∧ i = .int .i64 i' ∧ i' ≤ l.length ∧ MInv l (fun i => mq L i = true) k i' more out ∧ CR w a (.slice ao l.length cap) W1.heap.size (.slice ao2 l.length cap2) out wr) (fun _ i _ => l.length - (intOf i).toNat)
        case atStart => exact ⟨false, 0, out, rfl, rfl, by omega, M3.out, C3.out⟩
        case round =>
          obtain ⟨more, i, out, rfl, rfl, hi, hM, hC⟩ := hrel
          have c0 := at_cell hC.1 0
          have c1 := at_cell hC.1 1
          have hl1 := cell_lt c0
          have C4 := Lib.hid hC
          have M4 := Lib.hid hM
          clear hM hC
          by_cases hil : i < l.length
          · have I4 := Lib.hid (M4.out.inn)
            obtain ⟨g, rfl, eo, ec, hin0⟩ := HST.out i hil
            have HIN := Lib.hid hin0
            have OK := Lib.hid (HR.out i hil)
            have h0i : (0 : Int) ≤ i := by omega
            have h1i : (i : Int) < (l.length : Int) := by omega
            clear hin0 M4
            go_wp2
            clear c0 c1 hl1
            go_loopw [6, 9] (fun m q wr => ∃ (more : Bool) (j : Nat) (out : List Bool), m = .bool more ∧ q = .int .i64 j ∧ j ≤ (st l i).eps.length ∧ IInv l (fun i => mq L i = true) k i j more out ∧ CR w a (.slice (some g) l.length cap) W1.heap.size (.slice ao2 l.length cap2) out wr) (fun _ q _ => (st l i).eps.length - (intOf q).toNat)
            case atStart => exact ⟨more, 0, out, rfl, rfl, by omega, I4.out, C4.out⟩
            case round =>
              obtain ⟨more, j, out, rfl, rfl, hj, hI, hC⟩ := hrel
              have c0 := at_cell hC.1 0
              have c1 := at_cell hC.1 1
              have hl1 := cell_lt c0
              obtain ⟨go, rfl, ci, cf⟩ := hC.cells hI.c.len i hil
              have C5 := Lib.hid hC
              have I5 := Lib.hid hI
              obtain ⟨d0, d1, d2, d3, d4, de⟩ := HIN.out.next hC.2.2
              clear hI hC d0 d1 d2 d4
              cases hmi : mq out i
              · have M5 := Lib.hid (I5.out.mid (.inl hmi))
                rw [hmi] at ci
                clear hmi I5 de
                go_wp2
                go_roundw
                case rel => exact ⟨more, i + 1, out, rfl, by go_num, by omega, M5.out, C5.out⟩
                case measure => simp [intOf]; omega
              · rw [hmi] at ci
                by_cases hjl : j < (st l i).eps.length
                · obtain ⟨eo2, ec2, e2, _, hce⟩ := de.shape
                  simp only [Value.slice.injEq] at e2
                  obtain ⟨rfl, _, rfl⟩ := e2
                  obtain ⟨ad, rfl, ce⟩ := hce j hjl
                  have hb := OK.out.eps ((st l i).eps.getD j 0) (by simp [List.getD, hjl])
                  have N5 := Lib.hid (I5.out.next hmi hjl hb)
                  generalize (st l i).eps.getD j 0 = x at *
                  obtain ⟨xn, rfl⟩ : ∃ xn : Nat, x = (xn : Int) := ⟨x.toNat, by omega⟩
                  rw [Int.toNat_natCast] at N5
                  obtain ⟨go2, ego, cx, fx⟩ := C5.out.cells I5.out.c.len xn (by omega)
                  obtain rfl : go = go2 := by simpa using ego
                  have hgl := cell_lt cx
                  have S5 := Lib.hid (C5.out.store I5.out.c.len hwB xn)
                  have SM := Lib.hid (fun h : mq out xn = true => set_same h)
                  have hx0 := hb.1
                  have hx1 := hb.2
                  generalize (st l i).eps.length = en at *
                  clear hmi de hce hb ego
                  cases hmx : mq out xn
                  · rw [hmx] at cx
                    rw [hmx, Bool.not_false, Bool.or_true] at N5
                    clear hmx SM
                    cases more
                    · go_wp2
                      go_roundw
                      case rel => exact ⟨true, j + 1, _, rfl, by go_num, by omega, N5.out, S5.out⟩
                      case measure => simp [intOf]; omega
                    · go_wp2
                      go_roundw
                      case rel => exact ⟨true, j + 1, _, rfl, by go_num, by omega, N5.out, S5.out⟩
                      case measure => simp [intOf]; omega
                  · rw [hmx] at cx
                    rw [hmx, Bool.not_true, Bool.or_false, SM.out hmx] at N5
                    rw [SM.out hmx] at S5
                    clear hmx SM
                    cases more
                    · go_wp2
                      go_roundw
                      case rel => exact ⟨false, j + 1, out, rfl, by go_num, by omega, N5.out, S5.out⟩
                      case measure => simp [intOf]; omega
                    · go_wp2
                      go_roundw
                      case rel => exact ⟨true, j + 1, out, rfl, by go_num, by omega, N5.out, S5.out⟩
                      case measure => simp [intOf]; omega
                · have M5 := Lib.hid (I5.out.mid (.inr (by omega)))
                  clear hmi I5 de
                  generalize (st l i).eps.length = en at *
                  go_wp2
                  go_roundw
                  case rel => exact ⟨more, i + 1, out, rfl, by go_num, by omega, M5.out, C5.out⟩
                  case measure => simp [intOf]; omega
          · obtain rfl : i = l.length := by omega
            have O4 := Lib.hid (M4.out.out)
            clear M4
            go_wp2
            go_roundw
            case rel => exact ⟨more, k + 1, out, rfl, by go_num, by omega, O4.out, C4.out⟩
            case measure => simp [intOf]; omega
    · obtain rfl : k = l.length := by omega
      have FIN := Lib.hid (O3.out.last (.inr (by omega)))
      go_wp2
      go_ret
      exact ⟨_, out, rfl, C3.out.2.1.base hwB, O3.out.c.len, FIN.out, C3.out.2.2⟩

end Go.Proofs.YtfbphiamelongaaDoor.Cl

/- The document's Among and Numbers. -/
import Derived.Test.YtfbphiamelongaaDoorClRClo
import Derived.Test.YtfbphiamelongaaDoorBtOwn
namespace Go.Proofs.YtfbphiamelongaaDoor.Cl
open Go Go.RowKit
open Go.Proofs.YtfbphiamelongaaDoor.Bt (grown_cell grown_trans grown_row iV own_slice wpList_appI one_new)

theorem among_step {n k : Nat} {xs : List Int} {out : List Bool} (h : ∀ i, mq out i = true ↔ i < n ∧ (i : Int) ∈ xs.take k) (hk : k < xs.length) (hn : ¬ (0 ≤ xs.getD k 0 ∧ xs.getD k 0 < n)) : ∀ i, mq out i = true ↔ i < n ∧ (i : Int) ∈ xs.take (k + 1) := by
  intro i
  have e : xs.getD k 0 = xs[k] := by simp [List.getD, hk]
  rw [h, List.take_succ_eq_append_getElem hk, List.mem_append, List.mem_singleton, ← e]
  constructor
  · rintro ⟨h1, h2⟩; exact ⟨h1, .inl h2⟩
  · rintro ⟨h1, h2 | h2⟩
    · exact ⟨h1, h2⟩
    · exact absurd ⟨by omega, by omega⟩ hn
theorem among_mark {n k : Nat} {xs : List Int} {out : List Bool} (h : ∀ i, mq out i = true ↔ i < n ∧ (i : Int) ∈ xs.take k) (hk : k < xs.length) {x : Nat} (hx : xs.getD k 0 = x) (hxn : x < n) (hl : out.length = n) : ∀ i, mq (out.set x true) i = true ↔ i < n ∧ (i : Int) ∈ xs.take (k + 1) := by
  intro i
  have e : xs.getD k 0 = xs[k] := by simp [List.getD, hk]
  rw [mk_set (by omega), Bool.or_eq_true, decide_eq_true_eq, h, List.take_succ_eq_append_getElem hk, List.mem_append, List.mem_singleton, ← e, hx]
  constructor
  · rintro (rfl | ⟨h1, h2⟩)
    · exact ⟨hxn, .inr rfl⟩
    · exact ⟨h1, .inl h2⟩
  · rintro ⟨h1, h2 | h2⟩
    · exact .inr ⟨h1, h2⟩
    · exact .inl (by omega)

set_option maxRecDepth 100000 in
set_option maxHeartbeats 4000000 in
theorem among_any (a : Int) (ao : Option Addr) (n cap : Nat) (hn : n ≤ 100000) (lv : Value) (xs : List Int) (w : World) (hl : IntsAt w lv xs) :
    Calls Tryd.prog 17 #[nfaV a (.slice ao n cap), lv] w fun e w' => MarksOut w n (fun i => i < n ∧ (i : Int) ∈ xs) e w' := by
  obtain ⟨lo, lc, rfl, hlm, hlc⟩ := hl.shape
  have HL := Lib.hid hlc
  have b1 := (Below.refl w.heap.size w).alloc (Nat.le_refl _) (.cells #[.int .i64 a, .slice ao n cap] 24)
  have B1 := Lib.hid b1
  have X := Lib.hid (at_new w (.cells #[.int .i64 a, .slice ao n cap] 24))
  clear hl hlc b1
  unfold nfaV
  go_enter Tryd.func17, Tryd.ntmps17
  go_upto_region 1 with fail
  generalize w.alloc (.cells #[.int .i64 a, .slice ao n cap] 24) = W1 at *
  have c0 := at_cell X.out 0
  have c1 := at_cell X.out 1
  have hl := cell_lt c0
  obtain ⟨w2, m1, m2, m3⟩ := make_marks n hn W1.heap.size W1 (Nat.le_refl _)
  have hwB := B1.out.size
  have C2 := Lib.hid (show CR w a (.slice ao n cap) W1.heap.size _ (List.replicate n false) w2 from ⟨at_kept X.out m3 (.inl rfl), m2, B1.out.grown m3 B1.out.size (fun j e => by cases e)⟩)
  generalize hg : W1.heap.size = g at *
  clear hg m2 m3
  have M1 := Lib.hid m1
  clear m1
  go_wp2
  rw [M1.out]
  go_wp2
  go_loopw [6] (fun i wr => ∃ (k : Nat) (out : List Bool), i = .int .i64 k ∧ k ≤ xs.length ∧ out.length = n ∧ (∀ i, mq out i = true ↔ i < n ∧ (i : Int) ∈ xs.take k) ∧ CR w a (.slice ao n cap) g (.slice (some ⟨g, 0, none⟩) n n) out wr) (fun i _ => xs.length - (intOf i).toNat)
  case atStart => exact ⟨0, _, rfl, by omega, by simp, fun i => by rw [mk_none]; simp, C2.out⟩
  case round =>
    obtain ⟨k, out, rfl, hk, hlen, hm, hC⟩ := hrel
    have C3 := Lib.hid hC
    have HM := Lib.hid hm
    have HN := Lib.hid hlen
    clear hC hm hlen
    by_cases hlt : k < xs.length
    · obtain ⟨ad, rfl, hcell0⟩ := HL.out k hlt
      have hcell := cell_next hcell0 C3.out.2.2
      have NO := Lib.hid (among_step HM.out hlt)
      have YES := Lib.hid (fun (x : Nat) hx hxn => among_mark HM.out hlt (x := x) hx hxn HN.out)
      clear hcell0
      generalize xs.getD k 0 = x at *
      by_cases h0 : 0 ≤ x
      · by_cases h1 : x < n
        · obtain ⟨xn, rfl⟩ : ∃ xn : Nat, x = (xn : Int) := ⟨x.toNat, by omega⟩
          have Y := Lib.hid (YES.out xn rfl (by omega))
          obtain ⟨g2, eg, cx, fx⟩ := C3.out.cells HN.out xn (by omega)
          obtain rfl : g = g2 := by simpa using eg
          have hgl := cell_lt cx
          have S3 := Lib.hid (C3.out.store HN.out hwB xn)
          have HN2 : Hid ((out.set xn true).length = n) := Lib.hid (by rw [List.length_set]; exact HN.out)
          clear eg
          generalize mq out xn = z at *
          go_wp2
          go_roundw
          case rel => exact ⟨k + 1, _, by go_num, by omega, HN2.out, Y.out, S3.out⟩
          case measure => simp [intOf]; omega
        · have Y := Lib.hid (NO.out (by omega))
          go_wp2
          go_roundw
          case rel => exact ⟨k + 1, out, by go_num, by omega, HN.out, Y.out, C3.out⟩
          case measure => simp [intOf]; omega
      · have Y := Lib.hid (NO.out (by omega))
        go_wp2
        go_roundw
        case rel => exact ⟨k + 1, out, by go_num, by omega, HN.out, Y.out, C3.out⟩
        case measure => simp [intOf]; omega
    · obtain rfl : k = xs.length := by omega
      go_wp2
      go_ret
      exact ⟨_, out, rfl, C3.out.2.1.base hwB, HN.out, fun i => by rw [HM.out, List.take_length], C3.out.2.2⟩

set_option maxRecDepth 100000 in
set_option maxHeartbeats 4000000 in
theorem numbers_any (B : Nat) (u : Value) (L : List Bool) (hL : L.length ≤ 100000) (w : World) (hu : BolAt w B u L) :
    Calls Tryd.prog 20 #[u] w fun e w' => ∃ v, e = .returned v ∧ w'.ownsRow w.heap.size 3 1 v (numB L L.length).length (iV (numB L L.length)) ∧ Below w.heap.size w w' := by
  obtain ⟨uo, uc, rfl, _, hc⟩ := hu.shape
  have HC := Lib.hid (fun i hi => (hc i hi))
  clear hc hu
  go_enter Tryd.func20, Tryd.ntmps20
  go_wp2
  go_loopw [3, 4] (fun x i wr => ∃ k : Nat, k ≤ L.length ∧ i = .int .i64 k ∧ wr.ownsRow w.heap.size 3 1 x (numB L k).length (iV (numB L k)) ∧ Below w.heap.size w wr) (fun _ i _ => L.length - (intOf i).toNat)
  case atStart => exact ⟨0, by omega, rfl, World.ownsRow_nil _ _ _ _, Below.refl _ _⟩
  case round =>
    obtain ⟨k, hk, rfl, ho, hb⟩ := hrel
    have HB := Lib.hid hb
    by_cases hlt : k < L.length
    · obtain ⟨g, rfl, c0, _⟩ := HC.out k hlt
      have hcell := cell_next c0 hb
      have SU := Lib.hid (numB_succ L k)
      have hfl := numB_len L k
      clear c0
      generalize mq L k = z at *
      generalize numB L k = f at *
      obtain ⟨a1, c1, rfl⟩ := own_slice ho
      cases z
      · rw [if_neg (by decide)] at SU
        have HO := Lib.hid ho
        generalize hfe : f.length = fl at *
        have HFE := Lib.hid hfe
        clear hfe ho hb
        go_wp2
        go_roundw
        case rel => exact ⟨k + 1, by omega, by go_num, by rw [SU.out, HFE.out]; exact HO.out, HB.out⟩
        case measure => simp [intOf]; omega
      · rw [if_pos rfl] at SU
        have HO := Lib.hid ho
        generalize hfe : f.length = fl at *
        have HFE := Lib.hid hfe
        have hsz := hb.size
        clear hfe ho hb
        go_wp2_with (at_builtin; (refine wpList_appI rfl _ _ rfl w.heap.size _ fl (fl + 1) f rfl (HO.out.alloc _) _ [(k : Int)] rfl (.inr ⟨wr.heap.size, 0, 1, 1, rfl, rfl, one_new wr k⟩) rfl (by omega) (by simp only [World.size_alloc]; omega) ?_; intro v2 w2 ho2 hg2; obtain ⟨a2, c2, rfl⟩ := own_slice ho2; go_must (have O2 := Lib.hid ho2; have B2 := Lib.hid ((HB.out.alloc HB.out.size (.cells #[.int .i64 (k : Int)] 3)).grown hg2 (HB.out.alloc HB.out.size (.cells #[.int .i64 (k : Int)] 3)).size (fun j e => (World.ownsRow.lt HO.out j e).1)); clear ho2 hg2)))
        go_roundw
        case rel => exact ⟨k + 1, by omega, by go_num, by rw [SU.out, List.length_append, HFE.out]; exact O2.out, B2.out⟩
        case measure => simp [intOf]; omega
    · obtain rfl : k = L.length := by omega
      obtain ⟨a1, c1, rfl⟩ := own_slice ho
      have HO := Lib.hid ho
      clear ho hb
      go_wp2
      go_ret
      exact ⟨_, rfl, HO.out, HB.out⟩

end Go.Proofs.YtfbphiamelongaaDoor.Cl

/- Both. -/
import Derived.Test.YtoknfelheebidaaDoorRgCmp0
namespace Go.Proofs.YtoknfelheebidaaDoor.Rg
open Go.RowKit Go.Shelf

/-- a slice that reads as these ranges, and may be cut at its head -/
structure TlAt (w : World) (v : Value) (r : R) (t : List R) (a : Addr) (cap : Nat) : Prop where
  val : v = .slice (some a) (t.length + 1) cap
  cap : t.length + 1 ≤ cap ∧ cap ≤ maxLen
  lo : w.cell? a = some (.int .i64 r.1)
  hi : w.cell? ⟨a.block, a.off + 1, none⟩ = some (.int .i64 r.2)
  rest : ∀ i, i < t.length → w.cell? ((a.add 2).add (i * 2)) = some (.int .i64 (nth t i).1) ∧ w.cell? ⟨((a.add 2).add (i * 2)).block, ((a.add 2).add (i * 2)).off + 1, none⟩ = some (.int .i64 (nth t i).2)
def RdAt (w : World) (v : Value) (l : List R) : Prop := (l = [] ∧ ∃ ao cap, v = .slice ao 0 cap) ∨ ∃ r t a cap, l = r :: t ∧ TlAt w v r t a cap

theorem add_add' (a : Addr) (n m : Nat) : (a.add n).add m = a.add (n + m) := by
  unfold Addr.add
  by_cases hn : n = 0 <;> by_cases hm : m = 0 <;> simp [hn, hm] <;> omega
theorem TlAt.tail {w : World} {v : Value} {r : R} {t : List R} {a : Addr} {cap : Nat} (h : TlAt w v r t a cap) (ao : Option Addr) (ha : t ≠ [] → ao = some (a.add 2)) : RdAt w (.slice ao t.length (cap - 1)) t := by
  cases t with
  | nil => exact .inl ⟨rfl, _, _, rfl⟩
  | cons s u =>
    obtain rfl := ha (by simp)
    obtain ⟨h1, h2⟩ := h.rest 0 (by simp)
    refine .inr ⟨s, u, a.add 2, cap - 1, rfl, rfl, by have := h.cap; simp at this; omega, by simpa [Addr.add, nth] using h1, by simpa [Addr.add, nth] using h2, fun i hi => ?_⟩
    have := h.rest (i + 1) (by simpa using hi)
    rw [show nth (s :: u) (i + 1) = nth u i by simp [nth], add_add', show (i + 1) * 2 = 2 + i * 2 by omega, ← Nat.add_assoc] at this
    rw [add_add', add_add', ← Nat.add_assoc]
    exact this
theorem RdAt.next {w w' : World} {v : Value} {l : List R} (h : RdAt w v l) (hb : Below w.heap.size w w') : RdAt w' v l := by
  rcases h with h | ⟨r, t, a, cap, rfl, h⟩
  · exact .inl h
  · exact .inr ⟨r, t, a, cap, rfl, h.val, h.cap, cell_next h.lo hb, cell_next h.hi hb, fun i hi => ⟨cell_next (h.rest i hi).1 hb, cell_next (h.rest i hi).2 hb⟩⟩
theorem rd_of_row {w : World} {B : Nat} {v : Value} {l : List R} (h : w.ownsRow B 35 2 v l.length (flatR l)) : RdAt w v l := by
  have hr := rngs_of_row h
  cases l with
  | nil =>
    obtain ⟨ao, cap, rfl, _, _⟩ := hr.shape
    exact .inl ⟨rfl, _, _, rfl⟩
  | cons r t =>
    rcases h.2 with ⟨_, h0⟩ | ⟨g, cap, cur, rfl, _, hg, hn, hm, _⟩
    · simp at h0
    · rcases hr with ⟨h0, _⟩ | ⟨a, cap', he, _, hc⟩
      · simp at h0
      · simp only [Value.slice.injEq, Option.some.injEq] at he
        obtain ⟨rfl, _, rfl⟩ := he
        obtain ⟨h1, h2⟩ := hc 0 (by simp)
        refine .inr ⟨r, t, ⟨g, 0, none⟩, cap, rfl, rfl, ⟨by simpa using hn, hm⟩, by simpa [Addr.add, nth] using h1, by simpa [Addr.add, nth] using h2, fun i hi => ?_⟩
        have := hc (i + 1) (by simpa using hi)
        rw [show nth (r :: t) (i + 1) = nth t i by simp [nth]] at this
        rw [add_add', show 2 + i * 2 = (i + 1) * 2 by omega]
        exact this

/-! ### the plain words -/
structure BothR (P : Int → Bool) (a b l : List R) (ea eb : Int) : Prop where
  set : setFrom 0 l
  sa : setFrom ea a
  sb : setFrom eb b
  ea0 : 0 ≤ ea
  eb0 : 0 ≤ eb
  far : ∀ r ∈ l, r.2 + 2 ≤ ea ∨ r.2 + 2 ≤ eb
  has : ∀ c, (hasB l c || (hasB a c && hasB b c)) = P c
/-- what both have in common comes on the list -/
def addB (l : List R) (lo hi : Int) : List R := if lo ≤ hi then l ++ [(lo, hi)] else l
theorem hasB_addB (l : List R) (lo hi c : Int) : hasB (addB l lo hi) c = (hasB l c || (decide (lo ≤ c) && decide (c ≤ hi))) := by
  unfold addB
  split
  · rw [hasB_snoc]
  · rw [show (decide (lo ≤ c) && decide (c ≤ hi)) = false by simp; omega, Bool.or_false]
theorem BothR.left {P : Int → Bool} {r s : R} {a b l : List R} {ea eb lo hi : Int} (h : BothR P (r :: a) (s :: b) l ea eb) (hlt : r.2 < s.2) (hlo : (lo = r.1 ∧ s.1 ≤ r.1) ∨ (lo = s.1 ∧ r.1 ≤ s.1)) (hhi : hi = r.2) :
    BothR P a (s :: b) (addB l lo hi) (r.2 + 2) eb := by
  subst hhi
  obtain ⟨a1, a2, a3, a4⟩ := h.sa
  obtain ⟨b1, b2, b3, b4⟩ := h.sb
  have e1 := h.ea0
  have e2 := h.eb0
  refine ⟨?_, a4, h.sb, by omega, by omega, fun q hq => ?_, fun c => ?_⟩
  · unfold addB
    split
    · exact set_snoc h.set (fun q hq => by have := h.far q hq; simp only; omega) (by simp only; omega) (by simpa using (by assumption)) (by simp only; omega)
    · exact h.set
  · unfold addB at hq
    split at hq
    · rcases List.mem_append.1 hq with hq | hq
      · have := h.far q hq; omega
      · simp at hq; subst hq; simp only; omega
    · have := h.far q hq; omega
  · rw [← h.has c, hasB_addB, hasB_cons, hasB_cons]
    rcases Int.lt_or_le r.2 c with hc | hc
    · rw [show decide (c ≤ r.2) = false by simp; omega]; simp
    · rw [hasB_below a4 (by omega), hasB_below b4 (by omega), show decide (c ≤ r.2) = true by simpa using hc, show decide (c ≤ s.2) = true by simp; omega]
      have e : decide (lo ≤ c) = (decide (r.1 ≤ c) && decide (s.1 ≤ c)) := by rw [Bool.eq_iff_iff]; simp; omega
      rw [e]; simp
theorem BothR.right {P : Int → Bool} {r s : R} {a b l : List R} {ea eb lo hi : Int} (h : BothR P (r :: a) (s :: b) l ea eb) (hlt : ¬ r.2 < s.2) (hlo : (lo = r.1 ∧ s.1 ≤ r.1) ∨ (lo = s.1 ∧ r.1 ≤ s.1)) (hhi : hi = s.2) :
    BothR P (r :: a) b (addB l lo hi) ea (s.2 + 2) := by
  subst hhi
  obtain ⟨a1, a2, a3, a4⟩ := h.sa
  obtain ⟨b1, b2, b3, b4⟩ := h.sb
  have e1 := h.ea0
  have e2 := h.eb0
  refine ⟨?_, h.sa, b4, by omega, by omega, fun q hq => ?_, fun c => ?_⟩
  · unfold addB
    split
    · exact set_snoc h.set (fun q hq => by have := h.far q hq; simp only; omega) (by simp only; omega) (by simpa using (by assumption)) (by simp only; omega)
    · exact h.set
  · unfold addB at hq
    split at hq
    · rcases List.mem_append.1 hq with hq | hq
      · have := h.far q hq; omega
      · simp at hq; subst hq; simp only; omega
    · have := h.far q hq; omega
  · rw [← h.has c, hasB_addB, hasB_cons, hasB_cons]
    rcases Int.lt_or_le s.2 c with hc | hc
    · rw [show decide (c ≤ s.2) = false by simp; omega]; simp
    · rw [hasB_below a4 (by omega), hasB_below b4 (by omega), show decide (c ≤ s.2) = true by simpa using hc, show decide (c ≤ r.2) = true by simp; omega]
      have e : decide (lo ≤ c) = (decide (r.1 ≤ c) && decide (s.1 ≤ c)) := by rw [Bool.eq_iff_iff]; simp; omega
      rw [e]; simp

/-- how long a slice is -/
def lenV : Value → Nat
  | .slice _ n _ => n
  | _ => 0
def BothRel (P : Int → Bool) (n : Nat) (w2 : World) (va vb s : Value) (wr : World) : Prop :=
  ∃ (a b l : List R) (ea eb : Int), BothR P a b l ea eb ∧ RdAt w2 va a ∧ RdAt w2 vb b ∧ wr.ownsRow w2.heap.size 35 2 s l.length (flatR l) ∧ l.length + a.length + b.length ≤ n ∧ Below w2.heap.size w2 wr

set_option maxRecDepth 100000 in
set_option maxHeartbeats 8000000 in
theorem both_any (a b : List R) (va vb : Value) (w : World) (ha : RngsAt w va a) (hb : RngsAt w vb b) (hM : a.length + b.length < 1000000) :
    Calls Tryd.prog 18 #[va, vb] w fun e w' => SetOut w (fun c => inB a c && inB b c) (a.length + b.length) e w' := by
  obtain ⟨i0, hi, hz0, hz1, hz2⟩ := info_parts infoR
  have c1 := Lib.hid (of_any a va w ha (by omega))
  have c2 := Lib.hid (fun w1 (h : Below w.heap.size w w1) => of_any b vb w1 (hb.next h) (by omega))
  clear ha hb
  go_enter Tryd.func18, Tryd.ntmps18
  go_wp2_with (first
    | (go_at_call 28; (with_reducible refine c1.out.mono ?_); rintro e w1 ⟨v1, A, rfl, hr, h1, h2, h3, h4⟩; have HR := Lib.hid (rd_of_row hr); have H1 := Lib.hid h1; have H2 := Lib.hid h2; have H4 := Lib.hid h4; clear h1 h2 h4 hr)
    | (go_at_call 28; refine (c2.out _ H4.out).mono ?_; rintro e w2 ⟨v2, B, rfl, hr, k1, k2, k3, k4⟩; have K0 := Lib.hid (rd_of_row hr); have HR2 := Lib.hid (HR.out.next k4); have K1 := Lib.hid k1; have K2 := Lib.hid k2; have K4 := Lib.hid (H4.out.trans (k4.mono H4.out.size)); clear k1 k2 k4 hr))
  have hsz2 := K4.out.size
  go_loopw [0, 1, 5] (fun x y s wr => BothRel (fun c => hasB A c && hasB B c) (A.length + B.length) w2 x y s wr) (fun x y _ _ => lenV x + lenV y)
  case atStart => exact ⟨A, B, [], 0, 0, ⟨trivial, H1.out, K1.out, by omega, by omega, (by simp), fun c => by simp [hasB]⟩, HR2.out, K0.out, World.ownsRow_nil _ _ _ _, by simp, Below.refl _ _⟩
  case round =>
    obtain ⟨a', b', l, ea, eb, hR, hra, hrb, hrow, hlen, hbw⟩ := hrel
    have fin : (∀ c, (hasB a' c && hasB b' c) = false) → SetOut w (fun c => inB a c && inB b c) (a.length + b.length) (.returned u5) wr := fun h =>
      ⟨u5, l, rfl, row_base hrow hsz2, hR.set, fun c => by have := hR.has c; rw [h c, Bool.or_false] at this; rw [this, H2.out, K2.out], by omega, K4.out.trans (hbw.mono hsz2)⟩
    have FIN := Lib.hid fin
    rcases hra with ⟨rfl, ao, cap, rfl⟩ | ⟨r, ta, aa, capa, rfl, hta⟩
    · clear hrow hbw fin hR hrb
      go_wp2
      go_ret
      exact FIN.out (fun c => rfl)
    · rcases hrb with ⟨rfl, ao, cap, rfl⟩ | ⟨q, tb, ab, capb, rfl, htb⟩
      · obtain rfl := hta.val
        clear hrow hbw fin hR
        go_wp2
        go_ret
        exact FIN.out (fun c => by simp [hasB])
      · obtain rfl := hta.val
        obtain rfl := htb.val
        have c1 := cell_next hta.lo hbw
        have c2 := cell_next hta.hi hbw
        have d1 := cell_next htb.lo hbw
        have d2 := cell_next htb.hi hbw
        have hsz := hbw.size
        have hca := hta.cap
        have hcb := htb.cap
        unfold maxLen at hca hcb
        have HROW := Lib.hid hrow
        have HBW := Lib.hid hbw
        have HRR := Lib.hid hR
        have HTA := Lib.hid hta
        have HTB := Lib.hid htb
        clear hrow hbw fin hR hta htb FIN
        simp only [List.length_cons] at hlen
        rcases Int.lt_or_le r.1 q.1 with g1 | g1 <;> rcases Int.lt_trichotomy r.2 q.2 with g2 | g2 | g2
        · by_cases hle : q.1 ≤ r.2
          · have ST := Lib.hid (HRR.out.left g2 (lo := q.1) (.inr ⟨rfl, by omega⟩) rfl)
            rw [show addB l q.1 r.2 = l ++ [(q.1, r.2)] from if_pos hle] at ST
            go_wp2
            go_quiet (fail)
            go_wp2_with (at_builtin; go_must (refine wpList_append_own _ rfl _ _ 22 rfl w2.heap.size 35 i0 (.agg #[.int .i64 0, .int .i64 0]) 2 16 Tryd.underlying22 hi hz0 hz1 hz2 rfl (by decide) _ l.length (flatR l) rfl (rowR_next HROW.out ((below_drewN _ _).alloc (by simp) _)) ⟨wr.heap.size, 0, none⟩ 1 1 [.int .i64 q.1, .int .i64 r.2] rfl rfl (two_new _ _ _ _ _ (by simp)) (by simp [Value.oneCell']) (by unfold maxLen; omega) (by omega) (by simp; omega) ?_); intro v' w3 hown hgrow _; go_must (obtain ⟨z1, z2⟩ := app_row (r := (q.1, r.2)) hown hgrow (rowR_next HROW.out ((below_drewN _ _).alloc (by simp) _)) ((HBW.out.trans ((below_drewN _ _).mono hsz)).alloc (by simp; omega) _) (by simp; omega); have f1 : w3.cell? ⟨aa.block, aa.off + 1, none⟩ = some (.int .i64 r.2) := cell_next HTA.out.hi z2; have f2 := cell_next HTB.out.hi z2; have Z1 := Lib.hid z1; have Z2 := Lib.hid z2; clear hown hgrow z1 z2))
            go_quiet (fail)
            go_wp2
            go_roundw
            case measure => simp [lenV]; try omega
            case rel =>
              refine ⟨ta, q :: tb, l ++ [(q.1, r.2)], _, _, ST.out, (HTA.out.tail _ (fun h => ?_)), (.inr ⟨q, tb, ab, capb, rfl, HTB.out⟩), rowR_next Z1.out (below_drewN _ _), by simp; omega, Z2.out.trans ((below_drewN _ _).mono Z2.out.size)⟩
              have hne : ta.length ≠ 0 := fun e => h (List.eq_nil_of_length_eq_zero e)
              have hc1 : capa ≠ 1 := by omega
              rw [if_neg hc1]
              rfl
          · have ST := Lib.hid (HRR.out.left g2 (lo := q.1) (.inr ⟨rfl, by omega⟩) rfl)
            rw [show addB l q.1 r.2 = l from if_neg hle] at ST
            go_wp2
            go_quiet (fail)
            go_wp2
            go_quiet (fail)
            go_wp2
            go_roundw
            case measure => simp [lenV]; try omega
            case rel =>
              refine ⟨ta, q :: tb, l, _, _, ST.out, (HTA.out.tail _ (fun h => ?_)), (.inr ⟨q, tb, ab, capb, rfl, HTB.out⟩), rowR_next HROW.out (below_drewN _ _), by simp; omega, HBW.out.trans ((below_drewN _ _).mono HBW.out.size)⟩
              have hne : ta.length ≠ 0 := fun e => h (List.eq_nil_of_length_eq_zero e)
              have hc1 : capa ≠ 1 := by omega
              rw [if_neg hc1]
              rfl
        · rw [g2] at c2
          have HG := Lib.hid g2
          clear g2
          by_cases hle : q.1 ≤ q.2
          · have ST := Lib.hid (HRR.out.right (by have := HG.out; omega) (lo := q.1) (.inr ⟨rfl, by omega⟩) rfl)
            rw [show addB l q.1 q.2 = l ++ [(q.1, q.2)] from if_pos hle] at ST
            go_wp2
            go_quiet (fail)
            go_wp2_with (at_builtin; go_must (refine wpList_append_own _ rfl _ _ 22 rfl w2.heap.size 35 i0 (.agg #[.int .i64 0, .int .i64 0]) 2 16 Tryd.underlying22 hi hz0 hz1 hz2 rfl (by decide) _ l.length (flatR l) rfl (rowR_next HROW.out ((below_drewN _ _).alloc (by simp) _)) ⟨wr.heap.size, 0, none⟩ 1 1 [.int .i64 q.1, .int .i64 q.2] rfl rfl (two_new _ _ _ _ _ (by simp)) (by simp [Value.oneCell']) (by unfold maxLen; omega) (by omega) (by simp; omega) ?_); intro v' w3 hown hgrow _; go_must (obtain ⟨z1, z2⟩ := app_row (r := (q.1, q.2)) hown hgrow (rowR_next HROW.out ((below_drewN _ _).alloc (by simp) _)) ((HBW.out.trans ((below_drewN _ _).mono hsz)).alloc (by simp; omega) _) (by simp; omega); have f1 : w3.cell? ⟨aa.block, aa.off + 1, none⟩ = some (.int .i64 q.2) := (cell_next HTA.out.hi z2).trans (by rw [HG.out]); have f2 := cell_next HTB.out.hi z2; have Z1 := Lib.hid z1; have Z2 := Lib.hid z2; clear hown hgrow z1 z2))
            go_quiet (fail)
            go_wp2
            go_roundw
            case measure => simp [lenV]; try omega
            case rel =>
              refine ⟨r :: ta, tb, l ++ [(q.1, q.2)], _, _, ST.out, (.inr ⟨r, ta, aa, capa, rfl, HTA.out⟩), (HTB.out.tail _ (fun h => ?_)), rowR_next Z1.out (below_drewN _ _), by simp; omega, Z2.out.trans ((below_drewN _ _).mono Z2.out.size)⟩
              have hne : tb.length ≠ 0 := fun e => h (List.eq_nil_of_length_eq_zero e)
              have hc1 : capb ≠ 1 := by omega
              rw [if_neg hc1]
              rfl
          · have ST := Lib.hid (HRR.out.right (by have := HG.out; omega) (lo := q.1) (.inr ⟨rfl, by omega⟩) rfl)
            rw [show addB l q.1 q.2 = l from if_neg hle] at ST
            go_wp2
            go_quiet (fail)
            go_wp2
            go_quiet (fail)
            go_wp2
            go_roundw
            case measure => simp [lenV]; try omega
            case rel =>
              refine ⟨r :: ta, tb, l, _, _, ST.out, (.inr ⟨r, ta, aa, capa, rfl, HTA.out⟩), (HTB.out.tail _ (fun h => ?_)), rowR_next HROW.out (below_drewN _ _), by simp; omega, HBW.out.trans ((below_drewN _ _).mono HBW.out.size)⟩
              have hne : tb.length ≠ 0 := fun e => h (List.eq_nil_of_length_eq_zero e)
              have hc1 : capb ≠ 1 := by omega
              rw [if_neg hc1]
              rfl
        · by_cases hle : q.1 ≤ q.2
          · have ST := Lib.hid (HRR.out.right (by omega) (lo := q.1) (.inr ⟨rfl, by omega⟩) rfl)
            rw [show addB l q.1 q.2 = l ++ [(q.1, q.2)] from if_pos hle] at ST
            go_wp2
            go_quiet (fail)
            go_wp2_with (at_builtin; go_must (refine wpList_append_own _ rfl _ _ 22 rfl w2.heap.size 35 i0 (.agg #[.int .i64 0, .int .i64 0]) 2 16 Tryd.underlying22 hi hz0 hz1 hz2 rfl (by decide) _ l.length (flatR l) rfl (rowR_next HROW.out ((below_drewN _ _).alloc (by simp) _)) ⟨wr.heap.size, 0, none⟩ 1 1 [.int .i64 q.1, .int .i64 q.2] rfl rfl (two_new _ _ _ _ _ (by simp)) (by simp [Value.oneCell']) (by unfold maxLen; omega) (by omega) (by simp; omega) ?_); intro v' w3 hown hgrow _; go_must (obtain ⟨z1, z2⟩ := app_row (r := (q.1, q.2)) hown hgrow (rowR_next HROW.out ((below_drewN _ _).alloc (by simp) _)) ((HBW.out.trans ((below_drewN _ _).mono hsz)).alloc (by simp; omega) _) (by simp; omega); have f1 : w3.cell? ⟨aa.block, aa.off + 1, none⟩ = some (.int .i64 r.2) := cell_next HTA.out.hi z2; have f2 := cell_next HTB.out.hi z2; have Z1 := Lib.hid z1; have Z2 := Lib.hid z2; clear hown hgrow z1 z2))
            go_quiet (fail)
            go_wp2
            go_roundw
            case measure => simp [lenV]; try omega
            case rel =>
              refine ⟨r :: ta, tb, l ++ [(q.1, q.2)], _, _, ST.out, (.inr ⟨r, ta, aa, capa, rfl, HTA.out⟩), (HTB.out.tail _ (fun h => ?_)), rowR_next Z1.out (below_drewN _ _), by simp; omega, Z2.out.trans ((below_drewN _ _).mono Z2.out.size)⟩
              have hne : tb.length ≠ 0 := fun e => h (List.eq_nil_of_length_eq_zero e)
              have hc1 : capb ≠ 1 := by omega
              rw [if_neg hc1]
              rfl
          · have ST := Lib.hid (HRR.out.right (by omega) (lo := q.1) (.inr ⟨rfl, by omega⟩) rfl)
            rw [show addB l q.1 q.2 = l from if_neg hle] at ST
            go_wp2
            go_quiet (fail)
            go_wp2
            go_quiet (fail)
            go_wp2
            go_roundw
            case measure => simp [lenV]; try omega
            case rel =>
              refine ⟨r :: ta, tb, l, _, _, ST.out, (.inr ⟨r, ta, aa, capa, rfl, HTA.out⟩), (HTB.out.tail _ (fun h => ?_)), rowR_next HROW.out (below_drewN _ _), by simp; omega, HBW.out.trans ((below_drewN _ _).mono HBW.out.size)⟩
              have hne : tb.length ≠ 0 := fun e => h (List.eq_nil_of_length_eq_zero e)
              have hc1 : capb ≠ 1 := by omega
              rw [if_neg hc1]
              rfl
        · by_cases hle : r.1 ≤ r.2
          · have ST := Lib.hid (HRR.out.left g2 (lo := r.1) (.inl ⟨rfl, g1⟩) rfl)
            rw [show addB l r.1 r.2 = l ++ [(r.1, r.2)] from if_pos hle] at ST
            go_wp2
            go_quiet (fail)
            go_wp2_with (at_builtin; go_must (refine wpList_append_own _ rfl _ _ 22 rfl w2.heap.size 35 i0 (.agg #[.int .i64 0, .int .i64 0]) 2 16 Tryd.underlying22 hi hz0 hz1 hz2 rfl (by decide) _ l.length (flatR l) rfl (rowR_next HROW.out ((below_drewN _ _).alloc (by simp) _)) ⟨wr.heap.size, 0, none⟩ 1 1 [.int .i64 r.1, .int .i64 r.2] rfl rfl (two_new _ _ _ _ _ (by simp)) (by simp [Value.oneCell']) (by unfold maxLen; omega) (by omega) (by simp; omega) ?_); intro v' w3 hown hgrow _; go_must (obtain ⟨z1, z2⟩ := app_row (r := (r.1, r.2)) hown hgrow (rowR_next HROW.out ((below_drewN _ _).alloc (by simp) _)) ((HBW.out.trans ((below_drewN _ _).mono hsz)).alloc (by simp; omega) _) (by simp; omega); have f1 : w3.cell? ⟨aa.block, aa.off + 1, none⟩ = some (.int .i64 r.2) := cell_next HTA.out.hi z2; have f2 := cell_next HTB.out.hi z2; have Z1 := Lib.hid z1; have Z2 := Lib.hid z2; clear hown hgrow z1 z2))
            go_quiet (fail)
            go_wp2
            go_roundw
            case measure => simp [lenV]; try omega
            case rel =>
              refine ⟨ta, q :: tb, l ++ [(r.1, r.2)], _, _, ST.out, (HTA.out.tail _ (fun h => ?_)), (.inr ⟨q, tb, ab, capb, rfl, HTB.out⟩), rowR_next Z1.out (below_drewN _ _), by simp; omega, Z2.out.trans ((below_drewN _ _).mono Z2.out.size)⟩
              have hne : ta.length ≠ 0 := fun e => h (List.eq_nil_of_length_eq_zero e)
              have hc1 : capa ≠ 1 := by omega
              rw [if_neg hc1]
              rfl
          · have ST := Lib.hid (HRR.out.left g2 (lo := r.1) (.inl ⟨rfl, g1⟩) rfl)
            rw [show addB l r.1 r.2 = l from if_neg hle] at ST
            go_wp2
            go_quiet (fail)
            go_wp2
            go_quiet (fail)
            go_wp2
            go_roundw
            case measure => simp [lenV]; try omega
            case rel =>
              refine ⟨ta, q :: tb, l, _, _, ST.out, (HTA.out.tail _ (fun h => ?_)), (.inr ⟨q, tb, ab, capb, rfl, HTB.out⟩), rowR_next HROW.out (below_drewN _ _), by simp; omega, HBW.out.trans ((below_drewN _ _).mono HBW.out.size)⟩
              have hne : ta.length ≠ 0 := fun e => h (List.eq_nil_of_length_eq_zero e)
              have hc1 : capa ≠ 1 := by omega
              rw [if_neg hc1]
              rfl
        · rw [g2] at c2
          have HG := Lib.hid g2
          clear g2
          by_cases hle : r.1 ≤ q.2
          · have ST := Lib.hid (HRR.out.right (by have := HG.out; omega) (lo := r.1) (.inl ⟨rfl, g1⟩) rfl)
            rw [show addB l r.1 q.2 = l ++ [(r.1, q.2)] from if_pos hle] at ST
            go_wp2
            go_quiet (fail)
            go_wp2_with (at_builtin; go_must (refine wpList_append_own _ rfl _ _ 22 rfl w2.heap.size 35 i0 (.agg #[.int .i64 0, .int .i64 0]) 2 16 Tryd.underlying22 hi hz0 hz1 hz2 rfl (by decide) _ l.length (flatR l) rfl (rowR_next HROW.out ((below_drewN _ _).alloc (by simp) _)) ⟨wr.heap.size, 0, none⟩ 1 1 [.int .i64 r.1, .int .i64 q.2] rfl rfl (two_new _ _ _ _ _ (by simp)) (by simp [Value.oneCell']) (by unfold maxLen; omega) (by omega) (by simp; omega) ?_); intro v' w3 hown hgrow _; go_must (obtain ⟨z1, z2⟩ := app_row (r := (r.1, q.2)) hown hgrow (rowR_next HROW.out ((below_drewN _ _).alloc (by simp) _)) ((HBW.out.trans ((below_drewN _ _).mono hsz)).alloc (by simp; omega) _) (by simp; omega); have f1 : w3.cell? ⟨aa.block, aa.off + 1, none⟩ = some (.int .i64 q.2) := (cell_next HTA.out.hi z2).trans (by rw [HG.out]); have f2 := cell_next HTB.out.hi z2; have Z1 := Lib.hid z1; have Z2 := Lib.hid z2; clear hown hgrow z1 z2))
            go_quiet (fail)
            go_wp2
            go_roundw
            case measure => simp [lenV]; try omega
            case rel =>
              refine ⟨r :: ta, tb, l ++ [(r.1, q.2)], _, _, ST.out, (.inr ⟨r, ta, aa, capa, rfl, HTA.out⟩), (HTB.out.tail _ (fun h => ?_)), rowR_next Z1.out (below_drewN _ _), by simp; omega, Z2.out.trans ((below_drewN _ _).mono Z2.out.size)⟩
              have hne : tb.length ≠ 0 := fun e => h (List.eq_nil_of_length_eq_zero e)
              have hc1 : capb ≠ 1 := by omega
              rw [if_neg hc1]
              rfl
          · have ST := Lib.hid (HRR.out.right (by have := HG.out; omega) (lo := r.1) (.inl ⟨rfl, g1⟩) rfl)
            rw [show addB l r.1 q.2 = l from if_neg hle] at ST
            go_wp2
            go_quiet (fail)
            go_wp2
            go_quiet (fail)
            go_wp2
            go_roundw
            case measure => simp [lenV]; try omega
            case rel =>
              refine ⟨r :: ta, tb, l, _, _, ST.out, (.inr ⟨r, ta, aa, capa, rfl, HTA.out⟩), (HTB.out.tail _ (fun h => ?_)), rowR_next HROW.out (below_drewN _ _), by simp; omega, HBW.out.trans ((below_drewN _ _).mono HBW.out.size)⟩
              have hne : tb.length ≠ 0 := fun e => h (List.eq_nil_of_length_eq_zero e)
              have hc1 : capb ≠ 1 := by omega
              rw [if_neg hc1]
              rfl
        · by_cases hle : r.1 ≤ q.2
          · have ST := Lib.hid (HRR.out.right (by omega) (lo := r.1) (.inl ⟨rfl, g1⟩) rfl)
            rw [show addB l r.1 q.2 = l ++ [(r.1, q.2)] from if_pos hle] at ST
            go_wp2
            go_quiet (fail)
            go_wp2_with (at_builtin; go_must (refine wpList_append_own _ rfl _ _ 22 rfl w2.heap.size 35 i0 (.agg #[.int .i64 0, .int .i64 0]) 2 16 Tryd.underlying22 hi hz0 hz1 hz2 rfl (by decide) _ l.length (flatR l) rfl (rowR_next HROW.out ((below_drewN _ _).alloc (by simp) _)) ⟨wr.heap.size, 0, none⟩ 1 1 [.int .i64 r.1, .int .i64 q.2] rfl rfl (two_new _ _ _ _ _ (by simp)) (by simp [Value.oneCell']) (by unfold maxLen; omega) (by omega) (by simp; omega) ?_); intro v' w3 hown hgrow _; go_must (obtain ⟨z1, z2⟩ := app_row (r := (r.1, q.2)) hown hgrow (rowR_next HROW.out ((below_drewN _ _).alloc (by simp) _)) ((HBW.out.trans ((below_drewN _ _).mono hsz)).alloc (by simp; omega) _) (by simp; omega); have f1 : w3.cell? ⟨aa.block, aa.off + 1, none⟩ = some (.int .i64 r.2) := cell_next HTA.out.hi z2; have f2 := cell_next HTB.out.hi z2; have Z1 := Lib.hid z1; have Z2 := Lib.hid z2; clear hown hgrow z1 z2))
            go_quiet (fail)
            go_wp2
            go_roundw
            case measure => simp [lenV]; try omega
            case rel =>
              refine ⟨r :: ta, tb, l ++ [(r.1, q.2)], _, _, ST.out, (.inr ⟨r, ta, aa, capa, rfl, HTA.out⟩), (HTB.out.tail _ (fun h => ?_)), rowR_next Z1.out (below_drewN _ _), by simp; omega, Z2.out.trans ((below_drewN _ _).mono Z2.out.size)⟩
              have hne : tb.length ≠ 0 := fun e => h (List.eq_nil_of_length_eq_zero e)
              have hc1 : capb ≠ 1 := by omega
              rw [if_neg hc1]
              rfl
          · have ST := Lib.hid (HRR.out.right (by omega) (lo := r.1) (.inl ⟨rfl, g1⟩) rfl)
            rw [show addB l r.1 q.2 = l from if_neg hle] at ST
            go_wp2
            go_quiet (fail)
            go_wp2
            go_quiet (fail)
            go_wp2
            go_roundw
            case measure => simp [lenV]; try omega
            case rel =>
              refine ⟨r :: ta, tb, l, _, _, ST.out, (.inr ⟨r, ta, aa, capa, rfl, HTA.out⟩), (HTB.out.tail _ (fun h => ?_)), rowR_next HROW.out (below_drewN _ _), by simp; omega, HBW.out.trans ((below_drewN _ _).mono HBW.out.size)⟩
              have hne : tb.length ≠ 0 := fun e => h (List.eq_nil_of_length_eq_zero e)
              have hc1 : capb ≠ 1 := by omega
              rw [if_neg hc1]
              rfl

end Go.Proofs.YtoknfelheebidaaDoor.Rg

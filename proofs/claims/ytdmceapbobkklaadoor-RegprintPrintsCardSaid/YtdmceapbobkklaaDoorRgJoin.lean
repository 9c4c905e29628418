/- joined: the set that leaves the pile. -/
import Derived.Test.YtdmceapbobkklaaDoorRgPut
namespace Go.Proofs.YtdmceapbobkklaaDoor.Rg
open Go.RowKit Go.Shelf

/-- what joined has told, and what is still on the pile -/
structure Joined (l xs : List R) (P : Int → Bool) : Prop where
  set : setFrom 0 l
  has : ∀ c, (hasB l c || hasB xs c) = P c
  ok : okL xs
  least : ∀ c a b, l = c ++ [(a, b)] → ∀ q ∈ xs, a ≤ q.1

theorem hasB_snoc (l : List R) (r : R) (c : Int) : hasB (l ++ [r]) c = (hasB l c || (decide (r.1 ≤ c) && decide (c ≤ r.2))) := by rw [hasB_append, hasB_one]
theorem Joined.apart {l xs ys : List R} {P : Int → Bool} {r : R} (h : Joined l xs P) (hp : (ys ++ [r]).Perm xs) (hl : ∀ q ∈ ys, r.1 ≤ q.1) (hn : ∀ c a b, l = c ++ [(a, b)] → b + 1 < r.1) : Joined (l ++ [r]) ys P := by
  have hr := h.ok r (hp.mem_iff.1 (by simp))
  refine ⟨set_snoc h.set (fun q hq => ?_) hr.1 hr.2.1 hr.2.2, fun c => ?_, fun q hq => h.ok q (hp.mem_iff.1 (by simp [hq])), fun c a b e q hq => ?_⟩
  · rcases snoc_cases l with rfl | ⟨c, ⟨a, b⟩, rfl⟩
    · simp at hq
    · have h2 := hn c a b rfl
      have h3 := set_parts h.set
      rcases List.mem_append.1 hq with h4 | h4
      · have := h3.2.1 q h4; have := h3.2.2.2.1; simp only at *; omega
      · simp at h4; subst h4; simp only; omega
  · rw [← h.has c, ← hasB_perm hp, hasB_snoc, hasB_snoc]
    grind
  · have := List.append_inj' e rfl
    have h2 : r = (a, b) := by simpa using this.2
    have h3 := hl q hq
    rw [h2] at h3
    exact h3
theorem Joined.touch {c xs ys : List R} {a b b' : Int} {P : Int → Bool} {r : R} (h : Joined (c ++ [(a, b)]) xs P) (hp : (ys ++ [r]).Perm xs) (hn : ¬ b + 1 < r.1) (hb : b' = max b r.2) : Joined (c ++ [(a, b')]) ys P := by
  have hm := hp.mem_iff (a := r) |>.1 (by simp)
  have hr := h.ok r hm
  have hla := h.least c a b rfl r hm
  obtain ⟨p1, p2, p3, p4, p5⟩ := set_parts h.set
  simp only at p3 p4 p5
  have hr3 := hr.2.2
  subst hb
  refine ⟨set_last h.set (Int.le_trans p4 (Int.le_max_left _ _)) (Int.max_le.2 ⟨p5, hr3⟩), fun x => ?_, fun q hq => h.ok q (hp.mem_iff.1 (by simp [hq])), fun c' a' b2 e q hq => ?_⟩
  · rw [← h.has x, ← hasB_perm hp, hasB_snoc, hasB_snoc, hasB_snoc]
    have e : (decide (a ≤ x) && decide (x ≤ max b r.2)) = ((decide (a ≤ x) && decide (x ≤ b)) || (decide (r.1 ≤ x) && decide (x ≤ r.2))) := by
      rcases Int.le_total b r.2 with h | h
      · rw [Int.max_eq_right h, Bool.eq_iff_iff]; simp; omega
      · rw [Int.max_eq_left h, Bool.eq_iff_iff]; simp; omega
    simp only at e ⊢
    rw [e]
    grind
  · have := List.append_inj' e rfl
    simp at this
    rw [← this.2.1]
    exact h.least c a b rfl q (hp.mem_iff.1 (by simp [hq]))

/-- the last range of a row that the call owns -/
theorem rowR_last {W : World} {B g cap : Nat} {c : List R} {r : R} (h : W.ownsRow B 75 2 (.slice (some ⟨g, 0, none⟩) (c.length + 1) cap) (c.length + 1) (flatR (c ++ [r]))) :
    W.cell? ⟨g, c.length * 2, none⟩ = some (.int .i64 r.1) ∧ W.cell? ⟨g, c.length * 2 + 1, none⟩ = some (.int .i64 r.2) := by
  have hfl := flatR_at (c ++ [r]) c.length (by simp)
  rw [nth_last] at hfl
  exact ⟨by rw [h.cellAt _ (by omega), hfl.1], by rw [h.cellAt _ (by omega), hfl.2]⟩
/-- its end stored anew -/
theorem rowR_setHi {W : World} {B g cap : Nat} {c : List R} {a b b' : Int} (h : W.ownsRow B 75 2 (.slice (some ⟨g, 0, none⟩) (c.length + 1) cap) (c.length + 1) (flatR (c ++ [(a, b)]))) :
    (W.setCell ⟨g, c.length * 2 + 1, none⟩ (.int .i64 b')).ownsRow B 75 2 (.slice (some ⟨g, 0, none⟩) (c.length + 1) cap) (c.length + 1) (flatR (c ++ [(a, b')])) ∧ W.grownBy (W.setCell ⟨g, c.length * 2 + 1, none⟩ (.int .i64 b')) (some g) := by
  have h1 := h.stored (c.length * 2 + 1) (.int .i64 b')
  have e : (flatR (c ++ [(a, b)])).set (c.length * 2 + 1) (.int .i64 b') = flatR (c ++ [(a, b')]) := by
    rw [flatR_snoc, flatR_snoc, ← flatR_len c, List.set_append_right _ _ (by omega)]
    simp
  rw [e] at h1
  exact h1

theorem two_new (W : World) (x y : Value) (t : TypeId) (N : Nat) (hN : W.heap.size = N) : ∀ j u, [x, y][j]? = some u → (W.alloc (.cells #[x, y] t)).cell? ((⟨N, 0, none⟩ : Addr).add j) = some u := by
  subst hN
  intro j u hj
  match j, hj with
  | 0, hj => simp at hj; subst hj; simp [Addr.add]
  | 1, hj => simp at hj; subst hj; simp [Addr.add]
  | j + 2, hj => simp at hj
theorem Pile.grown {B pb g n cap : Nat} {ys : List R} {W w3 : World} {row : Option Nat} (h : Pile B pb (.slice (some ⟨g, 0, none⟩) n cap) ys W) (hg : W.grownBy w3 row) (h1 : some pb ≠ row) (h2 : some g ≠ row) : Pile B pb (.slice (some ⟨g, 0, none⟩) n cap) ys w3 :=
  ⟨h.base, (hg.block pb h.lt h1).trans h.box, h.row.kept hg (.inr (by simpa [Value.ownBlock] using h2))⟩
/-- how many lie on the pile -/
def pileLen (pb : Nat) (w : World) : Nat := match w.cell? ⟨pb, 0, none⟩ with | some (.slice _ n _) => n | _ => 0
theorem Pile.len {B pb n cap : Nat} {ao : Option Addr} {ys : List R} {w : World} (h : Pile B pb (.slice ao n cap) ys w) : pileLen pb w = n := by simp [pileLen, h.cell]

def JoinRel (B pb g cap : Nat) (xs : List R) (w : World) (s : Value) (wr : World) : Prop :=
  ∃ (l ys : List R), wr.ownsRow w.heap.size 75 2 s l.length (flatR l) ∧ (l = [] → s = .slice none 0 0) ∧ Joined l ys (hasB xs) ∧ Heap (key ys) ys.length ∧ Pile B pb (.slice (some ⟨g, 0, none⟩) ys.length cap) ys wr ∧ l.length + ys.length ≤ xs.length ∧ Below B w wr ∧ w.heap.size ≤ wr.heap.size

theorem join_on {B pb g cap : Nat} {xs l l' ys zs : List R} {w w2 W w3 : World} {s v' : Value} {r : R} (hj : Joined l' zs (hasB xs)) (hn : l' ≠ []) (hll : l'.length ≤ l.length + 1) (hpm : (zs ++ [r]).Perm ys) (hh : Heap (key zs) zs.length) (hp : Pile B pb (.slice (some ⟨g, 0, none⟩) zs.length cap) zs w2) (hb : Below B w w2) (hsz : w.heap.size ≤ w2.heap.size)
    (hlen : l.length + ys.length ≤ xs.length) (hpb : pb < w.heap.size) (hg : g < w.heap.size) (hrow : W.ownsRow w.heap.size 75 2 s l.length (flatR l)) (hW : Below w2.heap.size w2 W)
    (hown : w3.ownsRow w.heap.size 75 2 v' l'.length (flatR l')) (hgrow : W.grownBy w3 s.ownBlock) : JoinRel B pb g cap xs w v' w3 ∧ pileLen pb w3 < ys.length := by
  have hB := hp.base
  have h1 := hpm.length_eq
  simp only [List.length_append, List.length_cons, List.length_nil] at h1
  have hs : ∀ k, some k = s.ownBlock → w.heap.size ≤ k := fun k hk => (hrow.lt k hk.symm).1
  have hp3 := (hp.next hW).grown hgrow (fun e => by have := hs _ e; omega) (fun e => by have := hs _ e; omega)
  have hw3 : Below B w w3 := by
    refine (hb.trans (hW.mono (by have := hp.lt; omega))).trans ⟨hgrow.os, hgrow.tape, hgrow.output, hgrow.size, fun k hk => hgrow.block k ?_ fun e => ?_⟩
    · have := hW.size; have := hp.lt; omega
    · have := hs _ e; omega
  refine ⟨⟨l', zs, hown, fun h => absurd h hn, hj, hh, hp3, by omega, hw3, ?_⟩, by rw [hp3.len]; omega⟩
  have := hgrow.size
  have := hW.size
  omega

set_option maxRecDepth 100000 in
set_option maxHeartbeats 4000000 in
theorem joined_any (B pb g cap : Nat) (xs : List R) (w : World) (hp : Pile B pb (.slice (some ⟨g, 0, none⟩) xs.length cap) xs w) (hg : g < w.heap.size) (hh : Heap (key xs) xs.length) (ho : okL xs) (hM : xs.length ≤ 1000000) :
    Calls Tryd.prog 63 #[ifc pb] w fun e w' => ∃ v l, e = .returned v ∧ w'.ownsRow w.heap.size 75 2 v l.length (flatR l) ∧ setFrom 0 l ∧ (∀ c, hasB l c = hasB xs c) ∧ l.length ≤ xs.length ∧ Below B w w' := by
  obtain ⟨i0, hi, hz0, hz1, hz2⟩ := info_parts infoR
  have e1 := eLen
  have ta := assertR
  have hpb := hp.lt
  have hB := hp.base
  go_enter Tryd.func63, Tryd.ntmps63
  go_wp2
  go_loopw [3] (fun s wr => JoinRel B pb g cap xs w s wr) (fun _ wr => pileLen pb wr)
  case atStart => exact ⟨[], xs, World.ownsRow_nil _ _ _ _, fun _ => rfl, ⟨trivial, fun c => by simp [hasB], ho, fun c a b e => by simp at e⟩, hh, hp, by simp, Below.refl _ _, Nat.le_refl _⟩
  case round =>
    clear hp hh ho
    obtain ⟨l, ys, hrow, hnil, hj, hh, hp, hlen, hb, hsz⟩ := hrel
    have e2 := fun N => byVal wr pb _ hp.cell _ _ N fLen
    have HJ := Lib.hid hj
    have hpl := hp.len
    have HPL := Lib.hid hpl
    have hgs : ∀ W, Fr pb (some g) wr W → W.ownsRow w.heap.size 75 2 u3 l.length (flatR l) ∧ Below B w W ∧ w.heap.size ≤ W.heap.size := fun W h =>
      ⟨h.row hrow (by omega) (fun k hk => by simp at hk; omega), hb.trans (hp.below h), by have := h.size; omega⟩
    by_cases h0 : 0 < ys.length
    · have pop := hpop_any B pb g cap ys wr hp hh h0 (by omega)
      have PO := Lib.hid pop
      have HS := Lib.hid hpb
      rcases snoc_cases l with rfl | ⟨c, ⟨a, b⟩, rfl⟩
      · obtain rfl := hnil rfl
        have app : ∀ r zs w2, (zs ++ [r]).Perm ys → Heap (key zs) zs.length → (∀ q ∈ zs, r.1 ≤ q.1) → Pile B pb (.slice (some ⟨g, 0, none⟩) zs.length cap) zs w2 → Fr pb (some g) wr w2 → ∀ W v' w3, Below w2.heap.size w2 W →
            w3.ownsRow w.heap.size 75 2 v' (0 + 1) ([] ++ [.int .i64 r.1, .int .i64 r.2]) → W.grownBy w3 (Value.slice none 0 0).ownBlock → JoinRel B pb g cap xs w v' w3 ∧ pileLen pb w3 < ys.length := by
          intro r zs w2 h1 h2 h3 h4 h5 W v' w3 hW hown hgr
          obtain ⟨k1, k2, k3⟩ := hgs _ h5
          exact join_on (l := []) (l' := [r]) (hj.apart h1 h3 fun c a b e => by simp at e) (by simp) (by simp) h1 h2 h4 k2 k3 hlen hpb hg (rowR_next k1 hW) hW (by simpa [flatR] using hown) hgr
        have APP := Lib.hid app
        simp only [List.length_nil] at *
        clear hp hh hj hb hrow pop hgs app hpl hlen
        go_wp2_with (first
          | (go_at_fn 101; refine (len_any _ _ _ _).mono ?_; rintro e w2 ⟨rfl, hw⟩; subst hw)
          | (go_at_call 67; refine PO.out.mono ?_; rintro e w2 ⟨r, zs, rfl, h1, h2, h3, h4, h5⟩; have hz5 : w.heap.size ≤ w2.heap.size := Nat.le_trans hsz h5.size; have AP := Lib.hid (APP.out r zs w2 h1 h2 h3 h4 h5); clear h1 h2 h3 h4 h5))
        go_quiet (fail)
        go_wp2_with (at_builtin; refine wpList_append_own _ rfl _ _ 52 rfl w.heap.size 75 i0 (.agg #[.int .i64 0, .int .i64 0]) 2 16 Tryd.underlying52 hi hz0 hz1 hz2 rfl (by decide) (.slice none 0 0) 0 [] rfl (World.ownsRow_nil _ _ _ _) ⟨w2.heap.size + 1, 0, none⟩ 1 1 [.int .i64 r.1, .int .i64 r.2] rfl rfl (two_new _ _ _ _ _ (by simp)) (by simp [Value.oneCell']) (by decide) (by decide) (by simp; omega) ?_; intro v' w3 hown hgrow _; obtain ⟨z1, z2⟩ := AP.out _ v' w3 ((((Below.refl _ _).alloc (Nat.le_refl _) _).trans ((below_drewN _ _).mono (by simp))).alloc (by simp) _) hown hgrow; clear hown hgrow; have Z1 := Lib.hid z1; have Z2 := Lib.hid z2; clear z1 z2)
        go_roundw
        case rel => exact Z1.out
        case measure => rw [HPL.out]; exact Z2.out
      · have hcl : (c ++ [(a, b)]).length = c.length + 1 := by simp
        obtain ⟨p1, p2, p3, p4, p5⟩ := set_parts hj.set
        simp only at p3 p4 p5
        rw [hcl] at hrow
        obtain ⟨g2, cap2, rfl⟩ := ownsRow_succ hrow
        have app : ∀ r zs w2, (zs ++ [r]).Perm ys → Heap (key zs) zs.length → (∀ q ∈ zs, r.1 ≤ q.1) → Pile B pb (.slice (some ⟨g, 0, none⟩) zs.length cap) zs w2 → Fr pb (some g) wr w2 → b + 1 < r.1 → ∀ W v' w3, Below w2.heap.size w2 W →
            w3.ownsRow w.heap.size 75 2 v' (c.length + 1 + 1) (flatR (c ++ [(a, b)]) ++ [.int .i64 r.1, .int .i64 r.2]) → W.grownBy w3 (Value.slice (some ⟨g2, 0, none⟩) (c.length + 1) cap2).ownBlock → JoinRel B pb g cap xs w v' w3 ∧ pileLen pb w3 < ys.length := by
          intro r zs w2 h1 h2 h3 h4 h5 hgt W v' w3 hW hown hgr
          obtain ⟨k1, k2, k3⟩ := hgs _ h5
          exact join_on (l := c ++ [(a, b)]) (l' := (c ++ [(a, b)]) ++ [r]) (hj.apart h1 h3 fun c' a' b' e => by
            have := (List.append_inj' e rfl).2
            simp at this
            rw [← this.2]; exact hgt) (by simp) (by simp) h1 h2 h4 k2 k3 hlen hpb hg (rowR_next k1 hW) hW (by rw [flatR_snoc]; simpa using hown) hgr
        have tou : ∀ r zs w2, (zs ++ [r]).Perm ys → Heap (key zs) zs.length → (∀ q ∈ zs, r.1 ≤ q.1) → Pile B pb (.slice (some ⟨g, 0, none⟩) zs.length cap) zs w2 → Fr pb (some g) wr w2 → ¬ b + 1 < r.1 → ∀ W b', Below w2.heap.size w2 W → b' = max b r.2 →
            JoinRel B pb g cap xs w (Value.slice (some ⟨g2, 0, none⟩) (c.length + 1) cap2) (W.setCell ⟨g2, c.length * 2 + 1, none⟩ (.int .i64 b')) ∧ pileLen pb (W.setCell ⟨g2, c.length * 2 + 1, none⟩ (.int .i64 b')) < ys.length := by
          intro r zs w2 h1 h2 h3 h4 h5 hgt W b' hW hb'
          obtain ⟨k1, k2, k3⟩ := hgs _ h5
          have k4 := rowR_next k1 hW
          rw [hcl] at k4
          obtain ⟨k5, k6⟩ := rowR_setHi (b' := b') k4
          exact join_on (l := c ++ [(a, b)]) (l' := c ++ [(a, b')]) (hj.touch h1 hgt hb') (by simp) (by simp) h1 h2 h4 k2 k3 hlen hpb hg (rowR_next k1 hW) hW (by simpa using k5) k6
        have APP := Lib.hid app
        have TOU := Lib.hid tou
        have hm : c.length + 1 ≤ 1000000 := by simp at hlen; omega
        clear hp hh hj hb hrow pop app tou hpl hlen hnil p1 p2
        rw [hcl] at hgs
        have GS := Lib.hid hgs
        clear hgs
        have HCL := Lib.hid hcl
        clear hcl
        have last : ∀ W : World, W.ownsRow w.heap.size 75 2 (.slice (some ⟨g2, 0, none⟩) (c.length + 1) cap2) (c.length + 1) (flatR (c ++ [(a, b)])) → W.cell? ⟨g2, c.length * 2, none⟩ = some (.int .i64 a) ∧ W.cell? ⟨g2, c.length * 2 + 1, none⟩ = some (.int .i64 b) := fun W h => rowR_last h
        have LA := Lib.hid last
        clear last
        generalize hmm : c.length = m at *
        clear hmm
        go_wp2_with (first
          | (go_at_fn 101; refine (len_any _ _ _ _).mono ?_; rintro e w2 ⟨rfl, hw⟩; subst hw)
          | (go_at_call 67; refine PO.out.mono ?_; rintro e w2 ⟨r, zs, rfl, h1, h2, h3, h4, h5⟩; have hr2 := (GS.out _ h5).1; have hr3 := rowR_next hr2 ((Below.refl w2.heap.size w2).alloc (Nat.le_refl _) (.cells #[.int .i64 r.1, .int .i64 r.2] 75)); obtain ⟨d1, d2⟩ := LA.out _ hr3; have fz := hr3.frozenAt; clear hr3; have HR2 := Lib.hid hr2; have hz5 : w.heap.size ≤ w2.heap.size := Nat.le_trans hsz h5.size; have AP := Lib.hid (APP.out r zs w2 h1 h2 h3 h4 h5); have TO := Lib.hid (TOU.out r zs w2 h1 h2 h3 h4 h5); clear h1 h2 h3 h4 h5 hr2))
        have n0 : ¬ ((m : Int) < 0) := by omega
        have n1 : (m : Int) < (m : Int) + 1 := by omega
        by_cases hgt : b + 1 < r.1
        · go_quiet (fail)
          go_wp2_with (at_builtin; refine wpList_append_own _ rfl _ _ 52 rfl w.heap.size 75 i0 (.agg #[.int .i64 0, .int .i64 0]) 2 16 Tryd.underlying52 hi hz0 hz1 hz2 rfl (by decide) (.slice (some ⟨g2, 0, none⟩) (m + 1) cap2) (m + 1) (flatR (c ++ [(a, b)])) rfl (rowR_next HR2.out ((((Below.refl _ _).alloc (Nat.le_refl _) _).trans ((below_drewN _ _).mono (by simp))).alloc (by simp) _)) ⟨w2.heap.size + 1, 0, none⟩ 1 1 [.int .i64 r.1, .int .i64 r.2] rfl rfl (two_new _ _ _ _ _ (by simp)) (by simp [Value.oneCell']) (by unfold maxLen; omega) (by omega) (by simp; omega) ?_; intro v' w3 hown hgrow _; obtain ⟨z1, z2⟩ := AP.out hgt _ v' w3 ((((Below.refl _ _).alloc (Nat.le_refl _) _).trans ((below_drewN _ _).mono (by simp))).alloc (by simp) _) hown hgrow; clear hown hgrow; have Z1 := Lib.hid z1; have Z2 := Lib.hid z2; clear z1 z2)
          go_roundw
          case rel => exact Z1.out
          case measure => rw [HPL.out]; exact Z2.out
        · go_quiet (fail)
          go_wp2
          go_region
          all_goals (
            go_wp2
            go_roundw
            case rel =>
              refine (TO.out hgt _ _ (((Below.refl _ _).alloc (Nat.le_refl _) _).trans ((below_drewN _ _).mono (by simp))) ?_).1
              split <;> omega
            case measure =>
              rw [HPL.out]
              refine (TO.out hgt _ _ (((Below.refl _ _).alloc (Nat.le_refl _) _).trans ((below_drewN _ _).mono (by simp))) ?_).2
              split <;> omega)
    · obtain rfl : ys = [] := List.eq_nil_of_length_eq_zero (by omega)
      have hset := hj.set
      have hhas := hj.has
      have HR := Lib.hid hrow
      have fin : ∀ c, hasB l c = hasB xs c := fun c => by rw [← hhas c]; simp [hasB]
      have HF := Lib.hid fin
      have HT := Lib.hid hset
      have HB := Lib.hid hb
      have hle : l.length ≤ xs.length := by simp at hlen; omega
      clear hp hh hj hb hrow hgs fin hpl hlen hset hhas hnil
      go_wp2_with (go_at_fn 101; refine (len_any _ _ _ _).mono ?_; rintro e w2 ⟨rfl, hw⟩; subst hw)
      go_ret
      exact ⟨_, l, rfl, HR.out, HT.out, HF.out, hle, HB.out⟩

end Go.Proofs.YtdmceapbobkklaaDoor.Rg

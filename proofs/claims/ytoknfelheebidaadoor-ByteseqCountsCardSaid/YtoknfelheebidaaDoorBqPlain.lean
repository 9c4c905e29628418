/- Code points as rows of ranges of bytes: plain words. -/
import Derived.Test.YtoknfelheebidaaDoorUtPlain
import Derived.Test.YtoknfelheebidaaDoorRgPlain
namespace Go.Proofs.YtoknfelheebidaaDoor.Bq
open Go Go.Proofs.YtoknfelheebidaaDoor.Ut Go.Proofs.YtoknfelheebidaaDoor.Rg

/-- how many bytes -/
def wid (c : Int) : Nat := if c ≤ 127 then 1 else if c ≤ 2047 then 2 else if c ≤ 65535 then 3 else 4
/-- a range within one span -/
def Span (lo hi : Int) : Prop := (0 ≤ lo ∧ hi ≤ 127) ∨ (128 ≤ lo ∧ hi ≤ 2047) ∨ (2048 ≤ lo ∧ hi ≤ 55295) ∨ (57344 ≤ lo ∧ hi ≤ 65535) ∨ (65536 ≤ lo ∧ hi ≤ 1114111)
def blk (k : Nat) : Int := if k = 1 then 64 else if k = 2 then 4096 else 262144
/-- where a range is parted, asked from the k-th byte from behind on -/
def cutG (L : Nat) (lo hi : Int) : Nat → Nat → Option Int
  | 0, _ => none
  | f + 1, k => if k < L then (if lo / blk k = hi / blk k then none else if lo / blk k * blk k < lo then some (lo / blk k * blk k + blk k) else if hi < hi / blk k * blk k + blk k - 1 then some (hi / blk k * blk k) else cutG L lo hi f (k + 1)) else none
def cutF (lo hi : Int) : Option Int := cutG (wid lo) lo hi 4 1

theorem cut1 {lo hi : Int} (h : wid lo = 1) : cutF lo hi = none := by simp [cutF, cutG, h]
def ask (B lo hi : Int) (o : Option Int) : Option Int := if lo / B = hi / B then none else if lo / B * B < lo then some (lo / B * B + B) else if hi < hi / B * B + B - 1 then some (hi / B * B) else o
theorem cut2 {lo hi : Int} (h : wid lo = 2) : cutF lo hi = ask 64 lo hi none := by simp [cutF, cutG, h, blk, ask]
theorem cut3 {lo hi : Int} (h : wid lo = 3) : cutF lo hi = ask 64 lo hi (ask 4096 lo hi none) := by simp [cutF, cutG, h, blk, ask]
theorem cut4 {lo hi : Int} (h : wid lo = 4) : cutF lo hi = ask 64 lo hi (ask 4096 lo hi (ask 262144 lo hi none)) := by simp [cutF, cutG, h, blk, ask]

theorem wid_span {lo hi : Int} (h : Span lo hi) (hl : lo ≤ hi) : (wid lo = 1 ∧ 0 ≤ lo ∧ hi ≤ 127) ∨ (wid lo = 2 ∧ 128 ≤ lo ∧ hi ≤ 2047) ∨ (wid lo = 3 ∧ 2048 ≤ lo ∧ hi ≤ 65535 ∧ ((2048 ≤ lo ∧ hi ≤ 55295) ∨ (57344 ≤ lo ∧ hi ≤ 65535))) ∨ (wid lo = 4 ∧ 65536 ≤ lo ∧ hi ≤ 1114111) := by
  unfold Span at h
  unfold wid
  rcases h with h | h | h | h | h
  · rw [if_pos (by omega)]; omega
  · rw [if_neg (by omega), if_pos (by omega)]; omega
  · rw [if_neg (by omega), if_neg (by omega), if_pos (by omega)]; omega
  · rw [if_neg (by omega), if_neg (by omega), if_pos (by omega)]; omega
  · rw [if_neg (by omega), if_neg (by omega), if_neg (by omega)]; omega

def Low (B lo hi : Int) : Prop := lo % B = 0 ∧ hi % B = B - 1
/-- one row tells the whole range -/
def One (lo hi : Int) : Prop := hi ≤ 127 ∨ (lo / 64 = hi / 64 ∨ (Low 64 lo hi ∧ (lo / 4096 = hi / 4096 ∨ (Low 4096 lo hi ∧ (lo / 262144 = hi / 262144 ∨ Low 262144 lo hi)))))

theorem ask_none {B lo hi : Int} {o : Option Int} (hB : B = 64 ∨ B = 4096 ∨ B = 262144) (h : ask B lo hi o = none) : lo / B = hi / B ∨ (Low B lo hi ∧ o = none) := by
  unfold ask at h
  unfold Low
  split at h
  · exact .inl (by assumption)
  · split at h
    · cases h
    · split at h
      · cases h
      · refine .inr ⟨?_, h⟩
        rcases hB with rfl | rfl | rfl <;> omega
theorem ask_some {B lo hi at' : Int} {o : Option Int} (hB : B = 64 ∨ B = 4096 ∨ B = 262144) (h : ask B lo hi o = some at') :
    (lo / B ≠ hi / B ∧ ((lo % B ≠ 0 ∧ at' = lo / B * B + B) ∨ (lo % B = 0 ∧ hi % B ≠ B - 1 ∧ at' = hi / B * B))) ∨ (lo / B ≠ hi / B ∧ Low B lo hi ∧ o = some at') := by
  unfold ask at h
  unfold Low
  split at h
  · cases h
  · rename_i h1
    split at h
    · rename_i h2
      obtain rfl := Option.some.inj h
      exact .inl ⟨h1, .inl ⟨by rcases hB with rfl | rfl | rfl <;> omega, rfl⟩⟩
    · rename_i h2
      split at h
      · rename_i h3
        obtain rfl := Option.some.inj h
        exact .inl ⟨h1, .inr ⟨by rcases hB with rfl | rfl | rfl <;> omega, by rcases hB with rfl | rfl | rfl <;> omega, rfl⟩⟩
      · rename_i h3
        exact .inr ⟨h1, by rcases hB with rfl | rfl | rfl <;> omega, h⟩

theorem cut_none {lo hi : Int} (h : Span lo hi) (hl : lo ≤ hi) (hc : cutF lo hi = none) : One lo hi := by
  unfold One
  rcases wid_span h hl with ⟨hw, h0, h1⟩ | ⟨hw, h0, h1⟩ | ⟨hw, h0, h1, _⟩ | ⟨hw, h0, h1⟩
  · exact .inl h1
  · rw [cut2 hw] at hc
    exact .inr ((ask_none (by omega) hc).imp id fun ⟨a, _⟩ => ⟨a, .inl (by omega)⟩)
  · rw [cut3 hw] at hc
    exact .inr ((ask_none (by omega) hc).imp id fun ⟨a, b⟩ => ⟨a, (ask_none (by omega) b).imp id fun ⟨c, _⟩ => ⟨c, .inl (by omega)⟩⟩)
  · rw [cut4 hw] at hc
    exact .inr ((ask_none (by omega) hc).imp id fun ⟨a, b⟩ => ⟨a, (ask_none (by omega) b).imp id fun ⟨c, d⟩ => ⟨c, (ask_none (by omega) d).imp id And.left⟩⟩)

/-- what is known of a cut -/
structure CutAt (B lo hi at' : Int) : Prop where
  bl : B = 64 ∨ B = 4096 ∨ B = 262144
  ne : lo / B ≠ hi / B
  how : (lo % B ≠ 0 ∧ at' = lo / B * B + B) ∨ (lo % B = 0 ∧ hi % B ≠ B - 1 ∧ at' = hi / B * B)
  low : (4096 ≤ B → Low 64 lo hi) ∧ (262144 ≤ B → Low 4096 lo hi)
theorem cut_some {lo hi at' : Int} (h : Span lo hi) (hl : lo ≤ hi) (hc : cutF lo hi = some at') : ∃ B, CutAt B lo hi at' := by
  rcases wid_span h hl with ⟨hw, h0, h1⟩ | ⟨hw, h0, h1⟩ | ⟨hw, h0, h1, _⟩ | ⟨hw, h0, h1⟩
  · rw [cut1 hw] at hc; cases hc
  · rw [cut2 hw] at hc
    rcases ask_some (by omega) hc with ⟨a, b⟩ | ⟨_, _, b⟩
    · exact ⟨64, by omega, a, b, by omega, by omega⟩
    · cases b
  · rw [cut3 hw] at hc
    rcases ask_some (by omega) hc with ⟨a, b⟩ | ⟨_, l1, b⟩
    · exact ⟨64, by omega, a, b, by omega, by omega⟩
    · rcases ask_some (by omega) b with ⟨a, b⟩ | ⟨_, _, b⟩
      · exact ⟨4096, by omega, a, b, fun _ => l1, by omega⟩
      · cases b
  · rw [cut4 hw] at hc
    rcases ask_some (by omega) hc with ⟨a, b⟩ | ⟨_, l1, b⟩
    · exact ⟨64, by omega, a, b, by omega, by omega⟩
    · rcases ask_some (by omega) b with ⟨a, b⟩ | ⟨_, l2, b⟩
      · exact ⟨4096, by omega, a, b, fun _ => l1, by omega⟩
      · rcases ask_some (by omega) b with ⟨a, b⟩ | ⟨_, _, b⟩
        · exact ⟨262144, by omega, a, b, fun _ => l1, fun _ => l2⟩
        · cases b
theorem CutAt.between {B lo hi at' : Int} (h : CutAt B lo hi at') (hl : lo ≤ hi) : lo < at' ∧ at' ≤ hi := by
  obtain ⟨hB, ne, how, _⟩ := h
  rcases hB with rfl | rfl | rfl <;> omega
theorem Span.sub {lo hi a b : Int} (h : Span lo hi) (h1 : lo ≤ a) (h2 : b ≤ hi) : Span a b := by unfold Span at *; omega
theorem wid_eq {lo hi a : Int} (h : Span lo hi) (h1 : lo ≤ a) (h2 : a ≤ hi) : wid a = wid lo := by
  have e1 := wid_span (h.sub h1 (Int.le_refl hi)) h2
  have e2 := wid_span h (by omega)
  omega

/-- one part of what is cut is one row -/
theorem ask_one {B lo hi : Int} {o : Option Int} (h : lo / B = hi / B) : ask B lo hi o = none := by unfold ask; rw [if_pos h]
theorem ask_low {B lo hi : Int} {o : Option Int} (hB : B = 64 ∨ B = 4096 ∨ B = 262144) (h : Low B lo hi) (ho : o = none) : ask B lo hi o = none := by
  unfold ask
  unfold Low at h
  split
  · rfl
  · rw [if_neg (by rcases hB with rfl | rfl | rfl <;> omega), if_neg (by rcases hB with rfl | rfl | rfl <;> omega), ho]
/-- a range within one block of B, all blocks below whole: no cut -/
theorem no_cut {B lo hi : Int} (hB : B = 64 ∨ B = 4096 ∨ B = 262144) (hs : Span lo hi) (hl : lo ≤ hi) (h : lo / B = hi / B) (h1 : 4096 ≤ B → Low 64 lo hi) (h2 : 262144 ≤ B → Low 4096 lo hi) : cutF lo hi = none := by
  rcases wid_span hs hl with ⟨hw, _⟩ | ⟨hw, h0, hh⟩ | ⟨hw, h0, hh, _⟩ | ⟨hw, _⟩
  · exact cut1 hw
  · rw [cut2 hw]
    rcases hB with rfl | rfl | rfl
    · exact ask_one h
    · exact ask_low (by omega) (h1 (by omega)) rfl
    · exact ask_low (by omega) (h1 (by omega)) rfl
  · rw [cut3 hw]
    rcases hB with rfl | rfl | rfl
    · exact ask_one h
    · exact ask_low (by omega) (h1 (by omega)) (ask_one h)
    · exact ask_low (by omega) (h1 (by omega)) (ask_low (by omega) (h2 (by omega)) rfl)
  · rw [cut4 hw]
    rcases hB with rfl | rfl | rfl
    · exact ask_one h
    · exact ask_low (by omega) (h1 (by omega)) (ask_one h)
    · exact ask_low (by omega) (h1 (by omega)) (ask_low (by omega) (h2 (by omega)) (ask_one h))

/-- how many kinds of blocks a number begins none of -/
def un (x : Int) : Nat := (if x % 64 = 0 then 0 else 1) + (if x % 4096 = 0 then 0 else 1) + (if x % 262144 = 0 then 0 else 1)
theorem un_le (x : Int) : un x ≤ 3 := by unfold un; split <;> split <;> split <;> omega
theorem un_step {B x y : Int} (hB : B = 64 ∨ B = 4096 ∨ B = 262144) (hx : x % B ≠ 0) (hy : y % B = 0) : un y + 1 ≤ un x := by
  unfold un
  rcases hB with rfl | rfl | rfl
  · rw [if_pos hy, if_neg hx, if_neg (show x % 4096 ≠ 0 by omega), if_neg (show x % 262144 ≠ 0 by omega)]
    split <;> split <;> omega
  · rw [if_pos hy, if_neg hx, if_pos (show y % 64 = 0 by omega), if_neg (show x % 262144 ≠ 0 by omega)]
    split <;> split <;> omega
  · rw [if_pos hy, if_neg hx, if_pos (show y % 64 = 0 by omega), if_pos (show y % 4096 = 0 by omega)]
    omega

/-- a range's parts -/
inductive Part : Int → Int → List R → Prop
  | one {lo hi : Int} : cutF lo hi = none → Part lo hi [(lo, hi)]
  | two {lo hi at' : Int} {C D : List R} : cutF lo hi = some at' → Part lo (at' - 1) C → Part at' hi D → Part lo hi (C ++ D)
theorem Part.none {lo hi : Int} {C : List R} (h : Part lo hi C) (hc : cutF lo hi = Option.none) : C.length = 1 := by
  cases h with
  | one _ => rfl
  | two h1 _ _ => rw [hc] at h1; cases h1

theorem Part.len {lo hi : Int} {C : List R} (h : Part lo hi C) (hs : Span lo hi) (hl : lo ≤ hi) : C.length ≤ 1 + un lo + un (hi + 1) := by
  induction h with
  | one _ => simp; omega
  | @two lo hi at' C D hc h1 h2 ih1 ih2 =>
    obtain ⟨B, hb⟩ := cut_some hs hl hc
    obtain ⟨a1, a2⟩ := hb.between hl
    obtain ⟨hB, ne, how, l1, l2⟩ := hb
    have s1 := hs.sub (Int.le_refl lo) (show at' - 1 ≤ hi by omega)
    have s2 := hs.sub (show lo ≤ at' by omega) (Int.le_refl hi)
    have e1 := ih1 s1 (by omega)
    have e2 := ih2 s2 (by omega)
    rw [List.length_append]
    rw [show at' - 1 + 1 = at' by omega] at e1
    unfold Low at l1 l2
    rcases how with ⟨u, rfl⟩ | ⟨u, v, rfl⟩
    · have hn := h1.none (no_cut hB s1 (by omega) (by rcases hB with rfl | rfl | rfl <;> omega) (by unfold Low; rcases hB with rfl | rfl | rfl <;> omega) (by unfold Low; rcases hB with rfl | rfl | rfl <;> omega))
      have := un_step (y := lo / B * B + B) hB u (by rcases hB with rfl | rfl | rfl <;> omega)
      omega
    · have hn := h2.none (no_cut hB s2 (by omega) (by rcases hB with rfl | rfl | rfl <;> omega) (by unfold Low; rcases hB with rfl | rfl | rfl <;> omega) (by unfold Low; rcases hB with rfl | rfl | rfl <;> omega))
      have := un_step (x := hi + 1) (y := hi / B * B) hB (by rcases hB with rfl | rfl | rfl <;> omega) (by rcases hB with rfl | rfl | rfl <;> omega)
      omega

/-- rising, from m on, below M -/
def Rise : Int → List R → Int → Prop
  | m, [], M => m ≤ M
  | m, r :: t, M => m ≤ r.1 ∧ r.1 ≤ r.2 ∧ Rise (r.2 + 1) t M
theorem Rise.mono : ∀ {C : List R} {m m' M M' : Int}, Rise m C M → m' ≤ m → M ≤ M' → Rise m' C M'
  | [], _, _, _, _, h, h1, h2 => by unfold Rise at *; omega
  | r :: t, _, _, _, _, ⟨a, b, c⟩, h1, h2 => ⟨by omega, b, c.mono (Int.le_refl _) h2⟩
theorem Rise.le : ∀ {C : List R} {m M : Int}, Rise m C M → m ≤ M
  | [], _, _, h => h
  | r :: t, _, _, ⟨a, b, c⟩ => by have := c.le; omega
theorem Rise.append : ∀ {C D : List R} {m x M : Int}, Rise m C x → Rise x D M → Rise m (C ++ D) M
  | [], _, _, _, _, h1, h2 => h2.mono h1 (Int.le_refl _)
  | _ :: _, _, _, _, _, ⟨a, b, c⟩, h2 => ⟨a, b, c.append h2⟩
theorem Rise.bounds : ∀ {C : List R} {m M c : Int}, Rise m C M → hasB C c = true → m ≤ c ∧ c < M
  | [], _, _, _, _, h => by simp [hasB] at h
  | r :: t, _, _, c, ⟨a, b, d⟩, h => by
    rw [hasB_cons] at h
    have := d.le
    rcases Bool.or_eq_true_iff.1 h with h | h
    · simp at h; omega
    · have := d.bounds h; omega

/-- a part that one row tells -/
structure Cell (p : R) : Prop where
  span : Span p.1 p.2
  le : p.1 ≤ p.2
  one : One p.1 p.2
structure Parted (lo hi : Int) (C : List R) : Prop where
  rise : Rise lo C (hi + 1)
  cells : ∀ p ∈ C, Cell p
  has : ∀ c, hasB C c = (decide (lo ≤ c) && decide (c ≤ hi))
  len : C.length ≤ 7
theorem Part.parted {lo hi : Int} {C : List R} (h : Part lo hi C) (hs : Span lo hi) (hl : lo ≤ hi) : Parted lo hi C := by
  have key : Rise lo C (hi + 1) ∧ (∀ p ∈ C, Cell p) ∧ (∀ c, hasB C c = (decide (lo ≤ c) && decide (c ≤ hi))) := by
    induction h with
    | one hc =>
      refine ⟨⟨Int.le_refl _, hl, Int.le_refl _⟩, fun p hp => ?_, fun c => hasB_one _ _⟩
      obtain rfl := List.mem_singleton.1 hp
      exact ⟨hs, hl, cut_none hs hl hc⟩
    | @two lo hi at' C D hc h1 h2 ih1 ih2 =>
      obtain ⟨B, hb⟩ := cut_some hs hl hc
      obtain ⟨a1, a2⟩ := hb.between hl
      obtain ⟨r1, c1, b1⟩ := ih1 (hs.sub (Int.le_refl lo) (show at' - 1 ≤ hi by omega)) (by omega)
      obtain ⟨r2, c2, b2⟩ := ih2 (hs.sub (show lo ≤ at' by omega) (Int.le_refl hi)) (by omega)
      refine ⟨(r1.mono (Int.le_refl _) (show at' - 1 + 1 ≤ at' by omega)).append r2, fun p hp => ?_, fun c => ?_⟩
      · rcases List.mem_append.1 hp with hp | hp
        · exact c1 p hp
        · exact c2 p hp
      · rw [hasB_append, b1, b2, Bool.eq_iff_iff]; simp; omega
  have hn := h.len hs hl
  have h1 := un_le lo
  have h2 := un_le (hi + 1)
  exact ⟨key.1, key.2.1, key.2.2, by omega⟩

end Go.Proofs.YtoknfelheebidaaDoor.Bq

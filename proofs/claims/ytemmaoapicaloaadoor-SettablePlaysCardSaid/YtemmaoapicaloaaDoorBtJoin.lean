/- Join. -/
import Derived.Test.YtemmaoapicaloaaDoorBtCnt0
import Derived.Test.YtemmaoapicaloaaDoorBtOf
import Derived.Test.YtemmaoapicaloaaDoorBtRound
namespace Go.Proofs.YtemmaoapicaloaaDoor.Bt
open Go.RowKit Go.Shelf

attribute [local go_sem] Oper.semAt_some

/-- is a number among these words' bits -/
def memP (X : List (Nat × Nat)) (n : Nat) : Bool := X.any fun x => decide (x.1 = n / 64) && x.2.testBit (n % 64)
theorem memP_snoc (X : List (Nat × Nat)) (x : Nat × Nat) (n : Nat) : memP (X ++ [x]) n = (memP X n || (decide (x.1 = n / 64) && x.2.testBit (n % 64))) := by simp [memP]
/-- what a word lacks -/
def lackF (room i x y : Nat) : Nat := (x &&& (2 ^ min 64 (room - 64 * i) - 1)) &&& (18446744073709551615 - y)
theorem lack_bit {room i x y : Nat} (hx : x < 18446744073709551616) (hy : y < 18446744073709551616) (j : Nat) : (lackF room i x y).testBit j = (x.testBit j && decide (64 * i + j < room) && !y.testBit j) := by
  unfold lackF
  have e : 18446744073709551615 - y = 2 ^ 64 - (y + 1) := by omega
  rw [Nat.testBit_and, Nat.testBit_and, Nat.testBit_two_pow_sub_one, e, Nat.testBit_two_pow_sub_succ (by omega)]
  by_cases hj : j < 64
  · have : decide (j < min 64 (room - 64 * i)) = decide (64 * i + j < room) := by rw [decide_eq_decide]; omega
    rw [this]
    simp [hj]
  · have : x.testBit j = false := Nat.testBit_lt_two_pow (Nat.lt_of_lt_of_le (show x < 2 ^ 64 by omega) (Nat.pow_le_pow_right (by omega) (by omega)))
    simp [this]
theorem lack_lt {room i x y : Nat} (hx : x < 18446744073709551616) : lackF room i x y < 18446744073709551616 :=
  Nat.lt_of_le_of_lt Nat.and_le_left (Nat.lt_of_le_of_lt Nat.and_le_left hx)
theorem zero_bits {z : Nat} (h : ∀ j, z.testBit j = false) : z = 0 := by
  apply Nat.eq_of_testBit_eq
  intro j
  rw [h, Nat.zero_testBit]

/-- what has been joined -/
def Joined (room : Nat) (L Lc : List Nat) (X : List (Nat × Nat)) (more : Bool) : Prop :=
  (∀ n, memL Lc n = (memL L n || (memP X n && decide (n < room)))) ∧ (more = true ↔ ∃ n, memL Lc n = true ∧ memL L n = false)
theorem joined_nil (room : Nat) (L : List Nat) : Joined room L L [] false :=
  ⟨fun n => by simp [memP], by simp⟩
theorem joined_same {room i x : Nat} {L Lc : List Nat} {X : List (Nat × Nat)} {more : Bool} (hx : x < 18446744073709551616) (hy : Lc.getD i 0 < 18446744073709551616) (h : Joined room L Lc X more) (hz : lackF room i x (Lc.getD i 0) = 0) : Joined room L Lc (X ++ [(i, x)]) more := by
  refine ⟨fun n => ?_, h.2⟩
  rw [memP_snoc, h.1 n]
  by_cases hi : i = n / 64
  · have hb := lack_bit (room := room) (i := i) hx hy (n % 64)
    rw [hz, Nat.zero_testBit, show 64 * i + n % 64 = n by omega] at hb
    have hm : memL Lc n = (Lc.getD i 0).testBit (n % 64) := by unfold memL; rw [hi]
    have h1 := h.1 n
    rw [hm] at h1
    generalize (Lc.getD i 0).testBit (n % 64) = p at *
    generalize x.testBit (n % 64) = q at *
    generalize memL L n = r at *
    generalize memP X n = s at *
    rw [decide_eq_true hi]
    generalize decide (n < room) = d at *
    clear hx hy h hz hm hi
    revert p q r s d
    decide
  · simp [hi]
theorem joined_new {room i x : Nat} {L Lc : List Nat} {X : List (Nat × Nat)} {more : Bool} (hx : x < 18446744073709551616) (hy : Lc.getD i 0 < 18446744073709551616) (hil : i < Lc.length) (h : Joined room L Lc X more) (hz : lackF room i x (Lc.getD i 0) ≠ 0) : Joined room L (Lc.set i (Lc.getD i 0 ||| lackF room i x (Lc.getD i 0))) (X ++ [(i, x)]) true := by
  have hm : ∀ n, memL (Lc.set i (Lc.getD i 0 ||| lackF room i x (Lc.getD i 0))) n = (memL Lc n || (decide (i = n / 64) && x.testBit (n % 64) && decide (n < room))) := fun n => by
    rw [memL_set hil]
    by_cases hi : n / 64 = i
    · rw [if_pos hi, Nat.testBit_or, lack_bit hx hy, show 64 * i + n % 64 = n by omega, decide_eq_true hi.symm]
      have hm : memL Lc n = (Lc.getD i 0).testBit (n % 64) := by unfold memL; rw [hi]
      rw [hm]
      cases (Lc.getD i 0).testBit (n % 64) <;> cases x.testBit (n % 64) <;> simp
    · have : ¬ i = n / 64 := fun e => hi e.symm
      rw [if_neg hi]; simp [this]
  refine ⟨fun n => ?_, iff_of_true rfl ?_⟩
  · rw [hm, memP_snoc, h.1 n]
    generalize memL L n = r
    generalize memP X n = s
    cases decide (i = n / 64) <;> cases x.testBit (n % 64) <;> cases decide (n < room) <;> cases r <;> cases s <;> rfl
  · obtain ⟨j, hj⟩ : ∃ j, (lackF room i x (Lc.getD i 0)).testBit j = true := by
      apply Classical.byContradiction
      intro hn
      exact hz (zero_bits fun j => by
        cases hb : (lackF room i x (Lc.getD i 0)).testBit j
        · rfl
        · exact absurd ⟨j, hb⟩ hn)
    rw [lack_bit hx hy] at hj
    have hj64 : j < 64 := by
      apply Nat.lt_of_not_le
      intro hle
      have : x.testBit j = false := Nat.testBit_lt_two_pow (Nat.lt_of_lt_of_le (show x < 2 ^ 64 by omega) (Nat.pow_le_pow_right (by omega) hle))
      rw [this] at hj; simp at hj
    refine ⟨64 * i + j, ?_, ?_⟩
    · rw [hm, show (64 * i + j) / 64 = i by omega, show (64 * i + j) % 64 = j by omega]
      simp only [Bool.and_eq_true, decide_eq_true_eq] at hj
      simp [hj.1.1, hj.1.2]
    · have h1 := h.1 (64 * i + j)
      have e : memL Lc (64 * i + j) = (Lc.getD i 0).testBit j := by unfold memL; rw [show (64 * i + j) / 64 = i by omega, show (64 * i + j) % 64 = j by omega]
      rw [e] at h1
      cases hl : memL L (64 * i + j)
      · rfl
      · rw [hl] at h1
        simp only [Bool.true_or] at h1
        rw [h1] at hj; simp at hj

/-- what Join tells -/
def JoinOut (w : World) (B room : Nat) (v : Value) (L L2 : List Nat) (e : Ending) (w' : World) : Prop :=
  ∃ Lc more, e = .returned (.bool more) ∧ SetAt w' B room v Lc ∧ Joined room L Lc (fromL 0 L2) more ∧ w.grownBy w' v.ownBlock

theorem own_set (B room : Nat) (v : Value) (L : List Nat) : Own (fun (_ : Unit) W => SetAt W B room v L) := fun _ A C row hs hg hr =>
  hs.kept hg (by
    rcases hs.row.2 with ⟨rfl, _⟩ | ⟨g, cap, cur, rfl, _, hgb, _⟩
    · exact .inl (by simp [Value.ownBlock])
    · refine .inr fun e => ?_
      obtain ⟨o, ho, hc⟩ := hr g (by rw [← e]; simp [Value.ownBlock])
      rw [hgb] at ho; cases ho; cases hc)
theorem grown_on {w A C : World} {r row : Option Nat} (h : w.grownBy A r) (k : A.grownBy C row) (hr : ∀ j, row = some j → w.heap.size ≤ j) : w.grownBy C r :=
  ⟨k.os.trans h.os, k.tape.trans h.tape, k.output.trans h.output, Nat.le_trans h.size k.size, fun j hj hne => (k.block j (Nat.lt_of_lt_of_le hj h.size) (fun e => by have := hr j e.symm; omega)).trans (h.block j hj hne)⟩

/-- what stands between two rounds of Join -/
def JI (w : World) (B room B2 room2 : Nat) (v v2 : Value) (L L2 : List Nat) (pre : List (Nat × Nat)) (W : World) : Prop :=
  ∃ Lc more, SetAt W B room v Lc ∧ Joined room L Lc pre more ∧ Boxed W (w.heap.size + 1 + 1) 4 (.bool more) ∧ BoxS W w.heap.size room v ∧ SetAt W B2 room2 v2 L2 ∧ w.grownBy W v.ownBlock
theorem ji_own {w : World} {B room B2 room2 : Nat} {v v2 : Value} {L L2 : List Nat} {n : Nat} (hn : w.heap.size ≤ n) : OwnFrom n (JI w B room B2 room2 v v2 L L2) := by
  rintro pre A C row ⟨Lc, more, h1, h2, h3, h4, h5, h6⟩ hg hr
  have hr2 := fun r e => (hr r e).2
  exact ⟨Lc, more, own_set B room v Lc () A C row h1 hg hr2, h2, boxed_own (w.heap.size + 1 + 1) 4 (fun _ : Unit => .bool more) () A C row h3 hg hr2, own_heap (β := Unit) 0 _ () A C row h4 hg (fun r e => ⟨Nat.zero_le _, hr2 r e⟩), own_set B2 room2 v2 L2 () A C row h5 hg hr2, grown_on h6 hg (fun j e => by have := (hr j e).1; omega)⟩

set_option maxRecDepth 100000 in
set_option maxHeartbeats 4000000 in
theorem join_any (B room B2 room2 : Nat) (v v2 : Value) (L L2 : List Nat) (w : World) (h : SetAt w B room v L) (k : SetAt w B2 room2 v2 L2) (hne : v2.ownBlock = none ∨ v2.ownBlock ≠ v.ownBlock) :
    Calls Tryd.prog 42 #[setV room v, setV room2 v2] w fun e w' => JoinOut w B room v L L2 e w' := by
  obtain ⟨ao, ln, cap, rfl⟩ := h.val
  obtain ⟨bo, cap2, rfl, hL2, hcap2, hc2⟩ := k.shape
  have HX := Lib.hid (fun x => from_word 0 L2 x)
  have HW := Lib.hid k.word
  have HNE := Lib.hid hne
  clear hc2 hne
  unfold setV
  refine (callsIn_wide (n := 9)).1 (callsIn_of_wp_marks Tryd.func42 rfl trivial ?_ rfl)
  simp only [Tryd.ntmps42, List.size_toArray, List.length_cons, List.length_nil, Nat.reduceAdd, Nat.reduceSub, Array.replicate_succ, Array.replicate_zero, List.push_toArray, List.append_toArray, List.nil_append, List.cons_append]
  have hB1 := (Below.refl w.heap.size w).alloc (Nat.le_refl _) (.cells #[.int .i64 (room : Nat), .slice ao ln cap] 34)
  have hB2 := hB1.alloc hB1.size (.cells #[.int .i64 (room2 : Nat), .slice bo L2.length cap2] 34)
  have hB3 := hB2.alloc hB2.size (.cells #[.bool false] 4)
  have bS := BoxS.next (BoxS.next (World.alloc_heap_new w (.cells #[.int .i64 (room : Nat), .slice ao ln cap] 34)) ((Below.refl _ _).alloc (Nat.le_refl _) (.cells #[.int .i64 (room2 : Nat), .slice bo L2.length cap2] 34))) ((Below.refl _ _).alloc (Nat.le_refl _) (.cells #[.bool false] 4))
  have bR := Boxed.new ((w.alloc (.cells #[.int .i64 (room : Nat), .slice ao ln cap] 34)).alloc (.cells #[.int .i64 (room2 : Nat), .slice bo L2.length cap2] 34)) 4 (.bool false)
  simp only [World.size_alloc] at bR
  have J0 := Lib.hid (show JI w B room B2 room2 (.slice ao ln cap) (.slice bo L2.length cap2) L L2 [] (((w.alloc (.cells #[.int .i64 (room : Nat), .slice ao ln cap] 34)).alloc (.cells #[.int .i64 (room2 : Nat), .slice bo L2.length cap2] 34)).alloc (.cells #[.bool false] 4)) from ⟨L, false, h.next hB3, joined_nil room L, bR, bS, k.next hB3, grown_row hB3⟩)
  clear h k hB1 hB2 hB3 bS bR
  gi_wp2
  refine range_law (rc := .agg #[.int .i64 (room2 : Nat), .slice bo L2.length cap2]) (gf := 28) rfl (enters_of Tryd.func28 (by kernel_rfl) rfl) (enc := encP) (X := fromL 0 L2) (Rd := Rd bo L2)
    (fun W1 _ => filled_seq room2 _ L2 bo cap2 rfl hL2 W1) (fun _ => rfl)
    (JI w B room B2 room2 (.slice ao ln cap) (.slice bo L2.length cap2) L L2)
    (fun _ _ => False)
    (ji_own (by simp; omega))
    (fun _ _ _ _ hs _ _ => hs.elim)
    (fun pre W hI => by
      obtain ⟨_, _, _, _, _, _, hk, _⟩ := hI
      obtain ⟨a2, c2, e, _, _, hc⟩ := hk.shape
      cases e
      exact hc)
    J0.out
    (fun x => { tmps := ((.agg #[.int .i64 (room : Nat), .slice ao ln cap]) :: (.agg #[.int .i64 (room2 : Nat), .slice bo L2.length cap2]) :: (.pointer (some ⟨w.heap.size, 0, none⟩)) :: (.pointer (some ⟨w.heap.size + 1, 0, none⟩)) :: (.bool false) :: (.pointer (some ⟨w.heap.size + 1 + 1, 0, none⟩)) :: (.int .i64 (x.1 : Nat)) :: (.int .u64 (x.2 : Nat)) :: (undef) :: (.agg #[.int .i64 (room2 : Nat), .slice bo L2.length cap2]) :: (.func (.func 28) #[.agg #[.int .i64 (room2 : Nat), .slice bo L2.length cap2]] #[]) :: (.int .i64 (x.1 : Nat)) :: (.int .u64 (x.2 : Nat)) :: (undef) :: (undef) :: (undef) :: (undef) :: (undef) :: (undef) :: (undef) :: (undef) :: (undef) :: (undef) :: (undef) :: (undef) :: (undef) :: (undef) :: (undef) :: (undef) :: (undef) :: (undef) :: (undef) :: (undef) :: []).toArray, defers := [] })
    ?assign ?body ?done ?stop
  case assign =>
    intro l x W K hK
    simp only [encP]
    gi_wp2
    exact hK
  case body =>
    rintro l pre ⟨i, x⟩ W ⟨Lc, more, hs, hj, bR, bS, hk, hg⟩ hp
    obtain ⟨h1, h2, h3, h4⟩ := HX.out (i, x) (hp.subset (by simp))
    have hx : x < 18446744073709551616 := by
      simp only [Nat.sub_zero] at h3
      rw [h3]
      exact HW.out _
    have hi : i < 1024 := by simp only at h2; omega
    clear h1 h2 h3 h4 hp
    have hr := hs.lim
    have hy := hs.word i
    have LK := Lib.hid (fun hz => joined_same hx hy hj hz)
    have LN := Lib.hid (fun hil hz => joined_new hx hy hil hj hz)
    have hzl := lack_lt (room := room) (i := i) (y := Lc.getD i 0) hx
    have hzb := Lib.hid (fun j => lack_bit (room := room) (i := i) hx hy j)
    have O := Lib.hid (fun W' => show CallsIn Fence.wide 8 Tryd.prog 45 #[.agg #[.int .i64 (room : Nat), .slice ao ln cap], .int .i64 (i : Nat)] W' _ from callsIn_wide.2 (open_any room hr (.slice ao ln cap) i (by omega) W'))
    have q1 := bits_and_u64_nat x (2 ^ min 64 (room - 64 * i) - 1) hx (by have := pow_lim (room - 64 * i); have := Nat.two_pow_pos (min 64 (room - 64 * i)); omega)
    have q2 := u64_andNot_nat (x &&& (2 ^ min 64 (room - 64 * i) - 1)) (Lc.getD i 0) (Nat.lt_of_le_of_lt Nat.and_le_left hx) hy
    obtain ⟨z, hz⟩ : ∃ z, z = lackF room i x (Lc.getD i 0) := ⟨_, rfl⟩
    rw [show (x &&& (2 ^ min 64 (room - 64 * i) - 1)) &&& (18446744073709551615 - Lc.getD i 0) = z from hz.symm] at q2
    rw [← hz] at LK LN hzl hzb
    clear hz
    generalize x &&& (2 ^ min 64 (room - 64 * i) - 1) = z1 at *
    generalize 2 ^ min 64 (room - 64 * i) - 1 = o at *
    have D0 := Lib.hid (fun (W' : World) (hW : Below W.heap.size W W') => (hs.next hW).shape)
    obtain ⟨y, hye⟩ : ∃ y, y = Lc.getD i 0 := ⟨_, rfl⟩
    have D := Lib.hid (fun (W' : World) (hW : Below W.heap.size W W') => show CallsIn Fence.wide 8 Tryd.prog 46 #[.agg #[.int .i64 (room : Nat), .slice ao ln cap], .int .i64 (i : Nat)] W' _ from callsIn_wide.2 (by
      obtain ⟨ao2, cap3, e, _, _, hc⟩ := D0.out W' hW
      have := word_any room i (.slice ao ln cap) Lc W' ao2 cap3 e hc
      rw [← hye] at this
      exact this))
    rw [← hye] at q2 hy LN
    have HYE := Lib.hid hye
    clear hye
    gi_wp2
    refine wpIn_mono (Q := fun e a' W2 => e = .normal ∧ ∃ (t13 t14 t15 t16 t17 t18 t19 t20 t21 : Value), a' = { tmps := ((.agg #[.int .i64 (room : Nat), .slice ao ln cap]) :: (.agg #[.int .i64 (room2 : Nat), .slice bo L2.length cap2]) :: (.pointer (some ⟨w.heap.size, 0, none⟩)) :: (.pointer (some ⟨w.heap.size + 1, 0, none⟩)) :: (.bool false) :: (.pointer (some ⟨w.heap.size + 1 + 1, 0, none⟩)) :: (.int .i64 (i : Nat)) :: (.int .u64 (x : Nat)) :: (.int .u64 (z : Nat)) :: (.agg #[.int .i64 (room2 : Nat), .slice bo L2.length cap2]) :: (.func (.func 28) #[.agg #[.int .i64 (room2 : Nat), .slice bo L2.length cap2]] #[]) :: (.int .i64 (i : Nat)) :: (.int .u64 (x : Nat)) :: (t13) :: (t14) :: (t15) :: (t16) :: (t17) :: (t18) :: (t19) :: (t20) :: (t21) :: (undef) :: (undef) :: (undef) :: (undef) :: (undef) :: (undef) :: (undef) :: (undef) :: (undef) :: (undef) :: (undef) :: []).toArray, defers := [] } ∧ KeepsFrom (((w.alloc (.cells #[.int .i64 (room : Nat), .slice ao ln cap] 34)).alloc (.cells #[.int .i64 (room2 : Nat), .slice bo L2.length cap2] 34)).alloc (.cells #[.bool false] 4)).heap.size W W2 ∧ Below W.heap.size W W2) ?reg ?rest
    case reg =>
      refine wpIn_region_any (by kernel_rfl) ?_
      (try (change wpAnyIn _ _ _ _ _ _ _ _ _ (World.drew _)))
      have kD : KeepsFrom (((w.alloc (.cells #[.int .i64 (room : Nat), .slice ao ln cap] 34)).alloc (.cells #[.int .i64 (room2 : Nat), .slice bo L2.length cap2] 34)).alloc (.cells #[.bool false] 4)).heap.size W W.drew := (KeepsOthers.drew W).from _
      have bD := (Below.refl W.heap.size W).drew
      have bS0 := bS.next bD
      have D := Lib.hid (fun (W' : World) (hW : Below W.drew.heap.size W.drew W') => D.out W' (bD.trans (hW.mono bD.size)))
      clear LK LN D0 bR hk hg hs hj
      clear bS
      generalize W.drew = W0 at *
      obtain ⟨c0, c1⟩ := bS0.cells
      have clt := bS0.lt
      refine in_round (by kernel_rfl) ?_
      refine wpAnyIn_take (i := 0) (v := ?_) rfl rfl (by kernel_rfl) (by kernel_rfl) (by kernel_rfl) (fun _ _ _ h => by cases h.1) ⟨Or.inl ⟨by rfl, ?_⟩, fun _ => rfl⟩ ?_
      rotate_left
      · (intro W; go_simp <;> with_reducible rfl)
      simp only [Act.put, List.getElem_toArray, List.getElem_cons_zero, List.setIfInBounds_toArray, List.set_cons_zero, List.set_cons_succ]
      refine wpAnyIn_take (i := 2) (v := ?_) rfl rfl (by kernel_rfl) (by kernel_rfl) (by kernel_rfl) (fun _ _ _ h => by cases h.1) ⟨Or.inl ⟨by rfl, ?_⟩, fun _ => rfl⟩ ?_
      rotate_left
      · (intro W; go_simp <;> with_reducible rfl)
      simp only [Act.put, List.getElem_toArray, List.getElem_cons_succ, List.getElem_cons_zero, List.setIfInBounds_toArray, List.set_cons_zero, List.set_cons_succ]
      refine wpAnyIn_take (i := 6) (v := ?_) rfl rfl (by kernel_rfl) (by kernel_rfl) (by kernel_rfl) (fun _ _ _ h => by cases h.1) ⟨Or.inl ⟨by rfl, ?_⟩, fun _ => rfl⟩ ?_
      rotate_left
      · (intro W; go_simp <;> with_reducible rfl)
      simp only [Act.put, List.getElem_toArray, List.getElem_cons_succ, List.getElem_cons_zero, List.setIfInBounds_toArray, List.set_cons_zero, List.set_cons_succ]
      refine wpAnyIn_ready (rs := [1, 5]) (by kernel_rfl) (by simp) ?_
      refine AllReadyIn.cons rfl (fun K hK => ?_) (AllReadyIn.cons rfl (fun K hK => ?_) AllReadyIn.nil)
      · go_simp
        refine hK _ _ ?_
        clear hK K
        refine wpAnyIn_ready (rs := [3, 5]) (by kernel_rfl) (by simp) ?_
        refine AllReadyIn.cons rfl (fun K hK => ?_) (AllReadyIn.cons rfl (fun K hK => ?_) AllReadyIn.nil)
        · go_simp
          refine ⟨trivial, ?_⟩
          (with_reducible refine (O.out _).mono ?_)
          rintro e w' ⟨rfl, hw⟩
          subst hw
          refine hK _ _ ?_
          clear hK K
          refine wpAnyIn_take (i := 4) (v := ?_) rfl rfl (by kernel_rfl) (by kernel_rfl) (by kernel_rfl) (fun _ _ _ h => by cases h.1) ⟨Or.inl ⟨by rfl, ?_⟩, fun _ => rfl⟩ ?_
          rotate_left
          · (intro W; go_simp <;> with_reducible rfl)
          simp only [Act.put, List.getElem_toArray, List.getElem_cons_succ, List.getElem_cons_zero, List.setIfInBounds_toArray, List.set_cons_zero, List.set_cons_succ]
          refine wpAnyIn_ready (rs := [5]) (by kernel_rfl) (by simp) ?_
          refine AllReadyIn.cons rfl (fun K hK => ?_) AllReadyIn.nil
          go_simp
          refine hK _ _ ?_
          clear hK K
          refine wpAnyIn_ready (rs := [7]) (by kernel_rfl) (by simp) ?_
          refine AllReadyIn.cons rfl (fun K hK => ?_) AllReadyIn.nil
          go_simp
          refine ⟨trivial, ?_⟩
          (with_reducible refine (D.out _ ((Below.refl _ W0).alloc (Nat.le_refl _) (.cells #[.int .i64 (room : Nat), .slice ao ln cap] 34))).mono ?_)
          rintro e w' ⟨rfl, hw⟩
          subst hw
          refine hK _ _ ?_
          clear hK K
          refine wpAnyIn_take (i := 8) (v := ?_) rfl rfl (by kernel_rfl) (by kernel_rfl) (by kernel_rfl) (fun _ _ _ h => by cases h.1) ⟨Or.inl ⟨by rfl, ?_⟩, fun _ => rfl⟩ ?_
          rotate_left
          · (intro W; go_simp <;> with_reducible rfl)
          simp only [Act.put, List.getElem_toArray, List.getElem_cons_succ, List.getElem_cons_zero, List.setIfInBounds_toArray, List.set_cons_zero, List.set_cons_succ]
          refine wpAnyIn_take (i := 9) (v := ?_) rfl rfl (by kernel_rfl) (by kernel_rfl) (by kernel_rfl) (fun _ _ _ h => by cases h.1) ⟨Or.inl ⟨by rfl, ?_⟩, fun _ => rfl⟩ ?_
          rotate_left
          · (intro W; go_simp <;> with_reducible rfl)
          simp only [Act.put, List.getElem_toArray, List.getElem_cons_succ, List.getElem_cons_zero, List.setIfInBounds_toArray, List.set_cons_zero, List.set_cons_succ]
          refine wpAnyIn_done (by kernel_rfl) ?_ _
          exact ⟨rfl, _, _, _, _, _, _, _, _, _, rfl, kD.trans (((KeepsOthers.alloc _ _).trans (KeepsOthers.alloc _ _)).from _), bD.trans (((Below.refl _ _).alloc (bD.size) _).alloc (by have := bD.size; simp; omega) _)⟩
        · go_simp
          refine hK _ _ ?_
          clear hK K
          refine wpAnyIn_ready (rs := [3]) (by kernel_rfl) (by simp) ?_
          refine AllReadyIn.cons rfl (fun K hK => ?_) AllReadyIn.nil
          go_simp
          refine ⟨trivial, ?_⟩
          (with_reducible refine (O.out _).mono ?_)
          rintro e w' ⟨rfl, hw⟩
          subst hw
          refine hK _ _ ?_
          clear hK K
          refine wpAnyIn_take (i := 4) (v := ?_) rfl rfl (by kernel_rfl) (by kernel_rfl) (by kernel_rfl) (fun _ _ _ h => by cases h.1) ⟨Or.inl ⟨by rfl, ?_⟩, fun _ => rfl⟩ ?_
          rotate_left
          · (intro W; go_simp <;> with_reducible rfl)
          simp only [Act.put, List.getElem_toArray, List.getElem_cons_succ, List.getElem_cons_zero, List.setIfInBounds_toArray, List.set_cons_zero, List.set_cons_succ]
          refine wpAnyIn_ready (rs := [7]) (by kernel_rfl) (by simp) ?_
          refine AllReadyIn.cons rfl (fun K hK => ?_) AllReadyIn.nil
          go_simp
          refine ⟨trivial, ?_⟩
          (with_reducible refine (D.out _ ((Below.refl _ W0).alloc (Nat.le_refl _) (.cells #[.int .i64 (room : Nat), .slice ao ln cap] 34))).mono ?_)
          rintro e w' ⟨rfl, hw⟩
          subst hw
          refine hK _ _ ?_
          clear hK K
          refine wpAnyIn_take (i := 8) (v := ?_) rfl rfl (by kernel_rfl) (by kernel_rfl) (by kernel_rfl) (fun _ _ _ h => by cases h.1) ⟨Or.inl ⟨by rfl, ?_⟩, fun _ => rfl⟩ ?_
          rotate_left
          · (intro W; go_simp <;> with_reducible rfl)
          simp only [Act.put, List.getElem_toArray, List.getElem_cons_succ, List.getElem_cons_zero, List.setIfInBounds_toArray, List.set_cons_zero, List.set_cons_succ]
          refine wpAnyIn_take (i := 9) (v := ?_) rfl rfl (by kernel_rfl) (by kernel_rfl) (by kernel_rfl) (fun _ _ _ h => by cases h.1) ⟨Or.inl ⟨by rfl, ?_⟩, fun _ => rfl⟩ ?_
          rotate_left
          · (intro W; go_simp <;> with_reducible rfl)
          simp only [Act.put, List.getElem_toArray, List.getElem_cons_succ, List.getElem_cons_zero, List.setIfInBounds_toArray, List.set_cons_zero, List.set_cons_succ]
          refine wpAnyIn_done (by kernel_rfl) ?_ _
          exact ⟨rfl, _, _, _, _, _, _, _, _, _, rfl, kD.trans (((KeepsOthers.alloc _ _).trans (KeepsOthers.alloc _ _)).from _), bD.trans (((Below.refl _ _).alloc (bD.size) _).alloc (by have := bD.size; simp; omega) _)⟩
      · go_simp
        refine hK _ _ ?_
        clear hK K
        refine wpAnyIn_ready (rs := [1]) (by kernel_rfl) (by simp) ?_
        refine AllReadyIn.cons rfl (fun K hK => ?_) AllReadyIn.nil
        go_simp
        refine hK _ _ ?_
        clear hK K
        refine wpAnyIn_ready (rs := [3]) (by kernel_rfl) (by simp) ?_
        refine AllReadyIn.cons rfl (fun K hK => ?_) AllReadyIn.nil
        go_simp
        refine ⟨trivial, ?_⟩
        (with_reducible refine (O.out _).mono ?_)
        rintro e w' ⟨rfl, hw⟩
        subst hw
        refine hK _ _ ?_
        clear hK K
        refine wpAnyIn_take (i := 4) (v := ?_) rfl rfl (by kernel_rfl) (by kernel_rfl) (by kernel_rfl) (fun _ _ _ h => by cases h.1) ⟨Or.inl ⟨by rfl, ?_⟩, fun _ => rfl⟩ ?_
        rotate_left
        · (intro W; go_simp <;> with_reducible rfl)
        simp only [Act.put, List.getElem_toArray, List.getElem_cons_succ, List.getElem_cons_zero, List.setIfInBounds_toArray, List.set_cons_zero, List.set_cons_succ]
        refine wpAnyIn_ready (rs := [7]) (by kernel_rfl) (by simp) ?_
        refine AllReadyIn.cons rfl (fun K hK => ?_) AllReadyIn.nil
        go_simp
        refine ⟨trivial, ?_⟩
        (with_reducible refine (D.out _ ((Below.refl _ W0).alloc (Nat.le_refl _) (.cells #[.int .i64 (room : Nat), .slice ao ln cap] 34))).mono ?_)
        rintro e w' ⟨rfl, hw⟩
        subst hw
        refine hK _ _ ?_
        clear hK K
        refine wpAnyIn_take (i := 8) (v := ?_) rfl rfl (by kernel_rfl) (by kernel_rfl) (by kernel_rfl) (fun _ _ _ h => by cases h.1) ⟨Or.inl ⟨by rfl, ?_⟩, fun _ => rfl⟩ ?_
        rotate_left
        · (intro W; go_simp <;> with_reducible rfl)
        simp only [Act.put, List.getElem_toArray, List.getElem_cons_succ, List.getElem_cons_zero, List.setIfInBounds_toArray, List.set_cons_zero, List.set_cons_succ]
        refine wpAnyIn_take (i := 9) (v := ?_) rfl rfl (by kernel_rfl) (by kernel_rfl) (by kernel_rfl) (fun _ _ _ h => by cases h.1) ⟨Or.inl ⟨by rfl, ?_⟩, fun _ => rfl⟩ ?_
        rotate_left
        · (intro W; go_simp <;> with_reducible rfl)
        simp only [Act.put, List.getElem_toArray, List.getElem_cons_succ, List.getElem_cons_zero, List.setIfInBounds_toArray, List.set_cons_zero, List.set_cons_succ]
        refine wpAnyIn_done (by kernel_rfl) ?_ _
        exact ⟨rfl, _, _, _, _, _, _, _, _, _, rfl, kD.trans (((KeepsOthers.alloc _ _).trans (KeepsOthers.alloc _ _)).from _), bD.trans (((Below.refl _ _).alloc (bD.size) _).alloc (by have := bD.size; simp; omega) _)⟩
    case rest =>
      rintro e a' W2 ⟨rfl, t13, t14, t15, t16, t17, t18, t19, t20, t21, rfl, hk2, hb2⟩
      have hs2 := hs.next hb2
      have bR2 : Boxed W2 (w.heap.size + 1 + 1) 4 (.bool more) := (hb2.block _ bR.lt).trans bR
      have bS2 := bS.next hb2
      have hkk2 := hk.next hb2
      have hg2 := grown_trans hg (grown_row (row := (Value.slice ao ln cap).ownBlock) hb2)
      clear hs bR bS hk hg D0 D O q1 q2
      by_cases hz0 : z = 0
      · have J := LK.out hz0
        have J1 := Lib.hid (And.intro J (And.intro hs2 (And.intro bR2 (And.intro bS2 (And.intro hkk2 hg2)))))
        clear J hs2 bR2 bS2 hkk2 hg2 LK LN hj
        subst hz0
        gi_wp2
        obtain ⟨j1, j2, j3, j4, j5, j6⟩ := J1.out
        exact ⟨hk2, Lc, more, j2, j1, j3, j4, j5, j6⟩
      · have hil : i < Lc.length := by
          apply Nat.lt_of_not_le
          intro hle
          have := hs2.len
          exact hz0 (zero_bits fun j => by
            rw [hzb.out j]
            by_cases hj64 : j < 64
            · have : ¬ 64 * i + j < room := by omega
              simp [this]
            · have : x.testBit j = false := Nat.testBit_lt_two_pow (Nat.lt_of_lt_of_le (show x < 2 ^ 64 by omega) (Nat.pow_le_pow_right (by omega) (by omega)))
              simp [this])
        have J := LN.out hil hz0
        have hin : ∀ j, j < 64 → (y ||| z).testBit j = true → 64 * i + j < room := fun j hj64 hb => by
          rw [Nat.testBit_or] at hb
          rcases Bool.or_eq_true_iff.1 hb with h1 | h1
          · exact hs2.inn (64 * i + j) (by unfold memL; rw [show (64 * i + j) / 64 = i by omega, show (64 * i + j) % 64 = j by omega, ← HYE.out]; exact h1)
          · rw [hzb.out j] at h1
            simp only [Bool.and_eq_true, decide_eq_true_eq] at h1
            exact h1.1.2
        obtain ⟨ao2, cap3, e, hL, hcap, hcc⟩ := hs2.shape
        obtain ⟨g, e2, hcell⟩ := hcc i hil
        have e3 : ao = some ⟨g, 0, none⟩ := by cases e; exact e2
        have e4 : ln = Lc.length := by cases e; rfl
        subst e3
        subst e4
        rw [← HYE.out] at hcell
        have hfz := hs2.row.frozenAt i
        obtain ⟨s1, s2⟩ := hs2.store i (y ||| z) hil (Nat.or_lt_two_pow (n := 64) hy hzl) hin
        have q3 := bits_or_u64_nat y z hy hzl
        have hgl : g < W2.heap.size := cell_lt hcell
        obtain ⟨c0, c1⟩ := bS2.cells
        have d0 : ((z : Int) == 0) = false := by simp; omega
        have hi0 : (0 : Int) ≤ (i : Int) := by omega
        have hi1 : (i : Int) < (Lc.length : Int) := by omega
        have bne := bS2.not_row hs2
        have brn : some (w.heap.size + 1 + 1) ≠ (Value.slice (some ⟨g, 0, none⟩) Lc.length cap).ownBlock := bR2.not_row (by decide) hs2.row
        have kne : (Value.slice bo L2.length cap2).ownBlock = none ∨ (Value.slice bo L2.length cap2).ownBlock ≠ some g := HNE.out
        have hne1 : ¬ (w.heap.size + 1 + 1 = g) := fun e => brn (by simp [Value.ownBlock, e])
        have hne2 : ¬ (g = w.heap.size + 1 + 1) := fun e => hne1 e.symm
        have FIN := Lib.hid (show JI w B room B2 room2 (.slice (some ⟨g, 0, none⟩) Lc.length cap) (.slice bo L2.length cap2) L L2 (pre ++ [(i, x)]) ((W2.setCell ⟨g, i, none⟩ (.int .u64 ((y ||| z : Nat) : Int))).setCell ⟨w.heap.size + 1 + 1, 0, none⟩ (.bool true)) from
          ⟨_, true, s1.kept (grownBy_setCell' _ _ _) (.inr (by simp [Value.ownBlock, hne2])), J, (bR2.kept s2 (by simp; omega)).set _, (bS2.kept s2 (fun e => bne (by rw [e]; rfl))).kept (grownBy_setCell' _ _ _) (by simp; omega),
            (hkk2.kept s2 kne).kept (grownBy_setCell' _ _ _) (by
              have := bR2.not_row (by decide) hkk2.row
              exact .inr (fun e => this e.symm)), grown_on (grown_trans hg2 s2) (grownBy_setCell' _ _ _) (fun j e => by cases e; omega)⟩)
        have hrc := bR2.cell
        have hrf := bR2.frozen
        have hrl := bR2.lt
        clear s1 s2 hs2 bR2 bS2 hkk2 hg2 J hin LK LN hzb hcc hj bne brn kne e2 e
        generalize y ||| z = yz at *
        gi_wp2
        exact ⟨hk2.trans ((KeepsOthers.setCell _ _ _).trans (KeepsOthers.setCell _ _ _) |>.from _), FIN.out⟩
  case done =>
    rintro W ⟨Lc, more, hs, hj, bR, bS, hk, hg⟩ hd
    have hcell := bR.cell
    gi_wp2
    refine ⟨by simp, .inl ⟨_, _, rfl, run_takeDeferred hd, ?_⟩⟩
    have hg2 := grownBy_putObj' W (((w.alloc (.cells #[.int .i64 (room : Nat), .slice ao ln cap] 34)).alloc (.cells #[.int .i64 (room2 : Nat), .slice bo L2.length cap2] 34)).alloc (.cells #[.bool false] 4)).heap.size (.deferred none)
    refine ⟨_, results_tmp rfl _ _ _, Lc, more, rfl, own_set B room _ Lc () W _ _ hs hg2 (fun r e => by cases e; exact ⟨_, hd, rfl⟩), hj, grown_on (w := w) hg hg2 (fun j e => by cases e; simp; omega)⟩
  case stop =>
    rintro pre W _ h _
    exact h.elim

end Go.Proofs.YtemmaoapicaloaaDoor.Bt

/- All. -/
import Derived.Test.YtemmaoapicaloaaDoorBtAllX
import Derived.Test.YtemmaoapicaloaaDoorBtOwn
import Derived.Test.YtemmaoapicaloaaDoorBtOf
import Derived.Test.YtemmaoapicaloaaDoorBtRound
import Derived.Shelf.Spec.TrailingZeros
import Derived.Maps.OwnIn
namespace Go.Proofs.YtemmaoapicaloaaDoor.Bt
open Go.RowKit Go.Shelf

attribute [local go_sem] Oper.semAt_some

/-- 'append' of a number at a step of a region that draws -/
theorem stepIn_append {n m : Nat} {W : World} {ops : Array Oper} {o : Oper} {a : Act} {K : Act → World → Prop} {Q : Exit → Act → World → Prop} {E : Prop} (hgd : o.guard = none) (s x : Operand)
    (ho : o.op = .call { callee := .builtin .append, args := #[s, x], argTypes := #[27, 27] }) (B : Nat) (v : Value) (xs : List Int) (hs : a.eval s = v) (hown : W.ownsRow B 3 1 v m (iV xs))
    (g c : Nat) (y : Int) (hx : a.eval x = .slice (some ⟨g, 0, none⟩) 1 c) (hc : W.cell? ⟨g, 0, none⟩ = some (.int .i64 y)) (hM : m + 1 ≤ 1000000) (hB : B ≤ W.heap.size)
    (h : ∀ v' w', w'.ownsRow B 3 1 v' (m + 1) (iV (xs ++ [y])) → W.grownBy w' v.ownBlock → K (a.put o.dst v') w') :
    if Region.wanted o (yielded ops a.tmps) = true then Oper.wpIn Fence.wide n Tryd.prog o a W K Q else E := by
  have hw : Region.wanted o (yielded ops a.tmps) = true := by simp [Region.wanted, hgd]
  rw [if_pos hw]
  obtain ⟨i0, hi, hz0, hz1, hz2⟩ := info_parts infoI
  obtain ⟨v', w', hr, h2, h3, h4, h5⟩ := run_append_own_at (P := Tryd.prog) W B 27 o.type 3 i0 (.int .i64 0) 1 8 Tryd.underlying27 hi hz0 hz1 hz2 rfl (by decide) v m (iV xs) hown ⟨g, 0, none⟩ 1 c [.int .i64 y] rfl (fun j u hj => by
    obtain rfl : j = 0 := by
      have := (List.getElem?_eq_some_iff.1 hj).1
      simpa using this
    rw [show (⟨g, 0, none⟩ : Addr).add 0 = ⟨g, 0, none⟩ from rfl, hc]
    simpa using hj) (by simp [Value.oneCell']) (by unfold maxLen; omega) (by omega) hB
  unfold Oper.wpIn
  refine ⟨by simp [Oper.about, ho, resolve, Target.leads, Sem.run_pure], ?_⟩
  rw [Oper.semAt_plain _ _ _ (by rw [ho]; intro c hc'; cases hc')]
  simp [execOp, ho, resolve, invoke, builtin, hs, hx, hr, Result.andThen]
  exact h v' w' (by simpa [iV] using h2) h3

/-- the library's table lies in its variable -/
def Tab (w : World) : Prop := TabAt 0 Lib.deBruijn64tab w
theorem Tab.next {w W : World} (h : Tab w) (hb : Below w.heap.size w W) : Tab W := fun j hj => cell_next (h j hj) hb
set_option maxHeartbeats 1000000 in
theorem tz_core (x k idx : Nat) (w : World) (hx0 : ((x : Int) == 0) = false)
    (key : IntKind.u64.wrap (bits BinOp.and IntKind.u64 (x : Int) (IntKind.u64.wrap (-(x : Int))) * 285870213051353865) / 288230376151711744 = (idx : Int))
    (hi : idx < 64) (hk : k < 64) (hcell : w.cell? ⟨0, idx, none⟩ = some (.int .u8 (k : Nat))) :
    Calls Tryd.prog 29 #[.int .u64 (x : Nat)] w fun e w' => e = .returned (.int .i64 (k : Nat)) ∧ w' = w := by
  go_enter Tryd.func29, Tryd.ntmps29
  go_wp2
  go_ret
  exact ⟨rfl, rfl⟩
theorem tz_any (x : Nat) (hx0 : x ≠ 0) (hx : x < 18446744073709551616) (w : World) (hT : Tab w) : Calls Tryd.prog 29 #[.int .u64 (x : Nat)] w fun e w' => e = .returned (.int .i64 (Lib.ctz 64 x : Nat)) ∧ w' = w := by
  obtain ⟨hlow, hk⟩ := Lib.lowest_bit 64 x hx0 hx
  obtain ⟨hi, htab⟩ := Lib.deBruijn64_at _ hk
  have key := tz64_key x _ hx hx0 hlow
  generalize 2 ^ Lib.ctz 64 x * 285870213051353865 % 18446744073709551616 / 288230376151711744 = idx at *
  have hcell := hT idx hi
  rw [htab] at hcell
  have d0 : ((x : Int) == 0) = false := by simp; omega
  have hg : 0 < w.heap.size := cell_lt hcell
  generalize Lib.ctz 64 x = k at *
  exact tz_core x k idx w d0 key hi hk hcell

/-- the numbers that were gathered, in a box -/
def Hold (n₀ B : Nat) (l : List Int) (W : World) : Prop := ∃ v, Boxed W B 27 v ∧ W.ownsRow n₀ 3 1 v l.length (iV l) ∧ True
theorem hold_own {β : Type} (n₀ B : Nat) (f : β → List Int) : Own (fun (pre : β) W => Hold n₀ B (f pre) W) :=
  holdsRow_own n₀ B 27 3 1 (fun pre : β => (f pre).length) (fun pre => iV (f pre)) (fun _ _ => True)

set_option maxRecDepth 100000 in
set_option maxHeartbeats 4000000 in
theorem all_any (B room : Nat) (v : Value) (L : List Nat) (w : World) (hT : Tab w) (h : SetAt w B room v L) : Calls Tryd.prog 16 #[setV room v] w fun e w' => ∃ v', e = .returned v' ∧ w'.ownsRow w.heap.size 3 1 v' (allX (fromL 0 L)).length (iV (allX (fromL 0 L))) ∧ Below w.heap.size w w' := by
  obtain ⟨ao, cap, rfl, hL, hcap, hc⟩ := h.shape
  have HC := Lib.hid (fun W (hW : Below w.heap.size w W) => show Rd ao L W from fun i hi => by
    obtain ⟨g, e, hcell⟩ := hc i hi
    exact ⟨g, e, cell_next hcell hW⟩)
  have HX := Lib.hid (fun x => from_word 0 L x)
  have HW := Lib.hid h.word
  have HT := Lib.hid hT
  have hXl : (fromL 0 L).length ≤ 1024 := Nat.le_trans (from_len 0 L) hL
  clear hc h hT
  unfold setV
  refine (callsIn_wide (n := 9)).1 (callsIn_of_wp_marks Tryd.func16 rfl trivial ?_ rfl)
  simp only [Tryd.ntmps16, List.size_toArray, List.length_cons, List.length_nil, Nat.reduceAdd, Nat.reduceSub, Array.replicate_succ, Array.replicate_zero, List.push_toArray, List.append_toArray, List.nil_append, List.cons_append]
  have hB1 := (Below.refl w.heap.size w).alloc (Nat.le_refl _) (.cells #[.int .i64 (room : Nat), .slice ao L.length cap] 34)
  have hB2 := hB1.alloc hB1.size (.cells #[.slice none 0 0] 27)
  have bN := Boxed.new (w.alloc (.cells #[.int .i64 (room : Nat), .slice ao L.length cap] 34)) 27 (.slice none 0 0)
  simp only [World.size_alloc] at bN
  gi_wp2
  refine range_law (rc := .agg #[.int .i64 (room : Nat), .slice ao L.length cap]) (gf := 28) rfl (enters_of Tryd.func28 (by kernel_rfl) rfl) (enc := encP) (X := fromL 0 L) (Rd := Rd ao L)
    (fun W1 _ => filled_seq room _ L ao cap rfl hL W1) (fun _ => rfl)
    (fun pre W => Hold w.heap.size (w.heap.size + 1) (allX pre) W ∧ Below w.heap.size w W)
    (fun _ _ => False)
    (OwnFrom.and (Own.from (hold_own w.heap.size (w.heap.size + 1) allX) _) (ownFrom_below (Nat.le_refl _) (by simp; omega)))
    (fun _ _ _ _ hs _ _ => hs.elim)
    (fun pre W hI => HC.out W hI.2)
    ⟨⟨_, bN, World.ownsRow_nil _ _ _ _, trivial⟩, hB2⟩
    (fun x => { tmps := #[.agg #[.int .i64 (room : Nat), .slice ao L.length cap], .pointer (some ⟨w.heap.size, 0, none⟩), .slice none 0 0, .pointer (some ⟨w.heap.size + 1, 0, none⟩), .int .i64 (x.1 : Nat), .int .u64 (x.2 : Nat), .agg #[.int .i64 (room : Nat), .slice ao L.length cap], .func (.func 28) #[.agg #[.int .i64 (room : Nat), .slice ao L.length cap]] #[], .int .i64 (x.1 : Nat), .int .u64 (x.2 : Nat), undef, undef, undef, undef, undef, undef, undef, undef, undef, undef, undef, undef, undef, undef, undef], defers := [] })
    ?assign ?body ?done ?stop
  case assign =>
    intro l x W K hK
    simp only [encP]
    gi_wp2
    exact hK
  case body =>
    rintro l pre ⟨i, x⟩ W ⟨hold, hb⟩ hp
    obtain ⟨h1, h2, h3, h4⟩ := HX.out (i, x) (hp.subset (by simp))
    have hx : x < 18446744073709551616 := by
      simp only [Nat.sub_zero] at h3
      rw [h3]
      exact HW.out _
    have hi : i < 1024 := by simp only at h2; omega
    have hlen : pre.length + 1 ≤ 1024 := by have := hp.length_le; simp at this; omega
    have hcl := cntX_le pre
    rw [← allX_len] at hcl
    have hol := ones_le x
    have S := Lib.hid (allX_snoc pre (i, x))
    clear h1 h2 h3 h4 hp
    generalize allX pre = acc at *
    obtain ⟨f, hf⟩ : ∃ f : Nat → Int, f = fun j : Nat => (i : Int) * 64 + (j : Int) := ⟨_, rfl⟩
    have HF := Lib.hid hf
    simp only at S
    rw [← hf] at S
    clear hf
    gi_wp2
    gi_loopw [5] (fun xv wr => ∃ (y : Nat) (d : List Nat), xv = .int .u64 y ∧ y < 18446744073709551616 ∧ bitsOf x = d ++ bitsOf y ∧ Hold w.heap.size (w.heap.size + 1) (acc ++ d.map f) wr ∧ Below w.heap.size w wr ∧ KeepsFrom ((w.alloc (.cells #[.int .i64 (room : Nat), .slice ao L.length cap] 34)).alloc (.cells #[.slice none 0 0] 27)).heap.size W wr) (fun xv _ => (bitsOf (intOf xv).toNat).length)
    case atStart => exact ⟨x, [], rfl, hx, by simp, by simpa using hold, hb, KeepsFrom.refl _ _⟩
    case round =>
      obtain ⟨y, d, rfl, hy, hd, ⟨v, bv, ho, _⟩, hbr, hkr⟩ := hrel
      by_cases h0 : y = 0
      · subst h0
        rw [bits_zero, List.append_nil] at hd
        have HD := Lib.hid hd
        clear hd
        gi_wp2
        have e := HD.out
        subst e
        exact ⟨hkr, by rw [S.out]; exact ⟨v, bv, ho, trivial⟩, hbr⟩
      · obtain ⟨lb1, lb2⟩ := low_bits h0 hy
        have d0 : ((y : Int) == 0) = false := by simp; omega
        gi_wp2
        have hi63 : IntKind.i64.wrap ((i : Int) * 64) = (i : Int) * 64 := by rw [IntKind.wrap_i64]; omega
        rw [lb1] at hd
        have T := Lib.hid (fun W (hW : Tab W) => show CallsIn Fence.wide 8 Tryd.prog 29 #[.int .u64 (y : Nat)] W _ from callsIn_wide.2 (tz_any y h0 hy W hW))
        have hyy := and_lt (y := y - 1) (show y < 2 ^ 64 from hy)
        have q1 : bits .and .u64 (y : Int) ((y : Int) - 1) = ((y &&& (y - 1) : Nat) : Int) := by
          rw [show ((y : Int) - 1) = ((y - 1 : Nat) : Int) by omega]
          exact bits_and_u64_nat y (y - 1) hy (by omega)
        have q2 : IntKind.u64.wrap ((y : Int) - 1) = (y : Int) - 1 := by rw [IntKind.wrap_u64]; omega
        have hdl : (bitsOf (y &&& (y - 1))).length + d.length + 1 ≤ 64 := by rw [hd] at hol; simp at hol; omega
        have hyl : (bitsOf y).length = (bitsOf (y &&& (y - 1))).length + 1 := by rw [lb1]; simp
        have HD := Lib.hid (And.intro hd (And.intro q1 (And.intro q2 hyl)))
        clear hd lb1 q1 q2 hyl
        generalize Lib.ctz 64 y = c at *
        have hw2 : IntKind.i64.wrap ((i : Int) * 64 + (c : Int)) = (i : Int) * 64 + (c : Int) := by rw [IntKind.wrap_i64]; omega
        have hfc : f c = (i : Int) * 64 + (c : Int) := by rw [HF.out]
        obtain ⟨m, hm⟩ : ∃ m, m = (acc ++ d.map f).length := ⟨_, rfl⟩
        have hml : m ≤ 100000 := by rw [hm]; simp; omega
        rw [← hm] at ho
        obtain ⟨a1, c1, rfl⟩ := own_slice ho
        have HM := Lib.hid (And.intro hm hfc)
        clear hm hfc
        generalize hacc : acc ++ d.map f = acc2 at *
        have HA := Lib.hid hacc
        clear hacc
        refine wpIn_mono (Q := fun e a' W2 => e = .normal ∧ ∃ (t16 t17 t18 t19 t20 t21 t22 t23 : Value), a' = { tmps := #[.agg #[.int .i64 (room : Nat), .slice ao L.length cap], .pointer (some ⟨w.heap.size, 0, none⟩), .slice none 0 0, .pointer (some ⟨w.heap.size + 1, 0, none⟩), .int .i64 (i : Nat), .int .u64 (y : Nat), .agg #[.int .i64 (room : Nat), .slice ao L.length cap], .func (.func 28) #[.agg #[.int .i64 (room : Nat), .slice ao L.length cap]] #[], .int .i64 (i : Nat), .int .u64 (x : Nat), .int .u64 (y : Nat), .bool true, u12, u13, u14, u15, t16, t17, t18, t19, t20, t21, t22, t23, undef], defers := [] } ∧ Hold w.heap.size (w.heap.size + 1) (acc2 ++ [(i : Int) * 64 + (c : Int)]) W2 ∧ KeepsFrom ((w.alloc (.cells #[.int .i64 (room : Nat), .slice ao L.length cap] 34)).alloc (.cells #[.slice none 0 0] 27)).heap.size wr W2 ∧ Below w.heap.size w W2) ?reg ?rest
        case rest =>
          rintro e a' W2 ⟨rfl, t16, t17, t18, t19, t20, t21, t22, t23, rfl, hold2, hk2, hb2⟩
          obtain ⟨hd, q1, q2, hyl⟩ := HD.out
          generalize hz : y &&& (y - 1) = z at *
          have HD2 := Lib.hid (And.intro hd hyl)
          clear hd hyl HD hz
          gi_wp2
          go_roundw
          case rel => exact ⟨z, d ++ [c], rfl, hyy, by rw [HD2.out.1]; simp, by rw [List.map_append, ← List.append_assoc, HA.out, List.map_cons, List.map_nil, HM.out.2]; exact hold2, hb2, hkr.trans hk2⟩
          case measure => simp [intOf]; have := HD2.out.2; omega
        case reg =>
          refine wpIn_region_any (by kernel_rfl) ?_
          (try (change wpAnyIn _ _ _ _ _ _ _ _ _ (World.drew _)))
          have kD : KeepsFrom ((w.alloc (.cells #[.int .i64 (room : Nat), .slice ao L.length cap] 34)).alloc (.cells #[.slice none 0 0] 27)).heap.size wr wr.drew := (KeepsOthers.drew wr).from _
          have bv0 := boxed_drew bv
          have ho0 := row_next ho ((Below.refl _ wr).drew)
          have hb0 := hbr.drew
          clear bv ho hbr
          generalize wr.drew = W0 at *
          have hT0 := HT.out.next hb0
          have cc := bv0.cell
          have clt := bv0.lt
          have hsz0 := hb0.size
          have HO := Lib.hid ho0
          have HT0 := Lib.hid hT0
          clear ho0 hT0
          refine in_round (by kernel_rfl) ?_
          refine wpAnyIn_take (i := 1) (v := ?_) rfl rfl (by kernel_rfl) (by kernel_rfl) (by kernel_rfl) (fun _ _ _ h => by cases h.1) ⟨Or.inl ⟨by rfl, ?_⟩, fun _ => rfl⟩ ?_
          rotate_left
          · (intro W; go_simp <;> with_reducible rfl)
          simp only [Act.put, List.getElem_toArray, List.getElem_cons_succ, List.getElem_cons_zero, List.setIfInBounds_toArray, List.set_cons_zero, List.set_cons_succ]
          refine wpAnyIn_take (i := 2) (v := ?_) rfl rfl (by kernel_rfl) (by kernel_rfl) (by kernel_rfl) (fun _ _ _ h => by cases h.1) ⟨Or.inl ⟨by rfl, ?_⟩, fun _ => rfl⟩ ?_
          rotate_left
          · (intro W; go_simp <;> with_reducible rfl)
          simp only [Act.put, List.getElem_toArray, List.getElem_cons_succ, List.getElem_cons_zero, List.setIfInBounds_toArray, List.set_cons_zero, List.set_cons_succ]
          refine wpAnyIn_take (i := 3) (v := ?_) rfl rfl (by kernel_rfl) (by kernel_rfl) (by kernel_rfl) (fun _ _ _ h => by cases h.1) ⟨Or.inl ⟨by rfl, ?_⟩, fun _ => rfl⟩ ?_
          rotate_left
          · (intro W; go_simp <;> with_reducible rfl)
          simp only [Act.put, List.getElem_toArray, List.getElem_cons_succ, List.getElem_cons_zero, List.setIfInBounds_toArray, List.set_cons_zero, List.set_cons_succ]
          refine wpAnyIn_ready (rs := [0, 4]) (by kernel_rfl) (by simp) ?_
          refine AllReadyIn.cons rfl (fun K hK => ?_) (AllReadyIn.cons rfl (fun K hK => ?_) AllReadyIn.nil)
          · go_simp
            refine hK _ _ ?_
            clear hK K
            refine wpAnyIn_ready (rs := [4]) (by kernel_rfl) (by simp) ?_
            refine AllReadyIn.cons rfl (fun K hK => ?_) AllReadyIn.nil
            go_simp
            refine ⟨trivial, ?_⟩
            (with_reducible refine (T.out _ HT0.out).mono ?_)
            rintro e w' ⟨rfl, hw⟩
            replace hw := hw.symm
            subst hw
            refine hK _ _ ?_
            clear hK K
            refine wpAnyIn_take (i := 5) (v := ?_) rfl rfl (by kernel_rfl) (by kernel_rfl) (by kernel_rfl) (fun _ _ _ h => by cases h.1) ⟨Or.inl ⟨by rfl, ?_⟩, fun _ => rfl⟩ ?_
            rotate_left
            · (intro W; go_simp <;> with_reducible rfl)
            simp only [Act.put, List.getElem_toArray, List.getElem_cons_succ, List.getElem_cons_zero, List.setIfInBounds_toArray, List.set_cons_zero, List.set_cons_succ]
            refine wpAnyIn_ready (rs := [6]) (by kernel_rfl) (by simp) ?_
            refine AllReadyIn.cons rfl (fun K hK => ?_) AllReadyIn.nil
            go_simp
            refine hK _ _ ?_
            clear hK K
            refine wpAnyIn_ready (rs := [7]) (by kernel_rfl) (by simp) ?_
            refine AllReadyIn.cons rfl (fun K hK => ?_) AllReadyIn.nil
            refine stepIn_append rfl (.tmp 16) (.tmp 22) (by rfl) w.heap.size (.slice a1 m c1) acc2 (by rfl) (HO.out.alloc _) W0.heap.size 1 ((i : Int) * 64 + (c : Int)) (by rfl) (by rw [World.cell?_alloc_new]; rfl) (by omega) (by simp; omega) ?_
            intro v2 w2 ho2 hg2
            obtain ⟨a2, c2, rfl⟩ := own_slice ho2
            obtain ⟨hv1, hv2, hr2, hk2, hb2⟩ := bv0.appended (by decide) HO.out hsz0 (by omega) ho2 hg2
            have cc2 := hv1.cell
            have cf2 := hv1.frozen
            have clt2 := hv1.lt
            refine hK _ _ ?_
            clear hK K
            refine wpAnyIn_ready (rs := [8]) (by kernel_rfl) (by simp) ?_
            refine AllReadyIn.cons rfl (fun K hK => ?_) AllReadyIn.nil
            go_simp
            refine hK _ _ ?_
            clear hK K
            refine wpAnyIn_done (by kernel_rfl) ?_ _
            exact ⟨rfl, _, _, _, _, _, _, _, _, rfl, ⟨_, hv2, by simpa [HM.out.1] using hr2, trivial⟩, kD.trans (hk2.from _), hb0.trans hb2⟩
          · go_simp
            refine ⟨trivial, ?_⟩
            (with_reducible refine (T.out _ HT0.out).mono ?_)
            rintro e w' ⟨rfl, hw⟩
            replace hw := hw.symm
            subst hw
            refine hK _ _ ?_
            clear hK K
            refine wpAnyIn_take (i := 5) (v := ?_) rfl rfl (by kernel_rfl) (by kernel_rfl) (by kernel_rfl) (fun _ _ _ h => by cases h.1) ⟨Or.inl ⟨by rfl, ?_⟩, fun _ => rfl⟩ ?_
            rotate_left
            · (intro W; go_simp <;> with_reducible rfl)
            simp only [Act.put, List.getElem_toArray, List.getElem_cons_succ, List.getElem_cons_zero, List.setIfInBounds_toArray, List.set_cons_zero, List.set_cons_succ]
            refine wpAnyIn_ready (rs := [0, 6]) (by kernel_rfl) (by simp) ?_
            refine AllReadyIn.cons rfl (fun K hK => ?_) (AllReadyIn.cons rfl (fun K hK => ?_) AllReadyIn.nil)
            · go_simp
              refine hK _ _ ?_
              clear hK K
              refine wpAnyIn_ready (rs := [6]) (by kernel_rfl) (by simp) ?_
              refine AllReadyIn.cons rfl (fun K hK => ?_) AllReadyIn.nil
              go_simp
              refine hK _ _ ?_
              clear hK K
              refine wpAnyIn_ready (rs := [7]) (by kernel_rfl) (by simp) ?_
              refine AllReadyIn.cons rfl (fun K hK => ?_) AllReadyIn.nil
              refine stepIn_append rfl (.tmp 16) (.tmp 22) (by rfl) w.heap.size (.slice a1 m c1) acc2 (by rfl) (HO.out.alloc _) W0.heap.size 1 ((i : Int) * 64 + (c : Int)) (by rfl) (by rw [World.cell?_alloc_new]; rfl) (by omega) (by simp; omega) ?_
              intro v2 w2 ho2 hg2
              obtain ⟨a2, c2, rfl⟩ := own_slice ho2
              obtain ⟨hv1, hv2, hr2, hk2, hb2⟩ := bv0.appended (by decide) HO.out hsz0 (by omega) ho2 hg2
              have cc2 := hv1.cell
              have cf2 := hv1.frozen
              have clt2 := hv1.lt
              refine hK _ _ ?_
              clear hK K
              refine wpAnyIn_ready (rs := [8]) (by kernel_rfl) (by simp) ?_
              refine AllReadyIn.cons rfl (fun K hK => ?_) AllReadyIn.nil
              go_simp
              refine hK _ _ ?_
              clear hK K
              refine wpAnyIn_done (by kernel_rfl) ?_ _
              exact ⟨rfl, _, _, _, _, _, _, _, _, rfl, ⟨_, hv2, by simpa [HM.out.1] using hr2, trivial⟩, kD.trans (hk2.from _), hb0.trans hb2⟩
            · go_simp
              refine hK _ _ ?_
              clear hK K
              refine wpAnyIn_ready (rs := [0]) (by kernel_rfl) (by simp) ?_
              refine AllReadyIn.cons rfl (fun K hK => ?_) AllReadyIn.nil
              go_simp
              refine hK _ _ ?_
              clear hK K
              refine wpAnyIn_ready (rs := [7]) (by kernel_rfl) (by simp) ?_
              refine AllReadyIn.cons rfl (fun K hK => ?_) AllReadyIn.nil
              refine stepIn_append rfl (.tmp 16) (.tmp 22) (by rfl) w.heap.size (.slice a1 m c1) acc2 (by rfl) (HO.out.alloc _) W0.heap.size 1 ((i : Int) * 64 + (c : Int)) (by rfl) (by rw [World.cell?_alloc_new]; rfl) (by omega) (by simp; omega) ?_
              intro v2 w2 ho2 hg2
              obtain ⟨a2, c2, rfl⟩ := own_slice ho2
              obtain ⟨hv1, hv2, hr2, hk2, hb2⟩ := bv0.appended (by decide) HO.out hsz0 (by omega) ho2 hg2
              have cc2 := hv1.cell
              have cf2 := hv1.frozen
              have clt2 := hv1.lt
              refine hK _ _ ?_
              clear hK K
              refine wpAnyIn_ready (rs := [8]) (by kernel_rfl) (by simp) ?_
              refine AllReadyIn.cons rfl (fun K hK => ?_) AllReadyIn.nil
              go_simp
              refine hK _ _ ?_
              clear hK K
              refine wpAnyIn_done (by kernel_rfl) ?_ _
              exact ⟨rfl, _, _, _, _, _, _, _, _, rfl, ⟨_, hv2, by simpa [HM.out.1] using hr2, trivial⟩, kD.trans (hk2.from _), hb0.trans hb2⟩
  case done =>
    rintro W ⟨⟨v, bx, ho, _⟩, hb⟩ hd
    have hcell := bx.cell
    obtain ⟨a1, c1, rfl⟩ := own_slice ho
    gi_wp2
    refine ⟨by simp, .inl ⟨_, _, rfl, run_takeDeferred hd, ?_⟩⟩
    exact ⟨_, results_tmp rfl _ _ _, _, rfl, ownsRow_putObj ho _ hd rfl, hb.grown (grownBy_putObj' _ _ (.deferred none)) hb.size (fun k e => by cases e; simp; omega)⟩
  case stop =>
    rintro pre W _ h _
    exact h.elim

end Go.Proofs.YtemmaoapicaloaaDoor.Bt

/- The document's Far. -/
import Derived.Test.YtjmdlioakkibcaaGreatDoorPk25
import Derived.Test.YtjmdlioakkibcaaGreatDoorPk04

namespace Go.Proofs.YtjmdlioakkibcaaGreatDoor.Ar
open Go Go.RowKit Go.Shelf
open Go.Proofs.YtjmdlioakkibcaaGreatDoor.Rg (R RngsAt RowsAt nthL add_zero own_next)

/-- the counts of the first k nodes -/
def farL (l : List Nd) (k : Nat) : List Value := (List.range k).map fun i => .int .i64 (farK l i)
theorem farL_len (l : List Nd) (k : Nat) : (farL l k).length = k := by simp [farL]
theorem farL_succ (l : List Nd) (k : Nat) : farL l (k + 1) = farL l k ++ [.int .i64 (farK l k)] := by simp [farL, List.range_succ]
theorem farL_at {l : List Nd} {k i : Nat} (h : i < k) : (farL l k)[i]? = some (.int .i64 (farK l i)) := by simp [farL, h]
/-- what one part adds -/
theorem far_part (l : List Nd) (i : Nat) (x : Int) : ∃ A, A = (if 0 ≤ x then (if x.toNat < i then farK l x.toNat else 0) else 0) ∧
    ((¬ 0 ≤ x ∧ A = 0) ∨ (0 ≤ x ∧ ¬ x < i ∧ A = 0) ∨ ∃ a : Nat, x = a ∧ a < i ∧ A = farK l a) := by
  refine ⟨_, rfl, ?_⟩
  by_cases h : 0 ≤ x
  · obtain ⟨a, rfl⟩ := Int.eq_ofNat_of_zero_le h
    by_cases h2 : a < i
    · exact .inr (.inr ⟨a, rfl, h2, by rw [if_pos h, Int.toNat_natCast, if_pos h2]⟩)
    · exact .inr (.inl ⟨h, by omega, by rw [if_pos h, Int.toNat_natCast, if_neg h2]⟩)
  · exact .inl ⟨h, by rw [if_neg h]⟩

/-- what Far tells -/
def FarOut (t : Tr) (w : World) (e : Ending) (w' : World) : Prop := ∃ b : Bool, e = .returned (.bool b) ∧ ((b = true ∧ ¬ Near t) ∨ (b = false ∧ Near t)) ∧ Below w.heap.size w w'

set_option maxRecDepth 100000 in
set_option maxHeartbeats 8000000 in
theorem far_any (t : Tr) (v : Value) (w : World) (h : TreeAt w v t) :
    Calls Tryz.prog 31 #[v] w (FarOut t w) := by
  obtain ⟨i0, hi, hz0, hz1, hz2⟩ := info_parts infoI
  obtain ⟨ao, cap, so, scap, rfl, hm, hm2, hn, hs⟩ := h.shape
  have HN := Lib.hid hn
  have HS := Lib.hid hs
  clear hn hs h
  have b1 := (Below.refl w.heap.size w).alloc (Nat.le_refl _) (.cells #[.slice ao t.ns.length cap, .slice so t.sets.length scap, .int .i64 t.root] 25)
  have B1 := Lib.hid b1
  have T0 := Lib.hid (TBox.new w (.slice ao t.ns.length cap) (.slice so t.sets.length scap) t.root)
  have hW1s : w.heap.size + 1 ≤ (w.alloc (.cells #[.slice ao t.ns.length cap, .slice so t.sets.length scap, .int .i64 t.root] 25)).heap.size := by simp
  have hW1t : (w.alloc (.cells #[.slice ao t.ns.length cap, .slice so t.sets.length scap, .int .i64 t.root] 25)).heap.size ≤ w.heap.size + 1 := by simp
  by_cases hbig : 60 < t.ns.length ∨ 60 < t.sets.length
  · have hh : (60 : Int) < t.ns.length ∨ (¬ (60 : Int) < t.ns.length ∧ (60 : Int) < t.sets.length) := by omega
    have hnn : ¬ Near t := fun h => by have := h.ns; have := h.sets; omega
    have HNN := Lib.hid hnn
    clear hbig hnn
    rcases hh with h1 | ⟨h1, h2⟩
    all_goals (
      go_enter Tryz.func31, Tryz.ntmps31
      go_wp2
      go_ret
      exact ⟨true, rfl, .inl ⟨rfl, HNN.out⟩, b1⟩)
  · have n1 : ¬ (60 : Int) < t.ns.length := by omega
    have n2 : ¬ (60 : Int) < t.sets.length := by omega
    have l1 : t.ns.length ≤ 60 := by omega
    have l2 : t.sets.length ≤ 60 := by omega
    clear hbig hm hm2
    obtain ⟨f0, f1, f2⟩ := T0.out
    go_enter Tryz.func31, Tryz.ntmps31
    go_wp2
    generalize w.alloc (.cells #[.slice ao t.ns.length cap, .slice so t.sets.length scap, .int .i64 t.root] 25) = W1 at *
    clear f0 f1 f2
    go_loopw [3, 4] (fun o i wr => ∃ (k : Nat) (vo : Value), i = .int .i64 k ∧ vo = o ∧ k ≤ t.ns.length ∧ wr.ownsRow (w.heap.size + 1) 3 1 o k (farL t.ns k) ∧ (∀ j, j < k → farK t.ns j ≤ 3000) ∧ Below (w.heap.size + 1) W1 wr) (fun _ i _ => t.ns.length - (intOf i).toNat)
    case atStart => exact ⟨0, _, rfl, rfl, Nat.zero_le _, World.ownsRow_nil _ _ _ _, fun j hj => by omega, Below.refl _ _⟩
    case round =>
      obtain ⟨k, o, rfl, rfl, hk, hrow, hf, hbw⟩ := hrel
      obtain ⟨wo, rfl⟩ : ∃ x, x = wr := ⟨_, rfl⟩
      obtain ⟨r0, r1, r2⟩ := T0.out.next (hbw.mono (by omega))
      have hsz := hbw.size
      have HBW := Lib.hid hbw
      have HF := Lib.hid hf
      clear hbw hf
      by_cases hlt : k < t.ns.length
      · obtain ⟨g, rfl, hnode⟩ := HN.out k hlt
        have hB := B1.out.trans (HBW.out.mono (by omega))
        obtain ⟨c0, c1, c2, c3, c4, c5⟩ := hnode.next hB
        have hl0 := cell_lt c0
        have hfk : farK t.ns k = _ := farK.eq_1 t.ns k
        obtain ⟨A, hA, wa⟩ := far_part t.ns k (nd t.ns k).a
        obtain ⟨B, hB', wb⟩ := far_part t.ns k (nd t.ns k).b
        rw [← hA, ← hB'] at hfk
        have HFK := Lib.hid hfk
        have HROW := Lib.hid hrow
        clear hB hnode hA hB' hfk
        generalize nd t.ns k = n at *
        have hcell : ∀ a, a < k → ∃ G c, o = .slice (some ⟨G, 0, none⟩) k c ∧ wo.cell? ⟨G, a, none⟩ = some (.int .i64 (farK t.ns a)) ∧ G < wo.heap.size := fun a ha => by
          obtain ⟨G, c, he, hgb, hgc⟩ := HROW.out.form (by omega)
          have hrow2 := HROW.out
          subst he
          exact ⟨G, c, rfl, by rw [hrow2.cellAt a (by omega), farL_at ha], (hrow2.lt _ rfl).2⟩
        have hfin : ∀ W : World, ∀ v' : Value, W.ownsRow (w.heap.size + 1) 3 1 v' (k + 1) (farL t.ns k ++ [.int .i64 (1 + A + B)]) → W.ownsRow (w.heap.size + 1) 3 1 v' (k + 1) (farL t.ns (k + 1)) := fun W v' h => by rw [farL_succ, HFK.out]; exact h
        have HFIN := Lib.hid hfin
        have hle : (1 + A + B ≤ 3000) → ∀ j, j < k + 1 → farK t.ns j ≤ 3000 := fun h j hj => by
          by_cases hjk : j = k
          · rw [hjk, HFK.out]; exact h
          · exact HF.out j (by omega)
        have HLE := Lib.hid hle
        have hA3 : 0 ≤ A ∧ A ≤ 3000 := by
          rcases wa with ⟨_, h⟩ | ⟨_, _, h⟩ | ⟨a, _, ha, h⟩
          · omega
          · omega
          · rw [h]; have := HF.out a ha; have := farK_pos t.ns a; omega
        have hB3 : 0 ≤ B ∧ B ≤ 3000 := by
          rcases wb with ⟨_, h⟩ | ⟨_, _, h⟩ | ⟨a, _, ha, h⟩
          · omega
          · omega
          · rw [h]; have := HF.out a ha; have := farK_pos t.ns a; omega
        obtain ⟨hA0, hA1⟩ := hA3
        obtain ⟨hB0, hB1⟩ := hB3
        have wa' : (¬ 0 ≤ n.a ∧ A = 0) ∨ (0 ≤ n.a ∧ ¬ n.a < k ∧ A = 0) ∨ ∃ (a : Nat) (G c : Nat), n.a = a ∧ a < k ∧ o = .slice (some ⟨G, 0, none⟩) k c ∧ wo.cell? ⟨G, a, none⟩ = some (.int .i64 A) ∧ G < wo.heap.size := by
          rcases wa with h | h | ⟨a, h1, h2, h3⟩
          · exact .inl h
          · exact .inr (.inl h)
          · obtain ⟨G, c, e1, e2, e3⟩ := hcell a h2
            exact .inr (.inr ⟨a, G, c, h1, h2, e1, by rw [h3]; exact e2, e3⟩)
        have wb' : (¬ 0 ≤ n.b ∧ B = 0) ∨ (0 ≤ n.b ∧ ¬ n.b < k ∧ B = 0) ∨ ∃ (a : Nat) (G c : Nat), n.b = a ∧ a < k ∧ o = .slice (some ⟨G, 0, none⟩) k c ∧ wo.cell? ⟨G, a, none⟩ = some (.int .i64 B) ∧ G < wo.heap.size := by
          rcases wb with h | h | ⟨a, h1, h2, h3⟩
          · exact .inl h
          · exact .inr (.inl h)
          · obtain ⟨G, c, e1, e2, e3⟩ := hcell a h2
            exact .inr (.inr ⟨a, G, c, h1, h2, e1, by rw [h3]; exact e2, e3⟩)
        have hrow2 := Lib.hid HROW.out
        clear wa wb hcell hfin hle hrow
        obtain ⟨op, na, nb, lo, hi', st⟩ := n
        dsimp only at *
        rcases wa' with ⟨a1, rfl⟩ | ⟨a1, a2, rfl⟩ | ⟨a, G, c, rfl, a1, rfl, a2, a3⟩
        all_goals rcases wb' with ⟨b1', rfl⟩ | ⟨b1', b2', rfl⟩ | ⟨b, G', c', rfl, b1', he, b2', b3'⟩
        all_goals (try (first | (simp only [Value.slice.injEq, Option.some.injEq, Addr.mk.injEq] at he; obtain ⟨⟨rfl, _⟩, _, rfl⟩ := he) | subst he))
        all_goals (
          go_wp2_with (at_builtin; refine wpList_append_own _ rfl _ _ 36 rfl (w.heap.size + 1) 3 i0 (.int .i64 0) 1 8 Tryz.underlying36 hi hz0 hz1 hz2 rfl (by decide) _ _ _ rfl ((HROW.out.alloc _).alloc _) ⟨wo.heap.size + 1, 0, none⟩ 1 1 [.int .i64 _] rfl rfl (by simpa using cell_one_new (wo.alloc _) _ _) (by simp [Value.oneCell']) (by unfold maxLen; omega) (by omega) (by simp; omega) ?_; intro v' w2 hown' hgrow _; go_must (have HR2 := Lib.hid (HFIN.out _ _ (by simpa using hown')); have HB2 := Lib.hid (((HBW.out.alloc (by omega) _).alloc (by simp; omega) _).grown hgrow (by simp; omega) (fun x hx => (hrow2.out.lt x hx).1)); clear hown' hgrow))
          all_goals first
            | (go_ret; exact ⟨true, rfl, .inl ⟨rfl, fun hnr => by have h3 := hnr.size k hlt; rw [HFK.out] at h3; omega⟩, B1.out.trans ((HBW.out.alloc (by omega) _).mono (by omega))⟩)
            | (go_roundw
               case rel => exact ⟨k + 1, _, by go_num, rfl, by omega, HR2.out, HLE.out (by omega), HB2.out⟩
               case measure => simp [intOf]; omega)
            | skip)
      · obtain rfl : k = t.ns.length := by omega
        have HK := Lib.hid HF.out
        clear hrow HF
        go_wp2
        go_loopw [7] (fun i wr => ∃ j : Nat, i = .int .i64 j ∧ j ≤ t.sets.length ∧ (∀ q, q < j → (nthL t.sets q).length ≤ 30) ∧ Below (w.heap.size + 1) W1 wr) (fun i _ => t.sets.length - (intOf i).toNat)
        case atStart => exact ⟨0, rfl, Nat.zero_le _, fun q hq => by omega, HBW.out⟩
        case round =>
          clear r0 r1 r2 hsz
          obtain ⟨j, rfl, hj, hq, hbq⟩ := hrel
          obtain ⟨r0, r1, r2⟩ := T0.out.next (hbq.mono (by omega))
          have hsz := hbq.size
          have HBQ := Lib.hid hbq
          have HQ := Lib.hid hq
          clear hbq hq
          by_cases hjl : j < t.sets.length
          · obtain ⟨gs, x, rfl, x1, x2⟩ := HS.out j hjl
            obtain ⟨xo, xcap, rfl, xm, _⟩ := x2.shape
            have y1 := cell_next x1 (B1.out.trans (HBQ.out.mono (by omega)))
            have hle : ¬ (30 < (nthL t.sets j).length) → ∀ q, q < j + 1 → (nthL t.sets q).length ≤ 30 := fun h q hq => by
              by_cases hqj : q = j
              · subst hqj; omega
              · exact HQ.out q (by omega)
            have HLE := Lib.hid hle
            have HEA := Lib.hid (fun (h : 30 < (nthL t.sets j).length) (hn : Near t) => show False by have := hn.each j hjl; omega)
            clear hle x1 x2
            by_cases h30 : 30 < (nthL t.sets j).length
            all_goals (generalize (nthL t.sets j).length = m at *)
            · have h30' : (30 : Int) < (m : Int) := by omega
              go_wp2
              go_ret
              exact ⟨true, rfl, .inl ⟨rfl, fun hn => HEA.out h30 hn⟩, B1.out.trans (HBQ.out.mono (by omega))⟩
            · have h30' : ¬ (30 : Int) < (m : Int) := by omega
              go_wp2
              go_roundw
              case rel => exact ⟨j + 1, by go_num, by omega, HLE.out h30, HBQ.out⟩
              case measure => simp [intOf]; omega
          · obtain rfl : j = t.sets.length := by omega
            go_wp2
            go_ret
            exact ⟨false, rfl, .inr ⟨rfl, l1, l2, HK.out, HQ.out⟩, B1.out.trans (HBQ.out.mono (by omega))⟩

noncomputable def farB (t : Tr) : Bool := @decide (¬ Near t) (Classical.propDecidable _)
theorem farB_no {t : Tr} (h : Near t) : farB t = false := by unfold farB; rw [@decide_eq_false_iff_not _ (Classical.propDecidable _)]; exact fun h' => h' h
theorem farB_yes {t : Tr} (h : ¬ Near t) : farB t = true := by unfold farB; rw [@decide_eq_true_iff _ (Classical.propDecidable _)]; exact h
theorem far_b (t : Tr) (v : Value) (w : World) (h : TreeAt w v t) :
    Calls Tryz.prog 31 #[v] w fun e w' => e = .returned (.bool (farB t)) ∧ Below w.heap.size w w' := by
  refine (far_any t v w h).mono ?_
  rintro e w' ⟨b, rfl, hb, h2⟩
  rcases hb with ⟨rfl, hn⟩ | ⟨rfl, hn⟩
  · exact ⟨by rw [farB_yes hn], h2⟩
  · exact ⟨by rw [farB_no hn], h2⟩

end Go.Proofs.YtjmdlioakkibcaaGreatDoor.Ar

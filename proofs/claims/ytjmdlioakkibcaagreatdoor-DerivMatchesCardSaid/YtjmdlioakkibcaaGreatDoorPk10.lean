/- Rep, whatever is asked; fewer. A walk in memory: the spots that were met, those that wait, what is left. -/
import Derived.Test.YtjmdlioakkibcaaGreatDoorPk09

namespace Go.Proofs.YtjmdlioakkibcaaGreatDoor.Dv
open Go Go.RowKit Go.Shelf Go.Maps
open Go.Proofs.YtjmdlioakkibcaaGreatDoor.Ar (timesB Nd nd nodeB nodeB_ways NRow cellsN aggN flatN Book WfN Wf NodeAt nodes_of_row node_new)
open Go.Proofs.YtjmdlioakkibcaaGreatDoor.Rg (R RngsAt RowsAt nthL add_zero own_next)

section
variable {w0 w : World} {bb M : Nat} {B : Bk}
theorem not_star {n : Nd} {i s : Int} (h : nodeB n i s = true) (hn : ¬ n = ⟨5, n.a, 0, 0, -1, 0⟩) : n.op ≠ 5 ∨ n.lo ≠ 0 ∨ n.hi ≠ -1 := by
  rcases nodeB_ways h with ⟨h1, h2⟩ | ⟨h1, h2⟩ | ⟨h1, h2⟩ | ⟨h1, h2⟩
  · exact .inl (by omega)
  · exact .inl (by omega)
  · exact .inl (by omega)
  · by_cases a : n.lo = 0
    · by_cases b : n.hi = -1
      · exact absurd ((Ar.Nd.eq_iff n ⟨5, n.a, 0, 0, -1, 0⟩).2 ⟨h1, rfl, h2.2.2.1, a, b, h2.2.2.2⟩) hn
      · exact .inr (.inr b)
    · exact .inr (.inl a)
theorem rep_any (h : BookAt w0 bb M B w) (g : Good B) {x : Nat} (hx : x < B.parts.length) {lo hi : Int} (ht : timesB lo hi = true) :
    Calls Tryz.prog 99 #[.pointer (some ⟨bb, 0, none⟩), .int .i64 (x : Nat), .int .i64 lo, .int .i64 hi] w (OpAt w0 bb M w (repF B x lo hi)) := by
  have hnode := g.node x hx
  unfold repF
  cases hb : bareAt B x
  · rw [if_neg (by simp)]
    unfold repG
    rw [hb]
    by_cases e : hi = 0
    · rw [if_pos (.inl e)]; exact rep_hi0F h g hx hb e
    · by_cases e0 : x = 0
      · by_cases el : lo = 0
        · rw [if_pos (.inr ⟨e0, el⟩)]; exact rep_00F h g hx hb e e0 el
        · rw [if_neg (by omega), if_pos (.inl e0)]; exact rep_0F h g hx hb e e0 el
      · rw [if_neg (by omega)]
        by_cases e1 : x = 1
        · rw [if_pos (.inr e1)]; exact rep_1F h g hx hb e e1
        · rw [if_neg (by omega)]
          by_cases eh : hi = 1
          · by_cases el : lo = 1
            · rw [if_pos ⟨eh, .inl el⟩]; exact rep_h1F h g hx hb eh e0 e1 el
            · rw [if_neg (by simp [el])]
              by_cases hst : nd B.parts x = ⟨5, (nd B.parts x).a, 0, 0, -1, 0⟩
              · rw [if_pos hst]; exact rep_starG h g hx hb e e0 e1 eh el hst
              · rw [if_neg hst]; exact rep_numG h g hx ht hb e e0 e1 eh el (not_star hnode hst)
          · rw [if_neg (by omega)]
            by_cases hst : nd B.parts x = ⟨5, (nd B.parts x).a, 0, 0, -1, 0⟩
            · rw [if_pos hst]; exact rep_starF h g hx hb e e0 e1 eh hst
            · rw [if_neg hst]; exact rep_numF h g hx ht hb e e0 e1 eh (not_star hnode hst)
  · have e0 : x ≠ 0 := by
      rintro rfl
      have := (g.bare 0 hx).1 hb
      rw [g.den0] at this
      exact this
    rw [if_pos rfl]
    unfold repG
    rw [hb]
    by_cases e : hi = 0
    · rw [if_pos (.inl e)]; exact rep_hi0T h g hx hb e
    · rw [if_neg (by omega)]
      by_cases e1 : x = 1
      · rw [if_pos (.inr e1)]; exact rep_1T h g hx hb e e1
      · rw [if_neg (by omega)]
        by_cases eh : hi = 1
        · rw [if_pos ⟨eh, .inr rfl⟩]; exact rep_h1T h g hx hb eh e0 e1
        · rw [if_neg (by omega)]
          by_cases hst : nd B.parts x = ⟨5, (nd B.parts x).a, 0, 0, -1, 0⟩
          · rw [if_pos hst]; exact rep_starT h g hx hb e e0 e1 eh hst
          · rw [if_neg hst]; exact rep_numT h g hx ht hb e e0 e1 eh (not_star hnode hst)

set_option maxRecDepth 100000 in
set_option maxHeartbeats 4000000 in
theorem fewer_any (h : BookAt w0 bb M B w) (g : Good B) {n : Nd} (ha : 0 ≤ n.a) (hx : n.a.toNat < B.parts.length) (ht : timesB n.lo n.hi = true) (h0 : n.hi ≠ 0) :
    Calls Tryz.prog 81 #[.pointer (some ⟨bb, 0, none⟩), aggN n] w (OpAt w0 bb M w (fewerF B n)) := by
  have BW := Lib.hid (fun o => (Below.refl w.heap.size w).alloc (Nat.le_refl _) o)
  have HBB := Lib.hid (BookAt.lt h)
  have cr := fun (W : World) (hW : Below w.heap.size w W) => rep_any (show BookAt w0 bb M B W from by obtain ⟨_, _, _, _, hh⟩ := h; exact ⟨_, _, _, _, hh.next hW⟩) g hx (fewer_times ht h0)
  have hs := g.small
  rw [times_iff] at ht
  unfold fewerF
  obtain ⟨op, a, b, lo, hi, set⟩ := n
  dsimp only at *
  obtain ⟨x, rfl⟩ := Int.eq_ofNat_of_zero_le ha
  rw [Int.toNat_natCast] at *
  have NU := Lib.hid (fun W e w1 (hW : Below w.heap.size w W) (h : e = .returned (.int .i64 ((repF B x (max (lo - 1) 0) (max (hi - 1) (-1))).2 : Nat)) ∧ BookAt w0 bb M (repF B x (max (lo - 1) 0) (max (hi - 1) (-1))).1 w1 ∧ Fz bb M W w1) => show OpAt w0 bb M w (repF B x (max (lo - 1) 0) (max (hi - 1) (-1))) e w1 from ⟨h.1, h.2.1, (Fz.of_below hW HBB.out).trans h.2.2⟩)
  have CR := Lib.hid cr
  unfold OpAt at CR NU
  generalize hR : repF B x (max (lo - 1) 0) (max (hi - 1) (-1)) = R at *
  unfold OpAt
  obtain ⟨L, hL⟩ : ∃ L, L = max (lo - 1) 0 := ⟨_, rfl⟩
  obtain ⟨H, hH⟩ : ∃ H, H = max (hi - 1) (-1) := ⟨_, rfl⟩
  rw [← hL, ← hH] at CR
  clear cr hR h g ha h0
  unfold aggN
  rcases (show lo = 0 ∨ 1 ≤ lo by omega) with rfl | l1
  · obtain rfl : L = 0 := by omega
    clear hL
    rcases (show hi = -1 ∨ 0 ≤ hi by omega) with rfl | k1
    · obtain rfl : H = -1 := by omega
      clear hH ht
      go_enter Tryz.func81, Tryz.ntmps81
      go_wp2_with (go_at_call 99; (with_reducible refine (CR.out _ (BW.out _)).mono ?_); rintro e w1 ⟨rfl, h1⟩; go_must (have H1 := Lib.hid h1; clear h1))
      go_ret
      exact NU.out _ _ _ (BW.out _) ⟨rfl, H1.out⟩
    · obtain rfl : H = hi - 1 := by omega
      have q : ¬ (hi - 1 < -1) := by omega
      have q2 : hi ≤ 255 := by omega
      clear hH ht
      go_enter Tryz.func81, Tryz.ntmps81
      go_wp2_with (go_at_call 99; (with_reducible refine (CR.out _ (BW.out _)).mono ?_); rintro e w1 ⟨rfl, h1⟩; go_must (have H1 := Lib.hid h1; clear h1))
      go_ret
      exact NU.out _ _ _ (BW.out _) ⟨rfl, H1.out⟩
  · obtain rfl : L = lo - 1 := by omega
    have r : ¬ (lo - 1 < 0) := by omega
    have r2 : lo ≤ 255 := by omega
    clear hL
    rcases (show hi = -1 ∨ 0 ≤ hi by omega) with rfl | k1
    · obtain rfl : H = -1 := by omega
      clear hH ht
      go_enter Tryz.func81, Tryz.ntmps81
      go_wp2_with (go_at_call 99; (with_reducible refine (CR.out _ (BW.out _)).mono ?_); rintro e w1 ⟨rfl, h1⟩; go_must (have H1 := Lib.hid h1; clear h1))
      go_ret
      exact NU.out _ _ _ (BW.out _) ⟨rfl, H1.out⟩
    · obtain rfl : H = hi - 1 := by omega
      have q : ¬ (hi - 1 < -1) := by omega
      have q2 : hi ≤ 255 := by omega
      clear hH ht
      go_enter Tryz.func81, Tryz.ntmps81
      go_wp2_with (go_at_call 99; (with_reducible refine (CR.out _ (BW.out _)).mono ?_); rintro e w1 ⟨rfl, h1⟩; go_must (have H1 := Lib.hid h1; clear h1))
      go_ret
      exact NU.out _ _ _ (BW.out _) ⟨rfl, H1.out⟩
end

end Go.Proofs.YtjmdlioakkibcaaGreatDoor.Dv

namespace Go.Proofs.YtjmdlioakkibcaaGreatDoor.Dv
open Go Go.RowKit Go.Shelf Go.Maps
open Go.Proofs.YtjmdlioakkibcaaGreatDoor.Ar (Nd nd nodeB NRow cellsN aggN flatN Book WfN Wf)
open Go.Proofs.YtjmdlioakkibcaaGreatDoor.Rg (R RngsAt RowsAt nthL add_zero own_next)

theorem lawS : Keyed Tryz.prog 100 := Keyed.of_law (deep_law_laid laidOut (m := 2) (by omega) (of_decide_eq_true (by kernel_rfl)) (by kernel_rfl) (by rw [Tryz.underlying100]))
theorem ktS : Tryz.prog.keyType 100 = true := by kernel_rfl
theorem kcS : Tryz.prog.cellsOf 100 = 2 := by kernel_rfl
abbrev Sp := Nat × Nat
def aggS (s : Sp) : Value := .agg #[.int .i64 (s.1 : Nat), .int .i64 (s.2 : Nat)]
def cellsS (s : Sp) : List Value := [.int .i64 (s.1 : Nat), .int .i64 (s.2 : Nat)]
def flatS (l : List Sp) : List Value := l.flatMap cellsS
theorem flatS_snoc (l : List Sp) (s : Sp) : flatS (l ++ [s]) = flatS l ++ cellsS s := by simp [flatS]
theorem flatS_len : ∀ l : List Sp, (flatS l).length = l.length * 2
  | [] => rfl
  | p :: r => by
    have := flatS_len r
    simp only [flatS, List.flatMap_cons, List.length_append, List.length_cons, List.length_nil, cellsS] at this ⊢
    omega
theorem flatS_at : ∀ (l : List Sp) (i : Nat), i < l.length → (flatS l)[i * 2]? = some (.int .i64 ((l.getD i (0, 0)).1 : Nat)) ∧ (flatS l)[i * 2 + 1]? = some (.int .i64 ((l.getD i (0, 0)).2 : Nat))
  | [], i, h => by simp at h
  | p :: r, 0, h => by simp [flatS, cellsS]
  | p :: r, i + 1, h => by
    have := flatS_at r i (by simpa using h)
    rw [show (i + 1) * 2 = (i * 2) + 1 + 1 by omega]
    simpa [flatS, cellsS] using this
/-- numbers of parts -/
structure WfS (s : Sp) : Prop where
  fst : s.1 < 1000000
  snd : s.2 < 1000000
def ks (s : Sp) : Lit := .string (keyBytes [.int .i64 (s.1 : Nat), .int .i64 (s.2 : Nat)])
theorem key_mkS {s : Sp} (h : WfS s) : keyOf Tryz.prog 100 (aggS s) = some (ks s) := by
  have h1 : (aggS s).formed Tryz.prog 100 = true := by simp [aggS, Value.formed, Tryz.underlying100, kcS]
  obtain ⟨m, hm⟩ := Ar.ktypesN
  have h0 : Wf (s.1 : Nat) := WalkArith.wf_i64 (by have := h.fst; omega)
  have h3 : Wf (s.2 : Nat) := WalkArith.wf_i64 (by have := h.snd; omega)
  have h2 : Tryz.prog.keyLits (m + 1 + 1) 100 (cellsS s) = some [.int .i64 (s.1 : Nat), .int .i64 (s.2 : Nat)] := by
    simp [Program.keyLits, Tryz.underlying100, Tryz.underlying3, Ar.kcI, kcS, cellsS, h0, h3]
  unfold keyOf
  rw [Tryz.underlying100]
  simp only [ktS, hm, h1, Bool.and_self, if_true]
  show Option.map _ (Tryz.prog.keyLits (m + 1 + 1) 100 (cellsS s)) = _
  rw [h2]; rfl
theorem ks_inj {a b : Sp} (ha : WfS a) (hb : WfS b) (h : ks a = ks b) : a = b := by
  have h1 := lawS.inj (key_mkS ha) (h ▸ key_mkS hb)
  simp only [aggS, Value.agg.injEq] at h1
  obtain ⟨a1, a2⟩ := a
  obtain ⟨b1, b2⟩ := b
  simp at h1
  simp only [Prod.mk.injEq]
  omega

/-- a set in which these spots are -/
structure Spots (Mw : Nat) (l : List Sp) (w : World) : Prop where
  wf : ∀ s, s ∈ l → WfS s
  map : ∃ D : DataW Unit, w.ownsMap Tryz.prog 100 (unitElem (H := Unit)) Mw l.length D ∧ (∀ s, WfS s → (Maps.has D (ks s) = true ↔ s ∈ l)) ∧ Maps.size D = l.length
theorem spots_new (w : World) : Spots w.heap.size [] (w.alloc (.map #[] 0)) :=
  ⟨fun s h => (by cases h), .map [], World.ownsMap_made _ _ _ _, fun s _ => by simp [Maps.has], rfl⟩
theorem Spots.lt {Mw : Nat} {l : List Sp} {w : World} (h : Spots Mw l w) : Mw < w.heap.size := by
  obtain ⟨D, h1, _⟩ := h.map
  exact h1.lt
theorem Spots.kg {Mw : Nat} {l : List Sp} {w w' : World} {N0 : Nat} {U : Nat → Prop} {T : TypeId → Prop} (h : Spots Mw l w) (k : Kg N0 U T w w') (hU : ¬ U Mw) : Spots Mw l w' := by
  obtain ⟨D, h1, h2⟩ := h.map
  exact ⟨h.wf, D, k.map h1 hU, h2⟩
theorem spots_put {Mw : Nat} {l : List Sp} {w3 : World} {D : DataW Unit} {s : Sp} (hwf : ∀ s, s ∈ l → WfS s) (hs : WfS s) (hT : Tidy D) (hh : Maps.has D (ks s) = false)
    (hhas : ∀ s, WfS s → (Maps.has D (ks s) = true ↔ s ∈ l)) (hsize : Maps.size D = l.length)
    (hown : w3.ownsMap Tryz.prog 100 (unitElem (H := Unit)) Mw (l.length + 1) (D.put (ks s) (.agg []))) : Spots Mw (l ++ [s]) w3 := by
  have hK : WideAt.IsKeyLit (ks s) := lawS.key (key_mkS hs)
  refine ⟨fun a ha => ?_, _, by rw [List.length_append]; exact hown, fun a ha => ?_, by rw [size_put hT, hh, hsize]; simp⟩
  · rcases List.mem_append.1 ha with h | h
    · exact hwf a h
    · simp at h; subst h; exact hs
  · by_cases e : a = s
    · subst e
      rw [has_put_same hT.isMap hK]; simp
    · rw [has_put_other (fun h => e (ks_inj ha hs h)), hhas a ha]; simp [e]
theorem look_spot {Mw : Nat} {l : List Sp} {w : World} (h : Spots Mw l w) {s : Sp} (hs : WfS s) :
    (Instr.lookup 94 (.map (some Mw)) (aggS s) true).run Tryz.prog w = .ok (.tuple #[.agg #[], .bool (decide (s ∈ l))]) w := by
  obtain ⟨D, hown, hhas, hsize⟩ := h.map
  obtain ⟨v, ps, h1, h2⟩ := hown.look_ok lawS Tryz.underlying94 (show (zeroValue 115).run Tryz.prog w = .ok (.agg #[]) w by kernel_rfl) (zd := .agg []) (zp := []) unitElem_mk (key_mkS hs)
  obtain ⟨rfl, _⟩ := unitElem_inv h2
  rw [h1]
  have : Maps.has D (ks s) = decide (s ∈ l) := by rw [Bool.eq_iff_iff, hhas s hs]; simp
  rw [this]

/-- a walk: its box, its book, its spots, what is left -/
structure WkAt (w0 : World) (bb M wb Mw : Nat) (c : Int) (W : Wk) (wv lv : Value) (w : World) : Prop where
  book : BookAt w0 bb M W.b w
  base : w0.heap.size ≤ wb
  baseM : w0.heap.size ≤ Mw
  ne : Mw ≠ M
  box : w.heap[wb]? = some (.cells #[.pointer (some ⟨bb, 0, none⟩), .int .i64 c, .map (some Mw), wv, lv] 97 (0, 0))
  wait : w.ownsRow w0.heap.size 100 2 wv W.wait.length (flatS W.wait)
  left : w.ownsRow w0.heap.size 3 1 lv W.left.length ((castL W.left).map (Value.int .i64))
  met : Spots Mw W.met w
def WAt (w0 : World) (bb M wb Mw : Nat) (c : Int) (W : Wk) (w : World) : Prop := ∃ wv lv, WkAt w0 bb M wb Mw c W wv lv w
def Um (bb wb Mw : Nat) : Nat → Prop := fun k => k = bb ∨ k = wb ∨ k = Mw
abbrev Km (w0 : World) (bb wb Mw : Nat) (w w' : World) : Prop := Kg w0.heap.size (Um bb wb Mw) (fun t => t = 100) w w'
def Uw (bb M wb Mw : Nat) : Nat → Prop := fun k => k = bb ∨ k = M ∨ k = wb ∨ k = Mw
def Tw (t : TypeId) : Prop := Tb t ∨ t = 100 ∨ t = 3
abbrev Kw (w0 : World) (bb M wb Mw : Nat) (w w' : World) : Prop := Kg w0.heap.size (Uw bb M wb Mw) Tw w w'
section
variable {w0 w w' : World} {bb M wb Mw : Nat} {c : Int} {W : Wk} {wv lv : Value}
theorem Km.kw (h : Km w0 bb wb Mw w w') : Kw w0 bb M wb Mw w w' := h.mono (fun _ _ h => h.elim .inl (fun h => h.elim (fun h => .inr (.inr (.inl h))) (fun h => .inr (.inr (.inr h))))) (fun _ h => .inr (.inl h))
theorem Kb.kw (h : Kb w0 bb M w w') : Kw w0 bb M wb Mw w w' := h.mono (fun _ _ h => h.elim .inl (fun h => .inr (.inl h))) (fun _ h => .inl h)
theorem WkAt.lt (h : WkAt w0 bb M wb Mw c W wv lv w) : wb < w.heap.size := (Array.getElem?_eq_some_iff.1 h.box).1
theorem WkAt.cell0 (h : WkAt w0 bb M wb Mw c W wv lv w) : w.cell? ⟨wb, 0, none⟩ = some (.pointer (some ⟨bb, 0, none⟩)) := by simp [World.cell?, h.box]
theorem WkAt.cell1 (h : WkAt w0 bb M wb Mw c W wv lv w) : w.cell? ⟨wb, 1, none⟩ = some (.int .i64 c) := by simp [World.cell?, h.box]
theorem WkAt.cell2 (h : WkAt w0 bb M wb Mw c W wv lv w) : w.cell? ⟨wb, 2, none⟩ = some (.map (some Mw)) := by simp [World.cell?, h.box]
theorem WkAt.cell3 (h : WkAt w0 bb M wb Mw c W wv lv w) : w.cell? ⟨wb, 3, none⟩ = some wv := by simp [World.cell?, h.box]
theorem WkAt.cell4 (h : WkAt w0 bb M wb Mw c W wv lv w) : w.cell? ⟨wb, 4, none⟩ = some lv := by simp [World.cell?, h.box]
theorem BookAt.next (h : BookAt w0 bb M W.b w) (hb : Below w.heap.size w w') : BookAt w0 bb M W.b w' := by
  obtain ⟨_, _, _, _, h⟩ := h
  exact ⟨_, _, _, _, h.next hb⟩
theorem WkAt.next (h : WkAt w0 bb M wb Mw c W wv lv w) (hb : Below w.heap.size w w') : WkAt w0 bb M wb Mw c W wv lv w' :=
  ⟨h.book.next hb, h.base, h.baseM, h.ne, (hb.block _ h.lt).trans h.box, own_next h.wait hb, own_next h.left hb, h.met.kg (Kg.of_below hb : Kg 0 (fun _ => False) (fun _ => False) w w') id⟩
theorem WkAt.bne (h : WkAt w0 bb M wb Mw c W wv lv w) : wb ≠ bb := by
  obtain ⟨_, _, _, _, hb⟩ := h.book
  rintro rfl
  have := h.box
  rw [hb.box] at this
  simp at this
theorem WkAt.bneM (h : WkAt w0 bb M wb Mw c W wv lv w) : wb ≠ M := by
  obtain ⟨_, _, _, _, hb⟩ := h.book
  obtain ⟨D, h1, _⟩ := hb.map.map
  obtain ⟨es, clock, hh, _⟩ := h1
  rintro rfl
  rw [h.box] at hh; cases hh
theorem WkAt.bneMw (h : WkAt w0 bb M wb Mw c W wv lv w) : wb ≠ Mw := by
  obtain ⟨D, h1, _⟩ := h.met.map
  obtain ⟨es, clock, hh, _⟩ := h1
  rintro rfl
  rw [h.box] at hh; cases hh
theorem WkAt.bbMw (h : WkAt w0 bb M wb Mw c W wv lv w) : bb ≠ Mw := by
  obtain ⟨_, _, _, _, hb⟩ := h.book
  obtain ⟨D, h1, _⟩ := h.met.map
  obtain ⟨es, clock, hh, _⟩ := h1
  rintro rfl
  rw [hb.box] at hh; cases hh
theorem WkAt.ne_row (h : WkAt w0 bb M wb Mw c W wv lv w) {e : TypeId} {s n N : Nat} {v : Value} {ys : List Value} (hr : w.ownsRow N e s v n ys) (he : e ≠ 97) : v.ownBlock ≠ some wb := fun hg => by
  obtain ⟨_, cs, hh⟩ := row_block hr hg
  rw [h.box] at hh
  simp only [Option.some.injEq, Obj.cells.injEq] at hh
  exact he hh.2.1.symm
theorem WkAt.since (h : WkAt w0 bb M wb Mw c W wv lv w) : Below w0.heap.size w0 w := by
  obtain ⟨_, _, _, _, hb⟩ := h.book
  exact hb.below
/-- what is done to the book keeps the rest of a walk -/
theorem WkAt.kb (h : WkAt w0 bb M wb Mw c W wv lv w) {B : Bk} (hb : BookAt w0 bb M B w') (k : Kb w0 bb M w w') : WkAt w0 bb M wb Mw c { W with b := B } wv lv w' :=
  ⟨hb, h.base, h.baseM, h.ne, k.heap h.box (fun e => e.elim h.bne h.bneM) (fun cs t fz e => by cases e; rintro (h | h | h) <;> exact absurd h (by decide)),
    k.own h.wait (by rintro (h | h | h) <;> exact absurd h (by decide)) (fun g hg e => by
      obtain ⟨_, _, _, _, hb0⟩ := h.book
      obtain ⟨D, h1, _⟩ := hb0.map.map
      exact e.elim (fun e => hb0.ne_row h.wait (by decide) (e ▸ hg)) (fun e => map_ne_row h1 h.wait (e ▸ hg))),
    k.own h.left (by rintro (h | h | h) <;> exact absurd h (by decide)) (fun g hg e => by
      obtain ⟨_, _, _, _, hb0⟩ := h.book
      obtain ⟨D, h1, _⟩ := hb0.map.map
      exact e.elim (fun e => hb0.ne_row h.left (by decide) (e ▸ hg)) (fun e => map_ne_row h1 h.left (e ▸ hg))),
    h.met.kg k (fun e => e.elim (fun e => h.bbMw e.symm) h.ne)⟩
end

end Go.Proofs.YtjmdlioakkibcaaGreatDoor.Dv

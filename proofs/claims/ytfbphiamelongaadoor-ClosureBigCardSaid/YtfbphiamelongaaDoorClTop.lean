/- Start, Step, Best. -/
import Derived.Test.YtfbphiamelongaaDoorClBest
import Derived.Test.YtfbphiamelongaaDoorClRight
namespace Go.Proofs.YtfbphiamelongaaDoor.Cl
open Go Go.RowKit Go.Shelf
open Go.Proofs.YtfbphiamelongaaDoor.Bt (SetAt setV memL hasI iV own_slice grown_trans grown_cell grown_row two_stores Tab nums mem_nums nums_rise nums_nat)

/-- two results, the first one out of a box -/
theorem results_row_tmp {P : Program} {fn : Func} {p u : Tmp} {ty : TypeId} (h : fn.results = #[.cell p ty, .tmp u]) (tmps : Array Value) (w : World) (g : Nat) (t : TypeId) (cs : Array Value) (fr : Nat × Nat) (d : TypeDesc)
    (hp : tmps.getD p undef = .pointer (some ⟨g, 0, none⟩)) (hg : w.heap[g]? = some (.cells cs t fr))
    (hu : P.underlying ty = some d) (hd : (match d with | .struct _ | .array _ _ => true | _ => false) = true) (hi : (P.info? ty).map (·.size) = some cs.size) :
    (results fn tmps).run P w = .ok (.tuple #[.agg cs, tmps.getD u undef]) w := by
  have hp' : tmps[p]?.getD undef = .pointer (some ⟨g, 0, none⟩) := by simpa using hp
  rw [results_cell_tmp h]
  simp [hp', asAddr, run_loadVar_row w g t ty cs fr d hg hu hd hi, Result.andThen]

theorem fault_zero {a : Int} {l : List St} : faultE a l = 0 ↔ l.length ≤ 4096 ∧ rightB a l = true := by
  unfold faultE
  split
  · constructor
    · intro h; cases h
    · intro h; omega
  · split <;> rename_i h1 <;> simp [h1] <;> omega

/-- nothing is told beside a fault -/
def NoSet (w : World) (f : Int) (e : Ending) (w' : World) : Prop := e = .returned (.tuple #[setV 0 (.slice none 0 0), .int .i64 f]) ∧ Below w.heap.size w w'
/-- a set is told -/
def YesSet (w : World) (n : Nat) (P : Nat → Prop) (e : Ending) (w' : World) : Prop := ∃ v, e = .returned (.tuple #[setV n v, .int .i64 0]) ∧ SetOut w n P v w'

set_option maxRecDepth 100000 in
set_option maxHeartbeats 2000000 in
theorem Start_no (a : Int) (l : List St) (v : Value) (w : World) (h : NfaAt w v a l) (hf : faultE a l ≠ 0) :
    Calls Tryd.prog 11 #[v] w fun e w' => NoSet w (faultE a l) e w' := by
  have FT := Lib.hid (fun W (hW : Below w.heap.size w W) => fault_any a l v W (h.next hW))
  obtain ⟨sv, rfl, hs⟩ := h
  obtain ⟨ao, cap, rfl, _, _⟩ := hs.shape
  have d0 : (faultE a l != 0) = true := by simpa using hf
  have b1 := (Below.refl w.heap.size w).alloc (Nat.le_refl _) (.cells #[.int .i64 a, .slice ao l.length cap] 24)
  have b2 := b1.alloc b1.size (.cells #[.int .i64 0, .slice none 0 0] 30)
  have x2 := at_new (w.alloc (.cells #[.int .i64 a, .slice ao l.length cap] 24)) (.cells #[.int .i64 0, .slice none 0 0] 30)
  simp only [World.size_alloc] at x2
  have B2 := Lib.hid b2
  have X2 := Lib.hid x2
  have X1 := Lib.hid (at_next (at_new w (.cells #[.int .i64 a, .slice ao l.length cap] 24)) ((Below.refl _ _).alloc (Nat.le_refl _) (.cells #[.int .i64 0, .slice none 0 0] 30)))
  clear hs b1 b2 x2 hf
  generalize faultE a l = F at *
  unfold nfaV at *
  go_enter Tryd.func11, Tryd.ntmps11
  go_wp2_with (go_at_call 30; (with_reducible refine (FT.out _ B2.out).mono ?_); rintro e w2 ⟨rfl, h1⟩; go_must (have y2 := at_next X2.out h1; have e0 := at_cell y2 0; have e1 := at_cell y2 1; have f0 := at_froz y2 0; have f1 := at_froz y2 1; have hl := cell_lt e0; have Z := Lib.hid (And.intro h1 (And.intro y2 (two_stores (x := .int .i64 0) (y := .slice none 0 0) y2))); clear h1 y2))
  have hb := B2.out.trans (Z.out.1.mono B2.out.size)
  refine bodyPost_ret (results_row_tmp rfl _ _ (w.heap.size + 1) 30 #[.int .i64 0, .slice none 0 0] (0, 0) _ rfl Z.out.2.2.1 Tryd.underlying30 rfl (by kernel_rfl)) rfl ?_
  exact ⟨rfl, hb.grown Z.out.2.2.2 hb.size (fun j e => by cases e; omega)⟩

set_option maxRecDepth 100000 in
set_option maxHeartbeats 2000000 in
theorem Start_yes (a : Int) (l : List St) (v : Value) (w : World) (h : NfaAt w v a l) (hf : faultE a l = 0) :
    Calls Tryd.prog 11 #[v] w fun e w' => YesSet w l.length (startP a l) e w' := by
  have FT := Lib.hid (fun W (hW : Below w.heap.size w W) => fault_any a l v W (h.next hW))
  have hn := (fault_zero.1 hf).1
  obtain ⟨sv, rfl, hs⟩ := h
  have ST := Lib.hid (fun W (hW : Below w.heap.size w W) => start_any a l sv hn W (hs.next hW))
  obtain ⟨ao, cap, rfl, _, _⟩ := hs.shape
  have b1 := (Below.refl w.heap.size w).alloc (Nat.le_refl _) (.cells #[.int .i64 a, .slice ao l.length cap] 24)
  have b2 := b1.alloc b1.size (.cells #[.int .i64 0, .slice none 0 0] 30)
  have x2 := at_new (w.alloc (.cells #[.int .i64 a, .slice ao l.length cap] 24)) (.cells #[.int .i64 0, .slice none 0 0] 30)
  simp only [World.size_alloc] at x2
  have B2 := Lib.hid b2
  have X2 := Lib.hid x2
  have X1 := Lib.hid (at_next (at_new w (.cells #[.int .i64 a, .slice ao l.length cap] 24)) ((Below.refl _ _).alloc (Nat.le_refl _) (.cells #[.int .i64 0, .slice none 0 0] 30)))
  clear hs b1 b2 x2
  generalize startP a l = P at *
  rw [hf] at FT
  clear hf
  unfold nfaV at *
  go_enter Tryd.func11, Tryd.ntmps11
  go_wp2_with (first
    | (go_at_call 30; (with_reducible refine (FT.out _ B2.out).mono ?_); rintro e w2 ⟨rfl, h1⟩; go_must (have g0 := at_cell (at_next X1.out h1) 0; have g1 := at_cell (at_next X1.out h1) 1; have hg := cell_lt g0; have B3 := Lib.hid (B2.out.trans (h1.mono B2.out.size)); have Y2 := Lib.hid (at_next X2.out h1); clear h1))
    | (go_at_call 36; (with_reducible refine (ST.out w2 B3.out).mono ?_); rintro e w3 ⟨v, rfl, L, hs, hL, hb⟩; obtain ⟨vo, vn, vc, rfl⟩ := hs.val; unfold setV; go_must (have y2 := at_next Y2.out hb; have e0 := at_cell y2 0; have e1 := at_cell y2 1; have f0 := at_froz y2 0; have f1 := at_froz y2 1; have hl := cell_lt e0; have Z := Lib.hid (And.intro hs (And.intro hL (And.intro hb (And.intro y2 (two_stores (x := .int .i64 (l.length : Nat)) (y := .slice vo vn vc) y2))))); clear hs hL hb y2))
    | fail)
  obtain ⟨hs, hL, hb, y2, m1, m2⟩ := Z.out
  have hsz := B3.out.size
  have hb3 := B3.out.trans (hb.mono hsz)
  refine bodyPost_ret (results_row_tmp rfl _ _ (w.heap.size + 1) 30 #[.int .i64 (l.length : Nat), .slice vo vn vc] (0, 0) _ rfl m1 Tryd.underlying30 rfl (by kernel_rfl)) rfl ?_
  exact ⟨_, rfl, L, (hs.kept m2 (ne_row hs.row y2 (by decide))).base hsz, hL, hb3.grown m2 hb3.size (fun j e => by cases e; omega)⟩

set_option maxRecDepth 100000 in
set_option maxHeartbeats 2000000 in
theorem Step_no (a : Int) (l : List St) (v : Value) (B0 room : Nat) (v0 : Value) (L0 : List Nat) (c : Int) (w : World) (h : NfaAt w v a l) (hset : SetAt w B0 room v0 L0) (hf : faultE a l ≠ 0) :
    Calls Tryd.prog 10 #[v, setV room v0, .int .u8 c] w fun e w' => NoSet w (faultE a l) e w' := by
  have FT := Lib.hid (fun W (hW : Below w.heap.size w W) => fault_any a l v W (h.next hW))
  obtain ⟨sv, rfl, hs⟩ := h
  obtain ⟨ao, cap, rfl, _, _⟩ := hs.shape
  obtain ⟨so, sn, sc, rfl⟩ := hset.val
  have d0 : (faultE a l != 0) = true := by simpa using hf
  have b1 := (Below.refl w.heap.size w).alloc (Nat.le_refl _) (.cells #[.int .i64 a, .slice ao l.length cap] 24)
  have b2 := b1.alloc b1.size (.cells #[.int .i64 (room : Nat), .slice so sn sc] 30)
  have b3 := b2.alloc b2.size (.cells #[.int .i64 0, .slice none 0 0] 30)
  have x2 := at_new ((w.alloc (.cells #[.int .i64 a, .slice ao l.length cap] 24)).alloc (.cells #[.int .i64 (room : Nat), .slice so sn sc] 30)) (.cells #[.int .i64 0, .slice none 0 0] 30)
  simp only [World.size_alloc] at x2
  have B2 := Lib.hid b3
  have X2 := Lib.hid x2
  have X1 := Lib.hid (at_next (at_new w (.cells #[.int .i64 a, .slice ao l.length cap] 24)) (((Below.refl _ _).alloc (Nat.le_refl _) (.cells #[.int .i64 (room : Nat), .slice so sn sc] 30)).alloc ((Below.refl _ _).alloc (Nat.le_refl _) (.cells #[.int .i64 (room : Nat), .slice so sn sc] 30)).size (.cells #[.int .i64 0, .slice none 0 0] 30)))
  have X3 := Lib.hid (at_next (at_new (w.alloc (.cells #[.int .i64 a, .slice ao l.length cap] 24)) (.cells #[.int .i64 (room : Nat), .slice so sn sc] 30)) ((Below.refl _ _).alloc (Nat.le_refl _) (.cells #[.int .i64 0, .slice none 0 0] 30)))
  simp only [World.size_alloc] at X3
  clear hs b1 b2 b3 x2 hf hset
  generalize faultE a l = F at *
  unfold nfaV setV at *
  go_enter Tryd.func10, Tryd.ntmps10
  go_wp2_with (go_at_call 30; (with_reducible refine (FT.out _ B2.out).mono ?_); rintro e w2 ⟨rfl, h1⟩; go_must (have y2 := at_next X2.out h1; have e0 := at_cell y2 0; have e1 := at_cell y2 1; have f0 := at_froz y2 0; have f1 := at_froz y2 1; have hl := cell_lt e0; have Z := Lib.hid (And.intro h1 (And.intro y2 (two_stores (x := .int .i64 0) (y := .slice none 0 0) y2))); clear h1 y2))
  have hb := B2.out.trans (Z.out.1.mono B2.out.size)
  refine bodyPost_ret (results_row_tmp rfl _ _ (w.heap.size + 1 + 1) 30 #[.int .i64 0, .slice none 0 0] (0, 0) _ rfl Z.out.2.2.1 Tryd.underlying30 rfl (by kernel_rfl)) rfl ?_
  exact ⟨rfl, hb.grown Z.out.2.2.2 hb.size (fun j e => by cases e; omega)⟩

set_option maxRecDepth 100000 in
set_option maxHeartbeats 2000000 in
theorem Step_yes (a : Int) (l : List St) (v : Value) (B0 room : Nat) (v0 : Value) (L0 : List Nat) (c : Int) (hc0 : 0 ≤ c) (hc1 : c ≤ 255) (w : World) (h : NfaAt w v a l) (hT : Tab w) (hset : SetAt w B0 room v0 L0) (hf : faultE a l = 0) :
    Calls Tryd.prog 10 #[v, setV room v0, .int .u8 c] w fun e w' => YesSet w l.length (stepP l (fun i => memL L0 i = true) c) e w' := by
  have FT := Lib.hid (fun W (hW : Below w.heap.size w W) => fault_any a l v W (h.next hW))
  have hn := (fault_zero.1 hf).1
  obtain ⟨sv, rfl, hs⟩ := h
  have ST := Lib.hid (fun W (hW : Below w.heap.size w W) => step_any a l sv hn B0 room v0 L0 c hc0 hc1 W (hT.next hW) (hs.next hW) (hset.next hW))
  obtain ⟨ao, cap, rfl, _, _⟩ := hs.shape
  obtain ⟨so, sn, sc, rfl⟩ := hset.val
  have b1 := (Below.refl w.heap.size w).alloc (Nat.le_refl _) (.cells #[.int .i64 a, .slice ao l.length cap] 24)
  have b2 := b1.alloc b1.size (.cells #[.int .i64 (room : Nat), .slice so sn sc] 30)
  have b3 := b2.alloc b2.size (.cells #[.int .i64 0, .slice none 0 0] 30)
  have x2 := at_new ((w.alloc (.cells #[.int .i64 a, .slice ao l.length cap] 24)).alloc (.cells #[.int .i64 (room : Nat), .slice so sn sc] 30)) (.cells #[.int .i64 0, .slice none 0 0] 30)
  simp only [World.size_alloc] at x2
  have B2 := Lib.hid b3
  have X2 := Lib.hid x2
  have X1 := Lib.hid (at_next (at_new w (.cells #[.int .i64 a, .slice ao l.length cap] 24)) (((Below.refl _ _).alloc (Nat.le_refl _) (.cells #[.int .i64 (room : Nat), .slice so sn sc] 30)).alloc ((Below.refl _ _).alloc (Nat.le_refl _) (.cells #[.int .i64 (room : Nat), .slice so sn sc] 30)).size (.cells #[.int .i64 0, .slice none 0 0] 30)))
  have X3 := Lib.hid (at_next (at_new (w.alloc (.cells #[.int .i64 a, .slice ao l.length cap] 24)) (.cells #[.int .i64 (room : Nat), .slice so sn sc] 30)) ((Below.refl _ _).alloc (Nat.le_refl _) (.cells #[.int .i64 0, .slice none 0 0] 30)))
  simp only [World.size_alloc] at X3
  clear hs b1 b2 b3 x2 hset hT
  generalize stepP l (fun i => memL L0 i = true) c = P at *
  rw [hf] at FT
  clear hf
  unfold nfaV setV at *
  go_enter Tryd.func10, Tryd.ntmps10
  go_wp2_with (first
    | (go_at_call 30; (with_reducible refine (FT.out _ B2.out).mono ?_); rintro e w2 ⟨rfl, h1⟩; go_must (have g0 := at_cell (at_next X1.out h1) 0; have g1 := at_cell (at_next X1.out h1) 1; have hg := cell_lt g0; have g2 := at_cell (at_next X3.out h1) 0; have g3 := at_cell (at_next X3.out h1) 1; have hg2 := cell_lt g2; have B3 := Lib.hid (B2.out.trans (h1.mono B2.out.size)); have Y2 := Lib.hid (at_next X2.out h1); clear h1))
    | (go_at_call 35; (with_reducible refine (ST.out w2 B3.out).mono ?_); rintro e w3 ⟨v, rfl, L, hs, hL, hb⟩; obtain ⟨vo, vn, vc, rfl⟩ := hs.val; (try unfold setV); go_must (have y2 := at_next Y2.out hb; have e0 := at_cell y2 0; have e1 := at_cell y2 1; have f0 := at_froz y2 0; have f1 := at_froz y2 1; have hl := cell_lt e0; have Z := Lib.hid (And.intro hs (And.intro hL (And.intro hb (And.intro y2 (two_stores (x := .int .i64 (l.length : Nat)) (y := .slice vo vn vc) y2))))); clear hs hL hb y2))
    | fail)
  obtain ⟨hs, hL, hb, y2, m1, m2⟩ := Z.out
  have hsz := B3.out.size
  have hb3 := B3.out.trans (hb.mono hsz)
  refine bodyPost_ret (results_row_tmp rfl _ _ (w.heap.size + 1 + 1) 30 #[.int .i64 (l.length : Nat), .slice vo vn vc] (0, 0) _ rfl m1 Tryd.underlying30 rfl (by kernel_rfl)) rfl ?_
  exact ⟨_, rfl, L, (hs.kept m2 (ne_row hs.row y2 (by decide))).base hsz, hL, hb3.grown m2 hb3.size (fun j e => by cases e; omega)⟩

end Go.Proofs.YtfbphiamelongaaDoor.Cl

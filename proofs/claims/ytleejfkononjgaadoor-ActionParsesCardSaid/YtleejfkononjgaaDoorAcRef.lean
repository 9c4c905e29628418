/- Parse, the document's. -/
import Derived.Test.YtleejfkononjgaaDoorAcTxt
import Derived.Test.YtleejfkononjgaaDoorWdRAll
import Derived.Test.YtleejfkononjgaaDoorAcPl2
namespace Go.Proofs.YtleejfkononjgaaDoor.Ac
open Go Go.RowKit Go.Shelf Go.Proofs.YtleejfkononjgaaDoor.Wd

theorem row_apart {W : World} {B e e' s s' n n' : Nat} {v v' : Value} {xs xs' : List Value} (h : W.ownsRow B e s v n xs) (h' : W.ownsRow B e' s' v' n' xs') (hne : e ≠ e') : v.ownBlock = none ∨ v.ownBlock ≠ v'.ownBlock := by
  rcases h.2 with ⟨rfl, _⟩ | ⟨g, cap, cur, rfl, _, hg, _⟩
  · exact .inl rfl
  · refine .inr fun e0 => ?_
    rcases h'.2 with ⟨rfl, _⟩ | ⟨g', cap', cur', rfl, _, hg', _⟩
    · simp [Value.ownBlock] at e0
    · have : g = g' := by simpa [Value.ownBlock] using e0
      subst this
      rw [hg] at hg'
      simp at hg'
      exact hne hg'.2
/-- what stands while the words are asked: the texts, their places, the results' boxes, the action's -/
structure RM (n C gw ga : Nat) (t : Nat → ByteArray) (p : Nat → Nat) (w : World) (em : ByteArray) (g : Int) (W : World) : Prop where
  cw : ∀ j, j < 5 → W.cell? ⟨gw, j, none⟩ = some (.string (t j))
  ca : ∀ j, j < 5 → W.cell? ⟨ga, j, none⟩ = some (.int .i64 (p j : Nat))
  act : W.heap[n]? = some (.cells #[.string ⟨#[]⟩, .int .i64 0] 26 (0, 0))
  flt : W.heap[n + 1]? = some (.cells #[.int .i64 0, .int .i64 0] 29 (0, 0))
  box : W.heap[C]? = some (.cells #[.string em, .int .i64 g] 26 (0, 0))
  below : Below n w W
  lw : gw < C
  la : ga < C
  ln : n + 1 < C
  na : n + 1 < ga
theorem RM.res {n C gw ga : Nat} {t : Nat → ByteArray} {p : Nat → Nat} {w : World} {em : ByteArray} {g : Int} {W : World} (h : RM n C gw ga t p w em g W) :
    (W.cell? ⟨n, 0, none⟩ = some (.string ⟨#[]⟩) ∧ W.cell? ⟨n, 1, none⟩ = some (.int .i64 0)) ∧ (W.cell? ⟨n + 1, 0, none⟩ = some (.int .i64 0) ∧ W.cell? ⟨n + 1, 1, none⟩ = some (.int .i64 0)) ∧
    (W.frozen? ⟨n, 0, none⟩ = false ∧ W.frozen? ⟨n, 1, none⟩ = false) ∧ (W.frozen? ⟨n + 1, 0, none⟩ = false ∧ W.frozen? ⟨n + 1, 1, none⟩ = false) :=
  ⟨cells_two h.act, cells_two h.flt, ⟨frozen_of_row _ _ _ _ _ h.act, frozen_of_row _ _ _ _ _ h.act⟩, ⟨frozen_of_row _ _ _ _ _ h.flt, frozen_of_row _ _ _ _ _ h.flt⟩⟩
theorem RM.set {n C gw ga : Nat} {t : Nat → ByteArray} {p : Nat → Nat} {w : World} {em em' : ByteArray} {g g' : Int} {W : World} (h : RM n C gw ga t p w em g W) (o : Nat) (u : Value) (hx : (W.setCell ⟨C, o, none⟩ u).heap[C]? = some (.cells #[.string em', .int .i64 g'] 26 (0, 0))) : RM n C gw ga t p w em' g' (W.setCell ⟨C, o, none⟩ u) where
  cw := fun j hj => set_cell (h.cw j hj) (Nat.ne_of_lt h.lw)
  ca := fun j hj => set_cell (h.ca j hj) (Nat.ne_of_lt h.la)
  act := by rw [Below.heap_setCell _ _ _ _ (show n ≠ C by have := h.ln; omega)]; exact h.act
  flt := by rw [Below.heap_setCell _ _ _ _ (show n + 1 ≠ C by have := h.ln; omega)]; exact h.flt
  box := hx
  below := h.below.setCell (p := ⟨C, o, none⟩) (show n ≤ C by have := h.ln; omega) u
  lw := h.lw
  la := h.la
  ln := h.ln
  na := h.na
theorem RM.em {n C gw ga : Nat} {t : Nat → ByteArray} {p : Nat → Nat} {w : World} {em : ByteArray} {g : Int} {W : World} (h : RM n C gw ga t p w em g W) (x : ByteArray) : RM n C gw ga t p w x g (W.setCell ⟨C, 0, none⟩ (.string x)) := h.set 0 _ (set_two h.box _).1
theorem RM.num {n C gw ga : Nat} {t : Nat → ByteArray} {p : Nat → Nat} {w : World} {em : ByteArray} {g : Int} {W : World} (h : RM n C gw ga t p w em g W) (x : Int) : RM n C gw ga t p w em x (W.setCell ⟨C, 1, none⟩ (.int .i64 x)) := h.set 1 _ (set_two h.box _).2
theorem bytes_lit {a : ByteArray} {l : List UInt8} (h : a ≠ ⟨l.toArray⟩) : (a.toList == l) = false := by
  rw [beq_eq_false_iff_ne]
  intro e
  rw [ByteArray.toList_eq] at e
  exact h (bytes_ext (by rw [e]))

def strR (l : List ByteArray) : List Value := l.map Value.string
def intR (l : List Int) : List Value := l.map (Value.int .i64)
theorem str_snoc {W : World} {B : Nat} {v : Value} {T : List ByteArray} {x : ByteArray} (h : W.ownsRow B 9 1 v (T.length + 1) (strR T ++ [.string x])) : W.ownsRow B 9 1 v (T ++ [x]).length (strR (T ++ [x])) := by
  rw [List.length_append]
  unfold strR at *
  rw [List.map_append]; exact h
theorem int_snoc {W : World} {B : Nat} {v : Value} {A : List Int} {x : Int} (h : W.ownsRow B 3 1 v (A.length + 1) (intR A ++ [.int .i64 x])) : W.ownsRow B 3 1 v (A ++ [x]).length (intR (A ++ [x])) := by
  rw [List.length_append]
  unfold intR at *
  rw [List.map_append]; exact h
/-- the two rows that grow -/
def Two (B : Nat) (w2 : World) (T : List ByteArray) (A : List Int) (wv av : Value) (wr : World) : Prop :=
  wr.ownsRow B 9 1 wv T.length (strR T) ∧ wr.ownsRow B 3 1 av A.length (intR A) ∧ Below B w2 wr ∧ B ≤ wr.heap.size

theorem row_formI {w : World} {base n : Nat} {v : Value} {xs : List Value} (h : w.ownsRow base 3 1 v n xs) (hn : 0 < n) : ∃ g cap, v = .slice (some ⟨g, 0, none⟩) n cap ∧ n ≤ cap ∧ base ≤ g ∧ g < w.heap.size ∧ ∀ j, j < n → w.cell? ⟨g, j, none⟩ = xs[j]? := by
  rcases h.2 with ⟨_, h0⟩ | ⟨g, cap, cur, rfl, hb, hg, hnc, _⟩
  · omega
  · exact ⟨g, cap, rfl, hnc, hb, lt_of_heap hg, fun j hj => h.cellAt j (by omega)⟩
theorem two_str {B : Nat} {w2 wr X w3 : World} {T : List ByteArray} {A : List Int} {wv av v' : Value} {x : ByteArray} (h : Two B w2 T A wv av wr) (hb : Below wr.heap.size wr X) (hown : w3.ownsRow B 9 1 v' (T.length + 1) (strR T ++ [.string x])) (hg : X.grownBy w3 wv.ownBlock) : Two B w2 (T ++ [x]) A v' av w3 := by
  have r1 := row_next h.1 hb
  have r2 := row_next h.2.1 hb
  have hbX := h.2.2.1.trans (hb.mono h.2.2.2)
  have hBX := Nat.le_trans h.2.2.2 hb.size
  exact ⟨str_snoc hown, r2.kept hg (row_apart r2 r1 (by decide)), hbX.grown hg hBX (fun k hk => (r1.lt k hk).1), Nat.le_trans hBX hg.size⟩
theorem two_int {B : Nat} {w2 wr X w3 : World} {T : List ByteArray} {A : List Int} {wv av v' : Value} {x : Int} (h : Two B w2 T A wv av wr) (hb : Below wr.heap.size wr X) (hown : w3.ownsRow B 3 1 v' (A.length + 1) (intR A ++ [.int .i64 x])) (hg : X.grownBy w3 av.ownBlock) : Two B w2 T (A ++ [x]) wv v' w3 := by
  have r1 := row_next h.1 hb
  have r2 := row_next h.2.1 hb
  have hbX := h.2.2.1.trans (hb.mono h.2.2.2)
  have hBX := Nat.le_trans h.2.2.2 hb.size
  exact ⟨r1.kept hg (row_apart r1 r2 (by decide)), int_snoc hown, hbX.grown hg hBX (fun k hk => (r2.lt k hk).1), Nat.le_trans hBX hg.size⟩

set_option maxRecDepth 100000 in
set_option maxHeartbeats 16000000 in
theorem rparse_any (s : ByteArray) (M : List ByteArray) (v : Value) (w : World) (hv : StrsAt w v M) (hs : s.size ≤ 1000000) :
    Calls Tryd.prog 8 #[.string s, v] w fun e w' => e = .returned (vRes (parseL s M)) ∧ Below w.heap.size w w' := by
  obtain ⟨i0, hi, hz0, hz1, hz2⟩ := info_parts infoS
  obtain ⟨j0, hj, hy0, hy1, hy2⟩ := info_parts infoI
  have HV := Lib.hid hv
  have AL := Lib.hid (fun W => rall_any s hs W)
  have HW := Lib.hid (fun q (h : q ∈ wordsL s.data.toList) => words_in h)
  have hcn := words_count s.data.toList
  rw [len_size] at hcn
  have HPL : Hid (parseL s M = fin1 (txt s (wordsL s.data.toList)) (pos s (wordsL s.data.toList)) M) := Lib.hid rfl
  generalize parseL s M = res at *
  generalize wordsL s.data.toList = ws at *
  clear hv
  go_enter Tryd.func8, Tryd.ntmps8
  go_upto_region 1 with fail
  have b1 := (((Below.refl w.heap.size w).alloc (Nat.le_refl _) (.cells #[.string ⟨#[]⟩, .int .i64 0] 26)).alloc (by simp) (.cells #[.int .i64 0, .int .i64 0] 29))
  have k0 : ((w.alloc (.cells #[.string ⟨#[]⟩, .int .i64 0] 26)).alloc (.cells #[.int .i64 0, .int .i64 0] 29)).heap[w.heap.size]? = some (.cells #[.string ⟨#[]⟩, .int .i64 0] 26 (0, 0)) := (heap_alloc_old _ _ (by simp)).trans (heap_alloc_new _ _)
  have k1 : ((w.alloc (.cells #[.string ⟨#[]⟩, .int .i64 0] 26)).alloc (.cells #[.int .i64 0, .int .i64 0] 29)).heap[w.heap.size + 1]? = some (.cells #[.int .i64 0, .int .i64 0] 29 (0, 0)) := heap_alloc2_new _ _ _
  generalize (w.alloc (.cells #[.string ⟨#[]⟩, .int .i64 0] 26)).alloc (.cells #[.int .i64 0, .int .i64 0] 29) = w1 at *
  have B1 := Lib.hid b1
  have K0 := Lib.hid k0
  have K1 := Lib.hid k1
  have hl1 := lt_of_heap k1
  clear b1 k0 k1
  go_upto_region 2 with (first
    | (go_at_call 15; ((with_reducible refine (AL.out _).mono ?_); rintro e w2 ⟨x, rfl, hp, hb⟩; obtain ⟨po, pcap, rfl, hpm, hpc⟩ := hp.shape); go_must (have B2 := Lib.hid (B1.out.trans (hb.mono B1.out.size)); have Z0 := Lib.hid ((hb.block _ (by omega)).trans K0.out); have Z1 := Lib.hid ((hb.block _ hl1).trans K1.out); have HPC := Lib.hid hpc; have hl2 := Nat.lt_of_lt_of_le hl1 hb.size; clear hb hpc hp))
    | fail)
  clear K0 K1 AL hl1 B1
  go_wp2
  go_loopw [7, 8, 9] (fun wv av i wr => ∃ k : Nat, i = .int .i64 k ∧ k ≤ ws.length ∧ Two w2.heap.size w2 (txL s (ws.take k)) (psL (ws.take k)) wv av wr) (fun _ _ i _ => ws.length - (intOf i).toNat)
  case atStart => exact ⟨0, rfl, Nat.zero_le _, World.ownsRow_nil _ _ _ _, World.ownsRow_nil _ _ _ _, Below.refl _ _, Nat.le_refl _⟩
  case round =>
    obtain ⟨k, rfl, hk, htwo⟩ := hrel
    have HT := Lib.hid htwo
    have hbz := htwo.2.2.2
    clear htwo
    by_cases hlt : k < ws.length
    · obtain ⟨g, rfl, c0, c1⟩ := HPC.out k hlt
      have C00 := Lib.hid c0
      replace c0 := cell_next c0 (show Below w2.heap.size w2 wr from HT.out.2.2.1)
      replace c1 := cell_next c1 (show Below w2.heap.size w2 wr from HT.out.2.2.1)
      have hin := HW.out (ws.getD k (0, 0)) (by
        rw [List.getD_eq_getElem?_getD, List.getElem?_eq_getElem hlt]
        exact List.getElem_mem hlt)
      have TS := Lib.hid (txL_snoc (s := s) hlt)
      have PS := Lib.hid (psL_snoc hlt)
      obtain ⟨⟨a, b⟩, hab⟩ : ∃ q, ws.getD k (0, 0) = q := ⟨_, rfl⟩
      rw [hab] at c0 c1 hin TS PS C00
      dsimp only at c0 c1 hin TS PS C00
      clear hab
      obtain ⟨hin1, hin2⟩ := hin
      have h0i : (0 : Int) ≤ k := by omega
      have ha0 : (0 : Int) ≤ a := by omega
      have hab' : (a : Int) ≤ b := by omega
      have hbs' : (b : Int) ≤ s.size := by omega
      obtain ⟨T, hT⟩ : ∃ T, txL s (ws.take k) = T := ⟨_, rfl⟩
      obtain ⟨A, hA⟩ : ∃ A, psL (ws.take k) = A := ⟨_, rfl⟩
      have hTl : T.length = k := by rw [← hT]; simp [txL]; omega
      have hAl : A.length = k := by rw [← hA]; simp [psL]; omega
      rw [hT] at HT TS
      rw [hA] at HT PS
      clear hT hA
      have HTL := Lib.hid hTl
      have HAL := Lib.hid hAl
      have hT2 : T.length ≤ 1000000 := by omega
      have hA2 : A.length ≤ 1000000 := by omega
      clear hTl hAl
      have HBN := Lib.hid (fun o => ((Below.refl wr.heap.size wr).alloc (Nat.le_refl _) o).drew)
      go_wp2
      go_region_law (refine step_append_lies _ rfl (.tmp 21) (.tmp 34) 22 rfl w2.heap.size 9 i0 (.string ⟨#[]⟩) 1 16 Tryd.underlying22 hi hz0 hz1 hz2 rfl (by decide) _ T.length (strR T) rfl (row_next HT.out.1 (HBN.out _)) ⟨wr.heap.size, 0, none⟩ 1 1 [.string (s.extract a b)] rfl rfl (World.news_of_block (World.alloc_heap_new wr _)) (by simp [Value.oneCell']) (by decide) (by unfold maxLen; omega) (by omega) (by simp; omega) _ rfl ?_; intro g2 cap2 w3 hown hg hat hlt3; go_must (have Y3 := Lib.hid (two_str HT.out (HBN.out _) hown hg); clear hown hg hat))
      all_goals (
        replace c0 := cell_next C00.out (show Below w2.heap.size w2 w3 from Y3.out.2.2.1)
        have hz3 := Y3.out.2.2.2
        go_wp2_with (at_builtin; refine wpList_append_own _ rfl _ _ 42 rfl w2.heap.size 3 j0 (.int .i64 0) 1 8 Tryd.underlying42 hj hy0 hy1 hy2 rfl (by decide) _ A.length (intR A) rfl (row_next Y3.out.2.1 ((Below.refl _ _).alloc (Nat.le_refl _) _)) ⟨w3.heap.size, 0, none⟩ 1 1 [.int .i64 a] rfl rfl (World.news_of_block (World.alloc_heap_new w3 _)) (by simp [Value.oneCell']) (by unfold maxLen; omega) (by omega) (by simp; omega) ?_; intro v5 w5 hown hg _; go_must (have Y5 := Lib.hid (two_int Y3.out ((Below.refl _ _).alloc (Nat.le_refl _) _) hown hg); clear hown hg))
        go_roundw
        case rel => exact ⟨k + 1, by go_num, hlt, by rw [TS.out, PS.out]; exact Y5.out⟩
        case measure => simp [intOf]; omega)
    · obtain rfl : k = ws.length := by omega
      rw [List.take_length] at HT
      clear hlt HPC hk
      go_wp2
      go_loopw [7, 8, 10] (fun wv av i wr => ∃ m : Nat, i = .int .i64 m ∧ m ≤ 5 ∧ Two w2.heap.size w2 (txL s ws ++ List.replicate m bE) (psL ws ++ List.replicate m (s.size : Int)) wv av wr) (fun _ _ i _ => 5 - (intOf i).toNat)
      case atStart => exact ⟨0, rfl, by omega, by simpa using HT.out⟩
      case round =>
        clear HT hbz
        obtain ⟨m, rfl, hm, htwo⟩ := hrel
        have HT := Lib.hid htwo
        have hbz := htwo.2.2.2
        clear htwo
        by_cases hlt : m < 5
        · have TS : Hid (txL s ws ++ List.replicate (m + 1) bE = (txL s ws ++ List.replicate m bE) ++ [bE]) := Lib.hid (by rw [List.replicate_succ', List.append_assoc])
          have PS : Hid (psL ws ++ List.replicate (m + 1) (s.size : Int) = (psL ws ++ List.replicate m (s.size : Int)) ++ [(s.size : Int)]) := Lib.hid (by rw [List.replicate_succ', List.append_assoc])
          have hT2 : (txL s ws ++ List.replicate m bE).length ≤ 1000100 := by simp [txL]; omega
          have hA2 : (psL ws ++ List.replicate m (s.size : Int)).length ≤ 1000100 := by simp [psL]; omega
          generalize txL s ws ++ List.replicate m bE = T at *
          generalize psL ws ++ List.replicate m (s.size : Int) = A at *
          go_wp2_with (first
            | (at_builtin; refine wpList_append_own _ rfl _ _ 22 rfl w2.heap.size 9 i0 (.string ⟨#[]⟩) 1 16 Tryd.underlying22 hi hz0 hz1 hz2 rfl (by decide) _ T.length (strR T) rfl (row_next HT.out.1 ((Below.refl _ _).alloc (Nat.le_refl _) _)) ⟨wr.heap.size, 0, none⟩ 1 1 [.string ⟨#[]⟩] rfl rfl (World.news_of_block (World.alloc_heap_new wr _)) (by simp [Value.oneCell']) (by unfold maxLen; omega) (by omega) (by simp; omega) ?_; intro v3 w3 hown hg _; go_must (have Y3 := Lib.hid (two_str HT.out ((Below.refl _ _).alloc (Nat.le_refl _) _) hown hg); have hz3 := Y3.out.2.2.2; clear hown hg))
            | (at_builtin; refine wpList_append_own _ rfl _ _ 42 rfl w2.heap.size 3 j0 (.int .i64 0) 1 8 Tryd.underlying42 hj hy0 hy1 hy2 rfl (by decide) _ A.length (intR A) rfl (row_next Y3.out.2.1 ((Below.refl _ _).alloc (Nat.le_refl _) _)) ⟨w3.heap.size, 0, none⟩ 1 1 [.int .i64 s.size] rfl rfl (World.news_of_block (World.alloc_heap_new w3 _)) (by simp [Value.oneCell']) (by unfold maxLen; omega) (by omega) (by simp; omega) ?_; intro v5 w5 hown hg _; go_must (have Y5 := Lib.hid (two_int Y3.out ((Below.refl _ _).alloc (Nat.le_refl _) _) hown hg); clear hown hg))
            | fail)
          go_roundw
          case rel => exact ⟨m + 1, by go_num, by omega, by rw [TS.out, PS.out]; exact Y5.out⟩
          case measure => simp [intOf]; omega
        · obtain rfl : m = 5 := by omega
          clear hlt hm
          have hl5 : (txL s ws ++ List.replicate 5 bE).length = ws.length + 5 := by simp [txL]
          have ha5 : (psL ws ++ List.replicate 5 (s.size : Int)).length = ws.length + 5 := by simp [psL]
          obtain ⟨gw, cw, rfl, _, _, hcw⟩ := row_form HT.out.1 (by omega)
          obtain ⟨ga, ca, rfl, _, hga, _, hca⟩ := row_formI HT.out.2.1 (by omega)
          have KW : ∀ j, j < 5 → wr.cell? ⟨gw, j, none⟩ = some (.string (txt s ws j)) := fun j hj => by
            rw [hcw j (by omega)]
            unfold strR
            rw [List.getElem?_map, pad_txt (by omega)]; rfl
          have KA : ∀ j, j < 5 → wr.cell? ⟨ga, j, none⟩ = some (.int .i64 (pos s ws j : Nat)) := fun j hj => by
            rw [hca j (by omega)]
            unfold intR
            rw [List.getElem?_map, pad_pos (by omega)]; rfl
          rw [hl5, ha5]
          have HKW := Lib.hid KW
          have HKA := Lib.hid KA
          have BR := Lib.hid HT.out.2.2.1
          clear hcw hca hl5 ha5 HT KW KA
          have HTZ := Lib.hid (fun j => txt_size (ws := ws) (k := j) hs)
          generalize txt s ws = t at *
          generalize pos s ws = p at *
          go_upto_region 16 with fail
          have hb4 := (Below.refl wr.heap.size wr).alloc (Nat.le_refl _) (.cells #[.string ⟨#[]⟩, .int .i64 (-1)] 26)
          have hx4 : (wr.alloc (.cells #[.string ⟨#[]⟩, .int .i64 (-1)] 26)).heap[wr.heap.size]? = some (.cells #[.string ⟨#[]⟩, .int .i64 (-1)] 26 (0, 0)) := heap_alloc_new wr _
          obtain ⟨n, hnn⟩ : ∃ n, w.heap.size = n := ⟨_, rfl⟩
          have HNN := Lib.hid hnn
          have q := RM.mk (n := n) (C := wr.heap.size) (gw := gw) (ga := ga) (t := t) (p := p) (w := w) (em := bE) (g := -1) (W := wr.alloc (.cells #[.string ⟨#[]⟩, .int .i64 (-1)] 26)) (fun j hj => cell_next (HKW.out j hj) hb4) (fun j hj => cell_next (HKA.out j hj) hb4) (by rw [← hnn]; exact (hb4.block _ (by omega)).trans ((BR.out.block _ (by omega)).trans Z0.out)) (by rw [← hnn]; exact (hb4.block _ (by omega)).trans ((BR.out.block _ (by omega)).trans Z1.out)) hx4 (by rw [← hnn]; exact B2.out.trans ((BR.out.mono (by omega)).trans (hb4.mono (by omega)))) (cell_lt (a := ⟨gw, 0, none⟩) (HKW.out 0 (by omega))) (cell_lt (a := ⟨ga, 0, none⟩) (HKA.out 0 (by omega))) (by omega) (by omega)
          generalize wr.alloc (.cells #[.string ⟨#[]⟩, .int .i64 (-1)] 26) = w4 at *
          generalize wr.heap.size = C at *
          rw [hnn]
          have QM := Lib.hid q
          clear q hb4 hx4 HKW HKA BR Z0 Z1 B2 hnn hl2 hbz
          by_cases a0 : t 0 = bSkip
          · have y0 := QM.out.cw 0 (by omega)
            rw [show t 0 = ⟨#[115, 107, 105, 112]⟩ from a0] at y0
            go_upto_region 25 with fail
            clear y0
            by_cases b0 : t 1 = bE
            · have HX : Hid (res = ⟨bE, -1, 0, 0⟩) := Lib.hid (by rw [HPL.out]; unfold fin1; rw [if_pos a0]; unfold fin3; rw [if_pos b0])
              obtain ⟨⟨r0, r1⟩, ⟨r2, r3⟩, ⟨f0, f1⟩, ⟨f2, f3⟩⟩ := QM.out.res
              have hzn := lt_of_heap QM.out.flt
              have hzc := QM.out.ln
              have hza := QM.out.na
              have l0 : (0 : Int) < ws.length + 5 := by omega
              have l1 : (1 : Int) < ws.length + 5 := by omega
              have l2 : (2 : Int) < ws.length + 5 := by omega
              have l3 : (3 : Int) < ws.length + 5 := by omega
              have l4 : (4 : Int) < ws.length + 5 := by omega
              have nz1 : ga ≠ n := by omega
              have nz2 : ga ≠ n + 1 := by omega
              have y1 := QM.out.cw 1 (by omega)
              rw [show t 1 = ⟨#[]⟩ from b0] at y1
              obtain ⟨x0, x1⟩ := cells_two QM.out.box
              go_wp2
              (try simp only [Exit.inBlock, Exit.then])
              have S4 := set_four (a' := .string (bE)) (b' := .int .i64 (-1)) (c' := .int .i64 0) (d' := .int .i64 0) QM.out.act QM.out.flt
              refine bodyPost_ret (results_rows rfl _ _ n 26 #[.string (bE), .int .i64 (-1)] (0, 0) _ rfl S4.1 Tryd.underlying26 rfl (by kernel_rfl) (n + 1) 29 #[.int .i64 0, .int .i64 0] (0, 0) _ rfl S4.2 Tryd.underlying29 rfl (by kernel_rfl)) rfl ?_
              exact ⟨(show _ = Ending.returned (vRes ⟨bE, -1, 0, 0⟩) from rfl).trans (retRes HX.out.symm), by rw [HNN.out]; exact below_four QM.out.below (Nat.le_refl _)⟩
            · by_cases b1 : t 1 = bGoto
              · by_cases b2 : t 2 = bE
                · have HX : Hid (res = bad 3 (p 2)) := Lib.hid (by rw [HPL.out]; unfold fin1; rw [if_pos a0]; unfold fin3; rw [if_neg b0, if_pos b1]; unfold fin4; rw [if_pos b2])
                  obtain ⟨⟨r0, r1⟩, ⟨r2, r3⟩, ⟨f0, f1⟩, ⟨f2, f3⟩⟩ := QM.out.res
                  have hzn := lt_of_heap QM.out.flt
                  have hzc := QM.out.ln
                  have hza := QM.out.na
                  have l0 : (0 : Int) < ws.length + 5 := by omega
                  have l1 : (1 : Int) < ws.length + 5 := by omega
                  have l2 : (2 : Int) < ws.length + 5 := by omega
                  have l3 : (3 : Int) < ws.length + 5 := by omega
                  have l4 : (4 : Int) < ws.length + 5 := by omega
                  have nz1 : ga ≠ n := by omega
                  have nz2 : ga ≠ n + 1 := by omega
                  have y1 := QM.out.cw 1 (by omega)
                  rw [show t 1 = ⟨#[103, 111, 116, 111]⟩ from b1] at y1
                  have y2 := QM.out.cw 2 (by omega)
                  rw [show t 2 = ⟨#[]⟩ from b2] at y2
                  have z0 := QM.out.ca 2 (by omega)
                  go_wp2
                  go_region
                  all_goals (
                    go_wp2
                    (try simp only [Exit.inBlock, Exit.then])
                    have S4 := set_four_d (a' := .string ⟨#[]⟩) (b' := .int .i64 0) (c' := .int .i64 3) (d' := .int .i64 (p 2 : Nat)) QM.out.act QM.out.flt
                    refine bodyPost_ret (results_rows rfl _ _ n 26 #[.string ⟨#[]⟩, .int .i64 0] (0, 0) _ rfl S4.1 Tryd.underlying26 rfl (by kernel_rfl) (n + 1) 29 #[.int .i64 3, .int .i64 (p 2 : Nat)] (0, 0) _ rfl S4.2 Tryd.underlying29 rfl (by kernel_rfl)) rfl ?_
                    exact ⟨(show _ = Ending.returned (vRes (bad 3 (p 2))) from rfl).trans (retRes HX.out.symm), by rw [HNN.out]; exact (below_four QM.out.below (Nat.le_refl _)).drew⟩)
                have NM := Lib.hid (fun W => (name_both (t 2) (by have := HTZ.out 2; unfold maxLen; omega) W).2)
                cases nm : nameL (t 2).data.toList
                · rw [nm] at NM
                  have HX : Hid (res = bad 4 (p 2)) := Lib.hid (by rw [HPL.out]; unfold fin1; rw [if_pos a0]; unfold fin3; rw [if_neg b0, if_pos b1]; unfold fin4; rw [if_neg b2, if_pos nm])
                  obtain ⟨⟨r0, r1⟩, ⟨r2, r3⟩, ⟨f0, f1⟩, ⟨f2, f3⟩⟩ := QM.out.res
                  have hzn := lt_of_heap QM.out.flt
                  have hzc := QM.out.ln
                  have hza := QM.out.na
                  have l0 : (0 : Int) < ws.length + 5 := by omega
                  have l1 : (1 : Int) < ws.length + 5 := by omega
                  have l2 : (2 : Int) < ws.length + 5 := by omega
                  have l3 : (3 : Int) < ws.length + 5 := by omega
                  have l4 : (4 : Int) < ws.length + 5 := by omega
                  have nz1 : ga ≠ n := by omega
                  have nz2 : ga ≠ n + 1 := by omega
                  have y1 := QM.out.cw 1 (by omega)
                  rw [show t 1 = ⟨#[103, 111, 116, 111]⟩ from b1] at y1
                  have y2 := QM.out.cw 2 (by omega)
                  have dn20 := bytes_lit (a := t 2) (l := []) b2
                  have dm20 := bytes_no (a := t 2) (b := ⟨#[]⟩) b2
                  have di2 := isE_no (a := t 2) b2
                  have z0 := QM.out.ca 2 (by omega)
                  go_wp2_with (first
                    | (go_at_call 16; (with_reducible refine (NM.out _).mono ?_); rintro e w' ⟨rfl, rfl⟩)
                    | fail)
                  go_region
                  all_goals (
                    go_wp2
                    (try simp only [Exit.inBlock, Exit.then])
                    have S4 := set_four_d (a' := .string ⟨#[]⟩) (b' := .int .i64 0) (c' := .int .i64 4) (d' := .int .i64 (p 2 : Nat)) QM.out.act QM.out.flt
                    refine bodyPost_ret (results_rows rfl _ _ n 26 #[.string ⟨#[]⟩, .int .i64 0] (0, 0) _ rfl S4.1 Tryd.underlying26 rfl (by kernel_rfl) (n + 1) 29 #[.int .i64 4, .int .i64 (p 2 : Nat)] (0, 0) _ rfl S4.2 Tryd.underlying29 rfl (by kernel_rfl)) rfl ?_
                    exact ⟨(show _ = Ending.returned (vRes (bad 4 (p 2))) from rfl).trans (retRes HX.out.symm), by rw [HNN.out]; exact (below_four QM.out.below (Nat.le_refl _)).drew⟩)
                · rw [nm] at NM
                  have PL := Lib.hid (place_any M v (t 2) _ (HV.out.next (by rw [HNN.out]; exact QM.out.below)))
                  have f9 := frozen_of_row _ C 1 _ _ QM.out.box
                  obtain ⟨x0, x1⟩ := cells_two QM.out.box
                  have hzc := lt_of_heap QM.out.box
                  have y1 := QM.out.cw 1 (by omega)
                  rw [show t 1 = ⟨#[103, 111, 116, 111]⟩ from b1] at y1
                  have y2 := QM.out.cw 2 (by omega)
                  have dn20 := bytes_lit (a := t 2) (l := []) b2
                  have dm20 := bytes_no (a := t 2) (b := ⟨#[]⟩) b2
                  have di2 := isE_no (a := t 2) b2
                  obtain ⟨q, hq⟩ : ∃ q, numL M (t 2) = q := ⟨_, rfl⟩
                  rw [hq] at PL
                  go_upto_region 34 with (first
                    | (go_at_call 16; (with_reducible refine (NM.out _).mono ?_); rintro e w' ⟨rfl, rfl⟩)
                    | (go_at_call 17; (with_reducible refine PL.out.mono ?_); rintro e w' ⟨rfl, rfl⟩)
                    | fail)
                  have QM2 := Lib.hid (QM.out.num q)
                  clear QM PL f9 x0 x1 y1 y2
                  generalize World.setCell _ ⟨C, 1, none⟩ (.int .i64 q) = w6 at *
                  have QM := QM2
                  clear QM2
                  obtain ⟨x0, x1⟩ := cells_two QM.out.box
                  by_cases b3 : q = -1
                  · subst b3
                    have HX : Hid (res = bad 11 (p 2)) := Lib.hid (by rw [HPL.out]; unfold fin1; rw [if_pos a0]; unfold fin3; rw [if_neg b0, if_pos b1]; unfold fin4; rw [if_neg b2, if_neg (by rw [nm]; simp), if_pos hq])
                    obtain ⟨⟨r0, r1⟩, ⟨r2, r3⟩, ⟨f0, f1⟩, ⟨f2, f3⟩⟩ := QM.out.res
                    have hzn := lt_of_heap QM.out.flt
                    have hzc := QM.out.ln
                    have hza := QM.out.na
                    have l0 : (0 : Int) < ws.length + 5 := by omega
                    have l1 : (1 : Int) < ws.length + 5 := by omega
                    have l2 : (2 : Int) < ws.length + 5 := by omega
                    have l3 : (3 : Int) < ws.length + 5 := by omega
                    have l4 : (4 : Int) < ws.length + 5 := by omega
                    have nz1 : ga ≠ n := by omega
                    have nz2 : ga ≠ n + 1 := by omega
                    have z0 := QM.out.ca 2 (by omega)
                    go_wp2
                    go_region
                    all_goals (
                      go_wp2
                      (try simp only [Exit.inBlock, Exit.then])
                      have S4 := set_four_d (a' := .string ⟨#[]⟩) (b' := .int .i64 0) (c' := .int .i64 11) (d' := .int .i64 (p 2 : Nat)) QM.out.act QM.out.flt
                      refine bodyPost_ret (results_rows rfl _ _ n 26 #[.string ⟨#[]⟩, .int .i64 0] (0, 0) _ rfl S4.1 Tryd.underlying26 rfl (by kernel_rfl) (n + 1) 29 #[.int .i64 11, .int .i64 (p 2 : Nat)] (0, 0) _ rfl S4.2 Tryd.underlying29 rfl (by kernel_rfl)) rfl ?_
                      exact ⟨(show _ = Ending.returned (vRes (bad 11 (p 2))) from rfl).trans (retRes HX.out.symm), by rw [HNN.out]; exact (below_four QM.out.below (Nat.le_refl _)).drew⟩)
                  · have hnq := num_lt M (t 2)
                    rw [hq] at hnq
                    have b5 : 0 ≤ q := by omega
                    have d9 : decide (q < 0) = false := by simpa using b5
                    by_cases b4 : t 3 = bE
                    · have HX : Hid (res = ⟨bE, q, 0, 0⟩) := Lib.hid (by rw [HPL.out]; unfold fin1; rw [if_pos a0]; unfold fin3; rw [if_neg b0, if_pos b1]; unfold fin4; rw [if_neg b2, if_neg (by rw [nm]; simp), if_neg (by rw [hq]; exact b3), hq]; unfold fin5; rw [if_pos b4])
                      obtain ⟨⟨r0, r1⟩, ⟨r2, r3⟩, ⟨f0, f1⟩, ⟨f2, f3⟩⟩ := QM.out.res
                      have hzn := lt_of_heap QM.out.flt
                      have hzc := QM.out.ln
                      have hza := QM.out.na
                      have l0 : (0 : Int) < ws.length + 5 := by omega
                      have l1 : (1 : Int) < ws.length + 5 := by omega
                      have l2 : (2 : Int) < ws.length + 5 := by omega
                      have l3 : (3 : Int) < ws.length + 5 := by omega
                      have l4 : (4 : Int) < ws.length + 5 := by omega
                      have nz1 : ga ≠ n := by omega
                      have nz2 : ga ≠ n + 1 := by omega
                      have y3 := QM.out.cw 3 (by omega)
                      rw [show t 3 = ⟨#[]⟩ from b4] at y3
                      obtain ⟨x0, x1⟩ := cells_two QM.out.box
                      go_wp2
                      (try simp only [Exit.inBlock, Exit.then])
                      have S4 := set_four (a' := .string (bE)) (b' := .int .i64 (q)) (c' := .int .i64 0) (d' := .int .i64 0) QM.out.act QM.out.flt
                      refine bodyPost_ret (results_rows rfl _ _ n 26 #[.string (bE), .int .i64 (q)] (0, 0) _ rfl S4.1 Tryd.underlying26 rfl (by kernel_rfl) (n + 1) 29 #[.int .i64 0, .int .i64 0] (0, 0) _ rfl S4.2 Tryd.underlying29 rfl (by kernel_rfl)) rfl ?_
                      exact ⟨(show _ = Ending.returned (vRes ⟨bE, q, 0, 0⟩) from rfl).trans (retRes HX.out.symm), by rw [HNN.out]; exact below_four QM.out.below (Nat.le_refl _)⟩
                    · have HX : Hid (res = bad 3 (p 3)) := Lib.hid (by rw [HPL.out]; unfold fin1; rw [if_pos a0]; unfold fin3; rw [if_neg b0, if_pos b1]; unfold fin4; rw [if_neg b2, if_neg (by rw [nm]; simp), if_neg (by rw [hq]; exact b3), hq]; unfold fin5; rw [if_neg b4])
                      obtain ⟨⟨r0, r1⟩, ⟨r2, r3⟩, ⟨f0, f1⟩, ⟨f2, f3⟩⟩ := QM.out.res
                      have hzn := lt_of_heap QM.out.flt
                      have hzc := QM.out.ln
                      have hza := QM.out.na
                      have l0 : (0 : Int) < ws.length + 5 := by omega
                      have l1 : (1 : Int) < ws.length + 5 := by omega
                      have l2 : (2 : Int) < ws.length + 5 := by omega
                      have l3 : (3 : Int) < ws.length + 5 := by omega
                      have l4 : (4 : Int) < ws.length + 5 := by omega
                      have nz1 : ga ≠ n := by omega
                      have nz2 : ga ≠ n + 1 := by omega
                      have y3 := QM.out.cw 3 (by omega)
                      have dn30 := bytes_lit (a := t 3) (l := []) b4
                      have dm30 := bytes_no (a := t 3) (b := ⟨#[]⟩) b4
                      have di3 := isE_no (a := t 3) b4
                      have z0 := QM.out.ca 3 (by omega)
                      go_wp2
                      go_region
                      all_goals (
                        go_wp2
                        (try simp only [Exit.inBlock, Exit.then])
                        have S4 := set_four_d (a' := .string ⟨#[]⟩) (b' := .int .i64 0) (c' := .int .i64 3) (d' := .int .i64 (p 3 : Nat)) QM.out.act QM.out.flt
                        refine bodyPost_ret (results_rows rfl _ _ n 26 #[.string ⟨#[]⟩, .int .i64 0] (0, 0) _ rfl S4.1 Tryd.underlying26 rfl (by kernel_rfl) (n + 1) 29 #[.int .i64 3, .int .i64 (p 3 : Nat)] (0, 0) _ rfl S4.2 Tryd.underlying29 rfl (by kernel_rfl)) rfl ?_
                        exact ⟨(show _ = Ending.returned (vRes (bad 3 (p 3))) from rfl).trans (retRes HX.out.symm), by rw [HNN.out]; exact (below_four QM.out.below (Nat.le_refl _)).drew⟩)
              · have HX : Hid (res = bad 3 (p 1)) := Lib.hid (by rw [HPL.out]; unfold fin1; rw [if_pos a0]; unfold fin3; rw [if_neg b0, if_neg b1])
                obtain ⟨⟨r0, r1⟩, ⟨r2, r3⟩, ⟨f0, f1⟩, ⟨f2, f3⟩⟩ := QM.out.res
                have hzn := lt_of_heap QM.out.flt
                have hzc := QM.out.ln
                have hza := QM.out.na
                have l0 : (0 : Int) < ws.length + 5 := by omega
                have l1 : (1 : Int) < ws.length + 5 := by omega
                have l2 : (2 : Int) < ws.length + 5 := by omega
                have l3 : (3 : Int) < ws.length + 5 := by omega
                have l4 : (4 : Int) < ws.length + 5 := by omega
                have nz1 : ga ≠ n := by omega
                have nz2 : ga ≠ n + 1 := by omega
                have y1 := QM.out.cw 1 (by omega)
                have dn10 := bytes_lit (a := t 1) (l := []) b0
                have dm10 := bytes_no (a := t 1) (b := ⟨#[]⟩) b0
                have di1 := isE_no (a := t 1) b0
                have dn11 := bytes_lit (a := t 1) (l := [103, 111, 116, 111]) b1
                have dm11 := bytes_no (a := t 1) (b := ⟨#[103, 111, 116, 111]⟩) b1
                have z0 := QM.out.ca 1 (by omega)
                go_wp2
                go_region
                all_goals (
                  go_wp2
                  (try simp only [Exit.inBlock, Exit.then])
                  have S4 := set_four_d (a' := .string ⟨#[]⟩) (b' := .int .i64 0) (c' := .int .i64 3) (d' := .int .i64 (p 1 : Nat)) QM.out.act QM.out.flt
                  refine bodyPost_ret (results_rows rfl _ _ n 26 #[.string ⟨#[]⟩, .int .i64 0] (0, 0) _ rfl S4.1 Tryd.underlying26 rfl (by kernel_rfl) (n + 1) 29 #[.int .i64 3, .int .i64 (p 1 : Nat)] (0, 0) _ rfl S4.2 Tryd.underlying29 rfl (by kernel_rfl)) rfl ?_
                  exact ⟨(show _ = Ending.returned (vRes (bad 3 (p 1))) from rfl).trans (retRes HX.out.symm), by rw [HNN.out]; exact (below_four QM.out.below (Nat.le_refl _)).drew⟩)
          · by_cases a1 : t 0 = bEmit
            · by_cases a2 : t 1 = bE
              · have HX : Hid (res = bad 3 (p 1)) := Lib.hid (by rw [HPL.out]; unfold fin1; rw [if_neg a0, if_pos a1]; unfold fin2; rw [if_pos a2])
                obtain ⟨⟨r0, r1⟩, ⟨r2, r3⟩, ⟨f0, f1⟩, ⟨f2, f3⟩⟩ := QM.out.res
                have hzn := lt_of_heap QM.out.flt
                have hzc := QM.out.ln
                have hza := QM.out.na
                have l0 : (0 : Int) < ws.length + 5 := by omega
                have l1 : (1 : Int) < ws.length + 5 := by omega
                have l2 : (2 : Int) < ws.length + 5 := by omega
                have l3 : (3 : Int) < ws.length + 5 := by omega
                have l4 : (4 : Int) < ws.length + 5 := by omega
                have nz1 : ga ≠ n := by omega
                have nz2 : ga ≠ n + 1 := by omega
                have y0 := QM.out.cw 0 (by omega)
                rw [show t 0 = ⟨#[101, 109, 105, 116]⟩ from a1] at y0
                have y1 := QM.out.cw 1 (by omega)
                rw [show t 1 = ⟨#[]⟩ from a2] at y1
                have z0 := QM.out.ca 1 (by omega)
                go_wp2
                go_region
                all_goals (
                  go_wp2
                  (try simp only [Exit.inBlock, Exit.then])
                  have S4 := set_four_d (a' := .string ⟨#[]⟩) (b' := .int .i64 0) (c' := .int .i64 3) (d' := .int .i64 (p 1 : Nat)) QM.out.act QM.out.flt
                  refine bodyPost_ret (results_rows rfl _ _ n 26 #[.string ⟨#[]⟩, .int .i64 0] (0, 0) _ rfl S4.1 Tryd.underlying26 rfl (by kernel_rfl) (n + 1) 29 #[.int .i64 3, .int .i64 (p 1 : Nat)] (0, 0) _ rfl S4.2 Tryd.underlying29 rfl (by kernel_rfl)) rfl ?_
                  exact ⟨(show _ = Ending.returned (vRes (bad 3 (p 1))) from rfl).trans (retRes HX.out.symm), by rw [HNN.out]; exact (below_four QM.out.below (Nat.le_refl _)).drew⟩)
              have NM := Lib.hid (fun W => (name_both (t 1) (by have := HTZ.out 1; unfold maxLen; omega) W).2)
              cases na : nameL (t 1).data.toList
              · rw [na] at NM
                have HX : Hid (res = bad 4 (p 1)) := Lib.hid (by rw [HPL.out]; unfold fin1; rw [if_neg a0, if_pos a1]; unfold fin2; rw [if_neg a2, if_pos na])
                obtain ⟨⟨r0, r1⟩, ⟨r2, r3⟩, ⟨f0, f1⟩, ⟨f2, f3⟩⟩ := QM.out.res
                have hzn := lt_of_heap QM.out.flt
                have hzc := QM.out.ln
                have hza := QM.out.na
                have l0 : (0 : Int) < ws.length + 5 := by omega
                have l1 : (1 : Int) < ws.length + 5 := by omega
                have l2 : (2 : Int) < ws.length + 5 := by omega
                have l3 : (3 : Int) < ws.length + 5 := by omega
                have l4 : (4 : Int) < ws.length + 5 := by omega
                have nz1 : ga ≠ n := by omega
                have nz2 : ga ≠ n + 1 := by omega
                have y0 := QM.out.cw 0 (by omega)
                rw [show t 0 = ⟨#[101, 109, 105, 116]⟩ from a1] at y0
                have y1 := QM.out.cw 1 (by omega)
                have dn10 := bytes_lit (a := t 1) (l := []) a2
                have dm10 := bytes_no (a := t 1) (b := ⟨#[]⟩) a2
                have di1 := isE_no (a := t 1) a2
                have z0 := QM.out.ca 1 (by omega)
                go_wp2_with (first
                  | (go_at_call 16; (with_reducible refine (NM.out _).mono ?_); rintro e w' ⟨rfl, rfl⟩)
                  | fail)
                go_region
                all_goals (
                  go_wp2
                  (try simp only [Exit.inBlock, Exit.then])
                  have S4 := set_four_d (a' := .string ⟨#[]⟩) (b' := .int .i64 0) (c' := .int .i64 4) (d' := .int .i64 (p 1 : Nat)) QM.out.act QM.out.flt
                  refine bodyPost_ret (results_rows rfl _ _ n 26 #[.string ⟨#[]⟩, .int .i64 0] (0, 0) _ rfl S4.1 Tryd.underlying26 rfl (by kernel_rfl) (n + 1) 29 #[.int .i64 4, .int .i64 (p 1 : Nat)] (0, 0) _ rfl S4.2 Tryd.underlying29 rfl (by kernel_rfl)) rfl ?_
                  exact ⟨(show _ = Ending.returned (vRes (bad 4 (p 1))) from rfl).trans (retRes HX.out.symm), by rw [HNN.out]; exact (below_four QM.out.below (Nat.le_refl _)).drew⟩)
              · rw [na] at NM
                have y0 := QM.out.cw 0 (by omega)
                rw [show t 0 = ⟨#[101, 109, 105, 116]⟩ from a1] at y0
                have y1 := QM.out.cw 1 (by omega)
                have dn10 := bytes_lit (a := t 1) (l := []) a2
                have dm10 := bytes_no (a := t 1) (b := ⟨#[]⟩) a2
                have di1 := isE_no (a := t 1) a2
                have f9 := frozen_of_row _ C 0 _ _ QM.out.box
                obtain ⟨x0, x1⟩ := cells_two QM.out.box
                have hzc := lt_of_heap QM.out.box
                go_upto_region 25 with (first
                  | (go_at_call 16; (with_reducible refine (NM.out _).mono ?_); rintro e w' ⟨rfl, rfl⟩)
                  | fail)
                have QM2 := Lib.hid (QM.out.em (t 1))
                clear QM f9 x0 x1 y0 y1 NM
                generalize World.setCell _ ⟨C, 0, none⟩ (.string (t 1)) = w5 at *
                have QM := QM2
                clear QM2
                by_cases b0 : t 2 = bE
                · have HX : Hid (res = ⟨t 1, -1, 0, 0⟩) := Lib.hid (by rw [HPL.out]; unfold fin1; rw [if_neg a0, if_pos a1]; unfold fin2; rw [if_neg a2, if_neg (by rw [na]; simp)]; unfold fin3; rw [if_pos b0])
                  obtain ⟨⟨r0, r1⟩, ⟨r2, r3⟩, ⟨f0, f1⟩, ⟨f2, f3⟩⟩ := QM.out.res
                  have hzn := lt_of_heap QM.out.flt
                  have hzc := QM.out.ln
                  have hza := QM.out.na
                  have l0 : (0 : Int) < ws.length + 5 := by omega
                  have l1 : (1 : Int) < ws.length + 5 := by omega
                  have l2 : (2 : Int) < ws.length + 5 := by omega
                  have l3 : (3 : Int) < ws.length + 5 := by omega
                  have l4 : (4 : Int) < ws.length + 5 := by omega
                  have nz1 : ga ≠ n := by omega
                  have nz2 : ga ≠ n + 1 := by omega
                  have y2 := QM.out.cw 2 (by omega)
                  rw [show t 2 = ⟨#[]⟩ from b0] at y2
                  obtain ⟨x0, x1⟩ := cells_two QM.out.box
                  go_wp2
                  (try simp only [Exit.inBlock, Exit.then])
                  have S4 := set_four (a' := .string (t 1)) (b' := .int .i64 (-1)) (c' := .int .i64 0) (d' := .int .i64 0) QM.out.act QM.out.flt
                  refine bodyPost_ret (results_rows rfl _ _ n 26 #[.string (t 1), .int .i64 (-1)] (0, 0) _ rfl S4.1 Tryd.underlying26 rfl (by kernel_rfl) (n + 1) 29 #[.int .i64 0, .int .i64 0] (0, 0) _ rfl S4.2 Tryd.underlying29 rfl (by kernel_rfl)) rfl ?_
                  exact ⟨(show _ = Ending.returned (vRes ⟨t 1, -1, 0, 0⟩) from rfl).trans (retRes HX.out.symm), by rw [HNN.out]; exact below_four QM.out.below (Nat.le_refl _)⟩
                · by_cases b1 : t 2 = bGoto
                  · by_cases b2 : t 3 = bE
                    · have HX : Hid (res = bad 3 (p 3)) := Lib.hid (by rw [HPL.out]; unfold fin1; rw [if_neg a0, if_pos a1]; unfold fin2; rw [if_neg a2, if_neg (by rw [na]; simp)]; unfold fin3; rw [if_neg b0, if_pos b1]; unfold fin4; rw [if_pos b2])
                      obtain ⟨⟨r0, r1⟩, ⟨r2, r3⟩, ⟨f0, f1⟩, ⟨f2, f3⟩⟩ := QM.out.res
                      have hzn := lt_of_heap QM.out.flt
                      have hzc := QM.out.ln
                      have hza := QM.out.na
                      have l0 : (0 : Int) < ws.length + 5 := by omega
                      have l1 : (1 : Int) < ws.length + 5 := by omega
                      have l2 : (2 : Int) < ws.length + 5 := by omega
                      have l3 : (3 : Int) < ws.length + 5 := by omega
                      have l4 : (4 : Int) < ws.length + 5 := by omega
                      have nz1 : ga ≠ n := by omega
                      have nz2 : ga ≠ n + 1 := by omega
                      have y2 := QM.out.cw 2 (by omega)
                      rw [show t 2 = ⟨#[103, 111, 116, 111]⟩ from b1] at y2
                      have y3 := QM.out.cw 3 (by omega)
                      rw [show t 3 = ⟨#[]⟩ from b2] at y3
                      have z0 := QM.out.ca 3 (by omega)
                      go_wp2
                      go_region
                      all_goals (
                        go_wp2
                        (try simp only [Exit.inBlock, Exit.then])
                        have S4 := set_four_d (a' := .string ⟨#[]⟩) (b' := .int .i64 0) (c' := .int .i64 3) (d' := .int .i64 (p 3 : Nat)) QM.out.act QM.out.flt
                        refine bodyPost_ret (results_rows rfl _ _ n 26 #[.string ⟨#[]⟩, .int .i64 0] (0, 0) _ rfl S4.1 Tryd.underlying26 rfl (by kernel_rfl) (n + 1) 29 #[.int .i64 3, .int .i64 (p 3 : Nat)] (0, 0) _ rfl S4.2 Tryd.underlying29 rfl (by kernel_rfl)) rfl ?_
                        exact ⟨(show _ = Ending.returned (vRes (bad 3 (p 3))) from rfl).trans (retRes HX.out.symm), by rw [HNN.out]; exact (below_four QM.out.below (Nat.le_refl _)).drew⟩)
                    have NM := Lib.hid (fun W => (name_both (t 3) (by have := HTZ.out 3; unfold maxLen; omega) W).2)
                    cases nm : nameL (t 3).data.toList
                    · rw [nm] at NM
                      have HX : Hid (res = bad 4 (p 3)) := Lib.hid (by rw [HPL.out]; unfold fin1; rw [if_neg a0, if_pos a1]; unfold fin2; rw [if_neg a2, if_neg (by rw [na]; simp)]; unfold fin3; rw [if_neg b0, if_pos b1]; unfold fin4; rw [if_neg b2, if_pos nm])
                      obtain ⟨⟨r0, r1⟩, ⟨r2, r3⟩, ⟨f0, f1⟩, ⟨f2, f3⟩⟩ := QM.out.res
                      have hzn := lt_of_heap QM.out.flt
                      have hzc := QM.out.ln
                      have hza := QM.out.na
                      have l0 : (0 : Int) < ws.length + 5 := by omega
                      have l1 : (1 : Int) < ws.length + 5 := by omega
                      have l2 : (2 : Int) < ws.length + 5 := by omega
                      have l3 : (3 : Int) < ws.length + 5 := by omega
                      have l4 : (4 : Int) < ws.length + 5 := by omega
                      have nz1 : ga ≠ n := by omega
                      have nz2 : ga ≠ n + 1 := by omega
                      have y2 := QM.out.cw 2 (by omega)
                      rw [show t 2 = ⟨#[103, 111, 116, 111]⟩ from b1] at y2
                      have y3 := QM.out.cw 3 (by omega)
                      have dn30 := bytes_lit (a := t 3) (l := []) b2
                      have dm30 := bytes_no (a := t 3) (b := ⟨#[]⟩) b2
                      have di3 := isE_no (a := t 3) b2
                      have z0 := QM.out.ca 3 (by omega)
                      go_wp2_with (first
                        | (go_at_call 16; (with_reducible refine (NM.out _).mono ?_); rintro e w' ⟨rfl, rfl⟩)
                        | fail)
                      go_region
                      all_goals (
                        go_wp2
                        (try simp only [Exit.inBlock, Exit.then])
                        have S4 := set_four_d (a' := .string ⟨#[]⟩) (b' := .int .i64 0) (c' := .int .i64 4) (d' := .int .i64 (p 3 : Nat)) QM.out.act QM.out.flt
                        refine bodyPost_ret (results_rows rfl _ _ n 26 #[.string ⟨#[]⟩, .int .i64 0] (0, 0) _ rfl S4.1 Tryd.underlying26 rfl (by kernel_rfl) (n + 1) 29 #[.int .i64 4, .int .i64 (p 3 : Nat)] (0, 0) _ rfl S4.2 Tryd.underlying29 rfl (by kernel_rfl)) rfl ?_
                        exact ⟨(show _ = Ending.returned (vRes (bad 4 (p 3))) from rfl).trans (retRes HX.out.symm), by rw [HNN.out]; exact (below_four QM.out.below (Nat.le_refl _)).drew⟩)
                    · rw [nm] at NM
                      have PL := Lib.hid (place_any M v (t 3) _ (HV.out.next (by rw [HNN.out]; exact QM.out.below)))
                      have f9 := frozen_of_row _ C 1 _ _ QM.out.box
                      obtain ⟨x0, x1⟩ := cells_two QM.out.box
                      have hzc := lt_of_heap QM.out.box
                      have y2 := QM.out.cw 2 (by omega)
                      rw [show t 2 = ⟨#[103, 111, 116, 111]⟩ from b1] at y2
                      have y3 := QM.out.cw 3 (by omega)
                      have dn30 := bytes_lit (a := t 3) (l := []) b2
                      have dm30 := bytes_no (a := t 3) (b := ⟨#[]⟩) b2
                      have di3 := isE_no (a := t 3) b2
                      obtain ⟨q, hq⟩ : ∃ q, numL M (t 3) = q := ⟨_, rfl⟩
                      rw [hq] at PL
                      go_upto_region 34 with (first
                        | (go_at_call 16; (with_reducible refine (NM.out _).mono ?_); rintro e w' ⟨rfl, rfl⟩)
                        | (go_at_call 17; (with_reducible refine PL.out.mono ?_); rintro e w' ⟨rfl, rfl⟩)
                        | fail)
                      have QM2 := Lib.hid (QM.out.num q)
                      clear QM PL f9 x0 x1 y2 y3
                      generalize World.setCell _ ⟨C, 1, none⟩ (.int .i64 q) = w6 at *
                      have QM := QM2
                      clear QM2
                      obtain ⟨x0, x1⟩ := cells_two QM.out.box
                      by_cases b3 : q = -1
                      · subst b3
                        have HX : Hid (res = bad 11 (p 3)) := Lib.hid (by rw [HPL.out]; unfold fin1; rw [if_neg a0, if_pos a1]; unfold fin2; rw [if_neg a2, if_neg (by rw [na]; simp)]; unfold fin3; rw [if_neg b0, if_pos b1]; unfold fin4; rw [if_neg b2, if_neg (by rw [nm]; simp), if_pos hq])
                        obtain ⟨⟨r0, r1⟩, ⟨r2, r3⟩, ⟨f0, f1⟩, ⟨f2, f3⟩⟩ := QM.out.res
                        have hzn := lt_of_heap QM.out.flt
                        have hzc := QM.out.ln
                        have hza := QM.out.na
                        have l0 : (0 : Int) < ws.length + 5 := by omega
                        have l1 : (1 : Int) < ws.length + 5 := by omega
                        have l2 : (2 : Int) < ws.length + 5 := by omega
                        have l3 : (3 : Int) < ws.length + 5 := by omega
                        have l4 : (4 : Int) < ws.length + 5 := by omega
                        have nz1 : ga ≠ n := by omega
                        have nz2 : ga ≠ n + 1 := by omega
                        have z0 := QM.out.ca 3 (by omega)
                        go_wp2
                        go_region
                        all_goals (
                          go_wp2
                          (try simp only [Exit.inBlock, Exit.then])
                          have S4 := set_four_d (a' := .string ⟨#[]⟩) (b' := .int .i64 0) (c' := .int .i64 11) (d' := .int .i64 (p 3 : Nat)) QM.out.act QM.out.flt
                          refine bodyPost_ret (results_rows rfl _ _ n 26 #[.string ⟨#[]⟩, .int .i64 0] (0, 0) _ rfl S4.1 Tryd.underlying26 rfl (by kernel_rfl) (n + 1) 29 #[.int .i64 11, .int .i64 (p 3 : Nat)] (0, 0) _ rfl S4.2 Tryd.underlying29 rfl (by kernel_rfl)) rfl ?_
                          exact ⟨(show _ = Ending.returned (vRes (bad 11 (p 3))) from rfl).trans (retRes HX.out.symm), by rw [HNN.out]; exact (below_four QM.out.below (Nat.le_refl _)).drew⟩)
                      · have hnq := num_lt M (t 3)
                        rw [hq] at hnq
                        have b5 : 0 ≤ q := by omega
                        have d9 : decide (q < 0) = false := by simpa using b5
                        by_cases b4 : t 4 = bE
                        · have HX : Hid (res = ⟨t 1, q, 0, 0⟩) := Lib.hid (by rw [HPL.out]; unfold fin1; rw [if_neg a0, if_pos a1]; unfold fin2; rw [if_neg a2, if_neg (by rw [na]; simp)]; unfold fin3; rw [if_neg b0, if_pos b1]; unfold fin4; rw [if_neg b2, if_neg (by rw [nm]; simp), if_neg (by rw [hq]; exact b3), hq]; unfold fin5; rw [if_pos b4])
                          obtain ⟨⟨r0, r1⟩, ⟨r2, r3⟩, ⟨f0, f1⟩, ⟨f2, f3⟩⟩ := QM.out.res
                          have hzn := lt_of_heap QM.out.flt
                          have hzc := QM.out.ln
                          have hza := QM.out.na
                          have l0 : (0 : Int) < ws.length + 5 := by omega
                          have l1 : (1 : Int) < ws.length + 5 := by omega
                          have l2 : (2 : Int) < ws.length + 5 := by omega
                          have l3 : (3 : Int) < ws.length + 5 := by omega
                          have l4 : (4 : Int) < ws.length + 5 := by omega
                          have nz1 : ga ≠ n := by omega
                          have nz2 : ga ≠ n + 1 := by omega
                          have y4 := QM.out.cw 4 (by omega)
                          rw [show t 4 = ⟨#[]⟩ from b4] at y4
                          obtain ⟨x0, x1⟩ := cells_two QM.out.box
                          go_wp2
                          (try simp only [Exit.inBlock, Exit.then])
                          have S4 := set_four (a' := .string (t 1)) (b' := .int .i64 (q)) (c' := .int .i64 0) (d' := .int .i64 0) QM.out.act QM.out.flt
                          refine bodyPost_ret (results_rows rfl _ _ n 26 #[.string (t 1), .int .i64 (q)] (0, 0) _ rfl S4.1 Tryd.underlying26 rfl (by kernel_rfl) (n + 1) 29 #[.int .i64 0, .int .i64 0] (0, 0) _ rfl S4.2 Tryd.underlying29 rfl (by kernel_rfl)) rfl ?_
                          exact ⟨(show _ = Ending.returned (vRes ⟨t 1, q, 0, 0⟩) from rfl).trans (retRes HX.out.symm), by rw [HNN.out]; exact below_four QM.out.below (Nat.le_refl _)⟩
                        · have HX : Hid (res = bad 3 (p 4)) := Lib.hid (by rw [HPL.out]; unfold fin1; rw [if_neg a0, if_pos a1]; unfold fin2; rw [if_neg a2, if_neg (by rw [na]; simp)]; unfold fin3; rw [if_neg b0, if_pos b1]; unfold fin4; rw [if_neg b2, if_neg (by rw [nm]; simp), if_neg (by rw [hq]; exact b3), hq]; unfold fin5; rw [if_neg b4])
                          obtain ⟨⟨r0, r1⟩, ⟨r2, r3⟩, ⟨f0, f1⟩, ⟨f2, f3⟩⟩ := QM.out.res
                          have hzn := lt_of_heap QM.out.flt
                          have hzc := QM.out.ln
                          have hza := QM.out.na
                          have l0 : (0 : Int) < ws.length + 5 := by omega
                          have l1 : (1 : Int) < ws.length + 5 := by omega
                          have l2 : (2 : Int) < ws.length + 5 := by omega
                          have l3 : (3 : Int) < ws.length + 5 := by omega
                          have l4 : (4 : Int) < ws.length + 5 := by omega
                          have nz1 : ga ≠ n := by omega
                          have nz2 : ga ≠ n + 1 := by omega
                          have y4 := QM.out.cw 4 (by omega)
                          have dn40 := bytes_lit (a := t 4) (l := []) b4
                          have dm40 := bytes_no (a := t 4) (b := ⟨#[]⟩) b4
                          have di4 := isE_no (a := t 4) b4
                          have z0 := QM.out.ca 4 (by omega)
                          go_wp2
                          go_region
                          all_goals (
                            go_wp2
                            (try simp only [Exit.inBlock, Exit.then])
                            have S4 := set_four_d (a' := .string ⟨#[]⟩) (b' := .int .i64 0) (c' := .int .i64 3) (d' := .int .i64 (p 4 : Nat)) QM.out.act QM.out.flt
                            refine bodyPost_ret (results_rows rfl _ _ n 26 #[.string ⟨#[]⟩, .int .i64 0] (0, 0) _ rfl S4.1 Tryd.underlying26 rfl (by kernel_rfl) (n + 1) 29 #[.int .i64 3, .int .i64 (p 4 : Nat)] (0, 0) _ rfl S4.2 Tryd.underlying29 rfl (by kernel_rfl)) rfl ?_
                            exact ⟨(show _ = Ending.returned (vRes (bad 3 (p 4))) from rfl).trans (retRes HX.out.symm), by rw [HNN.out]; exact (below_four QM.out.below (Nat.le_refl _)).drew⟩)
                  · have HX : Hid (res = bad 3 (p 2)) := Lib.hid (by rw [HPL.out]; unfold fin1; rw [if_neg a0, if_pos a1]; unfold fin2; rw [if_neg a2, if_neg (by rw [na]; simp)]; unfold fin3; rw [if_neg b0, if_neg b1])
                    obtain ⟨⟨r0, r1⟩, ⟨r2, r3⟩, ⟨f0, f1⟩, ⟨f2, f3⟩⟩ := QM.out.res
                    have hzn := lt_of_heap QM.out.flt
                    have hzc := QM.out.ln
                    have hza := QM.out.na
                    have l0 : (0 : Int) < ws.length + 5 := by omega
                    have l1 : (1 : Int) < ws.length + 5 := by omega
                    have l2 : (2 : Int) < ws.length + 5 := by omega
                    have l3 : (3 : Int) < ws.length + 5 := by omega
                    have l4 : (4 : Int) < ws.length + 5 := by omega
                    have nz1 : ga ≠ n := by omega
                    have nz2 : ga ≠ n + 1 := by omega
                    have y2 := QM.out.cw 2 (by omega)
                    have dn20 := bytes_lit (a := t 2) (l := []) b0
                    have dm20 := bytes_no (a := t 2) (b := ⟨#[]⟩) b0
                    have di2 := isE_no (a := t 2) b0
                    have dn21 := bytes_lit (a := t 2) (l := [103, 111, 116, 111]) b1
                    have dm21 := bytes_no (a := t 2) (b := ⟨#[103, 111, 116, 111]⟩) b1
                    have z0 := QM.out.ca 2 (by omega)
                    go_wp2
                    go_region
                    all_goals (
                      go_wp2
                      (try simp only [Exit.inBlock, Exit.then])
                      have S4 := set_four_d (a' := .string ⟨#[]⟩) (b' := .int .i64 0) (c' := .int .i64 3) (d' := .int .i64 (p 2 : Nat)) QM.out.act QM.out.flt
                      refine bodyPost_ret (results_rows rfl _ _ n 26 #[.string ⟨#[]⟩, .int .i64 0] (0, 0) _ rfl S4.1 Tryd.underlying26 rfl (by kernel_rfl) (n + 1) 29 #[.int .i64 3, .int .i64 (p 2 : Nat)] (0, 0) _ rfl S4.2 Tryd.underlying29 rfl (by kernel_rfl)) rfl ?_
                      exact ⟨(show _ = Ending.returned (vRes (bad 3 (p 2))) from rfl).trans (retRes HX.out.symm), by rw [HNN.out]; exact (below_four QM.out.below (Nat.le_refl _)).drew⟩)
            · have HX : Hid (res = bad 3 (p 0)) := Lib.hid (by rw [HPL.out]; unfold fin1; rw [if_neg a0, if_neg a1])
              obtain ⟨⟨r0, r1⟩, ⟨r2, r3⟩, ⟨f0, f1⟩, ⟨f2, f3⟩⟩ := QM.out.res
              have hzn := lt_of_heap QM.out.flt
              have hzc := QM.out.ln
              have hza := QM.out.na
              have l0 : (0 : Int) < ws.length + 5 := by omega
              have l1 : (1 : Int) < ws.length + 5 := by omega
              have l2 : (2 : Int) < ws.length + 5 := by omega
              have l3 : (3 : Int) < ws.length + 5 := by omega
              have l4 : (4 : Int) < ws.length + 5 := by omega
              have nz1 : ga ≠ n := by omega
              have nz2 : ga ≠ n + 1 := by omega
              have y0 := QM.out.cw 0 (by omega)
              have dn00 := bytes_lit (a := t 0) (l := [115, 107, 105, 112]) a0
              have dm00 := bytes_no (a := t 0) (b := ⟨#[115, 107, 105, 112]⟩) a0
              have dn01 := bytes_lit (a := t 0) (l := [101, 109, 105, 116]) a1
              have dm01 := bytes_no (a := t 0) (b := ⟨#[101, 109, 105, 116]⟩) a1
              have z0 := QM.out.ca 0 (by omega)
              go_wp2
              go_region
              all_goals (
                go_wp2
                (try simp only [Exit.inBlock, Exit.then])
                have S4 := set_four_d (a' := .string ⟨#[]⟩) (b' := .int .i64 0) (c' := .int .i64 3) (d' := .int .i64 (p 0 : Nat)) QM.out.act QM.out.flt
                refine bodyPost_ret (results_rows rfl _ _ n 26 #[.string ⟨#[]⟩, .int .i64 0] (0, 0) _ rfl S4.1 Tryd.underlying26 rfl (by kernel_rfl) (n + 1) 29 #[.int .i64 3, .int .i64 (p 0 : Nat)] (0, 0) _ rfl S4.2 Tryd.underlying29 rfl (by kernel_rfl)) rfl ?_
                exact ⟨(show _ = Ending.returned (vRes (bad 3 (p 0))) from rfl).trans (retRes HX.out.symm), by rw [HNN.out]; exact (below_four QM.out.below (Nat.le_refl _)).drew⟩)

end Go.Proofs.YtleejfkononjgaaDoor.Ac

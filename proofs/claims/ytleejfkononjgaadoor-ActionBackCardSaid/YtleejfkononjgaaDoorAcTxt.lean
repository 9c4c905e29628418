/- Text, of an action that may be. -/
import Derived.Test.YtleejfkononjgaaDoorAcText
import Derived.Laws.OwnMore
import Derived.Deep.AppendLies
import Derived.Lib.Join
namespace Go.Proofs.YtleejfkononjgaaDoor.Ac
open Go Go.RowKit Go.Shelf Go.Proofs.YtleejfkononjgaaDoor.Wd

theorem infoS : (Tryd.prog.info? 9).map (fun i => (i.zero, i.size, i.bytes)) = some (some (.string ⟨#[]⟩), 1, 16) := by kernel_rfl
theorem join_joinW : ∀ l : List (List UInt8), Lib.join l [32] = joinW l
  | [] => rfl
  | [w] => by rw [Lib.join_one]; rfl
  | w :: x :: r => by
    have := join_joinW (x :: r)
    rw [joinW, ← this]
    simp [Lib.join, List.intercalate, List.intersperse]
theorem joinB_eq (ws : List ByteArray) : (⟨(Lib.join (ws.map (·.data.toList)) (⟨#[32]⟩ : ByteArray).data.toList).toArray⟩ : ByteArray) = joinB ws := by
  unfold joinB
  rw [show ((⟨#[32]⟩ : ByteArray).data.toList) = [32] from rfl, join_joinW]
theorem retStr {a b : ByteArray} (h : a = b) : Ending.returned (.string a) = .returned (.string b) := by rw [h]
theorem row_form {w : World} {base n : Nat} {v : Value} {xs : List Value} (h : w.ownsRow base 9 1 v n xs) (hn : 0 < n) : ∃ g cap, v = .slice (some ⟨g, 0, none⟩) n cap ∧ n ≤ cap ∧ g < w.heap.size ∧ ∀ j, j < n → w.cell? ⟨g, j, none⟩ = xs[j]? := by
  rcases h.2 with ⟨_, h0⟩ | ⟨g, cap, cur, rfl, hb, hg, hnc, _⟩
  · omega
  · exact ⟨g, cap, rfl, hnc, lt_of_heap hg, fun j hj => h.cellAt j (by omega)⟩
theorem join_size (ws : List ByteArray) (B : Nat) (h : ∀ w ∈ ws, w.size ≤ B) : (joinW (ws.map (·.data.toList))).length ≤ ws.length * (B + 1) := by
  induction ws with
  | nil => simp [joinW]
  | cons x r ih =>
    have hx := h x (by simp)
    have hr := ih (fun w hw => h w (by simp [hw]))
    have hxl : x.data.toList.length = x.size := rfl
    have e : (r.length + 1) * (B + 1) = r.length * (B + 1) + (B + 1) := by rw [Nat.add_mul, Nat.one_mul]
    cases r with
    | nil => simp [joinW] at hr ⊢; omega
    | cons y t =>
      rw [List.map_cons, List.map_cons, joinW, List.length_append, List.length_cons]
      have hr2 : (joinW (y.data.toList :: t.map (·.data.toList))).length ≤ (y :: t).length * (B + 1) := hr
      show _ ≤ ((y :: t).length + 1) * (B + 1)
      rw [e]
      omega
/-- the joining of a row of texts that the call owns -/
theorem join_any (ws : List ByteArray) (base : Nat) (v : Value) (w : World) (hn : 0 < ws.length) (h4 : ws.length ≤ 4) (h : w.ownsRow base 9 1 v ws.length (ws.map Value.string)) (hs : ∀ x ∈ ws, x.size ≤ 1000000) :
    Calls Tryd.prog 18 #[v, .string ⟨#[32]⟩] w fun e w' => e = .returned (.string (joinB ws)) ∧ Below w.heap.size w w' := by
  obtain ⟨g, cap, rfl, hc, hg, hcell⟩ := row_form h hn
  have := join_size ws 1000000 hs
  refine (Tryd.strings_Join g 0 cap ws ⟨#[32]⟩ w (fun j x hx => ?_) hg (by omega) hc ?_).mono fun e w' hh => ?_
  · have hj : j < ws.length := (List.getElem?_eq_some_iff.1 hx).1
    rw [Nat.zero_add, hcell j hj, List.getElem?_map, hx]; rfl
  · rw [show ((⟨#[32]⟩ : ByteArray).data.toList) = [32] from rfl, join_joinW]; omega
  · rw [joinB_eq] at hh; exact hh
set_option maxRecDepth 100000 in
set_option maxHeartbeats 4000000 in
theorem text_skip (M : List ByteArray) (v : Value) (w : World) (hv : StrsAt w v M) :
    Calls Tryd.prog 11 #[.agg #[.string ⟨#[]⟩, .int .i64 (-1)], v] w fun e w' => e = .returned (.string (joinB [⟨#[115, 107, 105, 112]⟩])) ∧ Below w.heap.size w w' := by
  have RT := fun (W : World) (h : Below w.heap.size w W) => right_neg ⟨#[]⟩ (-1) M v W (hv.next h) (by decide) (.inl rfl) (by omega)
  have RR := Lib.hid RT
  clear RT hv
  obtain ⟨i0, hi, hz0, hz1, hz2⟩ := info_parts infoS
  go_enter Tryd.func11, Tryd.ntmps11
  go_upto_region 1 with fail
  have hb1 := (Below.refl w.heap.size w).alloc (Nat.le_refl _) (.cells #[.string ⟨#[]⟩, .int .i64 (-1)] 26)
  have hx1 : (w.alloc (.cells #[.string ⟨#[]⟩, .int .i64 (-1)] 26)).heap[w.heap.size]? = some (.cells #[.string ⟨#[]⟩, .int .i64 (-1)] 26 (0, 0)) := heap_alloc_new w _
  generalize w.alloc (.cells #[.string ⟨#[]⟩, .int .i64 (-1)] 26) = w1 at *
  obtain ⟨e0, e1⟩ := cells_two hx1
  have hl1 := lt_of_heap hx1
  have B1 := Lib.hid hb1
  clear hb1 hx1
  go_upto_region 3 with (first
    | (go_at_call 12; ((with_reducible refine (RR.out _ B1.out).mono ?_); rintro e w2 ⟨rfl, hb⟩); go_must (replace e0 := cell_next e0 hb; replace e1 := cell_next e1 hb; have hl2 := Nat.lt_of_lt_of_le hl1 hb.size; have B2 := Lib.hid (B1.out.trans (hb.mono B1.out.size)); clear hb))
    | fail)
  clear RR B1 hl1
  have hb3 : Below w.heap.size w (w2.alloc (.cells #[.string ⟨#[115, 107, 105, 112]⟩] 9)) := (B2.out.alloc (by omega) _)
  have ow3 : (w2.alloc (.cells #[.string ⟨#[115, 107, 105, 112]⟩] 9)).ownsRow w.heap.size 9 1 (.slice (some ⟨w2.heap.size, 0, none⟩) 1 1) 1 [.string ⟨#[115, 107, 105, 112]⟩] := by
    have h := World.ownsRow_lit (base := w.heap.size) (e := 9) (size := 1) w2 #[.string ⟨#[115, 107, 105, 112]⟩] 1 (by omega) (by unfold maxLen; omega) rfl
    simpa using h
  go_upto_region 6 with fail
  replace e1 := cell_next e1 ((Below.refl w2.heap.size w2).alloc (Nat.le_refl _) (.cells #[.string ⟨#[115, 107, 105, 112]⟩] 9))
  clear e0
  generalize (w2.alloc (.cells #[.string ⟨#[115, 107, 105, 112]⟩] 9)) = w3 at *
  have hl3 := cell_lt e1
  dsimp only at hl3
  have OW := Lib.hid ow3
  have B3 := Lib.hid hb3
  clear ow3 hb3 hl2 B2
  have SZ : ∀ x ∈ [(⟨#[115, 107, 105, 112]⟩ : ByteArray)], ByteArray.size x ≤ 1000000 := (fun x hx => by
    simp only [List.mem_cons, List.not_mem_nil, or_false] at hx
    subst hx
    decide)
  have HSZ := Lib.hid SZ
  clear SZ
  have JN := Lib.hid (join_any [⟨#[115, 107, 105, 112]⟩] w.heap.size (.slice (some ⟨w2.heap.size, 0, none⟩) 1 1) w3 (by simp) (by simp) OW.out HSZ.out)
  go_wp2_with (go_at_call 18; ((with_reducible refine JN.out.mono ?_); rintro e w4 ⟨rfl, hb⟩); go_must (have B4 := Lib.hid (B3.out.trans (hb.mono B3.out.size)); clear hb))
  go_ret
  exact ⟨rfl, B4.out⟩

set_option maxRecDepth 100000 in
set_option maxHeartbeats 4000000 in
theorem text_skipGo (g : Nat) (M : List ByteArray) (v : Value) (w : World) (hv : StrsAt w v M) (hg : g < M.length) (hq : numL M (M.getD g bE) = (g : Int)) (hM : (M.getD g bE).size ≤ 1000000) :
    Calls Tryd.prog 11 #[.agg #[.string ⟨#[]⟩, .int .i64 (g : Nat)], v] w fun e w' => e = .returned (.string (joinB [⟨#[115, 107, 105, 112]⟩, ⟨#[103, 111, 116, 111]⟩, M.getD g bE])) ∧ Below w.heap.size w w' := by
  have RT := fun (W : World) (h : Below w.heap.size w W) => right_pos ⟨#[]⟩ g M v W (hv.next h) (by decide) (.inl rfl) hg hq
  have RR := Lib.hid RT
  obtain ⟨ao, cap, rfl, hm, hc⟩ := strs_at hv
  obtain ⟨ad, rfl, c0⟩ := hc g hg
  have c3 : (g : Int) < M.length := by omega
  have c4 : (0 : Int) ≤ g := by omega
  have d4 : ((g : Int) == -1) = false := by first | (simp; done) | (simp; omega)
  generalize M.getD g bE = m at *
  have HMS := Lib.hid hM
  have C0 := Lib.hid c0
  clear c0 hc hM hq
  clear RT hv
  obtain ⟨i0, hi, hz0, hz1, hz2⟩ := info_parts infoS
  go_enter Tryd.func11, Tryd.ntmps11
  go_upto_region 1 with fail
  have hb1 := (Below.refl w.heap.size w).alloc (Nat.le_refl _) (.cells #[.string ⟨#[]⟩, .int .i64 (g : Nat)] 26)
  have hx1 : (w.alloc (.cells #[.string ⟨#[]⟩, .int .i64 (g : Nat)] 26)).heap[w.heap.size]? = some (.cells #[.string ⟨#[]⟩, .int .i64 (g : Nat)] 26 (0, 0)) := heap_alloc_new w _
  generalize w.alloc (.cells #[.string ⟨#[]⟩, .int .i64 (g : Nat)] 26) = w1 at *
  obtain ⟨e0, e1⟩ := cells_two hx1
  have hl1 := lt_of_heap hx1
  have B1 := Lib.hid hb1
  clear hb1 hx1
  go_upto_region 3 with (first
    | (go_at_call 12; ((with_reducible refine (RR.out _ B1.out).mono ?_); rintro e w2 ⟨rfl, hb⟩); go_must (replace e0 := cell_next e0 hb; replace e1 := cell_next e1 hb; have hl2 := Nat.lt_of_lt_of_le hl1 hb.size; have B2 := Lib.hid (B1.out.trans (hb.mono B1.out.size)); clear hb))
    | fail)
  clear RR B1 hl1
  have hb3 : Below w.heap.size w (w2.alloc (.cells #[.string ⟨#[115, 107, 105, 112]⟩] 9)) := (B2.out.alloc (by omega) _)
  have ow3 : (w2.alloc (.cells #[.string ⟨#[115, 107, 105, 112]⟩] 9)).ownsRow w.heap.size 9 1 (.slice (some ⟨w2.heap.size, 0, none⟩) 1 1) 1 [.string ⟨#[115, 107, 105, 112]⟩] := by
    have h := World.ownsRow_lit (base := w.heap.size) (e := 9) (size := 1) w2 #[.string ⟨#[115, 107, 105, 112]⟩] 1 (by omega) (by unfold maxLen; omega) rfl
    simpa using h
  go_upto_region 6 with fail
  replace e1 := cell_next e1 ((Below.refl w2.heap.size w2).alloc (Nat.le_refl _) (.cells #[.string ⟨#[115, 107, 105, 112]⟩] 9))
  clear e0
  generalize (w2.alloc (.cells #[.string ⟨#[115, 107, 105, 112]⟩] 9)) = w3 at *
  have hl3 := cell_lt e1
  dsimp only at hl3
  have OW := Lib.hid ow3
  have B3 := Lib.hid hb3
  clear ow3 hb3 hl2 B2
  have c0 := cell_next C0.out B3.out
  have SZ : ∀ x ∈ [(⟨#[115, 107, 105, 112]⟩ : ByteArray), (⟨#[103, 111, 116, 111]⟩ : ByteArray), (m : ByteArray)], ByteArray.size x ≤ 1000000 := (fun x hx => by
    simp only [List.mem_cons, List.not_mem_nil, or_false] at hx
    rcases hx with rfl | rfl | rfl
    · decide
    · decide
    · exact HMS.out)
  have HSZ := Lib.hid SZ
  clear SZ
  go_upto_region 8 with (first
    | (at_builtin; refine wpList_append_own _ rfl _ _ 22 rfl w.heap.size 9 i0 (.string ⟨#[]⟩) 1 16 Tryd.underlying22 hi hz0 hz1 hz2 rfl (by decide) (.slice (some ⟨w2.heap.size, 0, none⟩) 1 1) 1 [.string ⟨#[115, 107, 105, 112]⟩] rfl (OW.out.alloc _) ⟨w3.heap.size, 0, none⟩ 2 2 [.string ⟨#[103, 111, 116, 111]⟩, .string m] rfl rfl (World.news_of_block (World.alloc_heap_new w3 _)) (by simp [Value.oneCell']) (by unfold maxLen; omega) (by omega) (by simp; omega) ?_; intro v5 w5 hown hgrow _; go_must (have JN := Lib.hid (join_any [⟨#[115, 107, 105, 112]⟩, ⟨#[103, 111, 116, 111]⟩, m] w.heap.size v5 w5 (by simp) (by simp) hown HSZ.out); have B5 := Lib.hid ((B3.out.alloc (by omega) (.cells #[.string ⟨#[103, 111, 116, 111]⟩, .string m] 9)).grown hgrow (by simp; omega) (fun k hk => ((OW.out.alloc (.cells #[.string ⟨#[103, 111, 116, 111]⟩, .string m] 9)).lt k hk).1)); clear hown hgrow))
    | fail)
  go_wp2_with (go_at_call 18; ((with_reducible refine JN.out.mono ?_); rintro e w6 ⟨rfl, hb⟩); go_must (have B6 := Lib.hid (B5.out.trans (hb.mono B5.out.size)); clear hb))
  go_ret
  exact ⟨rfl, B6.out⟩

set_option maxRecDepth 100000 in
set_option maxHeartbeats 4000000 in
theorem text_emit (em : ByteArray) (M : List ByteArray) (v : Value) (w : World) (hv : StrsAt w v M) (hs : em.size ≤ 1000000) (hn : nameL em.data.toList = true) :
    Calls Tryd.prog 11 #[.agg #[.string em, .int .i64 (-1)], v] w fun e w' => e = .returned (.string (joinB [⟨#[101, 109, 105, 116]⟩, em])) ∧ Below w.heap.size w w' := by
  have hne := name_ne hn
  have d0 := isE_no hne
  have d1 := empty_no hne
  have RT := fun (W : World) (h : Below w.heap.size w W) => right_neg em (-1) M v W (hv.next h) hs (.inr hn) (by omega)
  have RR := Lib.hid RT
  have HES := Lib.hid hs
  clear hn hs hne
  clear RT hv
  obtain ⟨i0, hi, hz0, hz1, hz2⟩ := info_parts infoS
  go_enter Tryd.func11, Tryd.ntmps11
  go_upto_region 1 with fail
  have hb1 := (Below.refl w.heap.size w).alloc (Nat.le_refl _) (.cells #[.string em, .int .i64 (-1)] 26)
  have hx1 : (w.alloc (.cells #[.string em, .int .i64 (-1)] 26)).heap[w.heap.size]? = some (.cells #[.string em, .int .i64 (-1)] 26 (0, 0)) := heap_alloc_new w _
  generalize w.alloc (.cells #[.string em, .int .i64 (-1)] 26) = w1 at *
  obtain ⟨e0, e1⟩ := cells_two hx1
  have hl1 := lt_of_heap hx1
  have B1 := Lib.hid hb1
  clear hb1 hx1
  go_upto_region 3 with (first
    | (go_at_call 12; ((with_reducible refine (RR.out _ B1.out).mono ?_); rintro e w2 ⟨rfl, hb⟩); go_must (replace e0 := cell_next e0 hb; replace e1 := cell_next e1 hb; have hl2 := Nat.lt_of_lt_of_le hl1 hb.size; have B2 := Lib.hid (B1.out.trans (hb.mono B1.out.size)); clear hb))
    | fail)
  clear RR B1 hl1
  have hb3 : Below w.heap.size w ((w2.alloc (.cells #[.string ⟨#[115, 107, 105, 112]⟩] 9)).alloc (.cells #[.string ⟨#[101, 109, 105, 116]⟩, .string em] 9)) := ((B2.out.alloc (by omega) _).alloc (by simp; omega) _)
  have ow3 : ((w2.alloc (.cells #[.string ⟨#[115, 107, 105, 112]⟩] 9)).alloc (.cells #[.string ⟨#[101, 109, 105, 116]⟩, .string em] 9)).ownsRow w.heap.size 9 1 (.slice (some ⟨w2.heap.size + 1, 0, none⟩) 2 2) 2 [.string ⟨#[101, 109, 105, 116]⟩, .string em] := by
    have h := World.ownsRow_lit (base := w.heap.size) (e := 9) (size := 1) (w2.alloc (.cells #[.string ⟨#[115, 107, 105, 112]⟩] 9)) #[.string ⟨#[101, 109, 105, 116]⟩, .string em] 2 (by simp; omega) (by unfold maxLen; omega) rfl
    simpa using h
  go_upto_region 6 with fail
  replace e1 := cell_next e1 (((Below.refl w2.heap.size w2).alloc (Nat.le_refl _) (.cells #[.string ⟨#[115, 107, 105, 112]⟩] 9)).alloc (by simp) (.cells #[.string ⟨#[101, 109, 105, 116]⟩, .string em] 9))
  clear e0
  generalize ((w2.alloc (.cells #[.string ⟨#[115, 107, 105, 112]⟩] 9)).alloc (.cells #[.string ⟨#[101, 109, 105, 116]⟩, .string em] 9)) = w3 at *
  have hl3 := cell_lt e1
  dsimp only at hl3
  have OW := Lib.hid ow3
  have B3 := Lib.hid hb3
  clear ow3 hb3 hl2 B2
  have SZ : ∀ x ∈ [(⟨#[101, 109, 105, 116]⟩ : ByteArray), (em : ByteArray)], ByteArray.size x ≤ 1000000 := (fun x hx => by
    simp only [List.mem_cons, List.not_mem_nil, or_false] at hx
    rcases hx with rfl | rfl
    · decide
    · exact HES.out)
  have HSZ := Lib.hid SZ
  clear SZ
  have JN := Lib.hid (join_any [⟨#[101, 109, 105, 116]⟩, em] w.heap.size (.slice (some ⟨w2.heap.size + 1, 0, none⟩) 2 2) w3 (by simp) (by simp) OW.out HSZ.out)
  go_wp2_with (go_at_call 18; ((with_reducible refine JN.out.mono ?_); rintro e w4 ⟨rfl, hb⟩); go_must (have B4 := Lib.hid (B3.out.trans (hb.mono B3.out.size)); clear hb))
  go_ret
  exact ⟨rfl, B4.out⟩

set_option maxRecDepth 100000 in
set_option maxHeartbeats 4000000 in
theorem text_emitGo (em : ByteArray) (g : Nat) (M : List ByteArray) (v : Value) (w : World) (hv : StrsAt w v M) (hs : em.size ≤ 1000000) (hn : nameL em.data.toList = true) (hg : g < M.length) (hq : numL M (M.getD g bE) = (g : Int)) (hM : (M.getD g bE).size ≤ 1000000) :
    Calls Tryd.prog 11 #[.agg #[.string em, .int .i64 (g : Nat)], v] w fun e w' => e = .returned (.string (joinB [⟨#[101, 109, 105, 116]⟩, em, ⟨#[103, 111, 116, 111]⟩, M.getD g bE])) ∧ Below w.heap.size w w' := by
  have hne := name_ne hn
  have d0 := isE_no hne
  have d1 := empty_no hne
  have RT := fun (W : World) (h : Below w.heap.size w W) => right_pos em g M v W (hv.next h) hs (.inr hn) hg hq
  have RR := Lib.hid RT
  obtain ⟨ao, cap, rfl, hm, hc⟩ := strs_at hv
  obtain ⟨ad, rfl, c0⟩ := hc g hg
  have c3 : (g : Int) < M.length := by omega
  have c4 : (0 : Int) ≤ g := by omega
  have d4 : ((g : Int) == -1) = false := by first | (simp; done) | (simp; omega)
  generalize M.getD g bE = m at *
  have HMS := Lib.hid hM
  have C0 := Lib.hid c0
  clear c0 hc hM hq
  have HES := Lib.hid hs
  clear hn hs hne
  clear RT hv
  obtain ⟨i0, hi, hz0, hz1, hz2⟩ := info_parts infoS
  go_enter Tryd.func11, Tryd.ntmps11
  go_upto_region 1 with fail
  have hb1 := (Below.refl w.heap.size w).alloc (Nat.le_refl _) (.cells #[.string em, .int .i64 (g : Nat)] 26)
  have hx1 : (w.alloc (.cells #[.string em, .int .i64 (g : Nat)] 26)).heap[w.heap.size]? = some (.cells #[.string em, .int .i64 (g : Nat)] 26 (0, 0)) := heap_alloc_new w _
  generalize w.alloc (.cells #[.string em, .int .i64 (g : Nat)] 26) = w1 at *
  obtain ⟨e0, e1⟩ := cells_two hx1
  have hl1 := lt_of_heap hx1
  have B1 := Lib.hid hb1
  clear hb1 hx1
  go_upto_region 3 with (first
    | (go_at_call 12; ((with_reducible refine (RR.out _ B1.out).mono ?_); rintro e w2 ⟨rfl, hb⟩); go_must (replace e0 := cell_next e0 hb; replace e1 := cell_next e1 hb; have hl2 := Nat.lt_of_lt_of_le hl1 hb.size; have B2 := Lib.hid (B1.out.trans (hb.mono B1.out.size)); clear hb))
    | fail)
  clear RR B1 hl1
  have hb3 : Below w.heap.size w ((w2.alloc (.cells #[.string ⟨#[115, 107, 105, 112]⟩] 9)).alloc (.cells #[.string ⟨#[101, 109, 105, 116]⟩, .string em] 9)) := ((B2.out.alloc (by omega) _).alloc (by simp; omega) _)
  have ow3 : ((w2.alloc (.cells #[.string ⟨#[115, 107, 105, 112]⟩] 9)).alloc (.cells #[.string ⟨#[101, 109, 105, 116]⟩, .string em] 9)).ownsRow w.heap.size 9 1 (.slice (some ⟨w2.heap.size + 1, 0, none⟩) 2 2) 2 [.string ⟨#[101, 109, 105, 116]⟩, .string em] := by
    have h := World.ownsRow_lit (base := w.heap.size) (e := 9) (size := 1) (w2.alloc (.cells #[.string ⟨#[115, 107, 105, 112]⟩] 9)) #[.string ⟨#[101, 109, 105, 116]⟩, .string em] 2 (by simp; omega) (by unfold maxLen; omega) rfl
    simpa using h
  go_upto_region 6 with fail
  replace e1 := cell_next e1 (((Below.refl w2.heap.size w2).alloc (Nat.le_refl _) (.cells #[.string ⟨#[115, 107, 105, 112]⟩] 9)).alloc (by simp) (.cells #[.string ⟨#[101, 109, 105, 116]⟩, .string em] 9))
  clear e0
  generalize ((w2.alloc (.cells #[.string ⟨#[115, 107, 105, 112]⟩] 9)).alloc (.cells #[.string ⟨#[101, 109, 105, 116]⟩, .string em] 9)) = w3 at *
  have hl3 := cell_lt e1
  dsimp only at hl3
  have OW := Lib.hid ow3
  have B3 := Lib.hid hb3
  clear ow3 hb3 hl2 B2
  have c0 := cell_next C0.out B3.out
  have SZ : ∀ x ∈ [(⟨#[101, 109, 105, 116]⟩ : ByteArray), (em : ByteArray), (⟨#[103, 111, 116, 111]⟩ : ByteArray), (m : ByteArray)], ByteArray.size x ≤ 1000000 := (fun x hx => by
    simp only [List.mem_cons, List.not_mem_nil, or_false] at hx
    rcases hx with rfl | rfl | rfl | rfl
    · decide
    · exact HES.out
    · decide
    · exact HMS.out)
  have HSZ := Lib.hid SZ
  clear SZ
  go_upto_region 8 with (first
    | (at_builtin; refine wpList_append_own _ rfl _ _ 22 rfl w.heap.size 9 i0 (.string ⟨#[]⟩) 1 16 Tryd.underlying22 hi hz0 hz1 hz2 rfl (by decide) (.slice (some ⟨w2.heap.size + 1, 0, none⟩) 2 2) 2 [.string ⟨#[101, 109, 105, 116]⟩, .string em] rfl (OW.out.alloc _) ⟨w3.heap.size, 0, none⟩ 2 2 [.string ⟨#[103, 111, 116, 111]⟩, .string m] rfl rfl (World.news_of_block (World.alloc_heap_new w3 _)) (by simp [Value.oneCell']) (by unfold maxLen; omega) (by omega) (by simp; omega) ?_; intro v5 w5 hown hgrow _; go_must (have JN := Lib.hid (join_any [⟨#[101, 109, 105, 116]⟩, em, ⟨#[103, 111, 116, 111]⟩, m] w.heap.size v5 w5 (by simp) (by simp) hown HSZ.out); have B5 := Lib.hid ((B3.out.alloc (by omega) (.cells #[.string ⟨#[103, 111, 116, 111]⟩, .string m] 9)).grown hgrow (by simp; omega) (fun k hk => ((OW.out.alloc (.cells #[.string ⟨#[103, 111, 116, 111]⟩, .string m] 9)).lt k hk).1)); clear hown hgrow))
    | fail)
  go_wp2_with (go_at_call 18; ((with_reducible refine JN.out.mono ?_); rintro e w6 ⟨rfl, hb⟩); go_must (have B6 := Lib.hid (B5.out.trans (hb.mono B5.out.size)); clear hb))
  go_ret
  exact ⟨rfl, B6.out⟩


end Go.Proofs.YtleejfkononjgaaDoor.Ac

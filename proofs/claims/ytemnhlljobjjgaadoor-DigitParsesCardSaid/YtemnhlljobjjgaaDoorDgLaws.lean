/- The laws of digit, walked. -/
import Derived.Test.YtemnhlljobjjgaaDoorDgSt
namespace Go.Proofs.YtemnhlljobjjgaaDoor.Dg
open Go.RowKit

set_option maxRecDepth 100000 in
set_option maxHeartbeats 400000 in
theorem law_parses (s : ByteArray) (w : World) (hs : s.size ≤ maxLen) (hst : St w) :
    Calls Tryd.prog 3 #[.string s] w fun e w' => e = .returned (.bool true) ∧ Below w.heap.size w w' := by
  have HS := Lib.hid hst
  clear hst
  have p1 := Lib.hid (fun w => parse_t s w hs)
  have p2 := Lib.hid (fun w => rparse_t s w hs)
  have h1 := Lib.hid (fun w h => hex_t s w hs h)
  have h2 := Lib.hid (fun w => rhex_t s w hs)
  have l1 := Lib.hid (fun w => lead_any s w hs)
  have l2 := Lib.hid (fun w => rlead_any s w hs)
  unfold maxLen at hs
  by_cases h300 : 300 < s.size
  · go_enter Tryd.func3, Tryd.ntmps3
    go_wp2_with (go_at_call 6; refine (alive_any _ HS.out).mono ?_; rintro e w' ⟨rfl, hb⟩)
    go_ret
    exact ⟨rfl, hb⟩
  · have h0 : hexR s.data.toList = none ∨ ∃ v, hexR s.data.toList = some v := by cases hexR s.data.toList <;> simp
    generalize on (parseR s.data.toList) = a at p1 p2
    generalize (parseR s.data.toList).isSome = p at p1 p2
    generalize ((goLead s.data.toList 0 0).1 : Int) = n at l1 l2
    generalize ((goLead s.data.toList 0 0).2 : Int) = k at l1 l2
    have fin : ∀ (g : Int) (q : Bool), (q = false → g = 0) → Hid (∀ w, Tab w → Calls Tryd.prog 9 #[.string s] w fun e w' => e = .returned (.tuple #[.int .i64 g, .bool q]) ∧ w = w') →
        Hid (∀ w, Calls Tryd.prog 10 #[.string s] w fun e w' => e = .returned (.tuple #[.int .i64 g, .bool q]) ∧ w = w') →
        Calls Tryd.prog 3 #[.string s] w fun e w' => e = .returned (.bool true) ∧ Below w.heap.size w w' := by
      intro g q hgq h1 h2
      have HG := Lib.hid hgq
      clear hgq
      cases q
      · obtain rfl : g = 0 := HG.out rfl
        go_enter Tryd.func3, Tryd.ntmps3
        go_wp2_with (first
          | (go_at_call 7; refine (p1.out _).mono ?_; rintro e w' ⟨rfl, rfl⟩)
          | (go_at_call 8; refine (p2.out _).mono ?_; rintro e w' ⟨rfl, rfl⟩)
          | (go_at_call 9; refine (h1.out _ HS.out.tab).mono ?_; rintro e w' ⟨rfl, rfl⟩)
          | (go_at_call 10; refine (h2.out _).mono ?_; rintro e w' ⟨rfl, rfl⟩)
          | (go_at_call 11; refine (l1.out _).mono ?_; rintro e w' ⟨rfl, rfl⟩)
          | (go_at_call 12; refine (l2.out _).mono ?_; rintro e w' ⟨rfl, rfl⟩)
          | (go_at_call 6; refine (alive_any _ HS.out).mono ?_; rintro e w' ⟨rfl, hb⟩))
        go_ret
        exact ⟨rfl, hb⟩
      · go_enter Tryd.func3, Tryd.ntmps3
        go_wp2_with (first
          | (go_at_call 7; refine (p1.out _).mono ?_; rintro e w' ⟨rfl, rfl⟩)
          | (go_at_call 8; refine (p2.out _).mono ?_; rintro e w' ⟨rfl, rfl⟩)
          | (go_at_call 9; refine (h1.out _ HS.out.tab).mono ?_; rintro e w' ⟨rfl, rfl⟩)
          | (go_at_call 10; refine (h2.out _).mono ?_; rintro e w' ⟨rfl, rfl⟩)
          | (go_at_call 11; refine (l1.out _).mono ?_; rintro e w' ⟨rfl, rfl⟩)
          | (go_at_call 12; refine (l2.out _).mono ?_; rintro e w' ⟨rfl, rfl⟩)
          | (go_at_call 6; refine (alive_any _ HS.out).mono ?_; rintro e w' ⟨rfl, hb⟩))
        go_ret
        exact ⟨rfl, hb⟩
    refine fin _ _ ?_ h1 h2
    intro h
    rcases h0 with h0 | ⟨v, h0⟩
    · rw [h0]; rfl
    · rw [h0] at h; cases h

set_option maxRecDepth 100000 in
set_option maxHeartbeats 400000 in
theorem law_texts (n least : Int) (w : World) (h0 : -9223372036854775808 ≤ n) (h1 : n ≤ 9223372036854775807) (h2 : -9223372036854775808 ≤ least) (h3 : least ≤ 9223372036854775807) (hst : St w) :
    Calls Tryd.prog 4 #[.int .i64 n, .int .i64 least] w fun e w' => e = .returned (.bool true) ∧ Below w.heap.size w w' := by
  have HS := Lib.hid hst
  clear hst
  have t1 := Lib.hid (fun w h => text_any n w h0 h1 h)
  have t2 := Lib.hid (fun w => rsigned n w h0 h1)
  have x1 := Lib.hid (fun w h => hextext_any n least w h0 h1 h2 h3 h)
  have x2 := Lib.hid (fun w => rhextext_any n least w h0 h1 h2 h3)
  generalize Lib.itoa n = a at t1 t2
  generalize hexText n least = b at x1 x2
  go_enter Tryd.func4, Tryd.ntmps4
  go_wp2_with fail
  refine (t1.out _ HS.out).mono ?_
  rintro e w1 ⟨rfl, hb1⟩
  have HB := Lib.hid hb1
  clear hb1
  go_wp2_with (go_at_call 14; refine (t2.out _).mono ?_; rintro e w' ⟨rfl, rfl⟩)
  refine (x1.out _ (HS.out.next HB.out).tab).mono ?_
  rintro e w2 ⟨rfl, hb2⟩
  have HB2 := Lib.hid (HB.out.trans (hb2.mono HB.out.size))
  clear hb2
  go_wp2_with (go_at_call 16; refine (x2.out _).mono ?_; rintro e w' ⟨rfl, rfl⟩)
  refine (alive_any _ (HS.out.next HB2.out)).mono ?_
  rintro e w3 ⟨rfl, hb3⟩
  have HB3 := Lib.hid (HB2.out.trans (hb3.mono HB2.out.size))
  clear hb3
  go_wp2_with fail
  go_ret
  exact ⟨rfl, HB3.out⟩

theorem goLead_dig : ∀ (l : List UInt8) (n k : Nat), (∀ c ∈ l, isDig c = true) → goLead l n k = (l.foldl step n, k + l.length)
  | [], n, k, _ => rfl
  | c :: r, n, k, h => by
    rw [goLead_step (h c (by simp)), goLead_dig r _ _ (fun x hx => h x (by simp [hx]))]
    simp; omega
theorem dig_of {n : Nat} (h : n < 10) : isDig (UInt8.ofNat (48 + n)) = true ∧ (UInt8.ofNat (48 + n)).toNat = 48 + n := by
  have e : (UInt8.ofNat (48 + n)).toNat = 48 + n := by rw [UInt8.toNat_ofNat']; omega
  exact ⟨(isDig_iff _).2 (by omega), e⟩
theorem dec_facts (n : Nat) : (∀ c ∈ Lib.decDigits n, isDig c = true) ∧ 0 < (Lib.decDigits n).length ∧ (n ≤ 999999999 → val (Lib.decDigits n) = n) := by
  induction n using Nat.strongRecOn with
  | _ n ih =>
    by_cases h : n < 10
    · rw [dec_small h]
      refine ⟨fun c hc => by rw [List.mem_singleton.1 hc]; exact (dig_of h).1, by simp, fun _ => ?_⟩
      simp only [val, List.foldl_cons, List.foldl_nil, step, (dig_of h).2]
      omega
    · obtain ⟨a, b, c⟩ := ih (n / 10) (by omega)
      rw [dec_big h]
      refine ⟨?_, by simp, fun hn => ?_⟩
      · intro x hx
        rcases List.mem_append.1 hx with hx | hx
        · exact a x hx
        · rw [List.mem_singleton.1 hx]; exact (dig_of (by omega)).1
      · rw [val_snoc, c (by omega)]
        simp only [step, (dig_of (show n % 10 < 10 by omega)).2]
        omega

theorem itoa_num {n : Int} (h0 : 0 ≤ n) (h1 : n ≤ 999999999) : parseR (Lib.itoa n) = some n.toNat := by
  rw [itoa_pos h0]
  obtain ⟨a, b, c⟩ := dec_facts n.toNat
  have hv := c (by omega)
  have hg : goLead (Lib.decDigits n.toNat) 0 0 = (n.toNat, (Lib.decDigits n.toNat).length) := by
    rw [goLead_dig _ _ _ a, Nat.zero_add]
    exact congrArg (·, _) hv
  have hi := (parse_iff b hg (by omega)).1 rfl
  rw [parseR_eq, hg, if_neg (by simp only; omega), if_neg hi]
theorem num_itoa {l : List UInt8} {n : Nat} (h : parseR l = some n) : Lib.itoa n = l := by
  rw [parseR_eq] at h
  by_cases h1 : (goLead l 0 0).2 = 0 ∨ (goLead l 0 0).2 < l.length ∨ 999999999 < (goLead l 0 0).1
  · rw [if_pos h1] at h; cases h
  · rw [if_neg h1] at h
    by_cases h2 : l.getD 0 0 = 48 ∧ 1 < l.length
    · rw [if_pos h2] at h; cases h
    · rw [if_neg h2] at h
      have e := Option.some.inj h
      have hb := goLead_le l 0 0 (by omega)
      have hg : goLead l 0 0 = (n, l.length) := Prod.ext e (by show (goLead l 0 0).2 = _; omega)
      rw [itoa_pos (by omega)]
      exact (parse_iff (by omega) hg (by omega)).2 h2
theorem num_le {l : List UInt8} {n : Nat} (h : parseR l = some n) : n ≤ 999999999 := by
  rw [parseR_eq] at h
  by_cases h1 : (goLead l 0 0).2 = 0 ∨ (goLead l 0 0).2 < l.length ∨ 999999999 < (goLead l 0 0).1
  · rw [if_pos h1] at h; cases h
  · rw [if_neg h1] at h
    by_cases h2 : l.getD 0 0 = 48 ∧ 1 < l.length
    · rw [if_pos h2] at h; cases h
    · rw [if_neg h2] at h
      have e := Option.some.inj h
      omega

theorem hexV_tab : ∀ k : Fin 16, hexV (tab.getD k.val 0) = some k.val := by decide +kernel
theorem goHex_text : ∀ (f i m : Nat) (acc : List UInt8), m < 16 ^ f → goHex (goHexText f i m 1 acc) 0 = goHex acc m
  | 0, i, m, acc, h => by
    have : m = 0 := by simpa using h
    subst this; rfl
  | f + 1, i, m, acc, h => by
    unfold goHexText
    by_cases hs : 0 < i ∧ m = 0 ∧ (1 : Int) ≤ i
    · rw [if_pos hs, hs.2.1]
    · rw [if_neg hs, goHex_text f (i + 1) (m / 16) _ (by rw [Nat.pow_succ] at h; omega)]
      rw [goHex, hexV_tab ⟨m % 16, by omega⟩]
      simp only
      rw [show 16 * (m / 16) + m % 16 = m by omega]
theorem hexText_len1 : ∀ (f i m j : Nat) (acc : List UInt8), 1 ≤ i → m < 16 ^ j → (goHexText f i m 1 acc).length ≤ acc.length + j ∧ acc.length ≤ (goHexText f i m 1 acc).length
  | 0, i, m, j, acc, _, _ => by simp [goHexText]
  | f + 1, i, m, j, acc, hi, h => by
    unfold goHexText
    by_cases hs : 0 < i ∧ m = 0 ∧ (1 : Int) ≤ i
    · rw [if_pos hs]; omega
    · rw [if_neg hs]
      have hm : m ≠ 0 := by omega
      cases j with
      | zero => exact absurd (by simpa using h) hm
      | succ j =>
        have := hexText_len1 f (i + 1) (m / 16) j (tab.getD (m % 16) 0 :: acc) (by omega) (by rw [Nat.pow_succ] at h; omega)
        simp only [List.length_cons] at this
        omega
theorem hex_num {n : Int} (h0 : 0 ≤ n) (h1 : n < 16777216) : hexR (hexText n 1) = some n.toNat := by
  have e : hexText n 1 = goHexText 15 1 (n.toNat / 16) 1 [tab.getD (n.toNat % 16) 0] := by
    unfold hexText
    rw [show min (1 : Int) 8 = 1 by omega]
    show goHexText (15 + 1) _ _ _ _ = _
    rw [goHexText, if_neg (by omega)]
  have hl := hexText_len1 15 1 (n.toNat / 16) 5 [tab.getD (n.toNat % 16) 0] (by omega) (by omega)
  have hg := goHex_text 15 1 (n.toNat / 16) [tab.getD (n.toNat % 16) 0] (by omega)
  rw [← e] at hl hg
  simp only [List.length_singleton] at hl
  unfold hexR
  rw [if_neg (by omega), hg, goHex, hexV_tab ⟨n.toNat % 16, by omega⟩]
  simp only [goHex]
  rw [show 16 * (n.toNat / 16) + n.toNat % 16 = n.toNat by omega]

theorem on_some {n : Int} (h : 0 ≤ n) : on (some n.toNat) = n := by unfold on; simp; omega

set_option maxRecDepth 100000 in
set_option maxHeartbeats 400000 in
theorem law_back (n : Int) (s : ByteArray) (w : World) (h0 : -9223372036854775808 ≤ n) (h1 : n ≤ 9223372036854775807) (hs : s.size ≤ maxLen) (hst : St w) :
    Calls Tryd.prog 5 #[.int .i64 n, .string s] w fun e w' => e = .returned (.bool true) ∧ Below w.heap.size w w' := by
  have g0 := Gr.start hst
  clear hst
  have ps := Lib.hid (fun w => parse_t s w hs)
  unfold maxLen at hs
  by_cases h300 : 300 < s.size
  · go_enter Tryd.func5, Tryd.ntmps5
    go_wp2_with (go_at_call 6; refine (alive_g _ g0).mono ?_; rintro e w' ⟨rfl, hb⟩)
    go_ret
    exact ⟨rfl, hb.b⟩
  · have l1 : (Lib.itoa n).length ≤ 21 := by
      by_cases hn : 0 ≤ n
      · rw [itoa_pos hn]; have := dec_len20 (u := n.toNat) (by omega); omega
      · rw [itoa_neg (by omega)]; have := dec_len20 (u := n.natAbs) (by omega); simp; omega
    have l2 : (hexText n 1).length ≤ 16 := by unfold hexText; exact hexText_len _ _ _ _ _
    have t1 := Lib.hid (fun wx (g : Gr w wx) => text_g n wx h0 h1 g)
    have x1 := Lib.hid (fun wx (g : Gr w wx) => hextext_g n 1 wx h0 h1 (by omega) (by omega) g)
    have n1 := Lib.hid (fun a b => itoa_num (n := n) a b)
    have n2 := Lib.hid (fun a b => hex_num (n := n) a b)
    have p1 : 0 ≤ n → n ≤ 999999999 → ∀ w, Calls Tryd.prog 7 #[.string ⟨(Lib.itoa n).toArray⟩] w fun e w' => e = .returned (.tuple #[.int .i64 n, .bool true]) ∧ w = w' := fun a b w =>
      (parse_t ⟨(Lib.itoa n).toArray⟩ w (by show (Lib.itoa n).toArray.size ≤ _; unfold maxLen; simp; omega)).mono fun _ _ ⟨he, hw⟩ => ⟨by rw [he, show (⟨(Lib.itoa n).toArray⟩ : ByteArray).data.toList = Lib.itoa n from rfl, n1.out a b, on_some a]; rfl, hw⟩
    have q1 : 0 ≤ n → n < 16777216 → ∀ w, Tab w → Calls Tryd.prog 9 #[.string ⟨(hexText n 1).toArray⟩] w fun e w' => e = .returned (.tuple #[.int .i64 n, .bool true]) ∧ w = w' := fun a b w ht =>
      (hex_t ⟨(hexText n 1).toArray⟩ w (by show (hexText n 1).toArray.size ≤ _; unfold maxLen; simp; omega) ht).mono fun _ _ ⟨he, hw⟩ => ⟨by rw [he, show (⟨(hexText n 1).toArray⟩ : ByteArray).data.toList = hexText n 1 from rfl, n2.out a b, on_some a]; rfl, hw⟩
    have P1 := Lib.hid p1
    have Q1 := Lib.hid q1
    clear p1 q1 n1 n2 l1 l2
    generalize Lib.itoa n = A at t1 P1
    generalize hexText n 1 = B at x1 Q1
    have hcase : n < 0 ∨ (0 ≤ n ∧ n < 16777216 ∧ n ≤ 999999999) ∨ (0 ≤ n ∧ 16777216 ≤ n ∧ n ≤ 999999999) ∨ (999999999 < n ∧ 16777216 ≤ n) := by omega
    rcases hv : parseR s.data.toList with _ | v
    · rw [hv] at ps
      clear hv
      rcases hcase with ha | ⟨ha, hb, hc⟩ | ⟨ha, hb, hc⟩ | ⟨ha, hb⟩
      all_goals
            go_enter Tryd.func5, Tryd.ntmps5
            go_wp2_with (first
              | (go_at_call 13; refine (t1.out _ (by assumption)).mono ?_; rintro e w' ⟨rfl, hg⟩)
              | (go_at_call 15; refine (x1.out _ (by assumption)).mono ?_; rintro e w' ⟨rfl, hg⟩)
              | (go_at_call 9; refine (Q1.out (by omega) (by omega) _ hg.here.tab).mono ?_; rintro e w' ⟨rfl, rfl⟩)
              | (go_at_call 7; (with_reducible refine (P1.out (by omega) (by omega) _).mono ?_); rintro e w' ⟨rfl, rfl⟩)
              | (go_at_call 7; (with_reducible refine (ps.out _).mono ?_); rintro e w' ⟨rfl, rfl⟩)
              | (go_at_call 6; refine (alive_g _ (by assumption)).mono ?_; rintro e w' ⟨rfl, hg⟩))
            go_ret
            exact ⟨rfl, hg.b⟩
    · have hi := num_itoa hv
      have hle := num_le hv
      have tv := Lib.hid (fun wx (g : Gr w wx) => text_g (v : Int) wx (by omega) (by omega) g)
      rw [hi] at tv
      have hC : (s.data.toList == s.toList) = true := by rw [ByteArray.toList_eq]; exact beq_self_eq_true _
      rw [hv] at ps
      have eV : on (some v) = (v : Int) := rfl
      rw [eV] at ps
      clear eV hi hv hle
      generalize (v : Int) = V at ps tv
      generalize s.data.toList = C at tv hC
      rcases hcase with ha | ⟨ha, hb, hc⟩ | ⟨ha, hb, hc⟩ | ⟨ha, hb⟩
      all_goals
            go_enter Tryd.func5, Tryd.ntmps5
            go_wp2_with (first
              | (go_at_call 13; (with_reducible refine (t1.out _ (by assumption)).mono ?_); rintro e w' ⟨rfl, hg⟩)
              | (go_at_call 13; (with_reducible refine (tv.out _ (by assumption)).mono ?_); rintro e w' ⟨rfl, hg⟩)
              | (go_at_call 15; refine (x1.out _ (by assumption)).mono ?_; rintro e w' ⟨rfl, hg⟩)
              | (go_at_call 9; refine (Q1.out (by omega) (by omega) _ hg.here.tab).mono ?_; rintro e w' ⟨rfl, rfl⟩)
              | (go_at_call 7; (with_reducible refine (P1.out (by omega) (by omega) _).mono ?_); rintro e w' ⟨rfl, rfl⟩)
              | (go_at_call 7; (with_reducible refine (ps.out _).mono ?_); rintro e w' ⟨rfl, rfl⟩)
              | (go_at_call 6; refine (alive_g _ (by assumption)).mono ?_; rintro e w' ⟨rfl, hg⟩))
            go_ret
            exact ⟨rfl, hg.b⟩

end Go.Proofs.YtemnhlljobjjgaaDoor.Dg

/- Walks of HexText: the program's and the document's answer. -/
import Derived.Test.YtdmceapbobkklaaDoorDgTab
import Derived.WalkLawsBesides
import Derived.WalkSpells
namespace Go.Proofs.YtdmceapbobkklaaDoor.Dg
open Go.RowKit

theorem rets' {a b : ByteArray} (h : a = b) : Ending.returned (.string a) = .returned (.string b) := by rw [h]

/-- the digits of 16 of a number, from round i on; behind them what is there already -/
def goHexText : Nat → Nat → Nat → Int → List UInt8 → List UInt8
  | 0, _, _, _, acc => acc
  | f + 1, i, n, least, acc => if 0 < i ∧ n = 0 ∧ least ≤ i then acc else goHexText f (i + 1) (n / 16) least (tab.getD (n % 16) 0 :: acc)
/-- HexText -/
def hexText (n least : Int) : List UInt8 := goHexText 16 0 n.toNat (min least 8) []
theorem hexText_len : ∀ (f i n : Nat) (least : Int) (acc : List UInt8), (goHexText f i n least acc).length ≤ f + acc.length
  | 0, _, _, _, acc => by simp [goHexText]
  | f + 1, i, n, least, acc => by
    unfold goHexText
    split
    · omega
    · have h := hexText_len f (i + 1) (n / 16) least (tab.getD (n % 16) 0 :: acc)
      rw [List.length_cons] at h; omega
/-- to be stopped in round i -/
def stops (i : Nat) (n least : Int) : Prop := 0 < i ∧ n ≤ 0 ∧ min least 8 ≤ i
theorem hx_stop {acc : List UInt8} {n least : Int} (h0 : 0 ≤ n) (h : stops acc.length n least) :
    goHexText (16 - acc.length) acc.length n.toNat (min least 8) acc = acc := by
  obtain ⟨a, b, c⟩ := h
  cases e : 16 - acc.length with
  | zero => rfl
  | succ f => rw [goHexText, if_pos ⟨a, by omega, c⟩]
theorem hx_go {acc : List UInt8} {n least : Int} {j : Nat} (h0 : 0 ≤ n) (hl : acc.length < 16) (hj : n % 16 = j) (h : ¬ stops acc.length n least) :
    goHexText (16 - acc.length) acc.length n.toNat (min least 8) acc = goHexText (16 - (acc.length + 1)) (acc.length + 1) (n / 16).toNat (min least 8) (tab.getD j 0 :: acc) := by
  rw [show 16 - acc.length = (16 - (acc.length + 1)) + 1 by omega, goHexText, if_neg (fun ⟨a, b, c⟩ => h ⟨a, by omega, c⟩)]
  rw [show n.toNat / 16 = (n / 16).toNat by omega, show n.toNat % 16 = j by omega]
theorem hx_end {acc : List UInt8} {n least : Int} (h : 16 ≤ acc.length) :
    goHexText (16 - acc.length) acc.length n.toNat (min least 8) acc = acc := by
  rw [show 16 - acc.length = 0 by omega]; rfl
theorem hx_text {acc : List UInt8} {j : Nat} (hj : j < 16) :
    ((⟨#[48, 49, 50, 51, 52, 53, 54, 55, 56, 57, 97, 98, 99, 100, 101, 102]⟩ : ByteArray).extract j (j + 1) ++ ⟨acc.toArray⟩) = ⟨(tab.getD j 0 :: acc).toArray⟩ := by
  have h : ∀ k : Fin 16, (⟨#[48, 49, 50, 51, 52, 53, 54, 55, 56, 57, 97, 98, 99, 100, 101, 102]⟩ : ByteArray).extract k.val (k.val + 1) = ⟨#[tab.getD k.val 0]⟩ := by decide +kernel
  rw [h ⟨j, hj⟩]
  simp [ByteArray.ext_iff]

set_option maxRecDepth 100000 in
set_option maxHeartbeats 400000 in
theorem rhextext_any (n least : Int) (w : World) (h0 : -9223372036854775808 ≤ n) (h1 : n ≤ 9223372036854775807) (h2 : -9223372036854775808 ≤ least) (h3 : least ≤ 9223372036854775807) :
    Calls Tryd.prog 61 #[.int .i64 n, .int .i64 least] w fun e w' => e = .returned (.string ⟨(hexText n least).toArray⟩) ∧ w = w' := by
  have hx : ∀ m : Int, (n < 0 ∧ m = 0) ∨ (¬ n < 0 ∧ m = n) → goHexText 16 0 m.toNat (min least 8) [] = hexText n least := by
    intro m h
    unfold hexText
    rw [show n.toNat = m.toNat by omega]
  have HX := Lib.hid hx
  clear hx
  by_cases hn : n < 0
  all_goals
    go_enter Tryd.func61, Tryd.ntmps61
    go_wp2_with fail
    go_loop [0, 5, 6] (fun a t i => ∃ (m : Int) (acc : List UInt8), acc.length ≤ 16 ∧ 0 ≤ m ∧ m ≤ 9223372036854775807 ∧ goHexText (16 - acc.length) acc.length m.toNat (min least 8) acc = hexText n least ∧ a = .int .i64 m ∧ t = .string ⟨acc.toArray⟩ ∧ i = .int .i64 acc.length) (fun _ _ i => 16 - (intOf i).toNat)
    case atStart =>
      first
        | exact ⟨0, [], by simp, by omega, by omega, HX.out 0 (by omega), rfl, rfl, rfl⟩
        | exact ⟨n, [], by simp, by omega, by omega, HX.out n (by omega), rfl, rfl, rfl⟩
    case round =>
      obtain ⟨m, acc, hk, hm0, hm, hg, rfl, rfl, rfl⟩ := hrel
      have HG := Lib.hid hg
      obtain ⟨j, hj⟩ := Int.eq_ofNat_of_zero_le (show 0 ≤ m % 16 by omega)
      have hj16 : j < 16 := by omega
      have hst := Lib.hid (fun h => hx_stop (acc := acc) (least := least) hm0 h)
      have hgo := Lib.hid (fun hl h => hx_go (acc := acc) (least := least) hm0 hl hj h)
      have hen := Lib.hid (fun h => hx_end (acc := acc) (least := least) (n := m) h)
      clear hg
      by_cases hm1 : 0 < m
      · go_wp2_with fail
        · go_round
          case rel => exact ⟨m / 16, tab.getD j 0 :: acc, by simp; omega, by omega, by omega, by rw [← HG.out, hgo.out (by omega) (by unfold stops; omega)]; rfl, rfl, by rw [hx_text hj16], by simp⟩
          case measure => simp [intOf]; omega
        · go_ret
          exact ⟨rets' (by rw [← HG.out, hen.out (by omega)]), rfl⟩
      · go_wp2_with fail
        · go_round
          case rel => exact ⟨m / 16, tab.getD j 0 :: acc, by simp; omega, by omega, by omega, by rw [← HG.out, hgo.out (by omega) (by unfold stops; omega)]; rfl, rfl, by rw [hx_text hj16], by simp⟩
          case measure => simp [intOf]; omega
        · go_ret
          exact ⟨rets' (by rw [← HG.out, hst.out (by unfold stops; omega)]), rfl⟩
        · go_ret
          exact ⟨rets' (by rw [← HG.out, hst.out (by unfold stops; omega)]), rfl⟩
        · go_round
          case rel => exact ⟨m / 16, tab.getD j 0 :: acc, by simp; omega, by omega, by omega, by rw [← HG.out, hgo.out (by omega) (by unfold stops; omega)]; rfl, rfl, by rw [hx_text hj16], by simp⟩
          case measure => simp [intOf]; omega
        · go_ret
          exact ⟨rets' (by rw [← HG.out, hen.out (by omega)]), rfl⟩

end Go.Proofs.YtdmceapbobkklaaDoor.Dg

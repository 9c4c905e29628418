/- What the laws of digit carry from call to call: the tables; and the contracts in the laws' own form. -/
import Derived.Test.YtemnhlljobjjgaaDoorDgParse2
import Derived.Test.YtemnhlljobjjgaaDoorDgHexText2
import Derived.Test.YtemnhlljobjjgaaDoorShelf
namespace Go.Proofs.YtemnhlljobjjgaaDoor.Dg
open Go.RowKit

theorem below_grow (w : World) (k : Nat) (os : Array Obj) : Below w.heap.size w (Go.Sort.grow (w.drewN k) os) :=
  ⟨rfl, rfl, rfl, by simp [Go.Sort.grow], fun j hj => by
    show ((w.drewN k).heap ++ os)[j]? = _
    rw [Array.getElem?_append_left (by simpa using hj)]; rfl⟩

/-- the tables are as the program's text lays them -/
structure St (w : World) : Prop where
  tab : Tab w
  pow : Lib.TabIs Tryd.prog w "internal/strconv.uint64pow10" .u64 Lib.pow10Tab

theorem St.next {w w' : World} (h : St w) (hb : Below w.heap.size w w') : St w' :=
  ⟨fun k hk => (hb.cell (p := ⟨0, k, none⟩) (tab_lt h.tab)).trans (h.tab k hk), by
    have hp := h.pow
    unfold Lib.TabIs World.var? at *
    cases hg : Tryd.prog.globalNamed "internal/strconv.uint64pow10" with
    | none => simp [hg] at hp
    | some g =>
      simp only [hg, Option.bind_some] at hp ⊢
      have hlt : g < w.heap.size := by
        rcases Nat.lt_or_ge g w.heap.size with h' | h'
        · exact h'
        · rw [Array.getElem?_eq_none h'] at hp; simp at hp
      rw [hb.block g hlt]
      exact hp⟩

set_option maxRecDepth 100000 in
set_option maxHeartbeats 400000 in
theorem text_any (n : Int) (w : World) (h0 : -9223372036854775808 ≤ n) (h1 : n ≤ 9223372036854775807) (hs : St w) :
    Calls Tryd.prog 13 #[.int .i64 n] w fun e w' => e = .returned (.string ⟨(Lib.itoa n).toArray⟩) ∧ Below w.heap.size w w' := by
  have HS := Lib.hid hs
  clear hs
  go_enter Tryd.func13, Tryd.ntmps13
  go_wp2_with (go_at_call 20; refine (Tryd.strconv_Itoa n h0 h1 _ HS.out.pow).mono ?_; rintro e w' ⟨rfl, k, os, rfl⟩)
  go_ret
  exact ⟨rfl, below_grow _ _ _⟩

def on (o : Option Nat) : Int := (o.getD 0 : Nat)
theorem vOpt_eq (o : Option Nat) : vOpt o = .tuple #[.int .i64 (on o), .bool o.isSome] := by cases o <;> rfl
theorem vHex_eq (l : List UInt8) : vHex l = .tuple #[.int .i64 (on (hexR l)), .bool (hexR l).isSome] := by
  unfold vHex; cases hexR l <;> rfl

theorem parse_t (s : ByteArray) (w : World) (hs : s.size ≤ maxLen) :
    Calls Tryd.prog 7 #[.string s] w fun e w' => e = .returned (.tuple #[.int .i64 (on (parseR s.data.toList)), .bool (parseR s.data.toList).isSome]) ∧ w = w' :=
  (parse_any s w hs).mono fun _ _ ⟨he, hw⟩ => ⟨by rw [he, vOpt_eq], hw⟩
theorem rparse_t (s : ByteArray) (w : World) (hs : s.size ≤ maxLen) :
    Calls Tryd.prog 8 #[.string s] w fun e w' => e = .returned (.tuple #[.int .i64 (on (parseR s.data.toList)), .bool (parseR s.data.toList).isSome]) ∧ w = w' :=
  (rparse_any s w hs).mono fun _ _ ⟨he, hw⟩ => ⟨by rw [he, vOpt_eq], hw⟩
theorem hex_t (s : ByteArray) (w : World) (hs : s.size ≤ maxLen) (ht : Tab w) :
    Calls Tryd.prog 9 #[.string s] w fun e w' => e = .returned (.tuple #[.int .i64 (on (hexR s.data.toList)), .bool (hexR s.data.toList).isSome]) ∧ w = w' :=
  (hex_any s w hs ht).mono fun _ _ ⟨he, hw⟩ => ⟨by rw [he, vHex_eq], hw⟩
theorem rhex_t (s : ByteArray) (w : World) (hs : s.size ≤ maxLen) :
    Calls Tryd.prog 10 #[.string s] w fun e w' => e = .returned (.tuple #[.int .i64 (on (hexR s.data.toList)), .bool (hexR s.data.toList).isSome]) ∧ w = w' :=
  (rhex_any s w hs).mono fun _ _ ⟨he, hw⟩ => ⟨by rw [he, vHex_eq], hw⟩

set_option maxRecDepth 100000 in
set_option maxHeartbeats 400000 in
theorem alive_any (w : World) (hs : St w) : Calls Tryd.prog 6 #[] w fun e w' => e = .returned (.bool true) ∧ Below w.heap.size w w' := by
  have HS := Lib.hid hs
  clear hs
  have c1 := Lib.hid (fun w => parse_t ⟨#[48, 48, 55]⟩ w (by decide))
  have e1 : parseR [48, 48, 55] = none := by decide +kernel
  have c2 := Lib.hid (fun w => lead_any ⟨#[49, 50, 97, 98]⟩ w (by decide))
  have e2 : goLead [49, 50, 97, 98] 0 0 = (12, 2) := by decide +kernel
  have c3 := Lib.hid (fun w h => hex_t ⟨#[102, 70]⟩ w (by decide) h)
  have e3 : hexR [102, 70] = some 255 := by decide +kernel
  have e4 : hexText 10 2 = [48, 97] := by decide +kernel
  have e5 : Lib.itoa (-30) = [45, 51, 48] := by decide +kernel
  simp only [e1, e2, e3] at c1 c2 c3
  clear e1 e2 e3
  have c4 := Lib.hid (fun w h => hextext_any 10 2 w (by omega) (by omega) (by omega) (by omega) h)
  rw [e4] at c4
  have c5 := Lib.hid (fun w h => text_any (-30) w (by omega) (by omega) h)
  rw [e5] at c5
  clear e4 e5
  go_enter Tryd.func6, Tryd.ntmps6
  go_wp2_with (first
    | (go_at_call 7; refine (c1.out _).mono ?_; rintro e w' ⟨rfl, rfl⟩)
    | (go_at_call 11; refine (c2.out _).mono ?_; rintro e w' ⟨rfl, rfl⟩)
    | (go_at_call 9; refine (c3.out _ HS.out.tab).mono ?_; rintro e w' ⟨rfl, rfl⟩))
  refine (c4.out _ HS.out.tab).mono ?_
  rintro e w1 ⟨rfl, hb1⟩
  have HB := Lib.hid hb1
  clear hb1
  go_wp2_with fail
  refine (c5.out _ (HS.out.next HB.out)).mono ?_
  rintro e w2 ⟨rfl, hb2⟩
  have HB2 := Lib.hid hb2
  clear hb2
  go_wp2_with fail
  go_ret
  exact ⟨rfl, HB.out.trans (HB2.out.mono HB.out.size)⟩

/-- w came out of w0 by calls that made memory alone -/
structure Gr (w0 w : World) : Prop where
  st : St w0
  b : Below w0.heap.size w0 w
theorem Gr.start {w : World} (h : St w) : Gr w w := ⟨h, Below.refl _ _⟩
theorem Gr.here {w0 w : World} (h : Gr w0 w) : St w := h.st.next h.b
theorem Gr.on {w0 w w' : World} (h : Gr w0 w) (hb : Below w.heap.size w w') : Gr w0 w' := ⟨h.st, h.b.trans (hb.mono h.b.size)⟩

theorem text_g {w0 : World} (n : Int) (w : World) (h0 : -9223372036854775808 ≤ n) (h1 : n ≤ 9223372036854775807) (g : Gr w0 w) :
    Calls Tryd.prog 13 #[.int .i64 n] w fun e w' => e = .returned (.string ⟨(Lib.itoa n).toArray⟩) ∧ Gr w0 w' :=
  (text_any n w h0 h1 g.here).mono fun _ _ ⟨he, hw⟩ => ⟨he, g.on hw⟩
theorem hextext_g {w0 : World} (n least : Int) (w : World) (h0 : -9223372036854775808 ≤ n) (h1 : n ≤ 9223372036854775807) (h2 : -9223372036854775808 ≤ least) (h3 : least ≤ 9223372036854775807) (g : Gr w0 w) :
    Calls Tryd.prog 15 #[.int .i64 n, .int .i64 least] w fun e w' => e = .returned (.string ⟨(hexText n least).toArray⟩) ∧ Gr w0 w' :=
  (hextext_any n least w h0 h1 h2 h3 g.here.tab).mono fun _ _ ⟨he, hw⟩ => ⟨he, g.on hw⟩
theorem alive_g {w0 : World} (w : World) (g : Gr w0 w) : Calls Tryd.prog 6 #[] w fun e w' => e = .returned (.bool true) ∧ Gr w0 w' :=
  (alive_any w g.here).mono fun _ _ ⟨he, hw⟩ => ⟨he, g.on hw⟩

end Go.Proofs.YtemnhlljobjjgaaDoor.Dg

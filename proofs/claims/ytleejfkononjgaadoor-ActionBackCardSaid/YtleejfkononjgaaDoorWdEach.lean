/- The range over words, and what it stands on. -/
import Derived.Test.YtleejfkononjgaaDoorWdIter
namespace Go.Proofs.YtleejfkononjgaaDoor.Wd
open Go.RowKit Go.Shelf

attribute [local go_sem] Oper.semAt_some

theorem each_stops (F : Fence) (n : Nat) (hf : F.fn 40) (hf2 : F.fn 36) (hro : F.round = none) (hn : 1 ≤ n) (Ba Bn n₀ K : Nat) (s : ByteArray) (at_ : Int) (hK : min (max at_ 0) (s.size : Int) = K) (hs : s.size ≤ 1000000) (w : World)
    (hb : ∀ (s : ByteArray) (w : World), s.size ≤ maxLen → CallsIn F (n - 1) Tryd.prog 36 #[.string s, .func (.func 41) #[] #[]] w fun e w' => e = .returned (.int .i64 (spanL blk s.data.toList : Nat)) ∧ w = w')
    (hg : ∀ (s : ByteArray) (w : World), s.size ≤ maxLen → CallsIn F (n - 1) Tryd.prog 36 #[.string s, .func (.func 42) #[] #[]] w fun e w' => e = .returned (.int .i64 (spanL flb s.data.toList : Nat)) ∧ w = w')
    (hn₀ : n₀ ≤ w.heap.size) (hba : Boxed w Ba 3 (.int .i64 at_)) (hbx : Boxed w Bn 9 (.string s)) :
    SeqStopsK F n Tryd.prog 40 #[.pointer (some ⟨Ba, 0, none⟩), .pointer (some ⟨Bn, 0, none⟩)] (fun x : Nat × Nat => #[vP x]) (Kept n₀ Bn s) (fun ys => ys = eachL s.data.toList K) (fun pre => pre <+: eachL s.data.toList K) (eachL s.data.toList K).length w := fun l J Jx W hW _ _ hY hJ0 =>
  each1_in F n hf hf2 hro hn l Ba Bn n₀ K s at_ hK hs J Jx hb hg (fun pre x W h h2 _ _ => hY pre x W h h2) W (Nat.le_trans hn₀ hW.size) ((hW.block Ba hba.lt).trans hba) ((hW.block Bn hbx.lt).trans hbx) hJ0

theorem each_zero (l : List UInt8) : eachL l 0 = wordsL l := rfl
theorem words_len (l : List UInt8) : (wordsL l).length ≤ l.length := by have := wdL_len l none 0; simpa [wordsL] using this

theorem blank_wide (n : Nat) (s : ByteArray) (w : World) (h : s.size ≤ maxLen) : CallsIn Fence.wide n Tryd.prog 36 #[.string s, .func (.func 41) #[] #[]] w fun e w' => e = .returned (.int .i64 (spanL blk s.data.toList : Nat)) ∧ w = w' :=
  callsIn_wide.2 (span_blank s h w)
theorem filled_wide (n : Nat) (s : ByteArray) (w : World) (h : s.size ≤ maxLen) : CallsIn Fence.wide n Tryd.prog 36 #[.string s, .func (.func 42) #[] #[]] w fun e w' => e = .returned (.int .i64 (spanL flb s.data.toList : Nat)) ∧ w = w' :=
  callsIn_wide.2 (span_filled s h w)

end Go.Proofs.YtleejfkononjgaaDoor.Wd

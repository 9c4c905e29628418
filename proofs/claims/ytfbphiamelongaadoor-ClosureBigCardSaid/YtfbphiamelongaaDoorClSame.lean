/- Numbers of sets and of marks, compared. -/
import Derived.Test.YtfbphiamelongaaDoorClRSet
import Derived.Test.YtfbphiamelongaaDoorClEach
import Derived.Test.YtfbphiamelongaaDoorUtSm
namespace Go.Proofs.YtfbphiamelongaaDoor.Cl
open Go Go.RowKit
open Go.Proofs.YtfbphiamelongaaDoor.Bt (SetAt setV memL Tab nums nums_rise mem_nums hasI rise_extI iV own_slice)

/-- numbers of a set and of marks are the same where these are -/
theorem nums_marks {L : List Nat} {out : List Bool} {P R : Nat → Prop} (hL : ∀ m, memL L m = true ↔ P m) (ho : ∀ m, mq out m = true ↔ R m) (h : ∀ m, m < out.length → (P m ↔ R m)) (hP : ∀ m, P m → m < out.length) : numB out out.length = nums L := by
  refine rise_extI (numB_rise out _) (nums_rise L) fun x => ?_
  rw [mem_numB, mem_nums]
  unfold hasI
  rw [Bool.and_eq_true, decide_eq_true_eq]
  constructor
  · rintro ⟨i, hi, hm, rfl⟩
    refine ⟨by omega, ?_⟩
    rw [Int.toNat_natCast]
    exact (hL i).2 ((h i hi).2 ((ho i).1 hm))
  · rintro ⟨h0, hm⟩
    have hp := (hL _).1 hm
    exact ⟨x.toNat, hP _ hp, (ho _).2 ((h _ (hP _ hp)).1 hp), by omega⟩
theorem same_true (a b : Value) (xs : List Int) (w : World) (ha : IntsAt w a xs) (hb : IntsAt w b xs) : Calls Tryd.prog 18 #[a, b] w fun e w' => e = .returned (.bool true) ∧ Below w.heap.size w w' := by
  refine (Ut.same_any a b xs xs w ha hb).mono ?_
  rintro e w' ⟨rfl, h⟩
  exact ⟨by simp, h⟩
/-- numbers of marks, as the numbers that they are -/
theorem numbers_as (B : Nat) (u : Value) (out : List Bool) (T : List Int) (hn : out.length ≤ 100000) (hT : numB out out.length = T) (w : World) (hu : BolAt w B u out) : Calls Tryd.prog 20 #[u] w fun e w' => (∃ ao c, e = .returned (.slice ao T.length c) ∧ IntsAt w' (.slice ao T.length c) T) ∧ Below w.heap.size w w' := by
  refine (numbers_any B u out hn w hu).mono ?_
  rintro e w' ⟨v, rfl, h1, h2⟩
  rw [hT] at h1
  obtain ⟨ao, c, rfl⟩ := own_slice h1
  exact ⟨⟨ao, c, rfl, ints_of_row h1⟩, h2⟩
/-- a set's numbers -/
theorem all_as (B room : Nat) (v : Value) (L : List Nat) (w : World) (hT : Tab w) (h : SetAt w B room v L) : Calls Tryd.prog 19 #[setV room v] w fun e w' => (∃ ao c, e = .returned (.slice ao (nums L).length c) ∧ IntsAt w' (.slice ao (nums L).length c) (nums L)) ∧ Below w.heap.size w w' := by
  refine (all_row B room v L w hT h).mono ?_
  rintro e w' ⟨v', rfl, h1, h2⟩
  obtain ⟨ao, c, rfl⟩ := own_slice h1
  exact ⟨⟨ao, c, rfl, ints_of_row h1⟩, h2⟩
/-- marks that a call tells, as values -/
theorem marks_as {P : Program} {f : FuncId} {args : Array Value} {W : World} {n : Nat} {R : Nat → Prop} (h : Calls P f args W fun e W' => MarksOut W n R e W') : Calls P f args W fun e W' => (∃ ao c out, e = .returned (.slice ao n c) ∧ BolAt W' W.heap.size (.slice ao n c) out ∧ out.length = n ∧ ∀ i, mq out i = true ↔ R i) ∧ Below W.heap.size W W' := by
  refine h.mono ?_
  rintro e W' ⟨v, out, rfl, h1, rfl, h3, h4⟩
  obtain ⟨ao, c, rfl, _, _⟩ := h1.shape
  exact ⟨⟨ao, c, out, rfl, h1, rfl, h3⟩, h4⟩

end Go.Proofs.YtfbphiamelongaaDoor.Cl

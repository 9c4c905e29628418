/- The pile: a boxed slice of ranges that the call owns; its methods. -/
import Derived.Test.YtdgpanofehfjdaaRgPlain
import Derived.ChangeKeysEq
namespace Go.Proofs.Ytdgpanofehfjdaa.Rg
open Go.RowKit
theorem wrapOk (tys : Array TypeId) (ty : TypeId) (a : Addr) (s m : String) : Builtin.ssaWrapNilChk_ tys ty #[.pointer (some a), strVal s, strVal m] = pure (.pointer (some a)) := rfl
noncomputable def found (name : String) : Option (List FieldStep × Option (FuncId × Bool)) := ((Try.prog.info? 97).bind fun i => i.methods.find? (·.name == name)).map (fun m => (m.path.toList, m.func))
theorem byVal (w : World) (pb : Nat) (v : Value) (h : w.cell? ⟨pb, 0, none⟩ = some v) (name : String) (f : FuncId) (N : Nat) (hf : found name = some ([], some (f, false))) :
    Sem.run Try.prog (method (N + 1) 97 (.pointer (some ⟨pb, 0, none⟩)) name) w = .ok (f, v) w := by
  unfold found at hf
  cases hi : Try.prog.info? 97 with
  | none => rw [hi] at hf; simp at hf
  | some i =>
    rw [hi] at hf
    simp only [Option.bind_some, Option.map_eq_some_iff] at hf
    obtain ⟨m, hm, he⟩ := hf
    simp only [Prod.mk.injEq] at he
    obtain ⟨hp, hfn⟩ := he
    have hpe : m.path = #[] := by simpa using hp
    unfold method
    rw [Sem.run_bind, run_typeInfo _ hi]
    simp [Result.andThen, hm, hpe, hfn, follow, receiverAt, Place.get, run_underlying Try.underlying97, wrapOk, asAddr, loadVar, isAgg, run_underlying Try.underlying94, h]


theorem byRef (w : World) (pb : Nat) (name : String) (f : FuncId) (N : Nat) (hf : found name = some ([], some (f, true))) :
    Sem.run Try.prog (method (N + 1) 97 (.pointer (some ⟨pb, 0, none⟩)) name) w = .ok (f, .pointer (some ⟨pb, 0, none⟩)) w := by
  unfold found at hf
  cases hi : Try.prog.info? 97 with
  | none => rw [hi] at hf; simp at hf
  | some i =>
    rw [hi] at hf
    simp only [Option.bind_some, Option.map_eq_some_iff] at hf
    obtain ⟨m, hm, he⟩ := hf
    simp only [Prod.mk.injEq] at he
    obtain ⟨hp, hfn⟩ := he
    have hpe : m.path = #[] := by simpa using hp
    unfold method
    rw [Sem.run_bind, run_typeInfo _ hi]
    simp [Result.andThen, hm, hpe, hfn, follow, receiverAt, Place.get, run_underlying Try.underlying97]
theorem fLen : found "Len" = some ([], some (105, false)) := by kernel_rfl
theorem fLess : found "Less" = some ([], some (106, false)) := by kernel_rfl
theorem fSwap : found "Swap" = some ([], some (107, false)) := by kernel_rfl
theorem fPush : found "Push" = some ([], some (109, true)) := by kernel_rfl
theorem fPop : found "Pop" = some ([], some (108, true)) := by kernel_rfl

end Go.Proofs.Ytdgpanofehfjdaa.Rg

/- The pile: a boxed slice of ranges that the call owns; its methods. -/
import Derived.Test.YtdmceapbobkklaaDoorRgPlain
import Derived.ChangeKeysEq
namespace Go.Proofs.YtdmceapbobkklaaDoor.Rg
open Go.RowKit
theorem wrapOk (tys : Array TypeId) (ty : TypeId) (a : Addr) (s m : String) : Builtin.ssaWrapNilChk_ tys ty #[.pointer (some a), strVal s, strVal m] = pure (.pointer (some a)) := rfl
noncomputable def found (name : String) : Option (List FieldStep × Option (FuncId × Bool)) := ((Tryd.prog.info? 95).bind fun i => i.methods.find? (·.name == name)).map (fun m => (m.path.toList, m.func))
theorem byVal (w : World) (pb : Nat) (v : Value) (h : w.cell? ⟨pb, 0, none⟩ = some v) (name : String) (f : FuncId) (N : Nat) (hf : found name = some ([], some (f, false))) :
    Sem.run Tryd.prog (method (N + 1) 95 (.pointer (some ⟨pb, 0, none⟩)) name) w = .ok (f, v) w := by
  unfold found at hf
  cases hi : Tryd.prog.info? 95 with
  | none => rw [hi] at hf; simp at hf
  | some i =>
    rw [hi] at hf
    simp only [Option.bind_some, Option.map_eq_some_iff] at hf
    obtain ⟨m, hm, he⟩ := hf
    simp only [Prod.mk.injEq] at he
    obtain ⟨hp, hfn⟩ := he
    have hpe : m.path = #[] := by simpa using hp
    unfold method
    rw [Sem.run_bind, run_typeInfo _ hi]
    simp [Result.andThen, hm, hpe, hfn, follow, receiverAt, Place.get, run_underlying Tryd.underlying95, wrapOk, asAddr, loadVar, isAgg, run_underlying Tryd.underlying92, h]


theorem byRef (w : World) (pb : Nat) (name : String) (f : FuncId) (N : Nat) (hf : found name = some ([], some (f, true))) :
    Sem.run Tryd.prog (method (N + 1) 95 (.pointer (some ⟨pb, 0, none⟩)) name) w = .ok (f, .pointer (some ⟨pb, 0, none⟩)) w := by
  unfold found at hf
  cases hi : Tryd.prog.info? 95 with
  | none => rw [hi] at hf; simp at hf
  | some i =>
    rw [hi] at hf
    simp only [Option.bind_some, Option.map_eq_some_iff] at hf
    obtain ⟨m, hm, he⟩ := hf
    simp only [Prod.mk.injEq] at he
    obtain ⟨hp, hfn⟩ := he
    have hpe : m.path = #[] := by simpa using hp
    unfold method
    rw [Sem.run_bind, run_typeInfo _ hi]
    simp [Result.andThen, hm, hpe, hfn, follow, receiverAt, Place.get, run_underlying Tryd.underlying95]
theorem fLen : found "Len" = some ([], some (101, false)) := by kernel_rfl
theorem fLess : found "Less" = some ([], some (102, false)) := by kernel_rfl
theorem fSwap : found "Swap" = some ([], some (103, false)) := by kernel_rfl
theorem fPush : found "Push" = some ([], some (105, true)) := by kernel_rfl
theorem fPop : found "Pop" = some ([], some (104, true)) := by kernel_rfl

end Go.Proofs.YtdmceapbobkklaaDoor.Rg

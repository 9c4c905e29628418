/- The box of a tree; what Check tells, way by way. -/
import Derived.Test.YtnocjnmlmjappaaArMem
namespace Go.Proofs.Ytnocjnmlmjappaa.Ar
open Go Go.RowKit Go.Shelf
open Go.Proofs.Ytnocjnmlmjappaa.Rg (R RngsAt RowsAt nthL add_zero own_next)

theorem ret_e {a b : Int} (h : a = b) : Ending.returned (.int .i64 a) = .returned (.int .i64 b) := by rw [h]
/-- the box of a tree -/
def boxT (vn vs : Value) (r : Int) : Obj := .cells #[vn, vs, .int .i64 r] 25
structure TBox (W : World) (b : Nat) (vn vs : Value) (r : Int) : Prop where
  c0 : W.cell? ⟨b, 0, none⟩ = some vn
  c1 : W.cell? ⟨b, 1, none⟩ = some vs
  c2 : W.cell? ⟨b, 2, none⟩ = some (.int .i64 r)
theorem TBox.new (w : World) (vn vs : Value) (r : Int) : TBox (w.alloc (.cells #[vn, vs, .int .i64 r] 25)) w.heap.size vn vs r := by
  constructor <;> (rw [World.cell?_alloc_new]; rfl)
theorem TBox.next {W W' : World} {b : Nat} {vn vs : Value} {r : Int} (h : TBox W b vn vs r) (hb : Below W.heap.size W W') : TBox W' b vn vs r := ⟨cell_next h.c0 hb, cell_next h.c1 hb, cell_next h.c2 hb⟩

theorem check_big {t : Tr} (h : 4096 < t.ns.length ∨ 4096 < t.sets.length) : checkE t = 6 := by unfold checkE; rw [if_pos h]
theorem check_root {t : Tr} (h : ¬ (4096 < t.ns.length ∨ 4096 < t.sets.length)) (hr : rootB t = false) : checkE t = 3 := by unfold checkE okB; rw [if_neg h, hr]; rfl
theorem check_sets {t : Tr} (h : ¬ (4096 < t.ns.length ∨ 4096 < t.sets.length)) (hr : setsB t.sets t.sets.length = false) : checkE t = 3 := by unfold checkE okB; rw [if_neg h, hr, Bool.and_false, Bool.false_and]; rfl
theorem check_node {t : Tr} (h : ¬ (4096 < t.ns.length ∨ 4096 < t.sets.length)) (hr : allB t.ns t.sets.length t.ns.length = false) : checkE t = 3 := by unfold checkE okB; rw [if_neg h, hr, Bool.and_false]; rfl
theorem check_all {t : Tr} (h : ¬ (4096 < t.ns.length ∨ 4096 < t.sets.length)) (h1 : rootB t = true) (h2 : setsB t.sets t.sets.length = true) (h3 : allB t.ns t.sets.length t.ns.length = true) : checkE t = 0 := by unfold checkE okB; rw [if_neg h, h1, h2, h3]; rfl

end Go.Proofs.Ytnocjnmlmjappaa.Ar

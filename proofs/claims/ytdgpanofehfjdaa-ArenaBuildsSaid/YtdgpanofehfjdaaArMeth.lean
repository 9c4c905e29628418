/- The builder's methods. -/
import Derived.Test.YtdgpanofehfjdaaArGraft2
namespace Go.Proofs.Ytdgpanofehfjdaa.Ar
open Go Go.RowKit Go.Shelf
open Go.Proofs.Ytdgpanofehfjdaa.Rg (R RngsAt RowsAt nthL add_zero own_next RowsOwn flatR infoS row_apart row_base rngs_of_row)

set_option maxRecDepth 100000 in
set_option maxHeartbeats 4000000 in
theorem graft_no {B bb : Nat} {ns : List Nd} {S : List (List R)} {nv sv : Value} {xs : List Value} (t : Tr) (v : Value) (w W0 : World) (_ : Bd B w bb ns S nv sv xs) (hv : TreeAt W0 v t) (hB0 : Below W0.heap.size W0 w) (hok : checkE t ≠ 0) :
    Calls Try.prog 47 #[.pointer (some ⟨bb, 0, none⟩), v] w fun e w' => e = .returned (.int .i64 (-1)) ∧ Below w.heap.size w w' := by
  obtain ⟨ao, cap, so, scap, rfl, hm, hm2, _, _⟩ := hv.shape
  have BW := Lib.hid (fun o => (Below.refl w.heap.size w).alloc (Nat.le_refl _) o)
  have CC := Lib.hid (fun W (hb : Below w.heap.size w W) => check_any t _ W (hv.next (hB0.trans (hb.mono hB0.size))))
  have hne : checkE t = 6 ∨ checkE t = 3 := by
    unfold checkE at hok ⊢
    split at hok
    · exact .inl (by rw [if_pos (by assumption)])
    · split at hok
      · exact absurd rfl hok
      · exact .inr (by rw [if_neg (by assumption), if_neg (by assumption)])
  generalize checkE t = E at *
  clear hv hB0 hok
  rcases hne with rfl | rfl
  all_goals (
    go_enter Try.func47, Try.ntmps47
    go_wp2_with (go_at_call 9; (with_reducible refine (CC.out _ (BW.out _)).mono ?_); rintro e w1 ⟨rfl, hb1⟩; go_must (have B1 := Lib.hid ((BW.out (.cells #[.slice ao t.ns.length cap, .slice so t.sets.length scap, .int .i64 t.root] 25)).trans (hb1.mono (by simp))); clear hb1))
    go_ret
    exact ⟨rfl, B1.out⟩)

/-- what a call that is handed on tells -/
def IntoOut (w : World) (Q : World → Ending → World → Prop) (e : Ending) (w' : World) : Prop := ∃ W, Below w.heap.size w W ∧ Q W e w' ∧ ∃ x : Int, e = .returned (.int .i64 x)

set_option maxRecDepth 100000 in
set_option maxHeartbeats 2000000 in
theorem into_node (K : FuncId) (hE : Enters Try.prog K) (a : Addr) (n : Nd) (w : World) (Q : World → Ending → World → Prop)
    (hK : ∀ W, Below w.heap.size w W → Calls Try.prog K #[.pointer (some a), aggN n] W (fun e w' => Q W e w' ∧ ∃ x : Int, e = .returned (.int .i64 x))) :
    Calls Try.prog 40 #[.pointer (some a), .func (.func K) #[] #[], aggN n] w (IntoOut w Q) := by
  have hE' : ∀ (args : Array Value) (w : World), (callFunc K args).run Try.prog w = .ok (.enter K args) w := hE
  have BW := Lib.hid (fun o => (Below.refl w.heap.size w).alloc (Nat.le_refl _) o)
  have HK := Lib.hid hK
  unfold aggN at *
  clear hK
  go_enter Try.func40, Try.ntmps40
  go_wp2_with (go_at_fn K; (with_reducible refine (HK.out _ (BW.out _)).mono ?_); rintro e w1 ⟨hq, x, rfl⟩; go_must (have HQ := Lib.hid hq; clear hq))
  go_ret
  exact ⟨_, BW.out _, HQ.out, x, rfl⟩
set_option maxRecDepth 100000 in
set_option maxHeartbeats 2000000 in
theorem into_nodeN (K : FuncId) (n : Nd) (w : World) :
    Calls Try.prog 40 #[.pointer none, .func (.func K) #[] #[], aggN n] w fun e w' => e = .returned (.int .i64 (-1)) ∧ Below w.heap.size w w' := by
  have BW := Lib.hid (fun o => (Below.refl w.heap.size w).alloc (Nat.le_refl _) o)
  unfold aggN
  go_enter Try.func40, Try.ntmps40
  go_wp2
  go_ret
  exact ⟨rfl, BW.out _⟩
set_option maxRecDepth 100000 in
set_option maxHeartbeats 2000000 in
theorem into_set (K : FuncId) (hE : Enters Try.prog K) (a : Addr) (v : Value) (w : World) (Q : World → Ending → World → Prop)
    (hK : Calls Try.prog K #[.pointer (some a), v] w (fun e w' => Q w e w' ∧ ∃ x : Int, e = .returned (.int .i64 x))) :
    Calls Try.prog 42 #[.pointer (some a), .func (.func K) #[] #[], v] w (IntoOut w Q) := by
  have hE' : ∀ (args : Array Value) (w : World), (callFunc K args).run Try.prog w = .ok (.enter K args) w := hE
  have HK := Lib.hid hK
  clear hK
  go_enter Try.func42, Try.ntmps42
  go_wp2_with (go_at_fn K; (with_reducible refine HK.out.mono ?_); rintro e w1 ⟨hq, x, rfl⟩; go_must (have HQ := Lib.hid hq; clear hq))
  go_ret
  exact ⟨_, Below.refl _ _, HQ.out, x, rfl⟩
set_option maxRecDepth 100000 in
set_option maxHeartbeats 2000000 in
theorem into_setN (K : FuncId) (v : Value) (w : World) :
    Calls Try.prog 42 #[.pointer none, .func (.func K) #[] #[], v] w fun e w' => e = .returned (.int .i64 (-1)) ∧ w' = w := by
  go_enter Try.func42, Try.ntmps42
  go_wp2
  go_ret
  exact ⟨rfl, rfl⟩
set_option maxRecDepth 100000 in
set_option maxHeartbeats 2000000 in
theorem into_tree (K : FuncId) (hE : Enters Try.prog K) (a : Addr) (v1 v2 : Value) (r : Int) (w : World) (Q : World → Ending → World → Prop)
    (hK : ∀ W, Below w.heap.size w W → Calls Try.prog K #[.pointer (some a), .agg #[v1, v2, .int .i64 r]] W (fun e w' => Q W e w' ∧ ∃ x : Int, e = .returned (.int .i64 x))) :
    Calls Try.prog 46 #[.pointer (some a), .func (.func K) #[] #[], .agg #[v1, v2, .int .i64 r]] w (IntoOut w Q) := by
  have hE' : ∀ (args : Array Value) (w : World), (callFunc K args).run Try.prog w = .ok (.enter K args) w := hE
  have BW := Lib.hid (fun o => (Below.refl w.heap.size w).alloc (Nat.le_refl _) o)
  have HK := Lib.hid hK
  clear hK
  go_enter Try.func46, Try.ntmps46
  go_wp2_with (go_at_fn K; (with_reducible refine (HK.out _ (BW.out _)).mono ?_); rintro e w1 ⟨hq, x, rfl⟩; go_must (have HQ := Lib.hid hq; clear hq))
  go_ret
  exact ⟨_, BW.out _, HQ.out, x, rfl⟩
set_option maxRecDepth 100000 in
set_option maxHeartbeats 2000000 in
theorem into_treeN (K : FuncId) (v1 v2 : Value) (r : Int) (w : World) :
    Calls Try.prog 46 #[.pointer none, .func (.func K) #[] #[], .agg #[v1, v2, .int .i64 r]] w fun e w' => e = .returned (.int .i64 (-1)) ∧ Below w.heap.size w w' := by
  have BW := Lib.hid (fun o => (Below.refl w.heap.size w).alloc (Nat.le_refl _) o)
  go_enter Try.func46, Try.ntmps46
  go_wp2
  go_ret
  exact ⟨rfl, BW.out _⟩

end Go.Proofs.Ytdgpanofehfjdaa.Ar

namespace Go.Proofs.Ytdgpanofehfjdaa.Ar
open Go Go.RowKit Go.Shelf
open Go.Proofs.Ytdgpanofehfjdaa.Rg (R RngsAt RowsAt nthL add_zero own_next RowsOwn flatR infoS row_apart row_base rngs_of_row setFrom hasB inB)

theorem BStep.pre {B bb : Nat} {w W w' : World} {nv sv : Value} {ns : List Nd} {S : List (List R)} (hb : Below w.heap.size w W) (h : BStep B W bb nv sv ns S w') : BStep B w bb nv sv ns S w' := by
  obtain ⟨nv', sv', xs', h1, h2, h3, h4⟩ := h
  have := hb.size
  exact ⟨nv', sv', xs', h1, (Kx.of_below hb).trans h2, fun k hk => (h3 k hk).imp id (fun h => by omega), fun k hk => (h4 k hk).imp id (fun h => by omega)⟩
/-- what a call tells that adds a node, if it may be -/
def AddOut (B : Nat) (w : World) (bb : Nat) (ns : List Nd) (S : List (List R)) (nv sv : Value) (n : Nd) (e : Ending) (w' : World) : Prop :=
  (nodeB n ns.length S.length = true ∧ e = .returned (.int .i64 ns.length) ∧ BStep B w bb nv sv (ns ++ [n]) S w') ∨ (nodeB n ns.length S.length = false ∧ e = .returned (.int .i64 (-1)) ∧ Below w.heap.size w w')
theorem AddOut.ret {B : Nat} {w : World} {bb : Nat} {ns : List Nd} {S : List (List R)} {nv sv : Value} {n : Nd} {e : Ending} {w' : World} (h : AddOut B w bb ns S nv sv n e w') : ∃ x : Int, e = .returned (.int .i64 x) := by
  rcases h with ⟨_, h, _⟩ | ⟨_, h, _⟩
  · exact ⟨_, h⟩
  · exact ⟨_, h⟩
theorem eN : Enters Try.prog 41 := enters_of Try.func41 (by kernel_rfl) rfl
theorem eS : Enters Try.prog 43 := enters_of Try.func43 (by kernel_rfl) rfl
theorem eT : Enters Try.prog 47 := enters_of Try.func47 (by kernel_rfl) rfl
theorem add_any {B bb : Nat} {ns : List Nd} {S : List (List R)} {nv sv : Value} {xs : List Value} (n : Nd) (w : World) (h : Bd B w bb ns S nv sv xs) (h1 : ns.length + 1 ≤ 4096) (h2 : S.length ≤ 4096) :
    Calls Try.prog 40 #[.pointer (some ⟨bb, 0, none⟩), .func (.func 41) #[] #[], aggN n] w (AddOut B w bb ns S nv sv n) := by
  refine (into_node 41 eN ⟨bb, 0, none⟩ n w (fun W e w' => AddOut B W bb ns S nv sv n e w') fun W hb => ?_).mono ?_
  · cases hn : nodeB n ns.length S.length
    · refine (node_no n W (h.next hb) h1 h2 hn).mono ?_
      rintro e w' ⟨rfl, hw⟩
      exact ⟨.inr ⟨hn, rfl, hw⟩, _, rfl⟩
    · refine (node_ok n W (h.next hb) h1 h2 hn).mono ?_
      rintro e w' ⟨rfl, hw⟩
      exact ⟨.inl ⟨hn, rfl, hw.step⟩, _, rfl⟩
  · rintro e w' ⟨W, hb, h, _⟩
    rcases h with ⟨g1, g2, g3⟩ | ⟨g1, g2, g3⟩
    · exact .inl ⟨g1, g2, g3.pre hb⟩
    · exact .inr ⟨g1, g2, hb.trans (g3.mono hb.size)⟩

set_option maxRecDepth 100000 in
set_option maxHeartbeats 2000000 in
theorem empty_any {B bb : Nat} {ns : List Nd} {S : List (List R)} {nv sv : Value} {xs : List Value} (w : World) (h : Bd B w bb ns S nv sv xs) (h1 : ns.length + 1 ≤ 4096) (h2 : S.length ≤ 4096) :
    Calls Try.prog 17 #[.pointer (some ⟨bb, 0, none⟩)] w (AddOut B w bb ns S nv sv ⟨1, 0, 0, 0, 0, 0⟩) := by
  have C := Lib.hid (add_any ⟨1, 0, 0, 0, 0, 0⟩ w h h1 h2)
  unfold aggN at C
  clear h
  go_enter Try.func17, Try.ntmps17
  go_wp2_with (go_at_call 40; (with_reducible refine C.out.mono ?_); intro e w1 hq; go_must (obtain ⟨x, rfl⟩ := hq.ret; have HQ := Lib.hid hq; clear hq))
  go_ret
  exact HQ.out
set_option maxRecDepth 100000 in
set_option maxHeartbeats 2000000 in
theorem empty_nil (w : World) : Calls Try.prog 17 #[.pointer none] w fun e w' => e = .returned (.int .i64 (-1)) ∧ Below w.heap.size w w' := by
  have C := Lib.hid (into_nodeN 41 ⟨1, 0, 0, 0, 0, 0⟩ w)
  unfold aggN at C
  go_enter Try.func17, Try.ntmps17
  go_wp2_with (go_at_call 40; (with_reducible refine C.out.mono ?_); rintro e w1 ⟨rfl, hq⟩; go_must (have HQ := Lib.hid hq; clear hq))
  go_ret
  exact ⟨rfl, HQ.out⟩
set_option maxRecDepth 100000 in
set_option maxHeartbeats 2000000 in
theorem cat_any {B bb : Nat} {ns : List Nd} {S : List (List R)} {nv sv : Value} {xs : List Value} (x y : Int) (w : World) (h : Bd B w bb ns S nv sv xs) (h1 : ns.length + 1 ≤ 4096) (h2 : S.length ≤ 4096) :
    Calls Try.prog 20 #[.pointer (some ⟨bb, 0, none⟩), .int .i64 x, .int .i64 y] w (AddOut B w bb ns S nv sv ⟨3, x, y, 0, 0, 0⟩) := by
  have C := Lib.hid (add_any ⟨3, x, y, 0, 0, 0⟩ w h h1 h2)
  unfold aggN at C
  clear h
  go_enter Try.func20, Try.ntmps20
  go_wp2_with (go_at_call 40; (with_reducible refine C.out.mono ?_); intro e w1 hq; go_must (obtain ⟨x, rfl⟩ := hq.ret; have HQ := Lib.hid hq; clear hq))
  go_ret
  exact HQ.out
set_option maxRecDepth 100000 in
set_option maxHeartbeats 2000000 in
theorem cat_nil (x y : Int) (w : World) : Calls Try.prog 20 #[.pointer none, .int .i64 x, .int .i64 y] w fun e w' => e = .returned (.int .i64 (-1)) ∧ Below w.heap.size w w' := by
  have C := Lib.hid (into_nodeN 41 ⟨3, x, y, 0, 0, 0⟩ w)
  unfold aggN at C
  go_enter Try.func20, Try.ntmps20
  go_wp2_with (go_at_call 40; (with_reducible refine C.out.mono ?_); rintro e w1 ⟨rfl, hq⟩; go_must (have HQ := Lib.hid hq; clear hq))
  go_ret
  exact ⟨rfl, HQ.out⟩
set_option maxRecDepth 100000 in
set_option maxHeartbeats 2000000 in
theorem alt_any {B bb : Nat} {ns : List Nd} {S : List (List R)} {nv sv : Value} {xs : List Value} (x y : Int) (w : World) (h : Bd B w bb ns S nv sv xs) (h1 : ns.length + 1 ≤ 4096) (h2 : S.length ≤ 4096) :
    Calls Try.prog 21 #[.pointer (some ⟨bb, 0, none⟩), .int .i64 x, .int .i64 y] w (AddOut B w bb ns S nv sv ⟨4, x, y, 0, 0, 0⟩) := by
  have C := Lib.hid (add_any ⟨4, x, y, 0, 0, 0⟩ w h h1 h2)
  unfold aggN at C
  clear h
  go_enter Try.func21, Try.ntmps21
  go_wp2_with (go_at_call 40; (with_reducible refine C.out.mono ?_); intro e w1 hq; go_must (obtain ⟨x, rfl⟩ := hq.ret; have HQ := Lib.hid hq; clear hq))
  go_ret
  exact HQ.out
set_option maxRecDepth 100000 in
set_option maxHeartbeats 2000000 in
theorem alt_nil (x y : Int) (w : World) : Calls Try.prog 21 #[.pointer none, .int .i64 x, .int .i64 y] w fun e w' => e = .returned (.int .i64 (-1)) ∧ Below w.heap.size w w' := by
  have C := Lib.hid (into_nodeN 41 ⟨4, x, y, 0, 0, 0⟩ w)
  unfold aggN at C
  go_enter Try.func21, Try.ntmps21
  go_wp2_with (go_at_call 40; (with_reducible refine C.out.mono ?_); rintro e w1 ⟨rfl, hq⟩; go_must (have HQ := Lib.hid hq; clear hq))
  go_ret
  exact ⟨rfl, HQ.out⟩
set_option maxRecDepth 100000 in
set_option maxHeartbeats 2000000 in
theorem rep_any {B bb : Nat} {ns : List Nd} {S : List (List R)} {nv sv : Value} {xs : List Value} (x lo hi : Int) (w : World) (h : Bd B w bb ns S nv sv xs) (h1 : ns.length + 1 ≤ 4096) (h2 : S.length ≤ 4096) :
    Calls Try.prog 22 #[.pointer (some ⟨bb, 0, none⟩), .int .i64 x, .int .i64 lo, .int .i64 hi] w (AddOut B w bb ns S nv sv ⟨5, x, 0, lo, hi, 0⟩) := by
  have C := Lib.hid (add_any ⟨5, x, 0, lo, hi, 0⟩ w h h1 h2)
  unfold aggN at C
  clear h
  go_enter Try.func22, Try.ntmps22
  go_wp2_with (go_at_call 40; (with_reducible refine C.out.mono ?_); intro e w1 hq; go_must (obtain ⟨x, rfl⟩ := hq.ret; have HQ := Lib.hid hq; clear hq))
  go_ret
  exact HQ.out
set_option maxRecDepth 100000 in
set_option maxHeartbeats 2000000 in
theorem rep_nil (x lo hi : Int) (w : World) : Calls Try.prog 22 #[.pointer none, .int .i64 x, .int .i64 lo, .int .i64 hi] w fun e w' => e = .returned (.int .i64 (-1)) ∧ Below w.heap.size w w' := by
  have C := Lib.hid (into_nodeN 41 ⟨5, x, 0, lo, hi, 0⟩ w)
  unfold aggN at C
  go_enter Try.func22, Try.ntmps22
  go_wp2_with (go_at_call 40; (with_reducible refine C.out.mono ?_); rintro e w1 ⟨rfl, hq⟩; go_must (have HQ := Lib.hid hq; clear hq))
  go_ret
  exact ⟨rfl, HQ.out⟩

set_option maxRecDepth 100000 in
set_option maxHeartbeats 2000000 in
theorem setm_any {B bb : Nat} {ns : List Nd} {S : List (List R)} {nv sv : Value} {xs : List Value} (l : List R) (v : Value) (w : World) (h : Bd B w bb ns S nv sv xs) (hv : RngsAt w v l) (h1 : ns.length + 1 ≤ 4096) (h2 : S.length + 1 ≤ 4096) (hl : l.length ≤ 1000) :
    Calls Try.prog 18 #[.pointer (some ⟨bb, 0, none⟩), v] w (SetBd B w bb ns S nv sv l) := by
  have C := Lib.hid (show Calls Try.prog 42 #[.pointer (some ⟨bb, 0, none⟩), .func (.func 43) #[] #[], v] w (SetBd B w bb ns S nv sv l) from by
    refine (into_set 43 eS ⟨bb, 0, none⟩ v w (fun W e w' => SetBd B W bb ns S nv sv l e w') ?_).mono ?_
    · refine (set_any l v w h hv h1 h2 hl).mono ?_
      rintro e w' hs
      exact ⟨hs, _, hs.1⟩
    · rintro e w' ⟨W, hb, ⟨g1, L, g2, g3, g4, g5⟩, _⟩
      exact ⟨g1, L, g2, g3, g4, g5.pre hb⟩)
  obtain ⟨ao, cap, rfl, _, _⟩ := hv.shape
  clear h hv
  go_enter Try.func18, Try.ntmps18
  go_wp2_with (go_at_call 42; (with_reducible refine C.out.mono ?_); intro e w1 hq; go_must (have hqe := hq.1; have HQ := Lib.hid hq; clear hq); subst hqe)
  go_ret
  exact HQ.out
set_option maxRecDepth 100000 in
set_option maxHeartbeats 2000000 in
theorem setm_nil (v : Value) (w : World) (l : List R) (hv : RngsAt w v l) : Calls Try.prog 18 #[.pointer none, v] w fun e w' => e = .returned (.int .i64 (-1)) ∧ w' = w := by
  have C := Lib.hid (into_setN 43 v w)
  obtain ⟨ao, cap, rfl, _, _⟩ := hv.shape
  clear hv
  go_enter Try.func18, Try.ntmps18
  go_wp2_with (go_at_call 42; (with_reducible refine C.out.mono ?_); rintro e w1 ⟨rfl, hw⟩; subst w1)
  go_ret
  exact ⟨rfl, rfl⟩

/-- what Graft tells of any tree -/
def GraftAny (B : Nat) (w : World) (bb : Nat) (ns : List Nd) (S : List (List R)) (nv sv : Value) (t : Tr) (e : Ending) (w' : World) : Prop :=
  (checkE t = 0 ∧ GraftOut B w bb ns S nv sv t e w') ∨ (checkE t ≠ 0 ∧ e = .returned (.int .i64 (-1)) ∧ Below w.heap.size w w')
theorem GraftAny.ret {B : Nat} {w : World} {bb : Nat} {ns : List Nd} {S : List (List R)} {nv sv : Value} {t : Tr} {e : Ending} {w' : World} (h : GraftAny B w bb ns S nv sv t e w') : ∃ x : Int, e = .returned (.int .i64 x) := by
  rcases h with ⟨_, h, _⟩ | ⟨_, h, _⟩
  · exact ⟨_, h⟩
  · exact ⟨_, h⟩
set_option maxRecDepth 100000 in
set_option maxHeartbeats 2000000 in
theorem graftm_any {B bb : Nat} {ns : List Nd} {S : List (List R)} {nv sv : Value} {xs : List Value} (t : Tr) (v : Value) (w W0 : World) (h : Bd B w bb ns S nv sv xs) (hv : TreeAt W0 v t) (hB0 : Below W0.heap.size W0 w) (hB : W0.heap.size ≤ B) (h1 : ns.length + t.ns.length ≤ 4096) (h2 : S.length + t.sets.length ≤ 4096) (hS : ∀ s, s ∈ t.sets → s.length ≤ 1000000) :
    Calls Try.prog 24 #[.pointer (some ⟨bb, 0, none⟩), v] w (GraftAny B w bb ns S nv sv t) := by
  have BW := Lib.hid (fun o => (Below.refl w.heap.size w).alloc (Nat.le_refl _) o)
  obtain ⟨vn, vs, rfl, hvn, hvs⟩ := hv
  have C := Lib.hid (fun W (hW : Below w.heap.size w W) => show Calls Try.prog 46 #[.pointer (some ⟨bb, 0, none⟩), .func (.func 47) #[] #[], .agg #[vn, vs, .int .i64 t.root]] W (GraftAny B w bb ns S nv sv t) from by
    refine (into_tree 47 eT ⟨bb, 0, none⟩ vn vs t.root W (fun W e w' => GraftAny B W bb ns S nv sv t e w') fun W' hb => ?_).mono ?_
    · have hb2 := hW.trans (hb.mono hW.size)
      by_cases hc : checkE t = 0
      · refine (graft_any t _ W' W0 (h.next hb2) ⟨vn, vs, rfl, hvn, hvs⟩ (hB0.trans (hb2.mono hB0.size)) hB hc h1 h2 hS).mono ?_
        rintro e w' hs
        exact ⟨.inl ⟨hc, hs⟩, _, hs.1⟩
      · refine (graft_no t _ W' W0 (h.next hb2) ⟨vn, vs, rfl, hvn, hvs⟩ (hB0.trans (hb2.mono hB0.size)) hc).mono ?_
        rintro e w' ⟨rfl, hs⟩
        exact ⟨.inr ⟨hc, rfl, hs⟩, _, rfl⟩
    · rintro e w' ⟨W', hb, hs, _⟩
      have hb2 := hW.trans (hb.mono hW.size)
      rcases hs with ⟨hc, g1, g2⟩ | ⟨hc, g1, g2⟩
      · exact .inl ⟨hc, g1, g2.pre hb2⟩
      · exact .inr ⟨hc, g1, hb2.trans (g2.mono hb2.size)⟩)
  obtain ⟨no, ncap, rfl, _, _⟩ := hvn.shape
  obtain ⟨so, scap, rfl, _, _⟩ := hvs.shape
  clear h hvn hvs hB0
  go_enter Try.func24, Try.ntmps24
  go_wp2_with (go_at_call 46; (with_reducible refine (C.out _ (BW.out _)).mono ?_); intro e w1 hq; go_must (obtain ⟨x, rfl⟩ := hq.ret; have HQ := Lib.hid hq; clear hq))
  go_ret
  exact HQ.out
set_option maxRecDepth 100000 in
set_option maxHeartbeats 2000000 in
theorem graftm_nil (t : Tr) (v : Value) (w : World) (hv : TreeAt w v t) : Calls Try.prog 24 #[.pointer none, v] w fun e w' => e = .returned (.int .i64 (-1)) ∧ Below w.heap.size w w' := by
  obtain ⟨ao, cap, so, scap, rfl, _, _, _, _⟩ := hv.shape
  have BW := Lib.hid (fun o => (Below.refl w.heap.size w).alloc (Nat.le_refl _) o)
  have C := Lib.hid (into_treeN 47 (.slice ao t.ns.length cap) (.slice so t.sets.length scap) t.root)
  clear hv
  go_enter Try.func24, Try.ntmps24
  go_wp2_with (go_at_call 46; (with_reducible refine (C.out _).mono ?_); rintro e w1 ⟨rfl, hq⟩; go_must (have HQ := Lib.hid hq; clear hq))
  go_ret
  exact ⟨rfl, (BW.out _).trans (HQ.out.mono (by simp))⟩

end Go.Proofs.Ytdgpanofehfjdaa.Ar

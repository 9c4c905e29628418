/- A tree read into a book; what is left behind a number, both ways; whether a tree has a row: in plain words, and that it is right. What is left behind a number, as many parts: in plain words, and that it is right. -/
import Derived.Test.YtbkafoaoddajoaaGreatDoorPk03
import Derived.Lib.SlicesCompact

namespace Go.Proofs.YtbkafoaoddajoaaGreatDoor.Dv
open Go.Proofs.YtbkafoaoddajoaaGreatDoor.Ar (Nd nd nd_eq nd_left nodeB nodeB_mono nodeB_ways timesB Tr Ok)
open Go.Proofs.YtbkafoaoddajoaaGreatDoor.Rg (R hasB inB)

theorem node_times {n : Nd} {i s : Int} (h : nodeB n i s = true) (h5 : n.op = 5) : timesB n.lo n.hi = true := by
  unfold nodeB at h
  rw [if_neg (by omega), if_neg (by omega), if_neg (by omega), if_pos h5, Bool.and_eq_true] at h
  exact h.2

theorem nodup_lt : ∀ (n : Nat) (l : List Nat), l.Nodup → (∀ x, x ∈ l → x < n) → l.length ≤ n
  | 0, l, _, h => by
    cases l with
    | nil => simp
    | cons x l => have := h x List.mem_cons_self; omega
  | n + 1, l, hl, h => by
    by_cases hn : n ∈ l
    · have h1 := nodup_lt n (l.erase n) (hl.erase n) (fun x hx => by
        have := h x (List.mem_of_mem_erase hx)
        have : x ≠ n := ((List.Nodup.mem_erase_iff hl).1 hx).1
        omega)
      rw [List.length_erase_of_mem hn] at h1
      omega
    · have h1 := nodup_lt n l hl (fun x hx => by
        have := h x hx
        have : x ≠ n := fun e => hn (e ▸ hx)
        omega)
      omega

/-! a tree read into a book -/
abbrev Mm := List (Nat × Nat)
def mk (t : Tr) : Nat → Bk → Mm → Nat → Bk × Mm × Nat
  | 0, B, D, _ => (B, D, 0)
  | f + 1, B, D, i => match D.lookup i with
    | some x => (B, D, x)
    | none =>
      if (nd t.ns i).op = 2 then ((setF B (t.sets.getD (nd t.ns i).set.toNat [])).1, (i, (setF B (t.sets.getD (nd t.ns i).set.toNat [])).2) :: D, (setF B (t.sets.getD (nd t.ns i).set.toNat [])).2)
      else if (nd t.ns i).op = 3 then
        let p := mk t f B D (nd t.ns i).a.toNat
        let q := mk t f p.1 p.2.1 (nd t.ns i).b.toNat
        let c := catF q.1 p.2.2 q.2.2
        (c.1, (i, c.2) :: q.2.1, c.2)
      else if (nd t.ns i).op = 4 then
        let p := mk t f B D (nd t.ns i).a.toNat
        let q := mk t f p.1 p.2.1 (nd t.ns i).b.toNat
        let c := altF q.1 p.2.2 q.2.2
        (c.1, (i, c.2) :: q.2.1, c.2)
      else if (nd t.ns i).op = 5 then
        let p := mk t f B D (nd t.ns i).a.toNat
        let c := repF p.1 p.2.2 (nd t.ns i).lo (nd t.ns i).hi
        (c.1, (i, c.2) :: p.2.1, c.2)
      else (B, (i, 1) :: D, 1)
def startB : Bk := ⟨[nSet 0, nEmp], [[]], [false, true], false⟩
def mkF (t : Tr) : Bk × Mm × Nat := mk t (t.root.toNat + 1) startB [] t.root.toNat

theorem start_good : Good startB where
  len := rfl
  small := by decide
  nodup := by decide
  two := by decide
  zero := rfl
  fst := rfl
  sets0 := by decide
  set0 := rfl
  node := fun i hi => by
    have h : i = 0 ∨ i = 1 := by simp [startB] at hi; omega
    rcases h with rfl | rfl <;> decide
  reps := fun i hi h5 => by
    have h : i = 0 ∨ i = 1 := by simp [startB] at hi; omega
    rcases h with rfl | rfl <;> simp [startB, nd, nSet, nEmp] at h5
  bare := fun i hi => by
    have h : i = 0 ∨ i = 1 := by simp [startB] at hi; omega
    rcases h with rfl | rfl
    · refine ⟨fun h => by simp [bareAt, startB] at h, fun h => ?_⟩
      unfold dB at h
      rw [den_eq (s := 1) (by decide)] at h
      obtain ⟨c, h, _⟩ := h
      cases h
    · refine ⟨fun _ => ?_, fun _ => rfl⟩
      unfold dB
      rw [den_eq (s := 1) (by decide)]
      rfl

/-- the memory of what was told, as far as it goes -/
structure Mem (t : Tr) (B : Bk) (D : Mm) : Prop where
  good : Good B
  full : B.full = false
  cnt : B.parts.length ≤ 2 + D.length
  keys : (D.map Prod.fst).Nodup
  each : ∀ p, p ∈ D → p.1 < t.ns.length ∧ p.2 < B.parts.length ∧ dB B p.2 = den t.ns t.sets p.1
theorem Mem.len {t : Tr} {B : Bk} {D : Mm} (h : Mem t B D) {i : Nat} (hi : i < t.ns.length) (hn : i ∉ D.map Prod.fst) : D.length + 1 ≤ t.ns.length := by
  have h1 : (i :: D.map Prod.fst).Nodup := List.nodup_cons.2 ⟨hn, h.keys⟩
  have h3 := nodup_lt t.ns.length _ h1 (fun x hx => by
    rcases List.mem_cons.1 hx with rfl | hx
    · exact hi
    · obtain ⟨p, hp, rfl⟩ := List.mem_map.1 hx
      exact (h.each p hp).1)
  simpa using h3
/-- a part more, and its number noted -/
theorem Mem.put {t : Tr} {B : Bk} {D : Mm} (h : Mem t B D) (hN : t.ns.length ≤ 4096) {i : Nat} (hi : i < t.ns.length) (hn : i ∉ D.map Prod.fst) {c : Bk × Nat} {A : L} (o : Out B c A) (hA : A = den t.ns t.sets i) : Mem t c.1 ((i, c.2) :: D) ∧ Ext B c.1 ∧ c.2 < c.1.parts.length ∧ dB c.1 c.2 = den t.ns t.sets i := by
  have hl := h.len hi hn
  have hc := h.cnt
  have hf : c.1.full = false := by rw [o.room (by omega)]; exact h.full
  have hd : dB c.1 c.2 = den t.ns t.sets i := by rw [o.den hf, hA]
  refine ⟨⟨o.good, hf, ?_, ?_, fun p hp => ?_⟩, o.ext, o.lt, hd⟩
  · have := o.cnt; simp only [List.length_cons]; omega
  · rw [List.map_cons, List.nodup_cons]; exact ⟨hn, h.keys⟩
  · rcases List.mem_cons.1 hp with rfl | hp
    · exact ⟨hi, o.lt, hd⟩
    · obtain ⟨h1, h2, h3⟩ := h.each p hp
      exact ⟨h1, Nat.lt_of_lt_of_le h2 o.ext.le, by rw [o.ext.den h.good h2]; exact h3⟩
theorem lookup_mem {D : Mm} {i x : Nat} (h : D.lookup i = some x) : (i, x) ∈ D := by
  induction D with
  | nil => cases h
  | cons p D ih =>
    obtain ⟨k, y⟩ := p
    rw [List.lookup_cons] at h
    split at h
    · rename_i hk
      simp only [Option.some.injEq] at h
      subst h
      have : i = k := by simpa using hk
      subst this
      exact List.mem_cons_self
    · exact List.mem_cons_of_mem _ (ih h)
theorem lookup_none {D : Mm} {i : Nat} (h : D.lookup i = none) : i ∉ D.map Prod.fst := by
  induction D with
  | nil => simp
  | cons p D ih =>
    obtain ⟨k, y⟩ := p
    rw [List.lookup_cons] at h
    split at h
    · cases h
    · rename_i hk
      rw [List.map_cons, List.mem_cons, not_or]
      exact ⟨by simpa using hk, ih h⟩

/-- what reading a node tells -/
structure MkOut (t : Tr) (B : Bk) (D : Mm) (i : Nat) (r : Bk × Mm × Nat) : Prop where
  mem : Mem t r.1 r.2.1
  ext : Ext B r.1
  keys : ∀ k, k ∈ r.2.1.map Prod.fst → k ∈ D.map Prod.fst ∨ k ≤ i
  lt : r.2.2 < r.1.parts.length
  den : dB r.1 r.2.2 = den t.ns t.sets i
theorem mk_out {t : Tr} (ht : Ok t) (hN : t.ns.length ≤ 4096) : ∀ (f : Nat) (B : Bk) (D : Mm) (i : Nat), Mem t B D → i < f → i < t.ns.length → MkOut t B D i (mk t f B D i) := by
  intro f
  induction f with
  | zero => intro B D i _ h; omega
  | succ f ih =>
    intro B D i hm hf hi
    have hnode := ht.node i hi
    have hde := den_eq (S := t.sets) hnode
    unfold mk
    split
    · rename_i x hx
      obtain ⟨h1, h2, h3⟩ := hm.each _ (lookup_mem hx)
      exact ⟨hm, Ext.refl B, fun k hk => .inl hk, h2, h3⟩
    · rename_i hx
      have hn := lookup_none hx
      rcases nodeB_ways hnode with ⟨h1, h2⟩ | ⟨h1, h2⟩ | ⟨h1 | h1, h2⟩ | ⟨h1, h2⟩
      · rw [if_neg (by omega), if_neg (by omega), if_neg (by omega), if_neg (by omega)]
        have o := Out.same hm.good (x := 1) (by have := hm.good.two; omega) (A := den t.ns t.sets i) (by rw [hm.good.den1, hde]; simp [denN, h1])
        obtain ⟨r1, r2, r3, r4⟩ := hm.put hN hi hn o rfl
        exact ⟨r1, r2, fun k hk => by rw [List.map_cons, List.mem_cons] at hk; exact hk.elim (fun e => .inr (Nat.le_of_eq e)) .inl, r3, r4⟩
      · rw [if_pos h1]
        have o := setF_out hm.good (t.sets.getD (nd t.ns i).set.toNat [])
        obtain ⟨r1, r2, r3, r4⟩ := hm.put hN hi hn o (by rw [hde]; simp [denN, h1])
        exact ⟨r1, r2, fun k hk => by rw [List.map_cons, List.mem_cons] at hk; exact hk.elim (fun e => .inr (Nat.le_of_eq e)) .inl, r3, r4⟩
      · rw [if_neg (by omega), if_pos h1]
        have p := ih B D (nd t.ns i).a.toNat hm (by omega) (by omega)
        have q := ih _ _ (nd t.ns i).b.toNat p.mem (by omega) (by omega)
        have o := catF_out q.mem.good (x := (mk t f B D (nd t.ns i).a.toNat).2.2) (Nat.lt_of_lt_of_le p.lt q.ext.le) q.lt
        have hn' : i ∉ (mk t f (mk t f B D (nd t.ns i).a.toNat).1 (mk t f B D (nd t.ns i).a.toNat).2.1 (nd t.ns i).b.toNat).2.1.map Prod.fst := fun h => by
          rcases q.keys i h with h | h
          · rcases p.keys i h with h | h
            · exact hn h
            · omega
          · omega
        obtain ⟨r1, r2, r3, r4⟩ := q.mem.put hN hi hn' o (by rw [q.ext.den p.mem.good p.lt, p.den, q.den, hde]; simp [denN, h1])
        refine ⟨r1, (p.ext.trans q.ext).trans r2, fun k hk => ?_, r3, r4⟩
        rw [List.map_cons, List.mem_cons] at hk
        rcases hk with h | h
        · exact .inr (Nat.le_of_eq h)
        · rcases q.keys k h with h | h
          · rcases p.keys k h with h | h
            · exact .inl h
            · right; omega
          · right; omega
      · rw [if_neg (by omega), if_neg (by omega), if_pos h1]
        have p := ih B D (nd t.ns i).a.toNat hm (by omega) (by omega)
        have q := ih _ _ (nd t.ns i).b.toNat p.mem (by omega) (by omega)
        have o := altF_out q.mem.good (x := (mk t f B D (nd t.ns i).a.toNat).2.2) (Nat.lt_of_lt_of_le p.lt q.ext.le) q.lt
        have hn' : i ∉ (mk t f (mk t f B D (nd t.ns i).a.toNat).1 (mk t f B D (nd t.ns i).a.toNat).2.1 (nd t.ns i).b.toNat).2.1.map Prod.fst := fun h => by
          rcases q.keys i h with h | h
          · rcases p.keys i h with h | h
            · exact hn h
            · omega
          · omega
        obtain ⟨r1, r2, r3, r4⟩ := q.mem.put hN hi hn' o (by rw [q.ext.den p.mem.good p.lt, p.den, q.den, hde]; simp [denN, h1])
        refine ⟨r1, (p.ext.trans q.ext).trans r2, fun k hk => ?_, r3, r4⟩
        rw [List.map_cons, List.mem_cons] at hk
        rcases hk with h | h
        · exact .inr (Nat.le_of_eq h)
        · rcases q.keys k h with h | h
          · rcases p.keys k h with h | h
            · exact .inl h
            · right; omega
          · right; omega
      · rw [if_neg (by omega), if_neg (by omega), if_neg (by omega), if_pos h1]
        have p := ih B D (nd t.ns i).a.toNat hm (by omega) (by omega)
        have o := repF_out p.mem.good p.lt (node_times hnode h1)
        have hn' : i ∉ (mk t f B D (nd t.ns i).a.toNat).2.1.map Prod.fst := fun h => by
          rcases p.keys i h with h | h
          · exact hn h
          · omega
        obtain ⟨r1, r2, r3, r4⟩ := p.mem.put hN hi hn' o (by rw [p.den, hde]; simp [denN, h1])
        refine ⟨r1, p.ext.trans r2, fun k hk => ?_, r3, r4⟩
        rw [List.map_cons, List.mem_cons] at hk
        rcases hk with h | h
        · exact .inr (Nat.le_of_eq h)
        · rcases p.keys k h with h | h
          · exact .inl h
          · right; omega
theorem mkF_out {t : Tr} (ht : Ok t) (hN : t.ns.length ≤ 4096) : Good (mkF t).1 ∧ (mkF t).1.full = false ∧ (mkF t).2.2 < (mkF t).1.parts.length ∧ dB (mkF t).1 (mkF t).2.2 = den t.ns t.sets t.root.toNat := by
  have h := mk_out ht hN (t.root.toNat + 1) startB [] t.root.toNat ⟨start_good, rfl, by decide, List.nodup_nil, fun p hp => by simp at hp⟩ (by omega) (by have := ht.root0; have := ht.root1; omega)
  exact ⟨h.mem.good, h.mem.full, h.lt, h.den⟩

/-! whether one of some parts has a row -/
abbrev Way := Bk → List Nat → Int → Bk × List Nat
def hasF (way : Way) : Bk → List Nat → List Int → Bool × Bool
  | B, l, [] => (l.any (bareAt B), true)
  | B, l, c :: r => if (way B l c).1.full = true then (false, false) else if (way B l c).2 = [] then (false, true) else hasF way (way B l c).1 (way B l c).2 r
def anyD (B : Bk) (l : List Nat) : L := fun r => ∃ x, x ∈ l ∧ dB B x r
structure WayOut (B : Bk) (l : List Nat) (c : Int) (p : Bk × List Nat) : Prop where
  good : Good p.1
  ext : Ext B p.1
  lt : ∀ x, x ∈ p.2 → x < p.1.parts.length
  den : p.1.full = false → ∀ r, anyD p.1 p.2 r ↔ anyD B l (c :: r)
def WayOk (way : Way) : Prop := ∀ B l c, Good B → (∀ x, x ∈ l → x < B.parts.length) → WayOut B l c (way B l c)
theorem hasF_right {way : Way} (hw : WayOk way) : ∀ (r : List Int) (B : Bk) (l : List Nat), Good B → (∀ x, x ∈ l → x < B.parts.length) → (hasF way B l r).2 = true → ((hasF way B l r).1 = true ↔ anyD B l r)
  | [], B, l, g, hl, _ => by
    show l.any (bareAt B) = true ↔ _
    rw [List.any_eq_true]
    exact ⟨fun ⟨x, hx, h⟩ => ⟨x, hx, (g.bare x (hl x hx)).1 h⟩, fun ⟨x, hx, h⟩ => ⟨x, hx, (g.bare x (hl x hx)).2 h⟩⟩
  | c :: r, B, l, g, hl, he => by
    have o := hw B l c g hl
    unfold hasF at he ⊢
    split at he
    · cases he
    · rename_i hf
      rw [if_neg hf]
      have hf' : (way B l c).1.full = false := by simpa using hf
      split at he
      · rename_i hn
        rw [if_pos hn, ← o.den hf' r, hn]
        exact ⟨fun h => (by cases h), fun ⟨x, hx, _⟩ => (by cases hx)⟩
      · rename_i hn
        rw [if_neg hn, ← o.den hf' r]
        exact hasF_right hw r _ _ o.good o.lt he

/-! what is left, as one part -/
def lw (c : Int) : Nat → Bk → Mm → Nat → Bk × Mm × Nat
  | 0, B, D, _ => (B, D, 0)
  | f + 1, B, D, x => match D.lookup x with
    | some y => (B, D, y)
    | none =>
      if (nd B.parts x).op = 2 then (B, (x, if inB (B.sets.getD (nd B.parts x).set.toNat []) c = true then 1 else 0) :: D, if inB (B.sets.getD (nd B.parts x).set.toNat []) c = true then 1 else 0)
      else if (nd B.parts x).op = 3 then
        let p := lw c f B D (nd B.parts x).a.toNat
        let k := catF p.1 p.2.2 (nd B.parts x).b.toNat
        if bareAt k.1 (nd B.parts x).a.toNat = true then
          let q := lw c f k.1 p.2.1 (nd B.parts x).b.toNat
          let m := altF q.1 k.2 q.2.2
          (m.1, (x, m.2) :: q.2.1, m.2)
        else (k.1, (x, k.2) :: p.2.1, k.2)
      else if (nd B.parts x).op = 4 then
        let p := lw c f B D (nd B.parts x).a.toNat
        let q := lw c f p.1 p.2.1 (nd B.parts x).b.toNat
        let m := altF q.1 p.2.2 q.2.2
        (m.1, (x, m.2) :: q.2.1, m.2)
      else if (nd B.parts x).op = 5 then
        let p := lw c f B D (nd B.parts x).a.toNat
        let y := fewerF p.1 (nd B.parts x)
        let k := catF y.1 p.2.2 y.2
        (k.1, (x, k.2) :: p.2.1, k.2)
      else (B, (x, 0) :: D, 0)
def wholeG (c : Int) : List Nat → Bk → Mm → Nat → Bk × Nat
  | [], B, _, left => (B, left)
  | x :: l, B, D, left =>
    let p := lw c (x + 1) B D x
    let m := altF p.1 left p.2.2
    wholeG c l m.1 p.2.1 m.2
def wholeF : Way := fun B l c =>
  let p := wholeG c l B [] 0
  (p.1, if p.2 = 0 then [] else [p.2])

/-- the memory of what is left of the parts of a book B0 -/
structure Lem (c : Int) (B0 B : Bk) (D : Mm) : Prop where
  good : Good B
  ext : Ext B0 B
  lt : ∀ p, p ∈ D → p.1 < B0.parts.length ∧ p.2 < B.parts.length
  den : B.full = false → ∀ p, p ∈ D → dB B p.2 = der (dB B0 p.1) c
theorem not_full {B C : Bk} (h : Ext B C) (hf : C.full = false) : B.full = false := by
  cases hb : B.full
  · rfl
  · rw [h.full hb] at hf; cases hf
theorem Lem.next {c : Int} {B0 B C : Bk} {D : Mm} (h : Lem c B0 B D) (g : Good C) (e : Ext B C) : Lem c B0 C D :=
  ⟨g, h.ext.trans e, fun p hp => ⟨(h.lt p hp).1, Nat.lt_of_lt_of_le (h.lt p hp).2 e.le⟩, fun hf p hp => by rw [e.den h.good (h.lt p hp).2]; exact h.den (not_full e hf) p hp⟩
theorem Lem.put {c : Int} {B0 B : Bk} {D : Mm} (h : Lem c B0 B D) {x y : Nat} (hx : x < B0.parts.length) (hy : y < B.parts.length) (hd : B.full = false → dB B y = der (dB B0 x) c) : Lem c B0 B ((x, y) :: D) :=
  ⟨h.good, h.ext, fun p hp => by
    rcases List.mem_cons.1 hp with rfl | hp
    · exact ⟨hx, hy⟩
    · exact h.lt p hp, fun hf p hp => by
    rcases List.mem_cons.1 hp with rfl | hp
    · exact hd hf
    · exact h.den hf p hp⟩
structure LwOut (c : Int) (B0 B : Bk) (x : Nat) (r : Bk × Mm × Nat) : Prop where
  mem : Lem c B0 r.1 r.2.1
  ext : Ext B r.1
  lt : r.2.2 < r.1.parts.length
  den : r.1.full = false → dB r.1 r.2.2 = der (dB B0 x) c
theorem lw_out {c : Int} {B0 : Bk} (g0 : Good B0) : ∀ (f : Nat) (B : Bk) (D : Mm) (x : Nat), Lem c B0 B D → x < f → x < B0.parts.length → LwOut c B0 B x (lw c f B D x) := by
  intro f
  induction f with
  | zero => intro B D x _ h; omega
  | succ f ih =>
    intro B D x hm hf hx
    have hnode := g0.node x hx
    have hde := g0.den_eq hx
    have hnd := hm.ext.nd hx
    have hsx : ∀ k, k < B0.sets.length → B.sets.getD k [] = B0.sets.getD k [] := fun k hk => pre_getD hm.ext.sets hk
    have two := g0.two
    have hle := hm.ext.le
    unfold lw
    split
    · rename_i y hy
      have := hm.lt _ (lookup_mem hy)
      exact ⟨hm, Ext.refl B, this.2, fun h => hm.den h _ (lookup_mem hy)⟩
    · rename_i hy
      rw [hnd]
      have hreps := g0.reps x hx
      generalize hn : nd B0.parts x = n at hnode hde hreps ⊢
      rcases nodeB_ways hnode with ⟨h1, h2⟩ | ⟨h1, h2⟩ | ⟨h1 | h1, h2⟩ | ⟨h1, h2⟩
      · rw [if_neg (by omega), if_neg (by omega), if_neg (by omega), if_neg (by omega)]
        have hd : dB B 0 = der (dB B0 x) c := by rw [hm.good.den0, hde]; simp [denN, h1, der_eps]
        have hl : 0 < B.parts.length := by omega
        exact ⟨hm.put hx hl (fun _ => hd), Ext.refl B, hl, fun _ => hd⟩
      · rw [if_pos h1, hsx _ (by omega)]
        have hd : dB B (if inB (B0.sets.getD n.set.toNat []) c = true then 1 else 0) = der (dB B0 x) c := by
          rw [hde]
          simp only [denN, h1]
          show _ = der (one _) c
          rw [der_one]
          split
          · exact hm.good.den1
          · exact hm.good.den0
        have hl : (if inB (B0.sets.getD n.set.toNat []) c = true then 1 else 0) < B.parts.length := by split <;> omega
        exact ⟨hm.put hx hl (fun _ => hd), Ext.refl B, hl, fun _ => hd⟩
      · rw [if_neg (by omega), if_pos h1]
        have p := ih B D n.a.toNat hm (by omega) (by omega)
        have hpl := p.mem.ext.le
        have k := catF_out p.mem.good p.lt (y := n.b.toNat) (by omega)
        have hba : bareAt (catF (lw c f B D n.a.toNat).1 (lw c f B D n.a.toNat).2.2 n.b.toNat).1 n.a.toNat = true ↔ dB B0 n.a.toNat [] := by
          rw [k.good.bare _ (by have := k.ext.le; omega), (p.mem.ext.trans k.ext).den g0 (by omega)]
        have hkd : (catF (lw c f B D n.a.toNat).1 (lw c f B D n.a.toNat).2.2 n.b.toNat).1.full = false → dB (catF (lw c f B D n.a.toNat).1 (lw c f B D n.a.toNat).2.2 n.b.toNat).1 (catF (lw c f B D n.a.toNat).1 (lw c f B D n.a.toNat).2.2 n.b.toNat).2 = seq (der (dB B0 n.a.toNat) c) (dB B0 n.b.toNat) := fun h => by
          rw [k.den h, p.den (not_full k.ext h), p.mem.ext.den g0 (by omega)]
        have hm1 := p.mem.next k.good k.ext
        have hdx : dB B0 x = seq (dB B0 n.a.toNat) (dB B0 n.b.toNat) := by rw [hde]; simp [denN, h1]
        dsimp only
        split
        · rename_i hb
          have q := ih _ _ n.b.toNat hm1 (by omega) (by omega)
          have m := altF_out q.mem.good (x := (catF (lw c f B D n.a.toNat).1 (lw c f B D n.a.toNat).2.2 n.b.toNat).2) (Nat.lt_of_lt_of_le k.lt q.ext.le) q.lt
          have hmd := fun h => show dB _ _ = der (dB B0 x) c by
            have hq := not_full m.ext h
            rw [m.den h, q.ext.den k.good k.lt, hkd (not_full q.ext hq), q.den hq, hdx, der_seq_yes _ _ (hba.1 hb)]
          exact ⟨(q.mem.next m.good m.ext).put hx m.lt hmd, ((p.ext.trans k.ext).trans q.ext).trans m.ext, m.lt, hmd⟩
        · rename_i hb
          have hmd := fun h => show dB _ _ = der (dB B0 x) c by
            rw [hkd h, hdx, der_seq_no _ _ (fun h' => hb (hba.2 h'))]
          exact ⟨hm1.put hx k.lt hmd, p.ext.trans k.ext, k.lt, hmd⟩
      · rw [if_neg (by omega), if_neg (by omega), if_pos h1]
        have p := ih B D n.a.toNat hm (by omega) (by omega)
        have q := ih _ _ n.b.toNat p.mem (by omega) (by omega)
        have m := altF_out q.mem.good (x := (lw c f B D n.a.toNat).2.2) (Nat.lt_of_lt_of_le p.lt q.ext.le) q.lt
        have hmd := fun h => show dB _ _ = der (dB B0 x) c by
          have hq := not_full m.ext h
          rw [m.den h, q.ext.den p.mem.good p.lt, p.den (not_full q.ext hq), q.den hq, hde]
          simp [denN, h1, der_alt]
        exact ⟨(q.mem.next m.good m.ext).put hx m.lt hmd, (p.ext.trans q.ext).trans m.ext, m.lt, hmd⟩
      · rw [if_neg (by omega), if_neg (by omega), if_neg (by omega), if_pos h1]
        have ht := node_times hnode h1
        have p := ih B D n.a.toNat hm (by omega) (by omega)
        have hpl := p.mem.ext.le
        have y := fewerF_out p.mem.good (n := n) (by omega) ht (hreps h1)
        have k := catF_out y.good (x := (lw c f B D n.a.toNat).2.2) (Nat.lt_of_lt_of_le p.lt y.ext.le) y.lt
        have hmd := fun h => show dB _ _ = der (dB B0 x) c by
          have hy := not_full k.ext h
          rw [k.den h, y.ext.den p.mem.good p.lt, y.den hy, p.den (not_full y.ext hy), p.mem.ext.den g0 (by omega), hde]
          simp only [denN, h1]
          exact (der_rep _ _ (times_iff.1 ht).1 (hreps h1)).symm
        exact ⟨((p.mem.next y.good y.ext).next k.good k.ext).put hx k.lt hmd, (p.ext.trans y.ext).trans k.ext, k.lt, hmd⟩
structure WgOut (c : Int) (B0 B : Bk) (l : List Nat) (left : Nat) (r : Bk × Nat) : Prop where
  good : Good r.1
  ext : Ext B r.1
  lt : r.2 < r.1.parts.length
  den : r.1.full = false → ∀ s, dB r.1 r.2 s ↔ dB B left s ∨ anyD B0 l (c :: s)
theorem wholeG_out {c : Int} {B0 : Bk} (g0 : Good B0) : ∀ (l : List Nat) (B : Bk) (D : Mm) (left : Nat), Lem c B0 B D → (∀ x, x ∈ l → x < B0.parts.length) → left < B.parts.length → WgOut c B0 B l left (wholeG c l B D left)
  | [], B, D, left, hm, _, hl => ⟨hm.good, Ext.refl B, hl, fun _ s => ⟨.inl, fun h => h.elim id fun ⟨x, hx, _⟩ => by cases hx⟩⟩
  | x :: l, B, D, left, hm, hx, hl => by
    have p := lw_out g0 (x + 1) B D x hm (by omega) (hx x List.mem_cons_self)
    have m := altF_out p.mem.good (x := left) (Nat.lt_of_lt_of_le hl p.ext.le) p.lt
    have r := wholeG_out g0 l _ _ _ (p.mem.next m.good m.ext) (fun y hy => hx y (List.mem_cons_of_mem _ hy)) m.lt
    refine ⟨r.good, (p.ext.trans m.ext).trans r.ext, r.lt, fun h s => ?_⟩
    have hm1 := not_full r.ext h
    refine (r.den h s).trans ?_
    rw [m.den hm1, p.ext.den hm.good hl, p.den (not_full m.ext hm1)]
    show ((dB B left s ∨ der (dB B0 x) c s) ∨ _) ↔ _
    rw [or_assoc]
    refine or_congr_right ⟨?_, ?_⟩
    · rintro (h | ⟨y, hy, h⟩)
      · exact ⟨x, List.mem_cons_self, h⟩
      · exact ⟨y, List.mem_cons_of_mem _ hy, h⟩
    · rintro ⟨y, hy, hy'⟩
      rcases List.mem_cons.1 hy with rfl | hy
      · exact .inl hy'
      · exact .inr ⟨y, hy, hy'⟩
theorem whole_ok : WayOk wholeF := fun B l c g hl => by
  have r := wholeG_out (c := c) g l B [] 0 ⟨g, Ext.refl B, fun p hp => (by cases hp), fun _ p hp => (by cases hp)⟩ hl (by have := g.two; omega)
  refine ⟨r.good, r.ext, fun x hx => ?_, fun h s => ?_⟩
  · simp only [wholeF] at hx ⊢
    split at hx
    · cases hx
    · rw [List.mem_singleton] at hx; subst hx; exact r.lt
  · have hd := r.den h s
    rw [g.den0] at hd
    have hd' : dB (wholeG c l B [] 0).1 (wholeG c l B [] 0).2 s ↔ anyD B l (c :: s) := hd.trans ⟨fun h => h.elim False.elim id, .inr⟩
    rw [← hd']
    simp only [wholeF]
    split
    · rename_i h0
      rw [h0, r.good.den0]
      exact ⟨fun ⟨x, hx, _⟩ => (by cases hx), fun h => h.elim⟩
    · exact ⟨fun ⟨x, hx, h⟩ => by rw [List.mem_singleton] at hx; subst hx; exact h, fun h => ⟨_, List.mem_singleton.2 rfl, h⟩⟩

end Go.Proofs.YtbkafoaoddajoaaGreatDoor.Dv

namespace Go.Proofs.YtbkafoaoddajoaaGreatDoor.Dv
open Go
open Go.Proofs.YtbkafoaoddajoaaGreatDoor.Ar (Nd nd nd_eq nd_left nodeB nodeB_mono nodeB_ways timesB Tr Ok)
open Go.Proofs.YtbkafoaoddajoaaGreatDoor.Rg (R hasB inB)

theorem mem_compactUpTo (d : Array Int) : ∀ (m : Nat) (x : Int), x ∈ Lib.compactUpTo d m ↔ ∃ j, j < m ∧ d[j]! = x
  | 0, x => by simp [Lib.compactUpTo]
  | m + 1, x => by
    rw [Lib.compactUpTo_succ, List.mem_append, mem_compactUpTo d m x]
    by_cases hk : Lib.keeps d m = true
    · rw [if_pos hk, List.mem_singleton]
      constructor
      · rintro (⟨j, hj, h⟩ | h)
        · exact ⟨j, by omega, h⟩
        · exact ⟨m, by omega, h.symm⟩
      · rintro ⟨j, hj, h⟩
        rcases Nat.lt_or_ge j m with h' | h'
        · exact .inl ⟨j, h', h⟩
        · obtain rfl : j = m := by omega
          exact .inr h.symm
    · rw [if_neg hk]
      have hm : m ≠ 0 ∧ d[m]! = d[m - 1]! := by
        simp only [Lib.keeps, decide_eq_true_eq, not_or, ne_eq, Decidable.not_not] at hk
        exact hk
      constructor
      · rintro (⟨j, hj, h⟩ | h)
        · exact ⟨j, by omega, h⟩
        · cases h
      · rintro ⟨j, hj, h⟩
        rcases Nat.lt_or_ge j m with h' | h'
        · exact .inl ⟨j, h', h⟩
        · obtain rfl : j = m := by omega
          exact .inl ⟨j - 1, by omega, by rw [← hm.2]; exact h⟩
theorem mem_compact (l : List Int) (x : Int) : x ∈ Lib.compact l ↔ x ∈ l := by
  unfold Lib.compact
  rw [mem_compactUpTo]
  constructor
  · rintro ⟨j, hj, rfl⟩
    rw [getElem!_pos _ j (by simpa using hj)]
    simp
  · intro h
    obtain ⟨j, hj, rfl⟩ := List.mem_iff_getElem.1 h
    exact ⟨j, hj, by rw [getElem!_pos _ j (by simpa using hj)]; simp⟩
/-- sorted, each number once -/
def tidyZ (l : List Int) : List Int := Lib.compact (l.mergeSort fun x y => decide (x ≤ y))
def castL (l : List Nat) : List Int := l.map fun (x : Nat) => (x : Int)
def tidy (l : List Nat) : List Nat := (tidyZ (castL l)).map Int.toNat
theorem mem_tidyZ (l : List Int) (x : Int) : x ∈ tidyZ l ↔ x ∈ l := by unfold tidyZ; rw [mem_compact, List.mem_mergeSort]
theorem cast_tidy (l : List Nat) : castL (tidy l) = tidyZ (castL l) := by
  unfold tidy
  have h : ∀ x, x ∈ tidyZ (castL l) → 0 ≤ x := fun x hx => by
    rw [mem_tidyZ] at hx
    obtain ⟨y, _, rfl⟩ := List.mem_map.1 hx
    omega
  generalize tidyZ (castL l) = m at h
  induction m with
  | nil => rfl
  | cons x m ih =>
    have h0 := h x List.mem_cons_self
    simp only [castL, List.map_cons] at ih ⊢
    rw [ih (fun y hy => h y (List.mem_cons_of_mem _ hy)), Int.toNat_of_nonneg h0]
theorem mem_tidy (l : List Nat) (x : Nat) : x ∈ tidy l ↔ x ∈ l := by
  unfold tidy
  rw [List.mem_map]
  constructor
  · rintro ⟨y, hy, rfl⟩
    rw [mem_tidyZ] at hy
    obtain ⟨z, hz, rfl⟩ := List.mem_map.1 hy
    simpa using hz
  · intro h
    exact ⟨(x : Int), (mem_tidyZ _ _).2 (List.mem_map.2 ⟨x, h, rfl⟩), by simp⟩

structure Wk where
  b : Bk
  met : List (Nat × Nat)
  wait : List (Nat × Nat)
  left : List Nat
def meet (W : Wk) (p q : Nat) : Wk :=
  if (p, q) ∈ W.met then W else if W.met.length = 12288 then { W with b := { W.b with full := true } } else { W with met := W.met ++ [(p, q)], wait := W.wait ++ [(p, q)] }
def pastSet (c : Int) (W : Wk) (n : Nd) (q : Nat) : Wk := if inB (W.b.sets.getD n.set.toNat []) c = true then { W with left := W.left ++ [q] } else W
def pastCat (W : Wk) (n : Nd) (q : Nat) : Wk :=
  let W1 := meet { W with b := (catF W.b n.b.toNat q).1 } n.a.toNat (catF W.b n.b.toNat q).2
  if bareAt W1.b n.a.toNat = true then meet W1 n.b.toNat q else W1
def pastAlt (W : Wk) (n : Nd) (q : Nat) : Wk := meet (meet W n.a.toNat q) n.b.toNat q
def pastRep (W : Wk) (n : Nd) (q : Nat) : Wk :=
  let y := fewerF W.b n
  let k := catF y.1 y.2 q
  meet { W with b := k.1 } n.a.toNat k.2
def past (c : Int) (W : Wk) (n : Nd) (q : Nat) : Wk :=
  if n.op = 2 then pastSet c W n q else if n.op = 3 then pastCat W n q else if n.op = 4 then pastAlt W n q else if n.op = 5 then pastRep W n q else W
def stop (W : Wk) : Bool := W.wait.isEmpty || W.b.full
def lastW (W : Wk) : Nat × Nat := W.wait.getLastD (0, 0)
def step (c : Int) (W : Wk) : Wk := past c { W with wait := W.wait.dropLast } (nd W.b.parts (lastW W).1) (lastW W).2
def runs (c : Int) : Nat → Wk → Wk
  | 0, W => W
  | k + 1, W => if stop W = true then W else runs c k (step c W)
def begin' (B : Bk) (l : List Nat) : Wk := l.foldl (fun W x => meet W x 1) ⟨B, [], [], []⟩
def meas (W : Wk) : Nat := 2 * (12288 - W.met.length) + W.wait.length
def spreadF : Way := fun B l c =>
  let W := runs c (meas (begin' B l)) (begin' B l)
  (W.b, tidy W.left)

/-- what a walk is, all along -/
structure WkOk (W : Wk) : Prop where
  good : Good W.b
  met : ∀ s, s ∈ W.met → s.1 < W.b.parts.length ∧ s.2 < W.b.parts.length
  wait : ∀ s, s ∈ W.wait → s ∈ W.met
  left : ∀ x, x ∈ W.left → x < W.b.parts.length
  many : W.met.length ≤ 12288
theorem WkOk.next {W : Wk} (h : WkOk W) {B : Bk} (g : Good B) (e : Ext W.b B) : WkOk { W with b := B } :=
  ⟨g, fun s hs => ⟨Nat.lt_of_lt_of_le (h.met s hs).1 e.le, Nat.lt_of_lt_of_le (h.met s hs).2 e.le⟩, h.wait, fun x hx => Nat.lt_of_lt_of_le (h.left x hx) e.le, h.many⟩
theorem full_good {B : Bk} (g : Good B) : Good { B with full := true } := ⟨g.len, g.small, g.nodup, g.two, g.zero, g.fst, g.sets0, g.set0, g.node, g.reps, g.bare⟩

/-- what has been left so far: the rows that a spot leaves -/
def sp (B : Bk) (c : Int) (s : Nat × Nat) : L := seq (der (dB B s.1) c) (dB B s.2)
/-- a walk has gone on: nothing that was there is gone, and unless it is full, all that it has met and left is within T -/
structure Adv (c : Int) (W V : Wk) : Prop where
  ok : WkOk V
  ext : Ext W.b V.b
  met : ∀ s, s ∈ W.met → s ∈ V.met
  left : ∀ x, x ∈ W.left → x ∈ V.left
  less : meas V ≤ meas W
theorem Adv.refl {c : Int} {W : Wk} (h : WkOk W) : Adv c W W := ⟨h, Ext.refl _, fun _ h => h, fun _ h => h, Nat.le_refl _⟩
theorem Adv.trans {c : Int} {A B C : Wk} (h : Adv c A B) (k : Adv c B C) : Adv c A C :=
  ⟨k.ok, h.ext.trans k.ext, fun s hs => k.met s (h.met s hs), fun x hx => k.left x (h.left x hx), Nat.le_trans k.less h.less⟩
theorem Adv.book {c : Int} {W : Wk} (h : WkOk W) {B : Bk} (g : Good B) (e : Ext W.b B) : Adv c W { W with b := B } := ⟨h.next g e, e, fun _ h => h, fun _ h => h, Nat.le_refl _⟩
theorem meet_out (c : Int) {W : Wk} (h : WkOk W) {p q : Nat} (hp : p < W.b.parts.length) (hq : q < W.b.parts.length) :
    Adv c W (meet W p q) ∧ (meet W p q).left = W.left ∧ (meet W p q).b.parts = W.b.parts ∧ (meet W p q).b.sets = W.b.sets ∧ (meet W p q).b.bare = W.b.bare ∧
    ((meet W p q).b.full = false → (p, q) ∈ (meet W p q).met ∧ (∀ s, s ∈ (meet W p q).met → s ∈ W.met ∨ s = (p, q)) ∧ (∀ s, s ∈ (meet W p q).wait ↔ s ∈ W.wait ∨ (s = (p, q) ∧ (p, q) ∉ W.met))) := by
  unfold meet
  split
  · rename_i hm
    exact ⟨Adv.refl h, rfl, rfl, rfl, rfl, fun _ => ⟨hm, fun s hs => .inl hs, fun s => ⟨.inl, fun h => h.elim id fun h' => absurd hm h'.2⟩⟩⟩
  · rename_i hm
    split
    · exact ⟨Adv.book h (full_good h.good) ⟨List.prefix_refl _, List.prefix_refl _, fun _ => rfl⟩, rfl, rfl, rfl, rfl, fun h => (by cases h)⟩
    · rename_i hl
      have := h.many
      refine ⟨⟨⟨h.good, fun s hs => ?_, fun s hs => ?_, h.left, by simp; omega⟩, Ext.refl _, fun s hs => List.mem_append_left _ hs, fun _ h => h, by simp [meas]; omega⟩, rfl, rfl, rfl, rfl, fun _ => ⟨by simp, fun s hs => by simpa using hs, fun s => ?_⟩⟩
      · rcases List.mem_append.1 hs with hs | hs
        · exact h.met s hs
        · simp at hs; subst hs; exact ⟨hp, hq⟩
      · rcases List.mem_append.1 hs with hs | hs
        · exact List.mem_append_left _ (h.wait s hs)
        · exact List.mem_append_right _ hs
      · simp [hm]

/-- within T -/
structure Within (c : Int) (T : L) (W : Wk) : Prop where
  met : ∀ s, s ∈ W.met → ∀ r, sp W.b c s r → T r
  left : ∀ x, x ∈ W.left → ∀ r, dB W.b x r → T r
/-- what a spot leaves is left, or left by a spot of a smaller part -/
def Closed (c : Int) (W : Wk) (s : Nat × Nat) : Prop := ∀ r, sp W.b c s r → (∃ x, x ∈ W.left ∧ dB W.b x r) ∨ ∃ u, u ∈ W.met ∧ u.1 < s.1 ∧ sp W.b c u r
theorem sp_ext {c : Int} {B C : Bk} (g : Good B) (e : Ext B C) {s : Nat × Nat} (h1 : s.1 < B.parts.length) (h2 : s.2 < B.parts.length) : sp C c s = sp B c s := by
  unfold sp; rw [e.den g h1, e.den g h2]
theorem Within.adv {c : Int} {T : L} {W V : Wk} (h : Within c T W) (hw : WkOk W) (a : Ext W.b V.b) (hm : ∀ s, s ∈ V.met → s ∈ W.met ∨ ∀ r, sp V.b c s r → T r) (hl : ∀ x, x ∈ V.left → x ∈ W.left ∨ ∀ r, dB V.b x r → T r) : Within c T V := by
  refine ⟨fun s hs r hr => ?_, fun x hx r hr => ?_⟩
  · rcases hm s hs with h1 | h1
    · have := hw.met s h1
      rw [sp_ext hw.good a this.1 this.2] at hr
      exact h.met s h1 r hr
    · exact h1 r hr
  · rcases hl x hx with h1 | h1
    · rw [a.den hw.good (hw.left x h1)] at hr
      exact h.left x h1 r hr
    · exact h1 r hr
theorem Closed.adv {c : Int} {W V : Wk} (hw : WkOk W) (a : Adv c W V) {s : Nat × Nat} (hs : s ∈ W.met) (h : Closed c W s) : Closed c V s := by
  intro r hr
  have h0 := hw.met s hs
  rw [sp_ext hw.good a.ext h0.1 h0.2] at hr
  rcases h r hr with ⟨x, hx, hd⟩ | ⟨u, hu, hl, hd⟩
  · exact .inl ⟨x, a.left x hx, by rw [a.ext.den hw.good (hw.left x hx)]; exact hd⟩
  · have := hw.met u hu
    exact .inr ⟨u, a.met u hu, hl, by rw [sp_ext hw.good a.ext this.1 this.2]; exact hd⟩

/-- what going past a node tells -/
structure Past (c : Int) (W V : Wk) (s : Nat × Nat) : Prop where
  adv : Adv c W V
  wait : V.b.full = false → ∀ u, u ∈ V.met → u ∈ W.met ∨ u ∈ V.wait
  keep : V.b.full = false → ∀ u, u ∈ W.wait → u ∈ V.wait
  within : V.b.full = false → ∀ T, Within c T W → (∀ r, sp W.b c s r → T r) → Within c T V
  closed : V.b.full = false → Closed c V s
theorem not_full' {c : Int} {W V : Wk} (a : Adv c W V) (h : V.b.full = false) : W.b.full = false := not_full a.ext h

theorem past_out (c : Int) {W : Wk} (h : WkOk W) {p q : Nat} (hp : p < W.b.parts.length) (hq : q < W.b.parts.length) : Past c W (past c W (nd W.b.parts p) q) (p, q) := by
  have hnode := h.good.node p hp
  have hde := h.good.den_eq hp
  have hreps := h.good.reps p hp
  have hsp : ∀ r, sp W.b c (p, q) r ↔ seq (der (denN W.b.sets (dB W.b) (nd W.b.parts p)) c) (dB W.b q) r := fun r => by unfold sp; rw [hde]
  generalize nd W.b.parts p = n at hnode hde hreps hsp ⊢
  unfold past
  rcases nodeB_ways hnode with ⟨h1, h2⟩ | ⟨h1, h2⟩ | ⟨h1 | h1, h2⟩ | ⟨h1, h2⟩
  · rw [if_neg (by omega), if_neg (by omega), if_neg (by omega), if_neg (by omega)]
    have e : denN W.b.sets (dB W.b) n = eps := by simp [denN, h1]
    refine ⟨Adv.refl h, fun _ u hu => .inl hu, fun _ u hu => hu, fun _ T hT _ => hT, fun _ r hr => ?_⟩
    rw [hsp, e, der_eps, no_seq] at hr
    exact hr.elim
  · rw [if_pos h1]
    have e : denN W.b.sets (dB W.b) n = one (inB (W.b.sets.getD n.set.toNat [])) := by simp [denN, h1]
    rw [e, der_one] at hsp
    unfold pastSet
    split
    · rename_i hin
      simp only [if_pos hin, eps_seq] at hsp
      refine ⟨⟨⟨h.good, h.met, h.wait, fun x hx => ?_, h.many⟩, Ext.refl _, fun _ h => h, fun x hx => List.mem_append_left _ hx, Nat.le_refl _⟩, fun _ u hu => .inl hu, fun _ u hu => hu, fun _ T hT hs => hT.adv h (Ext.refl _) (fun s hs => .inl hs) (fun x hx => ?_), fun _ r hr => .inl ⟨q, by simp, (hsp r).1 hr⟩⟩
      · rcases List.mem_append.1 hx with hx | hx
        · exact h.left x hx
        · simp at hx; subst hx; exact hq
      · rcases List.mem_append.1 hx with hx | hx
        · exact .inl hx
        · simp at hx; subst hx; exact .inr fun r hr => hs r ((hsp r).2 hr)
    · rename_i hin
      simp only [if_neg hin, no_seq] at hsp
      exact ⟨Adv.refl h, fun _ u hu => .inl hu, fun _ u hu => hu, fun _ T hT _ => hT, fun _ r hr => ((hsp r).1 hr).elim⟩
  · rw [if_neg (by omega), if_pos h1]
    have ha : n.a.toNat < W.b.parts.length := by omega
    have hb : n.b.toNat < W.b.parts.length := by omega
    have e : denN W.b.sets (dB W.b) n = seq (dB W.b n.a.toNat) (dB W.b n.b.toNat) := by simp [denN, h1]
    rw [e] at hsp
    unfold pastCat
    have k := catF_out h.good hb hq
    have a0 := Adv.book (c := c) h k.good k.ext
    have hle := k.ext.le
    obtain ⟨a1, l1, p1, s1, b1, m1⟩ := meet_out c a0.ok (p := n.a.toNat) (q := (catF W.b n.b.toNat q).2) (by show _ < (catF W.b n.b.toNat q).1.parts.length; omega) k.lt
    dsimp only
    generalize hV : meet { W with b := (catF W.b n.b.toNat q).1 } n.a.toNat (catF W.b n.b.toNat q).2 = V at a1 l1 p1 s1 b1 m1 ⊢
    replace p1 : V.b.parts = (catF W.b n.b.toNat q).1.parts := p1
    have hVd : ∀ x, dB V.b x = dB (catF W.b n.b.toNat q).1 x := fun x => by unfold dB; rw [p1, s1]
    have hspa : V.b.full = false → ∀ r, sp V.b c (n.a.toNat, (catF W.b n.b.toNat q).2) r ↔ seq (seq (der (dB W.b n.a.toNat) c) (dB W.b n.b.toNat)) (dB W.b q) r := fun hf r => by
      have hk := k.den (not_full' a1 hf)
      unfold sp
      rw [hVd, hVd]
      show seq (der (dB (catF W.b n.b.toNat q).1 n.a.toNat) c) (dB (catF W.b n.b.toNat q).1 (catF W.b n.b.toNat q).2) r ↔ _
      rw [hk, k.ext.den h.good ha, seq_assoc]
    have hba : bareAt V.b n.a.toNat = true ↔ dB W.b n.a.toNat [] := by
      rw [a1.ok.good.bare _ (by rw [p1]; omega), hVd, k.ext.den h.good ha]
    split
    · rename_i hbt
      have hnil := hba.1 hbt
      rw [der_seq_yes _ _ hnil] at hsp
      obtain ⟨a2, l2, p2, s2, b2, m2⟩ := meet_out c a1.ok (p := n.b.toNat) (q := q) (by rw [p1]; omega) (by rw [p1]; omega)
      generalize hU : meet V n.b.toNat q = U at a2 l2 p2 s2 b2 m2 ⊢
      have hUd : ∀ x, dB U.b x = dB V.b x := fun x => by unfold dB; rw [p2, s2]
      have hspU : ∀ s, sp U.b c s = sp V.b c s := fun s => by unfold sp; rw [hUd, hUd]
      have hspb : ∀ r, sp U.b c (n.b.toNat, q) r ↔ seq (der (dB W.b n.b.toNat) c) (dB W.b q) r := fun r => by
        unfold sp; rw [hUd, hUd, hVd, hVd, k.ext.den h.good hb, k.ext.den h.good hq]
      have hall := (a0.trans a1).trans a2
      refine ⟨hall, fun hf u hu => ?_, fun hf u hu => ?_, fun hf T hT hs => hT.adv h hall.ext (fun s hs' => ?_) (fun x hx => .inl (by rw [l2, l1] at hx; exact hx)), fun hf r hr => ?_⟩
      · obtain ⟨y1, y2, y3⟩ := m2 hf
        obtain ⟨z1, z2, z3⟩ := m1 (not_full' a2 hf)
        by_cases hin : u ∈ W.met
        · exact .inl hin
        · right
          rcases y2 u hu with h' | rfl
          · rcases z2 u h' with h' | rfl
            · exact absurd h' hin
            · exact (y3 _).2 (.inl ((z3 _).2 (.inr ⟨rfl, hin⟩)))
          · by_cases hv : (n.b.toNat, q) ∈ V.met
            · rcases z2 _ hv with h' | h'
              · exact absurd h' hin
              · exact (y3 _).2 (.inl ((z3 _).2 (.inr ⟨h', h' ▸ hin⟩)))
            · exact (y3 _).2 (.inr ⟨rfl, hv⟩)
      · exact ((m2 hf).2.2 u).2 (.inl (((m1 (not_full' a2 hf)).2.2 u).2 (.inl hu)))
      · rcases (m2 hf).2.1 s hs' with h' | rfl
        · rcases (m1 (not_full' a2 hf)).2.1 s h' with h' | rfl
          · exact .inl h'
          · right; intro r hr
            rw [hspU, hspa (not_full' a2 hf)] at hr
            exact hs r ((hsp r).2 (seq_mono (fun _ h => .inl h) (fun _ h => h) hr))
        · right; intro r hr
          rw [hspb] at hr
          exact hs r ((hsp r).2 (seq_mono (fun _ h => .inr h) (fun _ h => h) hr))
      · rw [sp_ext h.good hall.ext hp hq, hsp] at hr
        obtain ⟨u, v, e', hu | hu, hv⟩ := hr
        · refine .inr ⟨_, a2.met _ (m1 (not_full' a2 hf)).1, by show n.a.toNat < p; omega, ?_⟩
          rw [hspU, hspa (not_full' a2 hf)]
          exact ⟨u, v, e', hu, hv⟩
        · refine .inr ⟨_, (m2 hf).1, by show n.b.toNat < p; omega, ?_⟩
          rw [hspb]
          exact ⟨u, v, e', hu, hv⟩
    · rename_i hbt
      rw [der_seq_no _ _ (fun h' => hbt (hba.2 h'))] at hsp
      have hall := a0.trans a1
      refine ⟨hall, fun hf u hu => ?_, fun hf u hu => ?_, fun hf T hT hs => hT.adv h hall.ext (fun s hs' => ?_) (fun x hx => .inl (by rw [l1] at hx; exact hx)), fun hf r hr => ?_⟩
      · obtain ⟨z1, z2, z3⟩ := m1 hf
        by_cases hin : u ∈ W.met
        · exact .inl hin
        · right
          rcases z2 u hu with h' | rfl
          · exact absurd h' hin
          · exact (z3 _).2 (.inr ⟨rfl, hin⟩)
      · exact ((m1 hf).2.2 u).2 (.inl hu)
      · rcases (m1 hf).2.1 s hs' with h' | rfl
        · exact .inl h'
        · right; intro r hr
          rw [hspa hf] at hr
          exact hs r ((hsp r).2 hr)
      · rw [sp_ext h.good hall.ext hp hq, hsp] at hr
        exact .inr ⟨_, (m1 hf).1, by show n.a.toNat < p; omega, (hspa hf r).2 hr⟩
  · rw [if_neg (by omega), if_neg (by omega), if_pos h1]
    have ha : n.a.toNat < W.b.parts.length := by omega
    have hb : n.b.toNat < W.b.parts.length := by omega
    have e : denN W.b.sets (dB W.b) n = alt (dB W.b n.a.toNat) (dB W.b n.b.toNat) := by simp [denN, h1]
    rw [e, der_alt] at hsp
    unfold pastAlt
    obtain ⟨a1, l1, p1, s1, b1, m1⟩ := meet_out c h (p := n.a.toNat) (q := q) ha hq
    generalize hV : meet W n.a.toNat q = V at a1 l1 p1 s1 b1 m1 ⊢
    obtain ⟨a2, l2, p2, s2, b2, m2⟩ := meet_out c a1.ok (p := n.b.toNat) (q := q) (by rw [p1]; omega) (by rw [p1]; omega)
    generalize hU : meet V n.b.toNat q = U at a2 l2 p2 s2 b2 m2 ⊢
    have hUd : ∀ x, dB U.b x = dB W.b x := fun x => by unfold dB; rw [p2, s2, p1, s1]
    have hspU : ∀ s, sp U.b c s = sp W.b c s := fun s => by unfold sp; rw [hUd, hUd]
    have hall := a1.trans a2
    refine ⟨hall, fun hf u hu => ?_, fun hf u hu => ?_, fun hf T hT hs => hT.adv h hall.ext (fun s hs' => ?_) (fun x hx => .inl (by rw [l2, l1] at hx; exact hx)), fun hf r hr => ?_⟩
    · obtain ⟨y1, y2, y3⟩ := m2 hf
      obtain ⟨z1, z2, z3⟩ := m1 (not_full' a2 hf)
      by_cases hin : u ∈ W.met
      · exact .inl hin
      · right
        rcases y2 u hu with h' | rfl
        · rcases z2 u h' with h' | rfl
          · exact absurd h' hin
          · exact (y3 _).2 (.inl ((z3 _).2 (.inr ⟨rfl, hin⟩)))
        · by_cases hv : (n.b.toNat, q) ∈ V.met
          · rcases z2 _ hv with h' | h'
            · exact absurd h' hin
            · exact (y3 _).2 (.inl ((z3 _).2 (.inr ⟨h', h' ▸ hin⟩)))
          · exact (y3 _).2 (.inr ⟨rfl, hv⟩)
    · exact ((m2 hf).2.2 u).2 (.inl (((m1 (not_full' a2 hf)).2.2 u).2 (.inl hu)))
    · rcases (m2 hf).2.1 s hs' with h' | rfl
      · rcases (m1 (not_full' a2 hf)).2.1 s h' with h' | rfl
        · exact .inl h'
        · right; intro r hr
          rw [hspU] at hr
          exact hs r ((hsp r).2 (seq_mono (fun _ h => .inl h) (fun _ h => h) hr))
      · right; intro r hr
        rw [hspU] at hr
        exact hs r ((hsp r).2 (seq_mono (fun _ h => .inr h) (fun _ h => h) hr))
    · rw [hspU, hsp] at hr
      obtain ⟨u, v, e', hu | hu, hv⟩ := hr
      · exact .inr ⟨_, a2.met _ (m1 (not_full' a2 hf)).1, by show n.a.toNat < p; omega, by rw [hspU]; exact ⟨u, v, e', hu, hv⟩⟩
      · exact .inr ⟨_, (m2 hf).1, by show n.b.toNat < p; omega, by rw [hspU]; exact ⟨u, v, e', hu, hv⟩⟩
  · rw [if_neg (by omega), if_neg (by omega), if_neg (by omega), if_pos h1]
    have ha : n.a.toNat < W.b.parts.length := by omega
    have ht := node_times hnode h1
    have e : denN W.b.sets (dB W.b) n = rep (dB W.b n.a.toNat) n.lo n.hi := by simp [denN, h1]
    rw [e, der_rep _ _ (times_iff.1 ht).1 (hreps h1)] at hsp
    unfold pastRep
    have y := fewerF_out h.good ha ht (hreps h1)
    have k := catF_out y.good y.lt (y := q) (by have := y.ext.le; omega)
    have e0 := y.ext.trans k.ext
    have a0 := Adv.book (c := c) h k.good e0
    have hle := e0.le
    obtain ⟨a1, l1, p1, s1, b1, m1⟩ := meet_out c a0.ok (p := n.a.toNat) (q := (catF (fewerF W.b n).1 (fewerF W.b n).2 q).2) (by show _ < (catF (fewerF W.b n).1 (fewerF W.b n).2 q).1.parts.length; omega) k.lt
    dsimp only
    generalize hV : meet { W with b := (catF (fewerF W.b n).1 (fewerF W.b n).2 q).1 } n.a.toNat (catF (fewerF W.b n).1 (fewerF W.b n).2 q).2 = V at a1 l1 p1 s1 b1 m1 ⊢
    have hVd : ∀ x, dB V.b x = dB (catF (fewerF W.b n).1 (fewerF W.b n).2 q).1 x := fun x => by unfold dB; rw [p1, s1]
    have hspa : V.b.full = false → ∀ r, sp V.b c (n.a.toNat, (catF (fewerF W.b n).1 (fewerF W.b n).2 q).2) r ↔ sp W.b c (p, q) r := fun hf r => by
      have hkf : (catF (fewerF W.b n).1 (fewerF W.b n).2 q).1.full = false := not_full' a1 hf
      have hk := k.den hkf
      have hy := y.den (not_full k.ext hkf)
      rw [hsp]
      unfold sp
      rw [hVd, hVd]
      show seq (der (dB (catF (fewerF W.b n).1 (fewerF W.b n).2 q).1 n.a.toNat) c) (dB (catF (fewerF W.b n).1 (fewerF W.b n).2 q).1 (catF (fewerF W.b n).1 (fewerF W.b n).2 q).2) r ↔ _
      rw [hk, hy, e0.den h.good ha, y.ext.den h.good hq, seq_assoc]
    have hall := a0.trans a1
    refine ⟨hall, fun hf u hu => ?_, fun hf u hu => ?_, fun hf T hT hs => hT.adv h hall.ext (fun s hs' => ?_) (fun x hx => .inl (by rw [l1] at hx; exact hx)), fun hf r hr => ?_⟩
    · obtain ⟨z1, z2, z3⟩ := m1 hf
      by_cases hin : u ∈ W.met
      · exact .inl hin
      · right
        rcases z2 u hu with h' | rfl
        · exact absurd h' hin
        · exact (z3 _).2 (.inr ⟨rfl, hin⟩)
    · exact ((m1 hf).2.2 u).2 (.inl hu)
    · rcases (m1 hf).2.1 s hs' with h' | rfl
      · exact .inl h'
      · right; intro r hr
        exact hs r ((hspa hf r).1 hr)
    · rw [sp_ext h.good hall.ext hp hq] at hr
      exact .inr ⟨_, (m1 hf).1, by show n.a.toNat < p; omega, (hspa hf r).2 hr⟩

/-! the whole walk -/
theorem last_mem {l : List (Nat × Nat)} (h : l ≠ []) : l.getLastD (0, 0) ∈ l ∧ l = l.dropLast ++ [l.getLastD (0, 0)] := by
  have e : l.getLastD (0, 0) = l.getLast h := by
    rw [List.getLastD_eq_getLast?, List.getLast?_eq_some_getLast h]; rfl
  rw [e]
  exact ⟨List.getLast_mem h, (List.dropLast_concat_getLast h).symm⟩
theorem stop_false {W : Wk} (h : stop W = false) : W.wait ≠ [] ∧ W.b.full = false := by
  simp only [stop, Bool.or_eq_false_iff, List.isEmpty_eq_false_iff] at h
  exact h
theorem popped_ok {W : Wk} (h : WkOk W) : WkOk { W with wait := W.wait.dropLast } := ⟨h.good, h.met, fun s hs => h.wait s (List.dropLast_subset _ hs), h.left, h.many⟩
theorem step_past {c : Int} {W : Wk} (h : WkOk W) (hs : stop W = false) : Past c { W with wait := W.wait.dropLast } (step c W) (lastW W) ∧ meas (step c W) < meas W := by
  have h0 := stop_false hs
  have hl := last_mem h0.1
  have hm := h.met _ (h.wait _ hl.1)
  have p := past_out c (popped_ok h) (p := (lastW W).1) (q := (lastW W).2) hm.1 hm.2
  refine ⟨p, ?_⟩
  have h1 := p.adv.less
  have h2 : meas { W with wait := W.wait.dropLast } < meas W := by
    have : 0 < W.wait.length := List.length_pos_iff.2 h0.1
    simp only [meas, List.length_dropLast]
    omega
  exact Nat.lt_of_le_of_lt h1 h2
/-- a walk that has come from its beginning -/
structure Inv (c : Int) (T : L) (W : Wk) : Prop where
  ok : WkOk W
  within : W.b.full = false → Within c T W
  closed : W.b.full = false → ∀ s, s ∈ W.met → s ∈ W.wait ∨ Closed c W s
  whole : W.b.full = false → ∀ r, T r → ∃ s, s ∈ W.met ∧ sp W.b c s r
theorem Inv.step {c : Int} {T : L} {W : Wk} (h : Inv c T W) (hs : stop W = false) : Inv c T (step c W) := by
  have h0 := stop_false hs
  have hl := last_mem h0.1
  obtain ⟨p, _⟩ := step_past (c := c) h.ok hs
  have hmem : lastW W ∈ W.met := h.ok.wait _ hl.1
  have po := popped_ok h.ok
  refine ⟨p.adv.ok, fun hf => ?_, fun hf s hs' => ?_, fun hf r hr => ?_⟩
  · exact p.within hf T ⟨(h.within h0.2).met, (h.within h0.2).left⟩ (fun r hr => (h.within h0.2).met _ hmem r hr)
  · rcases p.wait hf s hs' with h1 | h1
    · rcases h.closed h0.2 s h1 with h2 | h2
      · by_cases he : s = lastW W
        · right; rw [he]; exact p.closed hf
        · left
          refine p.keep hf s ?_
          rw [hl.2] at h2
          rcases List.mem_append.1 h2 with h3 | h3
          · exact h3
          · exact absurd (List.mem_singleton.1 h3) he
      · exact .inr (Closed.adv po p.adv h1 h2)
    · exact .inl h1
  · obtain ⟨s, hs1, hs2⟩ := h.whole h0.2 r hr
    have := h.ok.met s hs1
    exact ⟨s, p.adv.met s hs1, by rw [sp_ext po.good p.adv.ext this.1 this.2]; exact hs2⟩
theorem runs_inv {c : Int} {T : L} : ∀ (k : Nat) (W : Wk), Inv c T W → meas W ≤ k → Inv c T (runs c k W) ∧ stop (runs c k W) = true ∧ Ext W.b (runs c k W).b
  | 0, W, h, hm => by
    refine ⟨h, ?_, Ext.refl _⟩
    have : W.wait.length = 0 := by unfold meas at hm; omega
    show stop W = true
    rw [stop, List.eq_nil_of_length_eq_zero this]; rfl
  | k + 1, W, h, hm => by
    unfold runs
    split
    · rename_i hs; exact ⟨h, hs, Ext.refl _⟩
    · rename_i hs
      have hs' : stop W = false := by simpa using hs
      obtain ⟨p, hl⟩ := step_past (c := c) h.ok hs'
      obtain ⟨r1, r2, r3⟩ := runs_inv k _ (h.step hs') (by omega)
      exact ⟨r1, r2, p.adv.ext.trans r3⟩
/-- at the end what is left is what the spots leave -/
theorem Inv.done {c : Int} {T : L} {W : Wk} (h : Inv c T W) (hs : stop W = true) (hf : W.b.full = false) : ∀ r, anyD W.b W.left r ↔ T r := by
  have hw : W.wait = [] := by
    rw [stop, hf, Bool.or_false, List.isEmpty_iff] at hs; exact hs
  have key : ∀ (n : Nat) (s : Nat × Nat), s.1 < n → s ∈ W.met → ∀ r, sp W.b c s r → anyD W.b W.left r := by
    intro n
    induction n with
    | zero => intro s hs; omega
    | succ n ih =>
      intro s hs1 hs2 r hr
      rcases h.closed hf s hs2 with h1 | h1
      · rw [hw] at h1; cases h1
      · rcases h1 r hr with ⟨x, hx, hd⟩ | ⟨u, hu, hl, hd⟩
        · exact ⟨x, hx, hd⟩
        · exact ih u (by omega) hu r hd
  intro r
  constructor
  · rintro ⟨x, hx, hd⟩; exact (h.within hf).left x hx r hd
  · intro hr
    obtain ⟨s, hs1, hs2⟩ := h.whole hf r hr
    exact key (s.1 + 1) s (Nat.lt_succ_self _) hs1 r hs2
theorem begin_inv {c : Int} {B : Bk} (g : Good B) : ∀ (l done : List Nat) (W : Wk), WkOk W → Ext B W.b → (∀ x, x ∈ l → x < B.parts.length) → W.left = [] → (W.b.full = false → (∀ s, s ∈ W.met ↔ ∃ x, x ∈ done ∧ s = (x, 1)) ∧ (∀ s, s ∈ W.met → s ∈ W.wait)) → W.b.parts = B.parts → W.b.sets = B.sets →
    WkOk (l.foldl (fun W x => meet W x 1) W) ∧ Ext B (l.foldl (fun W x => meet W x 1) W).b ∧ (l.foldl (fun W x => meet W x 1) W).left = [] ∧
    ((l.foldl (fun W x => meet W x 1) W).b.full = false → (∀ s, s ∈ (l.foldl (fun W x => meet W x 1) W).met ↔ ∃ x, x ∈ done ++ l ∧ s = (x, 1)) ∧ (∀ s, s ∈ (l.foldl (fun W x => meet W x 1) W).met → s ∈ (l.foldl (fun W x => meet W x 1) W).wait)) ∧
    (l.foldl (fun W x => meet W x 1) W).b.parts = B.parts ∧ (l.foldl (fun W x => meet W x 1) W).b.sets = B.sets
  | [], done, W, h, e, _, hl, hm, hp, hse => ⟨h, e, hl, fun hf => by rw [List.append_nil]; exact hm hf, hp, hse⟩
  | x :: l, done, W, h, e, hx, hl, hm, hp, hse => by
    obtain ⟨a, l1, p1, s1, b1, m1⟩ := meet_out c h (p := x) (q := 1) (by rw [hp]; exact hx x List.mem_cons_self) (by rw [hp]; exact g.two)
    have r := begin_inv (c := c) g l (done ++ [x]) (meet W x 1) a.ok (e.trans a.ext) (fun y hy => hx y (List.mem_cons_of_mem _ hy)) (by rw [l1]; exact hl) (fun hf => by
      obtain ⟨z1, z2, z3⟩ := m1 hf
      obtain ⟨y1, y2⟩ := hm (not_full' a hf)
      refine ⟨fun s => ⟨fun hs => ?_, ?_⟩, fun s hs => ?_⟩
      · rcases z2 s hs with h' | rfl
        · obtain ⟨y, hy, rfl⟩ := (y1 s).1 h'
          exact ⟨y, List.mem_append_left _ hy, rfl⟩
        · exact ⟨x, by simp, rfl⟩
      · rintro ⟨y, hy, rfl⟩
        rcases List.mem_append.1 hy with hy | hy
        · exact a.met _ ((y1 _).2 ⟨y, hy, rfl⟩)
        · simp at hy; subst hy; exact z1
      · rw [z3]
        rcases z2 s hs with h' | rfl
        · exact .inl (y2 s h')
        · by_cases hin : (x, 1) ∈ W.met
          · exact .inl (y2 _ hin)
          · exact .inr ⟨rfl, hin⟩) (by rw [p1, hp]) (by rw [s1, hse])
    rw [List.append_assoc] at r
    exact r
theorem spread_ok : WayOk spreadF := fun B l c g hl => by
  obtain ⟨h1, h2, h3, h4, h5, h6⟩ := begin_inv (c := c) g l [] ⟨B, [], [], []⟩ ⟨g, fun s hs => (by cases hs), fun s hs => (by cases hs), fun x hx => (by cases hx), by simp⟩ (Ext.refl B) hl rfl (fun _ => ⟨fun s => by simp, fun s hs => (by cases hs)⟩) rfl rfl
  rw [List.nil_append] at h4
  have hd : ∀ x, dB (begin' B l).b x = dB B x := fun x => by
    unfold dB; rw [show (begin' B l).b.parts = B.parts from h5, show (begin' B l).b.sets = B.sets from h6]
  have hsp : ∀ x r, sp (begin' B l).b c (x, 1) r ↔ dB B x (c :: r) := fun x r => by
    unfold sp; rw [hd, hd, g.den1, seq_eps]; rfl
  have i0 : Inv c (fun r => anyD B l (c :: r)) (begin' B l) := by
    refine ⟨h1, fun hf => ⟨fun s hs r hr => ?_, fun x hx => ?_⟩, fun hf s hs => .inl ((h4 hf).2 s hs), fun hf r hr => ?_⟩
    · obtain ⟨x, hx, rfl⟩ := ((h4 hf).1 s).1 hs
      exact ⟨x, hx, (hsp x r).1 hr⟩
    · rw [show (begin' B l).left = [] from h3] at hx; cases hx
    · obtain ⟨x, hx, hr⟩ := hr
      exact ⟨(x, 1), ((h4 hf).1 _).2 ⟨x, hx, rfl⟩, (hsp x r).2 hr⟩
  obtain ⟨r1, r2, r3⟩ := runs_inv (meas (begin' B l)) _ i0 (Nat.le_refl _)
  refine ⟨r1.ok.good, h2.trans r3, fun x hx => ?_, fun hf r => ?_⟩
  · exact r1.ok.left x ((mem_tidy _ _).1 hx)
  · rw [← r1.done r2 hf r]
    exact ⟨fun ⟨x, hx, h⟩ => ⟨x, (mem_tidy _ _).1 hx, h⟩, fun ⟨x, hx, h⟩ => ⟨x, (mem_tidy _ _).2 hx, h⟩⟩

/-! whether a tree has a row -/
def matchF (t : Tr) (r : List Int) : Bool × Int :=
  if (hasF spreadF (mkF t).1 [(mkF t).2.2] r).2 = true then ((hasF spreadF (mkF t).1 [(mkF t).2.2] r).1, 0)
  else if (hasF wholeF (mkF t).1 [(mkF t).2.2] r).2 = true then ((hasF wholeF (mkF t).1 [(mkF t).2.2] r).1, 0)
  else (false, 6)
theorem any_one {B : Bk} {x : Nat} {r : List Int} : anyD B [x] r ↔ dB B x r := ⟨fun ⟨y, hy, h⟩ => by rw [List.mem_singleton] at hy; subst hy; exact h, fun h => ⟨x, List.mem_singleton.2 rfl, h⟩⟩
theorem matchF_right {t : Tr} (ht : Ok t) (hN : t.ns.length ≤ 4096) (r : List Int) : ((matchF t r).2 = 0 ∧ ((matchF t r).1 = true ↔ den t.ns t.sets t.root.toNat r)) ∨ ((matchF t r).2 = 6 ∧ (matchF t r).1 = false ∧ r ≠ []) := by
  obtain ⟨g, hf, hl, hd⟩ := mkF_out ht hN
  have hl' : ∀ x, x ∈ [(mkF t).2.2] → x < (mkF t).1.parts.length := fun x hx => by rw [List.mem_singleton] at hx; subst hx; exact hl
  rw [← hd, ← any_one]
  unfold matchF
  split
  · rename_i h
    exact .inl ⟨rfl, hasF_right spread_ok r _ _ g hl' h⟩
  · rename_i h
    split
    · rename_i h'
      exact .inl ⟨rfl, hasF_right whole_ok r _ _ g hl' h'⟩
    · exact .inr ⟨rfl, rfl, fun e => h (by rw [e]; rfl)⟩

end Go.Proofs.YtbkafoaoddajoaaGreatDoor.Dv

/- Rows of marks over an automaton's states: what the document's rounds come to. -/
import Derived.Test.YtfbphiamelongaaDoorClPlain
namespace Go.Proofs.YtfbphiamelongaaDoor.Cl

/-- is a number marked -/
def mq (L : List Bool) (i : Nat) : Bool := L.getD i false
/-- how many are -/
def cntB (L : List Bool) : Nat := L.count true
theorem mk_lt {L : List Bool} {i : Nat} (h : mq L i = true) : i < L.length := by
  apply Nat.lt_of_not_le
  intro hn
  simp [mq, List.getD, List.getElem?_eq_none hn] at h
theorem mk_eq {L : List Bool} {i : Nat} (h : i < L.length) : mq L i = L[i] := by simp [mq, List.getD, h]
theorem mk_set {L : List Bool} {i j : Nat} (h : i < L.length) : mq (L.set i true) j = (decide (j = i) || mq L j) := by
  unfold mq
  simp only [List.getD_eq_getElem?_getD, List.getElem?_set]
  by_cases e : i = j
  · subst e; simp [h]
  · have : ¬ j = i := fun x => e x.symm
    simp [e, this]
theorem mk_app {L : List Bool} {b : Bool} {j : Nat} : mq (L ++ [b]) j = if j = L.length then b else mq L j := by
  unfold mq
  simp only [List.getD_eq_getElem?_getD]
  by_cases h : j < L.length
  · rw [List.getElem?_append_left h, if_neg (by omega)]
  · by_cases e : j = L.length
    · subst e; simp
    · rw [if_neg e, List.getElem?_eq_none (by simp; omega), List.getElem?_eq_none (by omega)]
theorem mk_none {n i : Nat} : mq (List.replicate n false) i = false := by
  unfold mq
  simp only [List.getD_eq_getElem?_getD, List.getElem?_replicate]
  split <;> rfl
theorem set_same {L : List Bool} {i : Nat} (h : mq L i = true) : L.set i true = L := by
  have hi := mk_lt h
  rw [mk_eq hi] at h
  rw [← h]
  exact List.set_getElem_self hi
theorem cnt_le (L : List Bool) : cntB L ≤ L.length := List.count_le_length
theorem cnt_set : ∀ {L : List Bool} {i : Nat}, i < L.length → mq L i = false → cntB (L.set i true) = cntB L + 1
  | [], i, h, _ => by simp at h
  | b :: L, 0, _, h => by
    have : b = false := by simpa [mq] using h
    subst this
    simp [cntB]
  | b :: L, i + 1, h, hm => by
    have := cnt_set (L := L) (i := i) (by simpa using h) (by simpa [mq] using hm)
    simp only [cntB, List.set_cons_succ, List.count_cons] at this ⊢
    omega
theorem cnt_full : ∀ {L : List Bool}, L.length ≤ cntB L → ∀ i, i < L.length → mq L i = true
  | [], _, i, h => by simp at h
  | b :: L, h, i, hi => by
    have h2 := cnt_le L
    cases b with
    | false => simp only [cntB, List.count_cons, List.length_cons] at h h2; simp at h; omega
    | true =>
      cases i with
      | zero => rfl
      | succ i =>
        have := cnt_full (L := L) (by simp [cntB] at h ⊢; omega) i (by simpa using hi)
        simpa [mq] using this
theorem cnt_mono : ∀ {L M : List Bool}, L.length = M.length → (∀ i, mq L i = true → mq M i = true) → cntB L ≤ cntB M
  | [], [], _, _ => Nat.le_refl _
  | [], _ :: _, h, _ => by simp at h
  | _ :: _, [], h, _ => by simp at h
  | a :: L, b :: M, h, k => by
    have h1 := cnt_mono (L := L) (M := M) (by simpa using h) (fun i hi => by simpa [mq] using k (i + 1) (by simpa [mq] using hi))
    have h2 : a = true → b = true := fun e => by simpa [mq] using k 0 (by simpa [mq] using e)
    simp only [cntB, List.count_cons] at h1 ⊢
    cases a <;> cases b <;> simp_all
    omega
theorem cnt_lt {L M : List Bool} (h : L.length = M.length) (k : ∀ i, mq L i = true → mq M i = true) {x : Nat} (hx : mq M x = true) (hn : mq L x = false) : cntB L + 1 ≤ cntB M := by
  have hl := mk_lt hx
  rw [← cnt_set (by omega) hn]
  refine cnt_mono (by simpa using h) fun i hi => ?_
  rw [mk_set (by omega)] at hi
  rcases Bool.or_eq_true_iff.1 hi with e | e
  · rw [of_decide_eq_true e]; exact hx
  · exact k i e

/-- marks of what one comes to by nothing -/
structure CInv (l : List St) (S : Nat → Prop) (out : List Bool) : Prop where
  len : out.length = l.length
  base : ∀ i, i < l.length → S i → mq out i = true
  sound : ∀ i, mq out i = true → Re nilF l S i
/-- of a state, all that it leads to is marked -/
def Fol (l : List St) (out : List Bool) (i : Nat) : Prop := mq out i = true → ∀ x ∈ (st l i).eps, x.toNat < l.length → mq out x.toNat = true
structure OInv (l : List St) (S : Nat → Prop) (k : Nat) (more : Bool) (out : List Bool) : Prop where
  c : CInv l S out
  yes : more = true → k ≤ cntB out
  no : more = false → ∀ i, i < l.length → Fol l out i
structure MInv (l : List St) (S : Nat → Prop) (k i : Nat) (more : Bool) (out : List Bool) : Prop where
  c : CInv l S out
  yes : more = true → k + 1 ≤ cntB out
  no : more = false → k ≤ cntB out ∧ ∀ p, p < i → Fol l out p
structure IInv (l : List St) (S : Nat → Prop) (k i j : Nat) (more : Bool) (out : List Bool) : Prop where
  c : CInv l S out
  yes : more = true → k + 1 ≤ cntB out
  no : more = false → k ≤ cntB out ∧ (∀ p, p < i → Fol l out p) ∧ (mq out i = true → ∀ q, q < j → mq out ((st l i).eps.getD q 0).toNat = true)
theorem OInv.start {l : List St} {S : Nat → Prop} {out : List Bool} (hl : out.length = l.length) (h : ∀ i, i < l.length → (mq out i = true ↔ S i)) : OInv l S 0 true out :=
  ⟨⟨hl, fun i hi hs => (h i hi).2 hs, fun i hi => Re.base ((h i (hl ▸ mk_lt hi)).1 hi) (hl ▸ mk_lt hi)⟩, fun _ => Nat.zero_le _, fun h => by cases h⟩
theorem OInv.mid {l : List St} {S : Nat → Prop} {k : Nat} {out : List Bool} (h : OInv l S k true out) : MInv l S k 0 false out :=
  ⟨h.c, (fun e => by cases e), fun _ => ⟨h.yes rfl, fun p hp => by omega⟩⟩
theorem MInv.inn {l : List St} {S : Nat → Prop} {k i : Nat} {more : Bool} {out : List Bool} (h : MInv l S k i more out) : IInv l S k i 0 more out :=
  ⟨h.c, h.yes, fun e => ⟨(h.no e).1, (h.no e).2, fun _ q hq => by omega⟩⟩
theorem IInv.mid {l : List St} {S : Nat → Prop} {k i j : Nat} {more : Bool} {out : List Bool} (h : IInv l S k i j more out) (he : mq out i = false ∨ (st l i).eps.length ≤ j) : MInv l S k (i + 1) more out := by
  refine ⟨h.c, h.yes, fun e => ⟨(h.no e).1, fun p hp => ?_⟩⟩
  rcases Nat.lt_or_ge p i with h1 | h1
  · exact (h.no e).2.1 p h1
  · obtain rfl : p = i := by omega
    intro hm x hx _
    rcases he with he | he
    · rw [he] at hm; cases hm
    · obtain ⟨q, hq, rfl⟩ := List.getElem_of_mem hx
      have := (h.no e).2.2 hm q (by omega)
      simpa [List.getD, hq] using this
theorem IInv.next {l : List St} {S : Nat → Prop} {k i j : Nat} {more : Bool} {out : List Bool} (h : IInv l S k i j more out) (hm : mq out i = true) (hj : j < (st l i).eps.length) (hb : 0 ≤ (st l i).eps.getD j 0 ∧ (st l i).eps.getD j 0 < l.length) :
    IInv l S k i (j + 1) (more || !mq out ((st l i).eps.getD j 0).toNat) (out.set ((st l i).eps.getD j 0).toNat true) := by
  obtain ⟨x, hx⟩ : ∃ x, x = (st l i).eps.getD j 0 := ⟨_, rfl⟩
  have hxm : x ∈ (st l i).eps := by rw [hx]; simp [List.getD, hj]
  rw [← hx] at hb ⊢
  have hlen := h.c.len
  have hxl : x.toNat < out.length := by omega
  cases ho : mq out x.toNat with
  | true =>
    rw [set_same ho, Bool.not_true, Bool.or_false]
    refine ⟨h.c, h.yes, fun e => ⟨(h.no e).1, (h.no e).2.1, fun hm2 q hq => ?_⟩⟩
    rcases Nat.lt_or_ge q j with h1 | h1
    · exact (h.no e).2.2 hm2 q h1
    · obtain rfl : q = j := by omega
      rw [← hx]; exact ho
  | false =>
    rw [Bool.not_false, Bool.or_true]
    refine ⟨⟨by rw [List.length_set]; exact hlen, fun p hp hs => ?_, fun p hp => ?_⟩, fun _ => ?_, fun e => by cases e⟩
    · rw [mk_set hxl, h.c.base p hp hs, Bool.or_true]
    · rw [mk_set hxl] at hp
      rcases Bool.or_eq_true_iff.1 hp with e | e
      · have e := of_decide_eq_true e
        subst e
        exact Re.step (h.c.sound i hm) (by rw [Int.toNat_of_nonneg hb.1]; exact hxm) (by omega)
      · exact h.c.sound p e
    · rw [cnt_set hxl ho]
      cases more with
      | true => have := h.yes rfl; omega
      | false => have := (h.no rfl).1; omega
theorem MInv.out {l : List St} {S : Nat → Prop} {k : Nat} {more : Bool} {out : List Bool} (h : MInv l S k l.length more out) : OInv l S (k + 1) more out :=
  ⟨h.c, h.yes, fun e => (h.no e).2⟩
theorem OInv.last {l : List St} {S : Nat → Prop} {k : Nat} {more : Bool} {out : List Bool} (h : OInv l S k more out) (he : more = false ∨ l.length ≤ k) (i : Nat) : mq out i = true ↔ Re nilF l S i := by
  refine ⟨h.c.sound i, fun hr => ?_⟩
  have hF : ∀ i, i < l.length → Fol l out i := by
    cases hb : more with
    | false => exact h.no hb
    | true =>
      have h1 : l.length ≤ k := by rcases he with e | e; (rw [hb] at e; cases e); exact e
      have h2 := h.yes hb
      have h3 := cnt_full (L := out) (by rw [h.c.len]; omega)
      intro i hi _ x hx hxl
      exact h3 _ (by rw [h.c.len]; exact hxl)
  exact hr (fun i => mq out i = true) (fun j hj hl => h.c.base j hl hj) (fun j q hj hq hql => by simpa using hF j (h.c.len ▸ mk_lt hj) hj _ hq (by simpa using hql))

/-- marks of what one comes to by nothing, or by any byte, round by round -/
def Shut (l : List St) (out : List Bool) : Prop := ∀ i, i < l.length → mq out i = true → ∀ k : Nat, (k : Int) ∈ allF (st l i) → k < l.length → mq out k = true
structure AInv (l : List St) (S : Nat → Prop) (k : Nat) (now : List Bool) : Prop where
  len : now.length = l.length
  base : ∀ i, i < l.length → S i → mq now i = true
  sound : ∀ i, mq now i = true → Re allF l S i
  grow : Shut l now ∨ k ≤ cntB now
/-- within a round: what came by a byte from the first i states -/
structure BInv (l : List St) (now : List Bool) (i : Nat) (out : List Bool) : Prop where
  len : out.length = l.length
  base : ∀ p, mq now p = true → mq out p = true
  sound : ∀ p, mq out p = true → Re allF l (fun q => mq now q = true) p
  done : ∀ p, p < i → mq now p = true → 0 ≤ (st l p).lo → mq out (st l p).to.toNat = true
theorem AInv.start {l : List St} {S : Nat → Prop} {now : List Bool} (hl : now.length = l.length) (h : ∀ i, i < l.length → (mq now i = true ↔ S i)) : AInv l S 0 now :=
  ⟨hl, fun i hi hs => (h i hi).2 hs, fun i hi => Re.base ((h i (hl ▸ mk_lt hi)).1 hi) (hl ▸ mk_lt hi), .inr (Nat.zero_le _)⟩
theorem BInv.start {l : List St} {now : List Bool} (hl : now.length = l.length) : BInv l now 0 now :=
  ⟨hl, fun _ h => h, fun p hp => Re.base hp (hl ▸ mk_lt hp), fun p hp => by omega⟩
theorem BInv.skip {l : List St} {now out : List Bool} {i : Nat} (h : BInv l now i out) (hn : mq out i = false ∨ (st l i).lo < 0) : BInv l now (i + 1) out := by
  refine ⟨h.len, h.base, h.sound, fun p hp hm h0 => ?_⟩
  rcases Nat.lt_or_ge p i with h1 | h1
  · exact h.done p h1 hm h0
  · obtain rfl : p = i := by omega
    rcases hn with e | e
    · rw [h.base p hm] at e; cases e
    · omega
theorem BInv.next {l : List St} {now out : List Bool} {i : Nat} (h : BInv l now i out) (hm : mq out i = true) (hb : 0 ≤ (st l i).to ∧ (st l i).to < l.length) : BInv l now (i + 1) (out.set (st l i).to.toNat true) := by
  have hlen := h.len
  have hx : (st l i).to.toNat < out.length := by omega
  refine ⟨by rw [List.length_set]; exact hlen, fun p hp => ?_, fun p hp => ?_, fun p hp hq h0 => ?_⟩
  · rw [mk_set hx, h.base p hp, Bool.or_true]
  · rw [mk_set hx] at hp
    rcases Bool.or_eq_true_iff.1 hp with e | e
    · have e := of_decide_eq_true e
      subst e
      exact Re.step (h.sound i hm) (by rw [Int.toNat_of_nonneg hb.1]; exact List.mem_append_right _ (List.mem_singleton.2 rfl)) (by omega)
    · exact h.sound p e
  · rw [mk_set hx]
    rcases Nat.lt_or_ge p i with h1 | h1
    · rw [h.done p h1 hq h0, Bool.or_true]
    · obtain rfl : p = i := by omega
      simp
theorem Re.nil_all {l : List St} {S : Nat → Prop} {i : Nat} (h : Re nilF l S i) : Re allF l S i := h.mono (fun _ hj hs => Re.base hs hj) (fun _ _ hx => List.mem_append_left _ hx)
theorem Re.shut {l : List St} {now : List Bool} (hn : now.length = l.length) (h : Shut l now) {i : Nat} (k : Re allF l (fun q => mq now q = true) i) : mq now i = true :=
  k (fun q => mq now q = true) (fun _ hj _ => hj) (fun j q hj hq hl => h j (hn ▸ mk_lt hj) hj q hq hl)
theorem AInv.next {l : List St} {S : Nat → Prop} {k : Nat} {now out two : List Bool} (hR : ∀ i, i < l.length → OkS l.length (st l i)) (h : AInv l S k now) (b : BInv l now l.length out) (h2 : two.length = l.length) (c : ∀ i, mq two i = true ↔ Re nilF l (fun q => mq out q = true) i) : AInv l S (k + 1) two := by
  have up : ∀ i, mq now i = true → mq two i = true := fun i hi => (c i).2 (Re.base (b.base i hi) (h.len ▸ mk_lt hi))
  have dn : ∀ i, mq two i = true → Re allF l (fun q => mq now q = true) i := fun i hi => ((c i).1 hi).mono (fun j _ hs => b.sound j hs) (fun _ _ hx => List.mem_append_left _ hx)
  refine ⟨h2, fun i hi hs => up i (h.base i hi hs), fun i hi => Re.idem.1 ((dn i hi).mono (fun j _ hs => Re.base (h.sound j hs) (h.sound j hs).lt) (fun _ _ hx => hx)), ?_⟩
  by_cases hs : Shut l now
  · refine .inl fun i hi hm q hq hl => up q (hs i hi (Re.shut h.len hs (dn i hm)) q hq hl)
  · rcases h.grow with g | g
    · exact absurd g hs
    · refine .inr ?_
      obtain ⟨x, hx1, hx2⟩ : ∃ x, mq two x = true ∧ mq now x = false := by
        apply Classical.byContradiction
        intro hno
        apply hs
        intro i hi hm q hq hl
        cases hmq : mq now q with
        | true => rfl
        | false =>
          refine absurd ⟨q, ?_, hmq⟩ hno
          rcases List.mem_append.1 hq with h1 | h1
          · exact (c q).2 (Re.step (Re.base (b.base i hm) hi) h1 hl)
          · have h1 := List.mem_singleton.1 h1
            have ho := (hR i hi).goes
            refine (c q).2 (Re.base ?_ hl)
            have := b.done i hi hm (by omega)
            rwa [← h1, Int.toNat_natCast] at this
      have := cnt_lt (by rw [h.len, h2]) up hx1 hx2
      omega
theorem AInv.last {l : List St} {S : Nat → Prop} {k : Nat} {now : List Bool} (h : AInv l S k now) (hk : l.length ≤ k) (i : Nat) : mq now i = true ↔ Re allF l S i := by
  refine ⟨h.sound i, fun hr => ?_⟩
  have hs : Shut l now := by
    rcases h.grow with g | g
    · exact g
    · intro i _ _ q _ hl
      exact cnt_full (by rw [h.len]; omega) q (by rw [h.len]; exact hl)
  exact Re.shut h.len hs (hr.mono (fun j hj hp => Re.base (h.base j hj hp) hj) (fun _ _ hx => hx))

/-- the marked numbers, rising -/
def numB (L : List Bool) (k : Nat) : List Int := ((List.range k).filter (mq L)).map fun i : Nat => (i : Int)
theorem numB_succ (L : List Bool) (k : Nat) : numB L (k + 1) = if mq L k = true then numB L k ++ [(k : Int)] else numB L k := by
  unfold numB
  rw [List.range_succ, List.filter_append]
  split <;> rename_i h <;> simp [h]
theorem numB_len (L : List Bool) (k : Nat) : (numB L k).length ≤ k := by
  unfold numB
  rw [List.length_map]
  exact Nat.le_trans (List.length_filter_le _ _) (by simp)
theorem mem_numB {L : List Bool} {k : Nat} {n : Int} : n ∈ numB L k ↔ ∃ i : Nat, i < k ∧ mq L i = true ∧ n = i := by
  unfold numB
  simp only [List.mem_map, List.mem_filter, List.mem_range]
  exact ⟨fun ⟨i, ⟨h1, h2⟩, e⟩ => ⟨i, h1, h2, e.symm⟩, fun ⟨i, h1, h2, e⟩ => ⟨i, ⟨h1, h2⟩, e.symm⟩⟩
theorem numB_rise (L : List Bool) : ∀ k, (numB L k).Pairwise (· < ·)
  | 0 => by simp [numB]
  | k + 1 => by
    rw [numB_succ]
    split
    · rw [List.pairwise_append]
      refine ⟨numB_rise L k, by simp, fun a ha b hb => ?_⟩
      obtain ⟨i, hi, _, rfl⟩ := mem_numB.1 ha
      have := List.mem_singleton.1 hb
      omega
    · exact numB_rise L k

end Go.Proofs.YtfbphiamelongaaDoor.Cl

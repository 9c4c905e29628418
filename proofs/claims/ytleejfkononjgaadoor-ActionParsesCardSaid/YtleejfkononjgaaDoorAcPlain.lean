/- What a rule does, in plain words: the decisions, word by word; an action's text; it is read as the action. -/
import Derived.Test.YtleejfkononjgaaDoorWdPlain
namespace Go.Proofs.YtleejfkononjgaaDoor.Ac
open Go.Proofs.YtleejfkononjgaaDoor.Wd

def bE : ByteArray := ⟨#[]⟩
def bSkip : ByteArray := ⟨#[115, 107, 105, 112]⟩
def bEmit : ByteArray := ⟨#[101, 109, 105, 116]⟩
def bGoto : ByteArray := ⟨#[103, 111, 116, 111]⟩

/-- a name's first place among names, or -1 -/
def numFrom (k : Nat) : List ByteArray → ByteArray → Int
  | [], _ => -1
  | x :: r, m => if x = m then (k : Int) else numFrom (k + 1) r m
def numL (l : List ByteArray) (m : ByteArray) : Int := numFrom 0 l m
theorem numFrom_at : ∀ (l : List ByteArray) (m : ByteArray) (k i : Nat), i < l.length → l.getD i bE = m → (∀ j, j < i → l.getD j bE ≠ m) → numFrom k l m = ((k + i : Nat) : Int)
  | [], _, _, _, h, _, _ => by simp at h
  | x :: r, m, k, 0, _, h, _ => by
    have : x = m := by simpa using h
    simp [numFrom, this]
  | x :: r, m, k, i + 1, hl, h, hn => by
    have h0 : x ≠ m := by simpa using hn 0 (by omega)
    rw [numFrom, if_neg h0, numFrom_at r m (k + 1) i (by simpa using hl) (by simpa using h) (fun j hj => by simpa using hn (j + 1) (by omega))]
    congr 1; omega
theorem numFrom_no : ∀ (l : List ByteArray) (m : ByteArray) (k : Nat), (∀ j, j < l.length → l.getD j bE ≠ m) → numFrom k l m = -1
  | [], _, _, _ => rfl
  | x :: r, m, k, hn => by
    have h0 : x ≠ m := by simpa using hn 0 (by simp)
    rw [numFrom, if_neg h0]
    exact numFrom_no r m (k + 1) (fun j hj => by simpa using hn (j + 1) (by simpa using hj))
theorem num_at {l : List ByteArray} {m : ByteArray} {i : Nat} (h : i < l.length) (he : l.getD i bE = m) (hn : ∀ j, j < i → l.getD j bE ≠ m) : numL l m = (i : Int) := by
  unfold numL; rw [numFrom_at l m 0 i h he hn]; congr 1; omega
theorem num_no {l : List ByteArray} {m : ByteArray} (hn : ∀ j, j < l.length → l.getD j bE ≠ m) : numL l m = -1 := numFrom_no l m 0 hn
/-- either there is a first place, or none -/
theorem num_ways (l : List ByteArray) (m : ByteArray) : (∃ i, i < l.length ∧ numL l m = (i : Int) ∧ l.getD i bE = m ∧ ∀ j, j < i → l.getD j bE ≠ m) ∨ (numL l m = -1 ∧ ∀ j, j < l.length → l.getD j bE ≠ m) := by
  by_cases h : ∀ j, j < l.length → l.getD j bE ≠ m
  · exact .inr ⟨num_no h, h⟩
  · refine .inl ?_
    have hx : ∃ n, n < l.length ∧ l.getD n bE = m := Classical.byContradiction fun hc => h fun j hj he => hc ⟨j, hj, he⟩
    obtain ⟨n, hn⟩ := hx
    have key : ∀ n, (n < l.length ∧ l.getD n bE = m) → ∃ i, i < l.length ∧ l.getD i bE = m ∧ ∀ j, j < i → l.getD j bE ≠ m := by
      intro n
      induction n using Nat.strongRecOn with
      | ind n ih =>
        rintro ⟨h1, h2⟩
        by_cases hf : ∃ j, j < n ∧ l.getD j bE = m
        · obtain ⟨j, hj, he⟩ := hf
          exact ih j hj ⟨by omega, he⟩
        · exact ⟨n, h1, h2, fun j hj he => hf ⟨j, hj, he⟩⟩
    obtain ⟨i, h1, h2, h3⟩ := key n hn
    exact ⟨i, h1, num_at h1 h2 h3, h2, h3⟩
theorem num_lt (l : List ByteArray) (m : ByteArray) : -1 ≤ numL l m ∧ numL l m < l.length := by
  rcases num_ways l m with ⟨i, h, e, _⟩ | ⟨e, _⟩ <;> rw [e] <;> omega

/-- what is read: the name, the mode's number, the error, its place -/
structure Res where
  emit : ByteArray
  goto : Int
  e : Int
  at_ : Int
def bad (e : Int) (p : Nat) : Res := ⟨bE, 0, e, p⟩

section
variable (t : Nat → ByteArray) (p : Nat → Nat) (M : List ByteArray)
def fin5 (k : Nat) (emit : ByteArray) (g : Int) : Res := if t k = bE then ⟨emit, g, 0, 0⟩ else bad 3 (p k)
def fin4 (k : Nat) (emit : ByteArray) : Res :=
  if t k = bE then bad 3 (p k) else if nameL (t k).data.toList = false then bad 4 (p k) else if numL M (t k) = -1 then bad 11 (p k) else fin5 t p (k + 1) emit (numL M (t k))
def fin3 (k : Nat) (emit : ByteArray) : Res := if t k = bE then ⟨emit, -1, 0, 0⟩ else if t k = bGoto then fin4 t p M (k + 1) emit else bad 3 (p k)
def fin2 (k : Nat) : Res := if t k = bE then bad 3 (p k) else if nameL (t k).data.toList = false then bad 4 (p k) else fin3 t p M (k + 1) (t k)
def fin1 : Res := if t 0 = bSkip then fin3 t p M 1 bE else if t 0 = bEmit then fin2 t p M 1 else bad 3 (p 0)
/-- what is to be told at a place, a name and a mode's number given -/
def fin (place k : Nat) (emit : ByteArray) (g : Int) : Res :=
  match place with
  | 1 => fin1 t p M
  | 2 => fin2 t p M k
  | 3 => fin3 t p M k emit
  | 4 => fin4 t p M k emit
  | _ => fin5 t p k emit g
end

/-- the k-th word, and where it begins -/
def txt (s : ByteArray) (ws : List (Nat × Nat)) (k : Nat) : ByteArray := match ws[k]? with
  | some q => s.extract q.1 q.2
  | none => bE
def pos (s : ByteArray) (ws : List (Nat × Nat)) (k : Nat) : Nat := match ws[k]? with
  | some q => q.1
  | none => s.size
def parseL (s : ByteArray) (M : List ByteArray) : Res := fin1 (txt s (wordsL s.data.toList)) (pos s (wordsL s.data.toList)) M

theorem ext_list (s : ByteArray) (a b : Nat) : (s.extract a b).data.toList = (s.data.toList.drop a).take (b - a) := by
  rw [ByteArray.data_extract, Array.toList_extract, List.extract_eq_take_drop]
theorem bytes_ext {a b : ByteArray} (h : a.data.toList = b.data.toList) : a = b := ByteArray.ext (Array.toList_inj.1 h)
theorem bE_list : bE.data.toList = [] := rfl
theorem size_ne {a : ByteArray} (h : 0 < a.size) : a ≠ bE := by rintro rfl; exact absurd h (by decide)
theorem ext_ne {s : ByteArray} {a b : Nat} (h : a < b) (hb : b ≤ s.size) : s.extract a b ≠ bE := size_ne (by rw [ByteArray.size_extract]; omega)
theorem ext_end (s : ByteArray) : s.extract s.size s.size = bE := bytes_ext (by rw [ext_list, Nat.sub_self]; rfl)

/-- the words of words that have no blanks, one blank between -/
def joinW : List (List UInt8) → List UInt8
  | [] => []
  | [w] => w
  | w :: x :: r => w ++ 32 :: joinW (x :: r)
def posW : Nat → List (List UInt8) → List (Nat × Nat)
  | _, [] => []
  | i, w :: r => (i, i + w.length) :: posW (i + w.length + 1) r
def Full (w : List UInt8) : Prop := w ≠ [] ∧ ∀ c ∈ w, blk c = false
theorem span_all {p : UInt8 → Bool} : ∀ {w : List UInt8}, (∀ c ∈ w, p c = true) → ∀ r, spanL p (w ++ r) = w.length + spanL p r
  | [], _, r => by simp
  | c :: t, h, r => by
    rw [List.cons_append, spanL_yes (h c (by simp)), span_all (fun d hd => h d (by simp [hd])) r, List.length_cons]; omega
theorem open_full : ∀ {w : List UInt8}, (∀ c ∈ w, blk c = false) → ∀ (f i : Nat) (r : List UInt8), wdL (some f) i (w ++ r) = wdL (some f) (i + w.length) r
  | [], _, f, i, r => by simp
  | c :: t, h, f, i, r => by
    rw [List.cons_append, wdL_some_fl (h c (by simp)), open_full (fun d hd => h d (by simp [hd])) f (i + 1) r, List.length_cons, show i + 1 + t.length = i + (t.length + 1) by omega]
theorem none_full {w : List UInt8} (h : Full w) (i : Nat) (r : List UInt8) : wdL none i (w ++ r) = wdL (some i) (i + w.length) r := by
  obtain ⟨hne, hb⟩ := h
  cases w with
  | nil => exact absurd rfl hne
  | cons c t =>
    rw [List.cons_append, wdL_none_fl (hb c (by simp)), open_full (fun d hd => hb d (by simp [hd])) i (i + 1) r, List.length_cons, show i + 1 + t.length = i + (t.length + 1) by omega]
theorem blk_32 : blk 32 = true := by decide
theorem words_join : ∀ (ws : List (List UInt8)) (i : Nat), (∀ w ∈ ws, Full w) → wdL none i (joinW ws) = posW i ws
  | [], i, _ => rfl
  | [w], i, h => by
    have := none_full (h w (by simp)) i []
    rw [List.append_nil] at this
    rw [joinW, this]; rfl
  | w :: x :: r, i, h => by
    rw [joinW, none_full (h w (by simp)) i, wdL_some_blk blk_32, words_join (x :: r) (i + w.length + 1) (fun y hy => h y (by simp [List.mem_cons.1 hy]))]
    rfl
theorem posW_at : ∀ (ws : List (List UInt8)) (i : Nat) (pre : List UInt8), pre.length = i → ∀ k, k < ws.length → ∃ a b, (posW i ws)[k]? = some (a, b) ∧ ((pre ++ joinW ws).drop a).take (b - a) = ws.getD k []
  | [], _, _, _, k, h => by simp at h
  | [w], i, pre, hp, k, h => by
    obtain rfl : k = 0 := by simp at h; omega
    refine ⟨i, i + w.length, rfl, ?_⟩
    rw [← hp, List.drop_left, joinW, Nat.add_sub_cancel_left, List.take_length]; rfl
  | w :: x :: r, i, pre, hp, 0, h => by
    refine ⟨i, i + w.length, rfl, ?_⟩
    rw [← hp, List.drop_left, joinW, Nat.add_sub_cancel_left, List.take_left]; rfl
  | w :: x :: r, i, pre, hp, k + 1, h => by
    obtain ⟨a, b, h1, h2⟩ := posW_at (x :: r) (i + w.length + 1) (pre ++ w ++ [32]) (by simp; omega) k (by simpa using h)
    refine ⟨a, b, h1, ?_⟩
    rw [joinW]
    simpa using h2
theorem posW_len : ∀ (ws : List (List UInt8)) (i : Nat), (posW i ws).length = ws.length
  | [], _ => rfl
  | w :: r, i => by rw [posW, List.length_cons, List.length_cons, posW_len r]
/-- the words of a text that is joined -/
theorem txt_join {s : ByteArray} {ws : List (List UInt8)} (hs : s.data.toList = joinW ws) (h : ∀ w ∈ ws, Full w) (k : Nat) : (txt s (wordsL s.data.toList) k).data.toList = ws.getD k [] := by
  have hw : wordsL s.data.toList = posW 0 ws := by rw [hs]; exact words_join ws 0 h
  unfold txt
  rw [hw]
  rcases Nat.lt_or_ge k ws.length with hk | hk
  · obtain ⟨a, b, h1, h2⟩ := posW_at ws 0 [] rfl k hk
    rw [h1]
    dsimp only
    rw [ext_list, hs]
    exact h2
  · rw [List.getElem?_eq_none (by rw [posW_len]; exact hk)]
    simp [bE_list, hk]

theorem nmd_full {c : UInt8} (h : nmd c = true) : blk c = false := by
  unfold nmd ltr dig at h
  unfold blk
  simp at h ⊢
  omega
theorem span_full {p : UInt8 → Bool} : ∀ {l : List UInt8}, spanL p l = l.length → ∀ c ∈ l, p c = true
  | [], _, _, hc => by cases hc
  | d :: t, h, c, hc => by
    cases hd : p d
    · rw [spanL_no hd] at h; simp at h
    · rw [spanL_yes hd, List.length_cons] at h
      rcases List.mem_cons.1 hc with rfl | hc
      · exact hd
      · exact span_full (by omega) c hc
theorem name_full {l : List UInt8} (h : nameL l = true) : Full l := by
  unfold nameL at h
  simp only [Bool.and_eq_true, decide_eq_true_eq] at h
  obtain ⟨h1, _, h2⟩ := h
  refine ⟨fun e => by rw [e] at h1; simp at h1, fun c hc => ?_⟩
  unfold leadL at h2
  split at h2
  · omega
  · exact nmd_full (span_full h2 c hc)
theorem name_ne {a : ByteArray} (h : nameL a.data.toList = true) : a ≠ bE := by
  rintro rfl
  exact (name_full h).1 rfl
theorem skip_full : Full bSkip.data.toList := ⟨by decide, by decide⟩
theorem emit_full : Full bEmit.data.toList := ⟨by decide, by decide⟩
theorem goto_full : Full bGoto.data.toList := ⟨by decide, by decide⟩

/-- an action's words -/
def actW (emit : ByteArray) (g : Int) (M : List ByteArray) : List ByteArray :=
  (if emit = bE then [bSkip] else [bEmit, emit]) ++ (if g = -1 then [] else [bGoto, M.getD g.toNat bE])
def joinB (ws : List ByteArray) : ByteArray := ⟨(joinW (ws.map fun w => w.data.toList)).toArray⟩
def rightB (emit : ByteArray) (g : Int) (M : List ByteArray) : Bool :=
  (decide (emit = bE) || nameL emit.data.toList) && (decide (g = -1) || (decide (0 ≤ g) && decide (g < M.length) && decide (numL M (M.getD g.toNat bE) = g)))
def textB (emit : ByteArray) (g : Int) (M : List ByteArray) : ByteArray := joinB (actW emit g M)
/-- names, all unlike -/
def modesB (M : List ByteArray) : Prop := ∀ i, i < M.length → nameL (M.getD i bE).data.toList = true ∧ numL M (M.getD i bE) = (i : Int)

theorem getD_map (ws : List ByteArray) (k : Nat) : (ws.map fun w => w.data.toList).getD k [] = (ws.getD k bE).data.toList := by
  rcases Nat.lt_or_ge k ws.length with h | h
  · simp [List.getD, h]
  · simp [List.getD, h, bE]
theorem txt_joinB {ws : List ByteArray} (h : ∀ w ∈ ws, Full w.data.toList) (k : Nat) : txt (joinB ws) (wordsL (joinB ws).data.toList) k = ws.getD k bE := by
  refine bytes_ext ?_
  rw [txt_join (ws := ws.map fun w => w.data.toList) (by simp [joinB]) (fun w hw => by
    obtain ⟨x, hx, rfl⟩ := List.mem_map.1 hw
    exact h x hx), getD_map]

theorem goto_ne : bGoto ≠ bE := by decide
theorem skip_ne : bSkip ≠ bE := by decide
theorem emit_ne : bEmit ≠ bE := by decide
theorem emit_skip : bEmit ≠ bSkip := by decide

theorem back_right {emit : ByteArray} {g : Int} {M : List ByteArray} (hM : modesB M) (h1 : emit = bE ∨ nameL emit.data.toList = true) (h2 : g = -1 ∨ (0 ≤ g ∧ g < M.length)) : parseL (textB emit g M) M = ⟨emit, g, 0, 0⟩ := by
  have hmode : g ≠ -1 → nameL (M.getD g.toNat bE).data.toList = true ∧ numL M (M.getD g.toNat bE) = g := fun hg => by
    rcases h2 with h | ⟨a, b⟩
    · exact absurd h hg
    · have := hM g.toNat (by omega)
      exact ⟨this.1, by rw [this.2]; omega⟩
  have hF : ∀ w ∈ actW emit g M, Full w.data.toList := by
    intro w hw
    unfold actW at hw
    rcases List.mem_append.1 hw with hw | hw
    · split at hw
      · obtain rfl : w = bSkip := by simpa using hw
        exact skip_full
      · rename_i hne
        rcases List.mem_cons.1 hw with rfl | hw
        · exact emit_full
        · obtain rfl : w = emit := by simpa using hw
          exact name_full (h1.resolve_left hne)
    · split at hw
      · cases hw
      · rename_i hg
        rcases List.mem_cons.1 hw with rfl | hw
        · exact goto_full
        · obtain rfl : w = M.getD g.toNat bE := by simpa using hw
          exact name_full (hmode hg).1
  unfold parseL textB
  have ht := fun k => txt_joinB hF k
  generalize txt (joinB (actW emit g M)) (wordsL (joinB (actW emit g M)).data.toList) = t at *
  generalize pos (joinB (actW emit g M)) (wordsL (joinB (actW emit g M)).data.toList) = p at *
  unfold actW at ht
  have tail : ∀ k e, (∀ j, t (k + j) = (if g = -1 then [] else [bGoto, M.getD g.toNat bE]).getD j bE) → fin3 t p M k e = ⟨e, g, 0, 0⟩ := fun k e hk => by
    have k0 := hk 0
    have k1 := hk 1
    have k2 := hk 2
    simp only [Nat.add_zero] at k0
    unfold fin3
    by_cases hg : g = -1
    · rw [if_pos hg] at k0
      rw [if_pos (by rw [k0]; rfl), hg]
    · obtain ⟨m1, m2⟩ := hmode hg
      rw [if_neg hg] at k0 k1 k2
      have k0' : t k = bGoto := k0
      have k1' : t (k + 1) = M.getD g.toNat bE := k1
      have k2' : t (k + 2) = bE := k2
      rw [k0', if_neg goto_ne, if_pos rfl]
      unfold fin4 fin5
      rw [k1', if_neg (name_ne m1), if_neg (by rw [m1]; simp), if_neg (by rw [m2]; exact hg), m2, k2', if_pos rfl]
  unfold fin1
  by_cases he : emit = bE
  · rw [if_pos he] at ht
    have h0 : t 0 = bSkip := ht 0
    rw [h0, if_pos rfl, tail 1 bE (fun j => by rw [ht, Nat.add_comm]; rfl), he]
  · rw [if_neg he] at ht
    have h0 : t 0 = bEmit := ht 0
    have h1' : t 1 = emit := ht 1
    have hn := h1.resolve_left he
    rw [h0, if_neg emit_skip, if_pos rfl]
    unfold fin2
    rw [h1', if_neg he, if_neg (by rw [hn]; simp), tail 2 emit (fun j => by rw [ht, Nat.add_comm]; rfl)]

/-- what is read may be -/
theorem fin_right {t : Nat → ByteArray} {p : Nat → Nat} {M : List ByteArray} (h : (fin1 t p M).e = 0) : ((fin1 t p M).emit = bE ∨ nameL (fin1 t p M).emit.data.toList = true) ∧ ((fin1 t p M).goto = -1 ∨ (0 ≤ (fin1 t p M).goto ∧ (fin1 t p M).goto < M.length)) := by
  have k5 : ∀ k e g, (fin5 t p k e g).e = 0 → fin5 t p k e g = ⟨e, g, 0, 0⟩ := fun k e g h => by
    unfold fin5 at *
    split
    · rfl
    · rename_i hc; rw [if_neg hc] at h; cases h
  have k4 : ∀ k e, (fin4 t p M k e).e = 0 → ∃ g, fin4 t p M k e = ⟨e, g, 0, 0⟩ ∧ 0 ≤ g ∧ g < M.length := fun k e h => by
    unfold fin4 at *
    by_cases c1 : t k = bE
    · rw [if_pos c1] at h; cases h
    · rw [if_neg c1] at h ⊢
      by_cases c2 : nameL (t k).data.toList = false
      · rw [if_pos c2] at h; cases h
      · rw [if_neg c2] at h ⊢
        by_cases c3 : numL M (t k) = -1
        · rw [if_pos c3] at h; cases h
        · rw [if_neg c3] at h ⊢
          have := num_lt M (t k)
          exact ⟨_, k5 _ _ _ h, by omega, by omega⟩
  have k3 : ∀ k e, (fin3 t p M k e).e = 0 → ∃ g, fin3 t p M k e = ⟨e, g, 0, 0⟩ ∧ (g = -1 ∨ (0 ≤ g ∧ g < M.length)) := fun k e h => by
    unfold fin3 at *
    by_cases c1 : t k = bE
    · rw [if_pos c1] at h ⊢; exact ⟨_, rfl, .inl rfl⟩
    · rw [if_neg c1] at h ⊢
      by_cases c2 : t k = bGoto
      · rw [if_pos c2] at h ⊢
        obtain ⟨g, h1, h2⟩ := k4 _ _ h
        exact ⟨g, h1, .inr h2⟩
      · rw [if_neg c2] at h; cases h
  have k2 : ∀ k, (fin2 t p M k).e = 0 → ∃ e g, fin2 t p M k = ⟨e, g, 0, 0⟩ ∧ nameL e.data.toList = true ∧ (g = -1 ∨ (0 ≤ g ∧ g < M.length)) := fun k h => by
    unfold fin2 at *
    by_cases c1 : t k = bE
    · rw [if_pos c1] at h; cases h
    · rw [if_neg c1] at h ⊢
      by_cases c2 : nameL (t k).data.toList = false
      · rw [if_pos c2] at h; cases h
      · rw [if_neg c2] at h ⊢
        obtain ⟨g, h1, h2⟩ := k3 _ _ h
        exact ⟨_, g, h1, by simpa using c2, h2⟩
  unfold fin1 at *
  by_cases c1 : t 0 = bSkip
  · rw [if_pos c1] at h ⊢
    obtain ⟨g, h1, h2⟩ := k3 _ _ h
    rw [h1]; exact ⟨.inl rfl, h2⟩
  · rw [if_neg c1] at h ⊢
    by_cases c2 : t 0 = bEmit
    · rw [if_pos c2] at h ⊢
      obtain ⟨e, g, h1, hn, h2⟩ := k2 _ h
      rw [h1]; exact ⟨.inr hn, h2⟩
    · rw [if_neg c2] at h; cases h
theorem right_iff {emit : ByteArray} {g : Int} {M : List ByteArray} (hM : modesB M) (h1 : emit = bE ∨ nameL emit.data.toList = true) (h2 : g = -1 ∨ (0 ≤ g ∧ g < M.length)) : rightB emit g M = true := by
  unfold rightB
  rw [Bool.and_eq_true, Bool.or_eq_true, Bool.or_eq_true]
  refine ⟨h1.imp (fun h => by simpa using h) id, h2.imp (fun h => by simpa using h) (fun h => ?_)⟩
  have := (hM g.toNat (by omega)).2
  simp only [Bool.and_eq_true, decide_eq_true_eq]
  exact ⟨⟨h.1, h.2⟩, by rw [this]; omega⟩

/-- the next word, from a place on -/
theorem next_step {l : List UInt8} {K : Nat} (hK : K ≤ l.length) :
    (wdL none K (l.drop K) = [] ∧ nextL l K = (l.length, l.length)) ∨
    ∃ a b, wdL none K (l.drop K) = (a, b) :: wdL none b (l.drop b) ∧ nextL l K = (a, b) ∧ a < b ∧ b ≤ l.length := by
  obtain ⟨m, hm⟩ : ∃ m, spanL blk (l.drop K) = m := ⟨_, rfl⟩
  obtain ⟨n, hn⟩ : ∃ n, spanL flb ((l.drop K).drop m) = n := ⟨_, rfl⟩
  by_cases h0 : n = 0
  · subst h0
    left
    have hb := wdL_none_left (i := K) (show spanL flb ((l.drop K).drop (spanL blk (l.drop K))) = 0 by rw [hm]; exact hn)
    refine ⟨hb.1, ?_⟩
    have := hb.2
    rw [List.length_drop] at this
    unfold nextL
    rw [hm, hn]
    simp only [Prod.mk.injEq]; omega
  · right
    refine ⟨K + m, K + m + n, ?_, ?_, by omega, ?_⟩
    · rw [wdL_word hm hn (by omega), List.drop_drop, ← Nat.add_assoc]
    · unfold nextL; rw [hm, hn]
    · have := span_drop_le hm hn
      rw [List.length_drop] at this; omega
/-- the next word of a text whose first k words have been read -/
theorem round_word {s : ByteArray} {K k : Nat} (hK : K ≤ s.size) (h : wdL none K (s.data.toList.drop K) = (wordsL s.data.toList).drop k) :
    ∃ a b, nextL s.data.toList K = (a, b) ∧ a ≤ b ∧ b ≤ s.size ∧ s.extract a b = txt s (wordsL s.data.toList) k ∧ a = pos s (wordsL s.data.toList) k ∧ wdL none b (s.data.toList.drop b) = (wordsL s.data.toList).drop (k + 1) := by
  rcases next_step (l := s.data.toList) (K := K) (by rw [len_size]; exact hK) with ⟨h1, h2⟩ | ⟨a, b, h1, h2, h3, h4⟩
  · rw [h1] at h
    have hn : (wordsL s.data.toList)[k]? = none := List.getElem?_eq_none (List.drop_eq_nil_iff.1 h.symm)
    rw [len_size] at h2
    refine ⟨_, _, h2, Nat.le_refl _, Nat.le_refl _, ?_, ?_, ?_⟩
    · unfold txt; rw [hn]; exact ext_end s
    · unfold pos; rw [hn]
    · rw [span_end (Nat.le_refl _)]
      show ([] : List (Nat × Nat)) = _
      rw [List.drop_eq_nil_of_le (by have := List.drop_eq_nil_iff.1 h.symm; omega)]
  · rw [h1] at h
    have hn : (wordsL s.data.toList)[k]? = some (a, b) := by
      have := congrArg (·[0]?) h
      simpa using this.symm
    refine ⟨a, b, h2, by omega, by rw [← len_size]; exact h4, ?_, ?_, ?_⟩
    · unfold txt; rw [hn]
    · unfold pos; rw [hn]
    · have := congrArg List.tail h
      simpa using this
end Go.Proofs.YtleejfkononjgaaDoor.Ac

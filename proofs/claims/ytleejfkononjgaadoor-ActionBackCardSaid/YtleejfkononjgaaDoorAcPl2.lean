/- The words that the document lays in rows, and what is laid behind them. -/
import Derived.Test.YtleejfkononjgaaDoorAcPlain
namespace Go.Proofs.YtleejfkononjgaaDoor.Ac
open Go.Proofs.YtleejfkononjgaaDoor.Wd

/-- where words lie -/
theorem apart_mem {l : List UInt8} : ∀ {ws : List (Nat × Nat)} {at_ : Nat} {st : Bool}, Apart l at_ st ws → ∀ q ∈ ws, q.1 < q.2 ∧ q.2 ≤ l.length
  | [], _, _, _, _, h => by cases h
  | (a, b) :: r, _, _, h, q, hq => by
    obtain ⟨_, _, h1, h2, _, _, h3⟩ := h
    rcases List.mem_cons.1 hq with rfl | hq
    · exact ⟨h1, h2⟩
    · exact apart_mem h3 q hq
theorem words_in {s : ByteArray} {q : Nat × Nat} (h : q ∈ wordsL s.data.toList) : q.1 < q.2 ∧ q.2 ≤ s.size := by
  have := apart_mem (apart_words s.data.toList) q h
  rw [len_size] at this
  exact this
theorem words_count (l : List UInt8) : (wordsL l).length ≤ l.length := by have := wdL_len l none 0; simpa [wordsL] using this
/-- the texts of words, and where they begin -/
def txL (s : ByteArray) (ws : List (Nat × Nat)) : List ByteArray := ws.map fun q => s.extract q.1 q.2
def psL (ws : List (Nat × Nat)) : List Int := ws.map fun q => (q.1 : Int)
theorem txL_snoc {s : ByteArray} {ws : List (Nat × Nat)} {k : Nat} (h : k < ws.length) : txL s (ws.take (k + 1)) = txL s (ws.take k) ++ [s.extract (ws.getD k (0, 0)).1 (ws.getD k (0, 0)).2] := by
  unfold txL
  rw [List.take_add_one, List.map_append, List.getElem?_eq_getElem h, List.getD_eq_getElem?_getD, List.getElem?_eq_getElem h]
  rfl
theorem psL_snoc {ws : List (Nat × Nat)} {k : Nat} (h : k < ws.length) : psL (ws.take (k + 1)) = psL (ws.take k) ++ [((ws.getD k (0, 0)).1 : Int)] := by
  unfold psL
  rw [List.take_add_one, List.map_append, List.getElem?_eq_getElem h, List.getD_eq_getElem?_getD, List.getElem?_eq_getElem h]
  rfl
/-- with what is laid behind them -/
theorem pad_txt {s : ByteArray} {ws : List (Nat × Nat)} {k m : Nat} (h : k < ws.length + m) : (txL s ws ++ List.replicate m bE)[k]? = some (txt s ws k) := by
  unfold txt txL
  rcases Nat.lt_or_ge k ws.length with h' | h'
  · rw [List.getElem?_append_left (by simpa using h'), List.getElem?_map, List.getElem?_eq_getElem h']; rfl
  · rw [List.getElem?_append_right (by simpa using h'), List.getElem?_eq_none h', List.length_map, List.getElem?_replicate, if_pos (by omega)]
theorem pad_pos {s : ByteArray} {ws : List (Nat × Nat)} {k m : Nat} (h : k < ws.length + m) : (psL ws ++ List.replicate m (s.size : Int))[k]? = some (pos s ws k : Int) := by
  unfold pos psL
  rcases Nat.lt_or_ge k ws.length with h' | h'
  · rw [List.getElem?_append_left (by simpa using h'), List.getElem?_map, List.getElem?_eq_getElem h']; rfl
  · rw [List.getElem?_append_right (by simpa using h'), List.getElem?_eq_none h', List.length_map, List.getElem?_replicate, if_pos (by omega)]
theorem txt_size {s : ByteArray} {ws : List (Nat × Nat)} {k : Nat} (hs : s.size ≤ 1000000) : (txt s ws k).size ≤ 1000000 := by
  unfold txt
  split
  · rw [ByteArray.size_extract]; omega
  · decide
end Go.Proofs.YtleejfkononjgaaDoor.Ac

/- Plain facts on lines and columns of a list of bytes: no program is named here. Conditions: none. -/
namespace Go.Proofs.Ytllfpldcilceaaa
namespace Pl

/-- Line and column of place k. -/
def pos (bs : List UInt8) (k : Nat) : Nat × Nat := (bs.take k).foldl (fun p b => if b = 10 then (p.1 + 1, 1) else (p.1, p.2 + 1)) (1, 1)

theorem pos_zero (bs : List UInt8) : pos bs 0 = (1, 1) := rfl

theorem pos_succ (bs : List UInt8) (k : Nat) (h : k < bs.length) :
    pos bs (k + 1) = if bs[k] = 10 then ((pos bs k).1 + 1, 1) else ((pos bs k).1, (pos bs k).2 + 1) := by
  unfold pos
  rw [List.take_succ_eq_append_getElem h, List.foldl_append]
  rfl

theorem pos_over (bs : List UInt8) (k : Nat) (h : bs.length ≤ k) : pos bs k = pos bs bs.length := by
  unfold pos
  rw [List.take_of_length_le h, List.take_of_length_le (Nat.le_refl _)]

theorem pos_bd (bs : List UInt8) (k : Nat) (h : k ≤ bs.length) : 1 ≤ (pos bs k).1 ∧ (pos bs k).1 ≤ k + 1 ∧ 1 ≤ (pos bs k).2 ∧ (pos bs k).2 ≤ k + 1 := by
  induction k with
  | zero => simp [pos_zero]
  | succ k ih =>
    have := ih (by omega)
    rw [pos_succ bs k (by omega)]
    split <;> simp <;> omega

/-- Where the line of place k begins. -/
def frm (bs : List UInt8) (k : Nat) : Nat := k + 1 - (pos bs k).2

theorem frm_zero (bs : List UInt8) : frm bs 0 = 0 := by simp [frm, pos_zero]
theorem frm_le (bs : List UInt8) (k : Nat) (h : k ≤ bs.length) : frm bs k ≤ k := by have := pos_bd bs k h; unfold frm; omega
theorem frm_nl (bs : List UInt8) (k : Nat) (h : k < bs.length) (e : bs[k] = 10) : frm bs (k + 1) = k + 1 := by
  simp [frm, pos_succ bs k h, e]
theorem frm_no (bs : List UInt8) (k : Nat) (h : k < bs.length) (e : bs[k] ≠ 10) : frm bs (k + 1) = frm bs k := by
  have := pos_bd bs k (by omega)
  simp [frm, pos_succ bs k h, e]
theorem col_eq (bs : List UInt8) (k : Nat) (h : k ≤ bs.length) : (pos bs k).2 = k - frm bs k + 1 := by
  have := pos_bd bs k h; unfold frm; omega

/-- All places of one line, from its beginning on. -/
theorem pos_in (bs : List UInt8) (j : Nat) (hj : j ≤ bs.length) (a : Nat) (h1 : frm bs j ≤ a) (h2 : a ≤ j) : pos bs a = ((pos bs j).1, a - frm bs j + 1) := by
  induction j with
  | zero =>
    obtain rfl : a = 0 := by omega
    simp [pos_zero]
  | succ j ih =>
    by_cases e : bs[j]'(by omega) = 10
    · rw [frm_nl bs j (by omega) e] at h1 ⊢
      obtain rfl : a = j + 1 := by omega
      simp [pos_succ bs j (by omega), e]
    · rw [frm_no bs j (by omega) e] at h1 ⊢
      have hn : (pos bs (j + 1)).1 = (pos bs j).1 := by simp [pos_succ bs j (by omega), e]
      rw [hn]
      by_cases ha : a = j + 1
      · subst ha
        have := col_eq bs j (by omega)
        have := frm_le bs j (by omega)
        rw [pos_succ bs j (by omega), if_neg e]
        ext <;> simp
        omega
      · exact ih (by omega) h1 (by omega)

theorem frm_in (bs : List UInt8) (j : Nat) (hj : j ≤ bs.length) (a : Nat) (h1 : frm bs j ≤ a) (h2 : a ≤ j) : frm bs a = frm bs j := by
  have h := pos_in bs j hj a h1 h2
  have := frm_le bs j hj
  unfold frm at *
  rw [h]
  simp only
  omega

/-- No byte 10 within a line. -/
theorem no_nl (bs : List UInt8) (j : Nat) (hj : j ≤ bs.length) (a : Nat) (h1 : frm bs j ≤ a) (h2 : a < j) : bs[a]'(by omega) ≠ 10 := by
  intro e
  have h3 := pos_in bs j hj a h1 (by omega)
  have h4 := pos_in bs j hj (a + 1) (by omega) (by omega)
  rw [pos_succ bs a (by omega), if_pos e, h3] at h4
  simp at h4

theorem lt_succ (bs : List UInt8) (k : Nat) (h : k < bs.length) : (pos bs k).1 < (pos bs (k + 1)).1 ∨ (pos bs k).1 = (pos bs (k + 1)).1 ∧ (pos bs k).2 < (pos bs (k + 1)).2 := by
  rw [pos_succ bs k h]
  split <;> simp

/-- Places rise. -/
theorem pos_lt (bs : List UInt8) (i j : Nat) (h : i < j) (hj : j ≤ bs.length) : (pos bs i).1 < (pos bs j).1 ∨ (pos bs i).1 = (pos bs j).1 ∧ (pos bs i).2 < (pos bs j).2 := by
  induction j with
  | zero => omega
  | succ j ih =>
    have h1 := lt_succ bs j (by omega)
    by_cases e : i = j
    · subst e; exact h1
    · have := ih (by omega) (by omega)
      omega

theorem pos_inj (bs : List UInt8) (i j : Nat) (hi : i ≤ bs.length) (hj : j ≤ bs.length) (h : pos bs i = pos bs j) : i = j := by
  rcases Nat.lt_trichotomy i j with h' | h' | h'
  · have := pos_lt bs i j h' hj; rw [h] at this; omega
  · exact h'
  · have := pos_lt bs j i h' hi; rw [h] at this; omega

theorem pos_lex (bs : List UInt8) (a b : Nat) (ha : a ≤ bs.length) (hb : b ≤ bs.length) :
    (a < b ↔ (pos bs a).1 < (pos bs b).1 ∨ (pos bs a).1 = (pos bs b).1 ∧ (pos bs a).2 < (pos bs b).2) := by
  constructor
  · intro h; exact pos_lt bs a b h hb
  · intro h
    rcases Nat.lt_trichotomy a b with h' | h' | h'
    · exact h'
    · subst h'; omega
    · have := pos_lt bs b a h' ha; omega

theorem line_mono (bs : List UInt8) (i j : Nat) (h : i ≤ j) (hj : j ≤ bs.length) : (pos bs i).1 ≤ (pos bs j).1 := by
  by_cases e : i = j
  · subst e; exact Nat.le_refl _
  · have := pos_lt bs i j (by omega) hj; omega

/-! ### the lines, one behind the other -/

/-- A line as it is told: its number, where it begins, where it ends. -/
def span (bs : List UInt8) (k : Nat) : Nat × Nat × Nat := ((pos bs k).1, frm bs k, k)
def spansTo (bs : List UInt8) : Nat → List (Nat × Nat × Nat)
  | 0 => []
  | k + 1 => if bs[k]? = some 10 then spansTo bs k ++ [span bs k] else spansTo bs k
def spans (bs : List UInt8) : List (Nat × Nat × Nat) := spansTo bs bs.length ++ [span bs bs.length]

theorem spansTo_nl (bs : List UInt8) (k : Nat) (h : k < bs.length) (e : bs[k] = 10) : spansTo bs (k + 1) = spansTo bs k ++ [span bs k] := by
  simp [spansTo, h, e]
theorem spansTo_no (bs : List UInt8) (k : Nat) (h : k < bs.length) (e : bs[k] ≠ 10) : spansTo bs (k + 1) = spansTo bs k := by
  simp [spansTo, h, e]
theorem spansTo_len (bs : List UInt8) (k : Nat) : (spansTo bs k).length ≤ k := by
  induction k with
  | zero => simp [spansTo]
  | succ k ih =>
    unfold spansTo
    split
    · simp; omega
    · omega

/-- What was told last ends just ahead of the line of k; if nothing was told, that line is the first. -/
theorem spansTo_last (bs : List UInt8) (k : Nat) (hk : k ≤ bs.length) :
    (spansTo bs k = [] ∧ frm bs k = 0 ∧ (pos bs k).1 = 1) ∨ ∃ ini j, spansTo bs k = ini ++ [span bs j] ∧ j < k ∧ frm bs k = j + 1 ∧ (pos bs k).1 = (pos bs j).1 + 1 ∧ bs[j]? = some 10 := by
  induction k with
  | zero => left; simp [spansTo, frm_zero, pos_zero]
  | succ k ih =>
    by_cases e : bs[k]'(by omega) = 10
    · right
      refine ⟨spansTo bs k, k, spansTo_nl bs k (by omega) e, by omega, frm_nl bs k (by omega) e, ?_, ?_⟩
      · simp [pos_succ bs k (by omega), e]
      · rw [List.getElem?_eq_getElem (by omega), e]
    · have hn : (pos bs (k + 1)).1 = (pos bs k).1 := by simp [pos_succ bs k (by omega), e]
      rw [spansTo_no bs k (by omega) e, frm_no bs k (by omega) e, hn]
      rcases ih (by omega) with h | ⟨ini, j, h1, h2, h3⟩
      · exact .inl h
      · exact .inr ⟨ini, j, h1, by omega, h3⟩

/-- Each place up to k stands in a line that was told, or in the line of k. -/
theorem spansTo_all (bs : List UInt8) (k : Nat) (hk : k ≤ bs.length) (i : Nat) (hi : i ≤ k) :
    (∃ j, span bs j ∈ spansTo bs k ∧ j < k ∧ frm bs j ≤ i ∧ i ≤ j) ∨ frm bs k ≤ i := by
  induction k with
  | zero => right; simp [frm_zero]
  | succ k ih =>
    by_cases e : bs[k]'(by omega) = 10
    · rw [spansTo_nl bs k (by omega) e, frm_nl bs k (by omega) e]
      by_cases hik : i = k + 1
      · right; omega
      · left
        rcases ih (by omega) (by omega) with ⟨j, h1, h2, h3, h4⟩ | h
        · exact ⟨j, List.mem_append.2 (.inl h1), by omega, h3, h4⟩
        · exact ⟨k, by simp, by omega, h, by omega⟩
    · rw [spansTo_no bs k (by omega) e, frm_no bs k (by omega) e]
      by_cases hik : i = k + 1
      · right; have := frm_le bs k (by omega); omega
      · rcases ih (by omega) (by omega) with ⟨j, h1, h2, h3⟩ | h
        · exact .inl ⟨j, h1, by omega, h3⟩
        · exact .inr h

theorem spansTo_mem (bs : List UInt8) (k : Nat) (x : Nat × Nat × Nat) (h : x ∈ spansTo bs k) : ∃ j, j < k ∧ x = span bs j ∧ bs[j]? = some 10 := by
  induction k with
  | zero => simp [spansTo] at h
  | succ k ih =>
    unfold spansTo at h
    split at h
    · rcases List.mem_append.1 h with h | h
      · obtain ⟨j, hj, e⟩ := ih h; exact ⟨j, by omega, e⟩
      · simp at h; exact ⟨k, by omega, h, by assumption⟩
    · obtain ⟨j, hj, e⟩ := ih h; exact ⟨j, by omega, e⟩

/-! ### the document's answer and the program's -/

/-- Which byte stands at a place. -/
def back (bs : List UInt8) (l c : Int) : Option Nat := (List.range (bs.length + 1)).find? fun i => ((pos bs i).1 : Int) == l && ((pos bs i).2 : Int) == c

theorem back_some (bs : List UInt8) (l c : Int) (i : Nat) (hi : i ≤ bs.length) (h1 : ((pos bs i).1 : Int) = l) (h2 : ((pos bs i).2 : Int) = c) : back bs l c = some i := by
  cases h : back bs l c with
  | none =>
    unfold back at h
    rw [List.find?_eq_none] at h
    have := h i (by simp; omega)
    simp [h1, h2] at this
  | some j =>
    unfold back at h
    have hp := List.find?_some h
    have hm := List.mem_of_find?_eq_some h
    simp at hp hm
    congr 1
    refine pos_inj bs j i (by omega) hi ?_
    ext
    · omega
    · omega

theorem back_none (bs : List UInt8) (l c : Int) (h : ∀ i, i ≤ bs.length → ((pos bs i).1 : Int) = l → ((pos bs i).2 : Int) ≠ c) : back bs l c = none := by
  unfold back
  rw [List.find?_eq_none]
  intro i hi
  simp at hi ⊢
  exact h i (by omega)

theorem back_is (bs : List UInt8) (l c : Int) (i : Nat) (h : back bs l c = some i) : i ≤ bs.length ∧ ((pos bs i).1 : Int) = l ∧ ((pos bs i).2 : Int) = c := by
  unfold back at h
  have hp := List.find?_some h
  have hm := List.mem_of_find?_eq_some h
  simp at hp hm
  exact ⟨by omega, hp⟩

/-- No line told has the number l: no place has it. -/
theorem back_miss (bs : List UInt8) (l c : Int) (h : ∀ x ∈ spans bs, (x.1 : Int) ≠ l) : back bs l c = none := by
  refine back_none bs l c fun i hi hl => ?_
  exfalso
  rcases spansTo_all bs bs.length (Nat.le_refl _) i hi with ⟨j, h1, h2, h3, h4⟩ | h1
  · have := pos_in bs j (by omega) i h3 h4
    refine h _ (List.mem_append.2 (.inl h1)) ?_
    rw [this] at hl; exact hl
  · have := pos_in bs bs.length (Nat.le_refl _) i h1 hi
    refine h (span bs bs.length) (by simp [spans]) ?_
    rw [this] at hl; exact hl

/-- Ends of lines: the text's, or a byte 10. -/
def isEnd (bs : List UInt8) (k : Nat) : Prop := k = bs.length ∨ bs[k]? = some 10

/-- A place with the number of the line that ends at k stands in it. -/
theorem in_of_line (bs : List UInt8) (k : Nat) (hk : k ≤ bs.length) (he : isEnd bs k) (i : Nat) (hi : i ≤ bs.length) (h : (pos bs i).1 = (pos bs k).1) : frm bs k ≤ i ∧ i ≤ k := by
  constructor
  · rcases Nat.lt_or_ge i (frm bs k) with h' | h'
    · exfalso
      rcases spansTo_last bs k hk with ⟨_, h2, _⟩ | ⟨ini, j, h1, h2, h3, h4, h5⟩
      · omega
      · have := line_mono bs i j (by omega) (by omega)
        omega
    · exact h'
  · rcases Nat.lt_or_ge k i with h' | h'
    · exfalso
      rcases he with rfl | he
      · omega
      · have hk' : k < bs.length := by omega
        have e : bs[k] = 10 := by rw [List.getElem?_eq_getElem hk'] at he; simpa using he
        have h1 := line_mono bs (k + 1) i (by omega) hi
        rw [pos_succ bs k hk', if_pos e] at h1
        simp at h1; omega
    · exact h'

theorem back_hit (bs : List UInt8) (k : Nat) (hk : k ≤ bs.length) (c : Int) (h1 : 1 ≤ c) (h2 : c ≤ (k : Int) - frm bs k + 1) : back bs ((pos bs k).1 : Int) c = some (frm bs k + c.toNat - 1) := by
  have hf := frm_le bs k hk
  have h := pos_in bs k hk (frm bs k + c.toNat - 1) (by omega) (by omega)
  refine back_some bs _ c _ (by omega) ?_ ?_
  · rw [h]
  · rw [h]; simp only; omega

theorem back_out (bs : List UInt8) (k : Nat) (hk : k ≤ bs.length) (he : isEnd bs k) (c : Int) (h : c < 1 ∨ (k : Int) - frm bs k + 1 < c) : back bs ((pos bs k).1 : Int) c = none := by
  have hf := frm_le bs k hk
  refine back_none bs _ c fun i hi hl => ?_
  obtain ⟨h1, h2⟩ := in_of_line bs k hk he i hi (by omega)
  rw [pos_in bs k hk i h1 h2]
  simp only
  omega

/-- The n-th line. -/
def lineAt (bs : List UInt8) (k : Nat) : List UInt8 := (bs.drop (frm bs k)).take (k - frm bs k)

/-- Each number up to the last line's is that of a line that ends somewhere. -/
theorem line_end (bs : List UInt8) (n : Nat) (h1 : 1 ≤ n) (h2 : n ≤ (pos bs bs.length).1) : ∃ k, k ≤ bs.length ∧ isEnd bs k ∧ (pos bs k).1 = n ∧ span bs k ∈ spans bs := by
  have key : ∀ m, m ≤ bs.length → n ≤ (pos bs m).1 → (∃ k, k < m ∧ bs[k]? = some 10 ∧ (pos bs k).1 = n ∧ span bs k ∈ spansTo bs m) ∨ (pos bs m).1 = n := by
    intro m
    induction m with
    | zero => intro _ h; right; simp [pos_zero] at h ⊢; omega
    | succ m ih =>
      intro hm h
      by_cases e : bs[m]'(by omega) = 10
      · rw [pos_succ bs m (by omega), if_pos e] at h
        simp at h
        by_cases hn : n = (pos bs m).1 + 1
        · right; rw [pos_succ bs m (by omega), if_pos e]; simp; omega
        · left
          rw [spansTo_nl bs m (by omega) e]
          rcases ih (by omega) (by omega) with ⟨k, h1, h2, h3, h4⟩ | h'
          · exact ⟨k, by omega, h2, h3, List.mem_append.2 (.inl h4)⟩
          · exact ⟨m, by omega, by rw [List.getElem?_eq_getElem (by omega), e], h', by simp⟩
      · rw [pos_succ bs m (by omega), if_neg e] at h ⊢
        rw [spansTo_no bs m (by omega) e]
        simp at h ⊢
        rcases ih (by omega) h with ⟨k, h1, h2, h3, h4⟩ | h'
        · left; exact ⟨k, by omega, h2, h3, h4⟩
        · right; exact h'
  rcases key bs.length (Nat.le_refl _) h2 with ⟨k, h3, h4, h5, h6⟩ | h3
  · exact ⟨k, by omega, .inr h4, h5, List.mem_append.2 (.inl h6)⟩
  · exact ⟨bs.length, Nat.le_refl _, .inl rfl, h3, by simp [spans]⟩

/-- The next line begins behind the byte 10. -/
theorem next_line (bs : List UInt8) (k k' : Nat) (hk : k ≤ bs.length) (hk' : k' ≤ bs.length) (he : isEnd bs k) (he' : isEnd bs k') (h : (pos bs k').1 = (pos bs k).1 + 1) :
    frm bs k' = k + 1 ∧ bs[k]? = some 10 ∧ k < bs.length := by
  have hlt : k < bs.length := by
    rcases Nat.lt_or_ge k bs.length with h' | h'
    · exact h'
    · exfalso
      have := line_mono bs k' k (by omega) hk
      omega
  have h10 : bs[k]? = some 10 := by
    rcases he with he | he
    · omega
    · exact he
  have e : bs[k] = 10 := by rw [List.getElem?_eq_getElem hlt] at h10; simpa using h10
  refine ⟨?_, h10, hlt⟩
  have hp : pos bs (k + 1) = ((pos bs k).1 + 1, 1) := by rw [pos_succ bs k hlt, if_pos e]
  obtain ⟨h1, h2⟩ := in_of_line bs k' hk' he' (k + 1) hlt (by rw [hp, h])
  have h3 := frm_in bs k' hk' (k + 1) h1 h2
  rw [frm_nl bs k hlt e] at h3
  omega

theorem join_step (bs : List UInt8) (k k' : Nat) (hk : k < bs.length) (hk' : k' ≤ bs.length) (hf : frm bs k' = k + 1) (h10 : bs[k]? = some 10) : bs.take k ++ [10] ++ lineAt bs k' = bs.take k' := by
  have hle := frm_le bs k' hk'
  unfold lineAt
  rw [hf] at hle ⊢
  have e : bs[k] = 10 := by rw [List.getElem?_eq_getElem hk] at h10; simpa using h10
  have : bs.take k ++ [10] = bs.take (k + 1) := by rw [List.take_succ_eq_append_getElem hk, e]
  rw [this]
  have h2 : k' = (k + 1) + (k' - (k + 1)) := by omega
  conv => rhs; rw [h2, List.take_add]

theorem join_first (bs : List UInt8) (k : Nat) (hf : frm bs k = 0) : lineAt bs k = bs.take k := by
  simp [lineAt, hf]

theorem first_line (bs : List UInt8) (k : Nat) (hk : k ≤ bs.length) (h : (pos bs k).1 = 1) : frm bs k = 0 := by
  rcases spansTo_last bs k hk with ⟨_, h2, _⟩ | ⟨ini, j, h1, h2, h3, h4, h5⟩
  · exact h2
  · have := pos_bd bs j (by omega); omega

/-! ### Of: the last line that begins no later than a -/

def last (a : Nat) (xs : List (Nat × Nat × Nat)) : Nat × Nat := xs.foldl (fun _ x => (x.1, a - x.2.1 + 1)) (0, 0)
theorem last_snoc (a : Nat) (xs : List (Nat × Nat × Nat)) (x : Nat × Nat × Nat) : last a (xs ++ [x]) = (x.1, a - x.2.1 + 1) := by simp [last]

theorem last_done (bs : List UInt8) (a : Nat) (ha : a ≤ bs.length) (h : frm bs bs.length ≤ a) : last a (spans bs) = pos bs a := by
  rw [spans, last_snoc, pos_in bs bs.length (Nat.le_refl _) a h ha]
  rfl

theorem last_stop (bs : List UInt8) (a k : Nat) (hk : k ≤ bs.length) (h1 : a < frm bs k) (h2 : ∀ x ∈ spansTo bs k, x.2.1 ≤ a) : last a (spansTo bs k) = pos bs a := by
  rcases spansTo_last bs k hk with ⟨_, h, _⟩ | ⟨ini, j, h3, h4, h5, _⟩
  · omega
  · rw [h3, last_snoc]
    have h6 := h2 (span bs j) (by rw [h3]; simp)
    simp only [span] at h6 ⊢
    exact (pos_in bs j (by omega) a h6 (by omega)).symm

end Pl
end Go.Proofs.Ytllfpldcilceaaa

/- Plain facts on bytes, names and the words of the language: no program is named here. Conditions: none. -/
namespace Go.Proofs.YtemhfbfodpeeaaaDoor
namespace Wd

/-- The words of the language. -/
def wordsL : List ByteArray := [
  ⟨#[99, 108, 97, 115, 115]⟩,
  ⟨#[101, 120, 116, 101, 110, 100, 115]⟩,
  ⟨#[114, 101, 112]⟩,
  ⟨#[112, 101, 101, 114]⟩,
  ⟨#[119, 111, 114, 108, 100]⟩,
  ⟨#[97, 110, 121]⟩,
  ⟨#[117, 110, 105, 113, 117, 101]⟩,
  ⟨#[112, 117, 114, 101]⟩,
  ⟨#[118, 111, 105, 100]⟩,
  ⟨#[105, 110, 116]⟩,
  ⟨#[105, 102]⟩,
  ⟨#[101, 108, 115, 101]⟩,
  ⟨#[119, 104, 105, 108, 101]⟩,
  ⟨#[114, 101, 116, 117, 114, 110]⟩,
  ⟨#[110, 101, 119]⟩,
  ⟨#[109, 111, 118, 101]⟩,
  ⟨#[100, 101, 108, 101, 116, 101]⟩,
  ⟨#[116, 104, 105, 115]⟩,
  ⟨#[110, 117, 108, 108]⟩,
  ⟨#[105, 110, 112, 117, 116]⟩,
  ⟨#[110, 105, 108]⟩,
  ⟨#[115, 97, 109, 101]⟩,
  ⟨#[99, 97, 115, 116]⟩]

theorem words_len : wordsL.length = 23 := rfl

/-- The number of the first word of a list that is s. -/
def findFrom (s : ByteArray) : Nat → List ByteArray → Nat
  | _, [] => 0
  | i, w :: r => if w = s then i + 1 else findFrom s (i + 1) r
def find (s : ByteArray) : Nat := findFrom s 0 wordsL

/-- What lies at place k of the words. -/
def at_ (k : Nat) : ByteArray := wordsL.getD k ⟨#[]⟩

theorem drop_at (k : Nat) (h : k < 23) : wordsL.drop k = at_ k :: wordsL.drop (k + 1) := by
  have hl : k < wordsL.length := h
  rw [List.drop_eq_getElem_cons hl]
  simp [at_, List.getD, hl]

theorem find_yes (s : ByteArray) (k : Nat) (h : k < 23) (hr : findFrom s k (wordsL.drop k) = find s) (e : at_ k = s) : find s = k + 1 := by
  rw [← hr, drop_at k h, findFrom, if_pos e]
theorem find_no (s : ByteArray) (k : Nat) (h : k < 23) (hr : findFrom s k (wordsL.drop k) = find s) (e : ¬ at_ k = s) : findFrom s (k + 1) (wordsL.drop (k + 1)) = find s := by
  rw [← hr, drop_at k h, findFrom, if_neg e]
theorem find_end (s : ByteArray) (k : Nat) (h : ¬ k < 23) (hr : findFrom s k (wordsL.drop k) = find s) : find s = 0 := by
  rw [← hr, List.drop_eq_nil_of_le (by rw [words_len]; omega), findFrom]

theorem findFrom_bd (s : ByteArray) : ∀ (i : Nat) (l : List ByteArray), findFrom s i l ≤ i + l.length
  | i, [] => by simp [findFrom]
  | i, w :: r => by
    have := findFrom_bd s (i + 1) r
    rw [findFrom]
    split <;> simp <;> omega
theorem find_le (s : ByteArray) : find s ≤ 23 := by
  have := findFrom_bd s 0 wordsL
  rw [words_len] at this
  unfold find; omega

/-- The word of a number. -/
def word (n : Int) : ByteArray := if 1 ≤ n ∧ n ≤ 23 then at_ (n - 1).toNat else ⟨#[]⟩

theorem findFrom_back (s : ByteArray) : ∀ (i : Nat) (l : List ByteArray), findFrom s i l = 0 ∨ ∃ k, k < l.length ∧ findFrom s i l = i + k + 1 ∧ l.getD k ⟨#[]⟩ = s
  | i, [] => .inl rfl
  | i, w :: r => by
    by_cases e : w = s
    · refine .inr ⟨0, by simp, ?_, by simpa using e⟩
      rw [findFrom, if_pos e]
    · rw [findFrom, if_neg e]
      rcases findFrom_back s (i + 1) r with h | ⟨k, h1, h2, h3⟩
      · exact .inl h
      · refine .inr ⟨k + 1, by simp; omega, by omega, ?_⟩
        simpa using h3
/-- A word comes back from its number. -/
theorem word_find (s : ByteArray) : find s = 0 ∨ word (find s) = s := by
  rcases findFrom_back s 0 wordsL with h | ⟨k, h1, h2, h3⟩
  · exact .inl h
  · right
    rw [words_len] at h1
    have h4 : find s = k + 1 := by unfold find; omega
    unfold word
    rw [h4, if_pos (by omega)]
    have : (((k + 1 : Nat) : Int) - 1).toNat = k := by omega
    rw [this]
    exact h3

def isLetter (x : Int) : Bool := decide (97 ≤ x ∧ x ≤ 122) || decide (65 ≤ x ∧ x ≤ 90)
def isDigit (x : Int) : Bool := decide (48 ≤ x ∧ x ≤ 57)
def isBlank (x : Int) : Bool := decide (x = 9) || decide (x = 10) || decide (x = 13) || decide (x = 32)
def okB (b : UInt8) : Bool := isLetter b.toNat || isDigit b.toNat

/-- Whether a text is a name. -/
def nameB (s : ByteArray) : Bool :=
  decide (1 ≤ s.size) && decide (s.size ≤ 20) && (((s.data.toList.head?).map fun b => isLetter b.toNat).getD false) && s.data.toList.all okB && (find s == 0)

theorem head_at (s : ByteArray) (h : 0 < s.size) : s.data.toList.head? = some s[0] := by
  have hl : 0 < s.data.toList.length := h
  rw [List.head?_eq_getElem?, List.getElem?_eq_getElem hl]
  rfl
theorem name_len (s : ByteArray) (h : s.size < 1 ∨ 20 < s.size) : nameB s = false := by
  unfold nameB
  rcases h with h | h
  · rw [decide_eq_false (by omega : ¬ 1 ≤ s.size)]; rfl
  · rw [decide_eq_false (by omega : ¬ s.size ≤ 20)]; simp
theorem name_first (s : ByteArray) (h : 0 < s.size) (e : isLetter (s[0].toNat : Int) = false) : nameB s = false := by
  unfold nameB
  rw [head_at s h]
  simp [e]
theorem name_at (s : ByteArray) (k : Nat) (h : k < s.size) (e : okB s[k] = false) : nameB s = false := by
  have : s.data.toList.all okB = false := by
    rw [List.all_eq_false]
    exact ⟨s[k], List.getElem_mem (l := s.data.toList) (n := k) h, by simp [e]⟩
  unfold nameB
  rw [this]; simp
theorem name_word (s : ByteArray) (e : find s ≠ 0) : nameB s = false := by
  unfold nameB
  simp [e]
theorem name_ok (s : ByteArray) (h1 : 1 ≤ s.size) (h2 : s.size ≤ 20) (hf : isLetter (s[0].toNat : Int) = true) (ha : ∀ j (hj : j < s.size), okB s[j] = true) : nameB s = (find s == 0) := by
  have : s.data.toList.all okB = true := by
    rw [List.all_eq_true]
    intro b hb
    obtain ⟨j, hj, rfl⟩ := List.mem_iff_getElem.1 hb
    exact ha j hj
  unfold nameB
  rw [this, head_at s h1]
  simp [hf, h1, h2]

end Wd
end Go.Proofs.YtemhfbfodpeeaaaDoor

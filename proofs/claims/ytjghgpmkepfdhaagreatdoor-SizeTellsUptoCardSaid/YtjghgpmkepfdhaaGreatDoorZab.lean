/- Plain facts on bytes, names, numbers and the words of the language: no program is named here. Conditions: none. -/
import Derived.WalkKit
import Derived.Lib.ItoaNum
namespace Go.Proofs.YtjghgpmkepfdhaaGreatDoor
namespace Wd

/-- The words of the language. -/
def wordsL : List ByteArray := [
  ⟨#[99, 108, 97, 115, 115]⟩,
  ⟨#[101, 120, 116, 101, 110, 100, 115]⟩,
  ⟨#[114, 101, 112]⟩,
  ⟨#[112, 101, 101, 114]⟩,
  ⟨#[119, 111, 114, 108, 100]⟩,
  ⟨#[97, 110, 121]⟩,
  ⟨#[117, 110, 105, 113, 117, 101]⟩,
  ⟨#[112, 117, 114, 101]⟩,
  ⟨#[118, 111, 105, 100]⟩,
  ⟨#[105, 110, 116]⟩,
  ⟨#[105, 102]⟩,
  ⟨#[101, 108, 115, 101]⟩,
  ⟨#[119, 104, 105, 108, 101]⟩,
  ⟨#[114, 101, 116, 117, 114, 110]⟩,
  ⟨#[110, 101, 119]⟩,
  ⟨#[109, 111, 118, 101]⟩,
  ⟨#[100, 101, 108, 101, 116, 101]⟩,
  ⟨#[116, 104, 105, 115]⟩,
  ⟨#[110, 117, 108, 108]⟩,
  ⟨#[105, 110, 112, 117, 116]⟩,
  ⟨#[110, 105, 108]⟩,
  ⟨#[115, 97, 109, 101]⟩,
  ⟨#[99, 97, 115, 116]⟩]

theorem words_len : wordsL.length = 23 := rfl

/-- The number of the first word of a list that is s. -/
def findFrom (s : ByteArray) : Nat → List ByteArray → Nat
  | _, [] => 0
  | i, w :: r => if w = s then i + 1 else findFrom s (i + 1) r
def find (s : ByteArray) : Nat := findFrom s 0 wordsL

/-- What lies at place k of the words. -/
def at_ (k : Nat) : ByteArray := wordsL.getD k ⟨#[]⟩

theorem drop_at (k : Nat) (h : k < 23) : wordsL.drop k = at_ k :: wordsL.drop (k + 1) := by
  have hl : k < wordsL.length := h
  rw [List.drop_eq_getElem_cons hl]
  simp [at_, List.getD, hl]

theorem find_yes (s : ByteArray) (k : Nat) (h : k < 23) (hr : findFrom s k (wordsL.drop k) = find s) (e : at_ k = s) : find s = k + 1 := by
  rw [← hr, drop_at k h, findFrom, if_pos e]
theorem find_no (s : ByteArray) (k : Nat) (h : k < 23) (hr : findFrom s k (wordsL.drop k) = find s) (e : ¬ at_ k = s) : findFrom s (k + 1) (wordsL.drop (k + 1)) = find s := by
  rw [← hr, drop_at k h, findFrom, if_neg e]
theorem find_end (s : ByteArray) (k : Nat) (h : ¬ k < 23) (hr : findFrom s k (wordsL.drop k) = find s) : find s = 0 := by
  rw [← hr, List.drop_eq_nil_of_le (by rw [words_len]; omega), findFrom]

theorem findFrom_bd (s : ByteArray) : ∀ (i : Nat) (l : List ByteArray), findFrom s i l ≤ i + l.length
  | i, [] => by simp [findFrom]
  | i, w :: r => by
    have := findFrom_bd s (i + 1) r
    rw [findFrom]
    split <;> simp <;> omega
theorem find_le (s : ByteArray) : find s ≤ 23 := by
  have := findFrom_bd s 0 wordsL
  rw [words_len] at this
  unfold find; omega

/-- The word of a number. -/
def word (n : Int) : ByteArray := if 1 ≤ n ∧ n ≤ 23 then at_ (n - 1).toNat else ⟨#[]⟩

theorem findFrom_back (s : ByteArray) : ∀ (i : Nat) (l : List ByteArray), findFrom s i l = 0 ∨ ∃ k, k < l.length ∧ findFrom s i l = i + k + 1 ∧ l.getD k ⟨#[]⟩ = s
  | i, [] => .inl rfl
  | i, w :: r => by
    by_cases e : w = s
    · refine .inr ⟨0, by simp, ?_, by simpa using e⟩
      rw [findFrom, if_pos e]
    · rw [findFrom, if_neg e]
      rcases findFrom_back s (i + 1) r with h | ⟨k, h1, h2, h3⟩
      · exact .inl h
      · refine .inr ⟨k + 1, by simp; omega, by omega, ?_⟩
        simpa using h3
/-- A word comes back from its number. -/
theorem word_find (s : ByteArray) : find s = 0 ∨ word (find s) = s := by
  rcases findFrom_back s 0 wordsL with h | ⟨k, h1, h2, h3⟩
  · exact .inl h
  · right
    rw [words_len] at h1
    have h4 : find s = k + 1 := by unfold find; omega
    unfold word
    rw [h4, if_pos (by omega)]
    have : (((k + 1 : Nat) : Int) - 1).toNat = k := by omega
    rw [this]
    exact h3

def isLetter (x : Int) : Bool := decide (97 ≤ x ∧ x ≤ 122) || decide (65 ≤ x ∧ x ≤ 90)
def isDigit (x : Int) : Bool := decide (48 ≤ x ∧ x ≤ 57)
def isBlank (x : Int) : Bool := decide (x = 9) || decide (x = 10) || decide (x = 13) || decide (x = 32)
def okB (b : UInt8) : Bool := isLetter b.toNat || isDigit b.toNat

/-- Whether a text is a name. -/
def nameB (s : ByteArray) : Bool :=
  decide (1 ≤ s.size) && decide (s.size ≤ 20) && (((s.data.toList.head?).map fun b => isLetter b.toNat).getD false) && s.data.toList.all okB && (find s == 0)

theorem head_at (s : ByteArray) (h : 0 < s.size) : s.data.toList.head? = some s[0] := by
  have hl : 0 < s.data.toList.length := h
  rw [List.head?_eq_getElem?, List.getElem?_eq_getElem hl]
  rfl
theorem name_len (s : ByteArray) (h : s.size < 1 ∨ 20 < s.size) : nameB s = false := by
  unfold nameB
  rcases h with h | h
  · rw [decide_eq_false (by omega : ¬ 1 ≤ s.size)]; rfl
  · rw [decide_eq_false (by omega : ¬ s.size ≤ 20)]; simp
theorem name_first (s : ByteArray) (h : 0 < s.size) (e : isLetter (s[0].toNat : Int) = false) : nameB s = false := by
  unfold nameB
  rw [head_at s h]
  simp [e]
theorem name_at (s : ByteArray) (k : Nat) (h : k < s.size) (e : okB s[k] = false) : nameB s = false := by
  have : s.data.toList.all okB = false := by
    rw [List.all_eq_false]
    exact ⟨s[k], List.getElem_mem (l := s.data.toList) (n := k) h, by simp [e]⟩
  unfold nameB
  rw [this]; simp
theorem name_word (s : ByteArray) (e : find s ≠ 0) : nameB s = false := by
  unfold nameB
  simp [e]
theorem name_ok (s : ByteArray) (h1 : 1 ≤ s.size) (h2 : s.size ≤ 20) (hf : isLetter (s[0].toNat : Int) = true) (ha : ∀ j (hj : j < s.size), okB s[j] = true) : nameB s = (find s == 0) := by
  have : s.data.toList.all okB = true := by
    rw [List.all_eq_true]
    intro b hb
    obtain ⟨j, hj, rfl⟩ := List.mem_iff_getElem.1 hb
    exact ha j hj
  unfold nameB
  rw [this, head_at s h1]
  simp [hf, h1, h2]

/-- What digits say, behind a number already read. -/
def numFrom : Nat → List UInt8 → Option Nat
  | acc, [] => some acc
  | acc, b :: r => if isDigit b.toNat then numFrom (acc * 10 + (b.toNat - 48)) r else none
/-- What a text says, where it is a number. -/
def number (s : ByteArray) : Option Nat :=
  if s.size < 1 ∨ 9 < s.size ∨ (s.data.toList.head? = some 48 ∧ 1 < s.size) then none else numFrom 0 s.data.toList

theorem num_len (s : ByteArray) (h : s.size < 1 ∨ 9 < s.size) : number s = none := by
  unfold number; rw [if_pos (by omega)]
theorem num_nought (s : ByteArray) (h : 1 < s.size) (e : s[0] = 48) : number s = none := by
  unfold number; rw [if_pos (.inr (.inr ⟨by rw [head_at s (by omega), e], h⟩))]
theorem num_go (s : ByteArray) (h1 : 1 ≤ s.size) (h2 : s.size ≤ 9) (e : ¬ (s[0] = 48 ∧ 1 < s.size)) : number s = numFrom 0 s.data.toList := by
  unfold number
  rw [if_neg]
  rintro (h | h | ⟨h, h'⟩)
  · omega
  · omega
  · rw [head_at s h1] at h
    exact e ⟨by simpa using h, h'⟩

theorem num_drop (s : ByteArray) (k : Nat) (h : k < s.size) : s.data.toList.drop k = s[k] :: s.data.toList.drop (k + 1) := by
  have hl : k < s.data.toList.length := h
  rw [List.drop_eq_getElem_cons hl]; rfl
theorem num_no (s : ByteArray) (acc k : Nat) (h : k < s.size) (hr : numFrom acc (s.data.toList.drop k) = number s) (e : isDigit (s[k].toNat : Int) = false) : number s = none := by
  rw [← hr, num_drop s k h, numFrom, if_neg (by simp [e])]
theorem num_yes (s : ByteArray) (acc k : Nat) (h : k < s.size) (hr : numFrom acc (s.data.toList.drop k) = number s) (e : isDigit (s[k].toNat : Int) = true) : numFrom (acc * 10 + (s[k].toNat - 48)) (s.data.toList.drop (k + 1)) = number s := by
  rw [← hr, num_drop s k h, numFrom, if_pos e]
theorem num_end (s : ByteArray) (acc k : Nat) (h : ¬ k < s.size) (hr : numFrom acc (s.data.toList.drop k) = number s) : number s = some acc := by
  rw [← hr, List.drop_eq_nil_of_le (by show s.size ≤ k; omega), numFrom]

theorem isDigit_iff (x : Int) : isDigit x = true ↔ 48 ≤ x ∧ x ≤ 57 := by unfold isDigit; simp

/-! ### Digits -/
open Go.Lib (decDigits itoa)

theorem dec_small {u : Nat} (h : u < 10) : decDigits u = [UInt8.ofNat (48 + u)] := by rw [decDigits, dif_pos h]
theorem dec_big {u : Nat} (h : ¬ u < 10) : decDigits u = decDigits (u / 10) ++ [UInt8.ofNat (48 + u % 10)] := by rw [decDigits, dif_neg h]

theorem dig_nat (d : Nat) (h : d < 10) : (UInt8.ofNat (48 + d)).toNat = 48 + d := by
  simp [UInt8.toNat_ofNat']; omega

theorem numFrom_app (l : List UInt8) : ∀ (r : List UInt8) (acc : Nat), numFrom acc (l ++ r) = (numFrom acc l).bind fun a => numFrom a r := by
  induction l with
  | nil => intro r acc; rfl
  | cons b t ih =>
    intro r acc
    simp only [List.cons_append, numFrom]
    split
    · exact ih r _
    · rfl

theorem numFrom_dig (acc d : Nat) (h : d < 10) : numFrom acc [UInt8.ofNat (48 + d)] = some (acc * 10 + d) := by
  have hd := dig_nat d h
  have : isDigit ((UInt8.ofNat (48 + d)).toNat : Int) = true := by rw [isDigit_iff, hd]; omega
  rw [numFrom, if_pos this, numFrom, hd]
  congr 1; omega

theorem numFrom_dec (u : Nat) : numFrom 0 (decDigits u) = some u := by
  induction u using Nat.strongRecOn with
  | _ u ih =>
    by_cases h : u < 10
    · rw [dec_small h, numFrom_dig 0 u h]; simp
    · rw [dec_big h, numFrom_app, ih (u / 10) (by omega)]
      show numFrom (u / 10) _ = _
      rw [numFrom_dig _ _ (by omega)]
      congr 1; omega

theorem dec_head : ∀ (u : Nat), ∃ d r, decDigits u = UInt8.ofNat (48 + d) :: r ∧ d < 10 ∧ (d = 0 → u = 0) := by
  intro u
  induction u using Nat.strongRecOn with
  | _ u ih =>
    by_cases h : u < 10
    · exact ⟨u, [], dec_small h, h, id⟩
    · obtain ⟨d, r, h1, h2, h3⟩ := ih (u / 10) (by omega)
      refine ⟨d, r ++ [UInt8.ofNat (48 + u % 10)], by rw [dec_big h, h1]; rfl, h2, fun e => ?_⟩
      have := h3 e
      omega

/-- A number comes back from its digits. -/
theorem number_dec (u : Nat) (h : u < 1000000000) : number ⟨(decDigits u).toArray⟩ = some u := by
  have hl := Go.Lib.decDigits_length u
  have hp := Go.Lib.nDigits_pos u
  have h9 : Go.Lib.nDigits u ≤ 9 := by
    have := Go.Lib.lt_pow_nDigits u
    rcases Nat.lt_or_ge 9 (Go.Lib.nDigits u) with hg | hg
    · exfalso
      obtain ⟨k, hk⟩ : ∃ k, Go.Lib.nDigits u = k + 1 := ⟨Go.Lib.nDigits u - 1, by omega⟩
      by_cases h0 : u = 0
      · subst h0; rw [Go.Lib.nDigits_small (by omega)] at hg; omega
      · have key : ∀ n v, v ≠ 0 → Go.Lib.nDigits v = n + 1 → 10 ^ n ≤ v := by
          intro n
          induction n with
          | zero => intro v hv _; simp; omega
          | succ n ih =>
            intro v hv hn
            have hb : ¬ v < 10 := by intro hb; rw [Go.Lib.nDigits_small hb] at hn; omega
            rw [Go.Lib.nDigits_big hb] at hn
            have := ih (v / 10) (by omega) (by omega)
            rw [Nat.pow_succ]; omega
        have h1 := key k u h0 hk
        have h2 : 10 ^ 9 ≤ 10 ^ k := Nat.pow_le_pow_right (by decide) (by omega)
        omega
    · exact hg
  have hsz : (ByteArray.mk (decDigits u).toArray).size = Go.Lib.nDigits u := by
    show (decDigits u).toArray.size = _
    rw [List.size_toArray, hl]
  have hbl : (ByteArray.mk (decDigits u).toArray).data.toList = decDigits u := by simp
  unfold number
  rw [if_neg, hbl, numFrom_dec]
  rw [hsz, hbl]
  rintro (e | e | ⟨e, e'⟩)
  · omega
  · omega
  · obtain ⟨d, r, h1, h2, h3⟩ := dec_head u
    rw [h1] at e
    have e2 : UInt8.ofNat (48 + d) = 48 := by simpa using e
    have e3 : 48 + d = 48 := by rw [← dig_nat d h2, e2]; rfl
    have := h3 (by omega)
    subst this
    rw [Go.Lib.nDigits_small (by omega)] at e'
    omega

theorem numFrom_snoc (l : List UInt8) (b : UInt8) (acc n : Nat) (h : numFrom acc (l ++ [b]) = some n) : ∃ m d, numFrom acc l = some m ∧ d < 10 ∧ b = UInt8.ofNat (48 + d) ∧ n = m * 10 + d := by
  rw [numFrom_app] at h
  cases hm : numFrom acc l with
  | none => rw [hm] at h; simp at h
  | some m =>
    rw [hm] at h
    have h' : numFrom m [b] = some n := h
    rw [numFrom] at h'
    split at h'
    · rename_i hd
      rw [isDigit_iff] at hd
      rw [numFrom] at h'
      refine ⟨m, b.toNat - 48, rfl, by omega, ?_, by simpa using h'.symm⟩
      apply UInt8.toNat_inj.1
      rw [dig_nat _ (by omega)]; omega
    · cases h'

theorem numFrom_ge (l : List UInt8) : ∀ (acc n : Nat), numFrom acc l = some n → acc * 10 ^ l.length ≤ n ∧ n < (acc + 1) * 10 ^ l.length := by
  induction l with
  | nil => intro acc n h; simp [numFrom] at h; subst h; simp
  | cons b t ih =>
    intro acc n h
    rw [numFrom] at h
    split at h
    · rename_i hd
      rw [isDigit_iff] at hd
      have := ih _ _ h
      rw [List.length_cons, Nat.pow_succ]
      obtain ⟨x, hx⟩ : ∃ x, x = b.toNat - 48 := ⟨_, rfl⟩
      rw [← hx] at this
      have hx9 : x ≤ 9 := by omega
      obtain ⟨p, hp⟩ : ∃ p, p = 10 ^ t.length := ⟨_, rfl⟩
      rw [← hp] at this ⊢
      constructor
      · refine Nat.le_trans ?_ this.1
        rw [Nat.add_mul, Nat.mul_assoc acc 10 p, Nat.mul_comm 10 p]; omega
      · refine Nat.lt_of_lt_of_le this.2 ?_
        have e1 : (acc + 1) * (p * 10) = (acc * 10 + 10) * p := by rw [Nat.mul_comm p 10, ← Nat.mul_assoc, Nat.add_mul acc 1 10]
        rw [e1]
        exact Nat.mul_le_mul_right p (by omega)
    · cases h

/-- What is read as a number is its digits. -/
theorem dec_numFrom : ∀ (k : Nat) (l : List UInt8) (n : Nat), l.length = k + 1 → (1 < l.length → l.head? ≠ some 48) → numFrom 0 l = some n → decDigits n = l := by
  intro k
  induction k with
  | zero =>
    intro l n hl _ h
    match l, hl with
    | [b], _ =>
      obtain ⟨m, d, h1, h2, h3, h4⟩ := numFrom_snoc [] b 0 n h
      simp [numFrom] at h1
      subst h1
      rw [show n = d by omega, dec_small h2, h3]
  | succ k ih =>
    intro l n hl hh h
    obtain ⟨t, b, rfl⟩ : ∃ t b, l = t ++ [b] := by
      rcases List.eq_nil_or_concat l with e | ⟨t, b, e⟩
      · subst e; simp at hl
      · exact ⟨t, b, by simpa using e⟩
    have ht : t.length = k + 1 := by simpa using hl
    obtain ⟨m, d, h1, h2, h3, h4⟩ := numFrom_snoc t b 0 n h
    have hh0 : t.head? ≠ some 48 := by
      have := hh (by omega)
      rw [List.head?_append] at this
      cases hq : t.head? with
      | none => simp
      | some c => rw [hq] at this; simpa using this
    have hm := ih t m ht (fun _ => hh0) h1
    have hm0 : m ≠ 0 := by
      intro e
      subst e
      rw [dec_small (by omega)] at hm
      rw [← hm] at hh0
      exact hh0 rfl
    rw [dec_big (by omega), show n / 10 = m by omega, show n % 10 = d by omega, hm, h3]

theorem number_back (s : ByteArray) (n : Nat) (h : number s = some n) : (⟨(decDigits n).toArray⟩ : ByteArray) = s ∧ n ≤ 999999999 := by
  unfold number at h
  split at h
  · cases h
  · rename_i hc
    have hl : s.data.toList.length = s.size := rfl
    refine ⟨?_, ?_⟩
    · have := dec_numFrom (s.size - 1) s.data.toList n (by omega) (fun h1 h2 => hc (.inr (.inr ⟨h2, h1⟩))) h
      rw [this]
    · have := (numFrom_ge _ _ _ h).2
      have h2 : 10 ^ s.data.toList.length ≤ 10 ^ 9 := Nat.pow_le_pow_right (by decide) (by omega)
      omega

theorem num_bound (s : ByteArray) (n : Nat) (h : number s = some n) : n ≤ 999999999 := (number_back s n h).2

end Wd
end Go.Proofs.YtjghgpmkepfdhaaGreatDoor

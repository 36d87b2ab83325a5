/- Plain facts on the tokens of a text: what is left out, which token a text begins with, the tokens one behind the other, their text, and that they come back from it. No program is named here. Conditions: none. -/
import Derived.Test.YtbcgooofelnkoaaWd
namespace Go.Proofs.Ytbcgooofelnkoaa
namespace Tk
open Wd

def blankB (b : UInt8) : Bool := isBlank (b.toNat : Int)
def digB (b : UInt8) : Bool := isDigit (b.toNat : Int)
def letB (b : UInt8) : Bool := isLetter (b.toNat : Int)

/-- How many bytes of a kind a list begins with. -/
def runL (p : UInt8 → Bool) (l : List UInt8) : Nat := (l.takeWhile p).length
/-- How many bytes of a note, or of blanks, a list begins with. -/
def leftL (l : List UInt8) : Nat := if List.isPrefixOf [47, 47] l then runL (· != 10) l else runL blankB l
/-- How many bytes are left out ahead; the flag: within a note. -/
def sk : Bool → List UInt8 → Nat
  | _, [] => 0
  | false, b :: t => if blankB b = true then 1 + sk false t else if b = 47 ∧ t.head? = some 47 then 1 + sk true t else 0
  | true, b :: t => if b = 10 then 1 + sk false t else 1 + sk true t

def shorts : List UInt8 := [123, 125, 40, 41, 60, 62, 44, 59, 46, 61, 43, 45, 42, 33]
def dbl (l : List UInt8) : Bool := List.isPrefixOf [61, 61] l || List.isPrefixOf [38, 38] l
/-- The size of the longest sign that a list begins with. -/
def signL (l : List UInt8) : Nat := if dbl l = true then 2 else match l with | [] => 0 | b :: _ => if shorts.contains b = true then 1 else 0
/-- The text of the first n bytes. -/
def tx (l : List UInt8) (n : Nat) : ByteArray := ⟨(l.take n).toArray⟩
/-- The kind and the size of the token that a list begins with; kind 0: none. -/
def oneL : List UInt8 → Nat × Nat
  | [] => (0, 0)
  | b :: t =>
    if letB b = true then (if find (tx (b :: t) (runL okB (b :: t))) = 0 then 1 else 3, runL okB (b :: t))
    else if digB b = true then (2, runL digB (b :: t))
    else if signL (b :: t) = 0 then (0, 0) else (4, signL (b :: t))
/-- Is a name too long, or a number none? -/
def badB (k n : Nat) (l : List UInt8) : Bool := (k == 1 && decide (20 < n)) || (k == 2 && (number (tx l n)).isNone)

structure Tok where
  kind : Nat
  text : ByteArray
  pos : Nat

inductive Res where
  | ok (l : List Tok)
  | err (e a : Nat)

/-- The tokens from a place on at which nothing is left out. -/
def ofS (s : List UInt8) : Nat → Nat → List Tok → Res
  | 0, _, acc => .ok acc
  | f + 1, a, acc =>
    if s.length ≤ a then .ok (acc ++ [⟨0, ⟨#[]⟩, s.length⟩])
    else if (oneL (s.drop a)).1 = 0 then .err 1 a
    else if badB (oneL (s.drop a)).1 (oneL (s.drop a)).2 (s.drop a) = true then .err 2 a
    else ofS s f (a + (oneL (s.drop a)).2 + sk false (s.drop (a + (oneL (s.drop a)).2))) (acc ++ [⟨(oneL (s.drop a)).1, tx (s.drop a) (oneL (s.drop a)).2, a⟩])
def ofL (s : List UInt8) : Res := if 16384 < s.length then .err 6 0 else ofS s (s.length + 1) (sk false s) []

/-! ### What is left out -/
theorem runL_nil (p : UInt8 → Bool) : runL p [] = 0 := rfl
theorem runL_yes {p : UInt8 → Bool} {b : UInt8} {t : List UInt8} (h : p b = true) : runL p (b :: t) = 1 + runL p t := by
  unfold runL; rw [List.takeWhile_cons, if_pos h]; simp; omega
theorem runL_no {p : UInt8 → Bool} {b : UInt8} {t : List UInt8} (h : p b = false) : runL p (b :: t) = 0 := by
  unfold runL; rw [List.takeWhile_cons, if_neg (by simp [h])]; rfl
theorem runL_le (p : UInt8 → Bool) (l : List UInt8) : runL p l ≤ l.length := (List.takeWhile_sublist p).length_le
theorem takeWhile_take (p : UInt8 → Bool) (l : List UInt8) : l.take (runL p l) = l.takeWhile p := by
  induction l with
  | nil => rfl
  | cons b t ih =>
    cases h : p b with
    | true => rw [runL_yes h, List.takeWhile_cons, if_pos h, Nat.add_comm, List.take_succ_cons, ih]
    | false => rw [runL_no h, List.takeWhile_cons, if_neg (by simp [h])]; rfl

theorem sk_f (b : UInt8) (t : List UInt8) : sk false (b :: t) = if blankB b = true then 1 + sk false t else if b = 47 ∧ t.head? = some 47 then 1 + sk true t else 0 := by rw [sk]
theorem sk_t (b : UInt8) (t : List UInt8) : sk true (b :: t) = if b = 10 then 1 + sk false t else 1 + sk true t := by rw [sk]
theorem sk_n (m : Bool) : sk m [] = 0 := by cases m <;> rw [sk]

theorem sk_le : ∀ (m : Bool) (l : List UInt8), sk m l ≤ l.length
  | _, [] => by simp [sk]
  | false, b :: t => by
    have h1 := sk_le false t
    have h2 := sk_le true t
    first | rw [sk_f] | rw [sk_t]
    simp only [List.length_cons]
    split
    · omega
    · split <;> omega
  | true, b :: t => by
    have h1 := sk_le false t
    have h2 := sk_le true t
    first | rw [sk_f] | rw [sk_t]
    simp only [List.length_cons]
    split <;> omega

theorem sk_blanks (l : List UInt8) : sk false l = runL blankB l + sk false (l.drop (runL blankB l)) := by
  induction l with
  | nil => rfl
  | cons b t ih =>
    cases h : blankB b with
    | true =>
      rw [runL_yes h, Nat.add_comm 1, List.drop_succ_cons, sk_f, if_pos h]; omega
    | false => rw [runL_no h]; simp
theorem sk_note (l : List UInt8) : sk true l = runL (· != 10) l + sk false (l.drop (runL (· != 10) l)) := by
  induction l with
  | nil => rfl
  | cons b t ih =>
    by_cases h : b = 10
    · subst h
      have hf : ((10 : UInt8) != 10) = false := by decide
      rw [runL_no (p := (· != 10)) hf, List.drop_zero, sk_t, if_pos rfl, sk_f, if_pos (by decide)]; omega
    · have hf : (b != 10) = true := by simpa using h
      rw [runL_yes (p := (· != 10)) hf, Nat.add_comm 1, List.drop_succ_cons, sk_t, if_neg h]; omega
theorem note_split {l : List UInt8} (h : List.isPrefixOf [47, 47] l = true) : ∃ t, l = 47 :: 47 :: t := by
  match l, h with
  | [], h => simp [List.isPrefixOf] at h
  | [a], h => simp [List.isPrefixOf] at h
  | a :: b :: t, h =>
    simp [List.isPrefixOf] at h
    exact ⟨t, by rw [← h.1, ← h.2]⟩
theorem note_not {b : UInt8} {t : List UInt8} (h : List.isPrefixOf [47, 47] (b :: t) = false) : ¬ (b = 47 ∧ t.head? = some 47) := by
  rintro ⟨rfl, ht⟩
  match t, ht with
  | c :: t, ht =>
    simp at ht
    subst ht
    simp [List.isPrefixOf] at h
theorem sk_left (l : List UInt8) : sk false l = leftL l + sk false (l.drop (leftL l)) := by
  unfold leftL
  cases h : List.isPrefixOf [47, 47] l with
  | false => rw [if_neg (by simp)]; exact sk_blanks l
  | true =>
    rw [if_pos rfl]
    obtain ⟨t, rfl⟩ := note_split h
    rw [← sk_note]
    show sk false (47 :: 47 :: t) = sk true (47 :: 47 :: t)
    rw [sk_f, if_neg (by decide), if_pos ⟨rfl, rfl⟩, sk_t 47 (47 :: t), if_neg (by decide)]
theorem sk_zero {l : List UInt8} (h : leftL l = 0) : sk false l = 0 := by
  match l with
  | [] => rfl
  | b :: t =>
    unfold leftL at h
    cases hn : List.isPrefixOf [47, 47] (b :: t) with
    | true =>
      rw [hn, if_pos rfl] at h
      obtain ⟨t', ht⟩ := note_split hn
      rw [ht, runL_yes (by decide)] at h
      omega
    | false =>
      rw [hn, if_neg (by simp)] at h
      cases hb : blankB b with
      | true => rw [runL_yes hb] at h; omega
      | false => rw [sk_f, if_neg (by simp [hb]), if_neg (note_not hn)]
theorem leftL_le (l : List UInt8) : leftL l ≤ l.length := by
  unfold leftL; split <;> exact runL_le _ _

/-- What is left out is left out, alone. -/
theorem sk_take : ∀ (m : Bool) (l : List UInt8), sk m (l.take (sk m l)) = sk m l
  | _, [] => by simp [sk]
  | false, b :: t => by
    have h1 := sk_take false t
    have h2 := sk_take true t
    by_cases hb : blankB b = true
    · have e : sk false (b :: t) = 1 + sk false t := by rw [sk_f, if_pos hb]
      rw [e, Nat.add_comm 1, List.take_succ_cons, sk_f, if_pos hb, h1]; omega
    · by_cases hn : b = 47 ∧ t.head? = some 47
      · have e : sk false (b :: t) = 1 + sk true t := by rw [sk_f, if_neg hb, if_pos hn]
        have hh : (t.take (sk true t)).head? = some 47 := by
          match t, hn.2 with
          | c :: t', hc =>
            have hc' : c = 47 := by simpa using hc
            subst hc'
            rw [show sk true (47 :: t') = sk true t' + 1 by rw [sk_t, if_neg (by decide)]; omega, List.take_succ_cons]
            rfl
        rw [e, Nat.add_comm 1, List.take_succ_cons, sk_f, if_neg hb, if_pos ⟨hn.1, hh⟩, h2]; omega
      · have e : sk false (b :: t) = 0 := by rw [sk_f, if_neg hb, if_neg hn]
        rw [e]; rfl
  | true, b :: t => by
    have h1 := sk_take false t
    have h2 := sk_take true t
    by_cases hb : b = 10
    · have e : sk true (b :: t) = 1 + sk false t := by rw [sk_t, if_pos hb]
      rw [e, Nat.add_comm 1, List.take_succ_cons, sk_t, if_pos hb, h1]; omega
    · have e : sk true (b :: t) = 1 + sk true t := by rw [sk_t, if_neg hb]
      rw [e, Nat.add_comm 1, List.take_succ_cons, sk_t, if_neg hb, h2]; omega

/-! ### The token that a list begins with -/
theorem signL_le (l : List UInt8) : signL l ≤ l.length := by
  unfold signL
  split
  · rename_i h
    unfold dbl at h
    rw [Bool.or_eq_true] at h
    rcases h with h | h
    · have := (List.isPrefixOf_iff_prefix.1 h).length_le; simpa using this
    · have := (List.isPrefixOf_iff_prefix.1 h).length_le; simpa using this
  · match l with
    | [] => simp
    | b :: t => simp only [List.length_cons]; split <;> omega
theorem okB_let {b : UInt8} (h : letB b = true) : okB b = true := by unfold okB; unfold letB at h; rw [h]; rfl
theorem oneL_l {b : UInt8} {t : List UInt8} (h : letB b = true) : oneL (b :: t) = (if find (tx (b :: t) (runL okB (b :: t))) = 0 then 1 else 3, runL okB (b :: t)) := by rw [oneL, if_pos h]
theorem oneL_d {b : UInt8} {t : List UInt8} (h : ¬ letB b = true) (hd : digB b = true) : oneL (b :: t) = (2, runL digB (b :: t)) := by rw [oneL, if_neg h, if_pos hd]
theorem oneL_s {b : UInt8} {t : List UInt8} (h : ¬ letB b = true) (hd : ¬ digB b = true) (hs : signL (b :: t) ≠ 0) : oneL (b :: t) = (4, signL (b :: t)) := by rw [oneL, if_neg h, if_neg hd, if_neg hs]
theorem oneL_0 {b : UInt8} {t : List UInt8} (h : ¬ letB b = true) (hd : ¬ digB b = true) (hs : signL (b :: t) = 0) : oneL (b :: t) = (0, 0) := by rw [oneL, if_neg h, if_neg hd, if_pos hs]
theorem oneL_ways (b : UInt8) (t : List UInt8) : (letB b = true ∧ oneL (b :: t) = (if find (tx (b :: t) (runL okB (b :: t))) = 0 then 1 else 3, runL okB (b :: t))) ∨
    (¬ letB b = true ∧ digB b = true ∧ oneL (b :: t) = (2, runL digB (b :: t))) ∨ (¬ letB b = true ∧ ¬ digB b = true ∧ signL (b :: t) ≠ 0 ∧ oneL (b :: t) = (4, signL (b :: t))) ∨
    (¬ letB b = true ∧ ¬ digB b = true ∧ signL (b :: t) = 0 ∧ oneL (b :: t) = (0, 0)) := by
  by_cases h : letB b = true
  · exact .inl ⟨h, oneL_l h⟩
  · by_cases hd : digB b = true
    · exact .inr (.inl ⟨h, hd, oneL_d h hd⟩)
    · by_cases hs : signL (b :: t) = 0
      · exact .inr (.inr (.inr ⟨h, hd, hs, oneL_0 h hd hs⟩))
      · exact .inr (.inr (.inl ⟨h, hd, hs, oneL_s h hd hs⟩))
theorem oneL_kind (l : List UInt8) : (oneL l).1 ≤ 4 := by
  match l with
  | [] => simp [oneL]
  | b :: t =>
    rcases oneL_ways b t with ⟨_, e⟩ | ⟨_, _, e⟩ | ⟨_, _, _, e⟩ | ⟨_, _, _, e⟩ <;> rw [e]
    · show (if _ then 1 else 3) ≤ 4
      split <;> omega
    all_goals simp
theorem oneL_le (l : List UInt8) : (oneL l).2 ≤ l.length := by
  match l with
  | [] => simp [oneL]
  | b :: t =>
    rcases oneL_ways b t with ⟨_, e⟩ | ⟨_, _, e⟩ | ⟨_, _, _, e⟩ | ⟨_, _, _, e⟩ <;> rw [e]
    · exact runL_le _ _
    · exact runL_le _ _
    · exact signL_le _
    · exact Nat.zero_le _
theorem oneL_pos {l : List UInt8} (h : (oneL l).1 ≠ 0) : 0 < (oneL l).2 := by
  match l with
  | [] => simp [oneL] at h
  | b :: t =>
    rcases oneL_ways b t with ⟨hb, e⟩ | ⟨_, hd, e⟩ | ⟨_, _, hs, e⟩ | ⟨_, _, _, e⟩
    · rw [e]
      show 0 < runL okB (b :: t)
      rw [runL_yes (okB_let hb)]; omega
    · rw [e]
      show 0 < runL digB (b :: t)
      rw [runL_yes hd]; omega
    · rw [e]
      show 0 < signL (b :: t)
      omega
    · rw [e] at h; exact absurd rfl h

/-- A rest at which each token ends: nothing, or a blank. -/
def Ends (r : List UInt8) : Prop := r = [] ∨ ∃ q, r = 32 :: q

theorem runL_ends {p : UInt8 → Bool} (hp : p 32 = false) (l r : List UInt8) (hr : Ends r) : runL p (l.takeWhile p ++ r) = runL p l := by
  induction l with
  | nil =>
    rcases hr with rfl | ⟨q, rfl⟩
    · rfl
    · show runL p (32 :: q) = _
      rw [runL_no hp]; rfl
  | cons b t ih =>
    cases h : p b with
    | true => rw [List.takeWhile_cons, if_pos h, List.cons_append, runL_yes h, runL_yes h, ih]
    | false =>
      rw [List.takeWhile_cons, if_neg (by simp [h]), runL_no h]
      rcases hr with rfl | ⟨q, rfl⟩
      · rfl
      · show runL p (32 :: q) = _
        rw [runL_no hp]
theorem signL_ends {l r : List UInt8} (h : signL l ≠ 0) (hr : Ends r) : signL (l.take (signL l) ++ r) = signL l := by
  by_cases hd : dbl l = true
  · have e : signL l = 2 := by unfold signL; rw [if_pos hd]
    rw [e]
    have : dbl (l.take 2 ++ r) = true := by
      unfold dbl at hd ⊢
      rw [Bool.or_eq_true] at hd ⊢
      rcases hd with hd | hd
      · left
        match l, hd with
        | [], hd => simp [List.isPrefixOf] at hd
        | [a], hd => simp [List.isPrefixOf] at hd
        | a :: b :: t, hd => simpa [List.isPrefixOf] using hd
      · right
        match l, hd with
        | [], hd => simp [List.isPrefixOf] at hd
        | [a], hd => simp [List.isPrefixOf] at hd
        | a :: b :: t, hd => simpa [List.isPrefixOf] using hd
    unfold signL; rw [if_pos this]
  · match l with
    | [] => simp [signL, dbl, List.isPrefixOf] at h
    | b :: t =>
      have hs : shorts.contains b = true := by
        cases hc : shorts.contains b with
        | true => rfl
        | false =>
          unfold signL at h
          rw [if_neg hd] at h
          simp only [hc] at h
          exact absurd rfl h
      have e : signL (b :: t) = 1 := by
        unfold signL; rw [if_neg hd]; simp only [hs]; rfl
      rw [e]
      have hd' : ¬ dbl (b :: r) = true := by
        unfold dbl
        rcases hr with rfl | ⟨q, rfl⟩
        · simp [List.isPrefixOf]
        · simp [List.isPrefixOf]
      show signL (b :: r) = 1
      unfold signL; rw [if_neg hd']; simp only [hs]; rfl

theorem tx_eq {l m : List UInt8} {n k : Nat} (h : l.take n = m.take k) : tx l n = tx m k := by unfold tx; rw [h]
theorem take_app {l r : List UInt8} {n : Nat} (h : n ≤ l.length) : (l.take n ++ r).take n = l.take n := by
  rw [List.take_append_of_le_length (by simp; omega), List.take_take, Nat.min_self]

/-- The first token stays the first, whatever ends it. -/
theorem oneL_ends {l r : List UInt8} (h : (oneL l).1 ≠ 0) (hr : Ends r) : oneL (l.take (oneL l).2 ++ r) = oneL l := by
  match l with
  | [] => simp [oneL] at h
  | b :: t =>
    by_cases hb : letB b = true
    · have e : oneL (b :: t) = (if find (tx (b :: t) (runL okB (b :: t))) = 0 then 1 else 3, runL okB (b :: t)) := by rw [oneL, if_pos hb]
      rw [e]
      have hw : (b :: t).take (runL okB (b :: t)) = b :: t.takeWhile okB := by rw [takeWhile_take, List.takeWhile_cons, if_pos (okB_let hb)]
      have hrun : runL okB (b :: (t.takeWhile okB ++ r)) = runL okB (b :: t) := by
        have := runL_ends (p := okB) (by decide) (b :: t) r hr
        rw [List.takeWhile_cons, if_pos (okB_let hb)] at this
        exact this
      show oneL ((b :: t).take (runL okB (b :: t)) ++ r) = _
      have htx : tx (b :: (t.takeWhile okB ++ r)) (runL okB (b :: (t.takeWhile okB ++ r))) = tx (b :: t) (runL okB (b :: t)) := by
        rw [hrun]
        apply tx_eq
        have := take_app (l := b :: t) (r := r) (runL_le okB (b :: t))
        rw [hw] at this
        rw [hw]; exact this
      rw [hw, List.cons_append, oneL, if_pos hb, htx, hrun]
    · by_cases hd : digB b = true
      · have e : oneL (b :: t) = (2, runL digB (b :: t)) := by rw [oneL, if_neg hb, if_pos hd]
        rw [e]
        have hw : (b :: t).take (runL digB (b :: t)) = b :: t.takeWhile digB := by rw [takeWhile_take, List.takeWhile_cons, if_pos hd]
        have hrun : runL digB (b :: (t.takeWhile digB ++ r)) = runL digB (b :: t) := by
          have := runL_ends (p := digB) (by decide) (b :: t) r hr
          rw [List.takeWhile_cons, if_pos hd] at this
          exact this
        show oneL ((b :: t).take (runL digB (b :: t)) ++ r) = _
        rw [hw, List.cons_append, oneL, if_neg hb, if_pos hd, hrun]
      · have hs : signL (b :: t) ≠ 0 := by
          intro hs
          rw [oneL, if_neg hb, if_neg hd, if_pos hs] at h
          exact h rfl
        have e : oneL (b :: t) = (4, signL (b :: t)) := by rw [oneL, if_neg hb, if_neg hd, if_neg hs]
        rw [e]
        show oneL ((b :: t).take (signL (b :: t)) ++ r) = _
        have hE := signL_ends hs hr
        obtain ⟨n, hn⟩ : ∃ n, signL (b :: t) = n + 1 := ⟨signL (b :: t) - 1, by omega⟩
        rw [hn] at hE ⊢
        rw [List.take_succ_cons, List.cons_append] at hE ⊢
        rw [oneL, if_neg hb, if_neg hd, hE, if_neg (by omega)]

/-- The byte that a token begins with is not left out. -/
theorem oneL_skip {l r : List UInt8} (h : (oneL l).1 ≠ 0) : sk false (l.take (oneL l).2 ++ r) = 0 := by
  match l with
  | [] => simp [oneL] at h
  | b :: t =>
    have hp := oneL_pos h
    obtain ⟨n, hn⟩ : ∃ n, (oneL (b :: t)).2 = n + 1 := ⟨(oneL (b :: t)).2 - 1, by omega⟩
    rw [hn, List.take_succ_cons, List.cons_append]
    have key : blankB b = false ∧ b ≠ 47 := by
      by_cases hb : letB b = true
      · unfold letB isLetter at hb
        simp at hb
        refine ⟨?_, ?_⟩
        · unfold blankB isBlank; simp; omega
        · rintro rfl; simp at hb
      · by_cases hd : digB b = true
        · unfold digB isDigit at hd
          simp at hd
          refine ⟨?_, ?_⟩
          · unfold blankB isBlank; simp; omega
          · rintro rfl; simp at hd
        · have hs : signL (b :: t) ≠ 0 := by
            intro hs
            rw [oneL, if_neg hb, if_neg hd, if_pos hs] at h
            exact h rfl
          have hc : b = 61 ∨ b = 38 ∨ shorts.contains b = true := by
            unfold signL at hs
            by_cases hd : dbl (b :: t) = true
            · unfold dbl at hd
              rw [Bool.or_eq_true] at hd
              rcases hd with hd | hd
              · left; simp [List.isPrefixOf] at hd; exact hd.1.symm
              · right; left; simp [List.isPrefixOf] at hd; exact hd.1.symm
            · right; right
              rw [if_neg hd] at hs
              cases hc : shorts.contains b with
              | true => rfl
              | false => simp only [hc] at hs; exact absurd rfl hs
          rcases hc with rfl | rfl | hc
          · decide
          · decide
          · unfold shorts at hc
            simp at hc
            rcases hc with rfl | rfl | rfl | rfl | rfl | rfl | rfl | rfl | rfl | rfl | rfl | rfl | rfl | rfl <;> decide
    rw [sk_f, if_neg (by simp [key.1]), if_neg (by rintro ⟨e, _⟩; exact key.2 e)]

end Tk
end Go.Proofs.Ytbcgooofelnkoaa

/- Plain facts on the tokens of a text: what is left out, which token a text begins with, the tokens one behind the other, their text, and that they come back from it. No program is named here. Conditions: none.
The tokens of a text as a list: they come back from their text, each stands where it says, and a fault lies within the text. No program is named here. Conditions: none.
What the program and the document's answer say of a byte: letter, digit, blank, and what it means that the table of words lies in memory. Conditions: none.
Plain facts on how many bytes of a kind a text begins with. Conditions: none. -/
import Derived.Test.YtdehpgdffafebaaDoorZaa
import Derived.Lib.Join
import Derived.Test.YtdehpgdffafebaaDoorChecked
import Derived.WalkKit
import Derived.WalkSmall
import Derived.BigQuiet
import Derived.Deep.QuietTactic
import Derived.LoopTactic
import Derived.Lib.Hide
import Derived.IntWalk
import Derived.Laws.Rows
import Derived.Lib.LaidTab
namespace Go.Proofs.YtdehpgdffafebaaDoor
namespace Tk
open Wd

def blankB (b : UInt8) : Bool := isBlank (b.toNat : Int)
def digB (b : UInt8) : Bool := isDigit (b.toNat : Int)
def letB (b : UInt8) : Bool := isLetter (b.toNat : Int)

/-- How many bytes of a kind a list begins with. -/
def runL (p : UInt8 → Bool) (l : List UInt8) : Nat := (l.takeWhile p).length
/-- How many bytes of a note, or of blanks, a list begins with. -/
def leftL (l : List UInt8) : Nat := if List.isPrefixOf [47, 47] l then runL (· != 10) l else runL blankB l
/-- How many bytes are left out ahead; the flag: within a note. -/
def sk : Bool → List UInt8 → Nat
  | _, [] => 0
  | false, b :: t => if blankB b = true then 1 + sk false t else if b = 47 ∧ t.head? = some 47 then 1 + sk true t else 0
  | true, b :: t => if b = 10 then 1 + sk false t else 1 + sk true t

def shorts : List UInt8 := [123, 125, 40, 41, 60, 62, 44, 59, 46, 61, 43, 45, 42, 33]
def dbl (l : List UInt8) : Bool := List.isPrefixOf [61, 61] l || List.isPrefixOf [38, 38] l
/-- The size of the longest sign that a list begins with. -/
def signL (l : List UInt8) : Nat := if dbl l = true then 2 else match l with | [] => 0 | b :: _ => if shorts.contains b = true then 1 else 0
/-- The text of the first n bytes. -/
def tx (l : List UInt8) (n : Nat) : ByteArray := ⟨(l.take n).toArray⟩
/-- The kind and the size of the token that a list begins with; kind 0: none. -/
def oneL : List UInt8 → Nat × Nat
  | [] => (0, 0)
  | b :: t =>
    if letB b = true then (if find (tx (b :: t) (runL okB (b :: t))) = 0 then 1 else 3, runL okB (b :: t))
    else if digB b = true then (2, runL digB (b :: t))
    else if signL (b :: t) = 0 then (0, 0) else (4, signL (b :: t))
/-- Is a name too long, or a number none? -/
def badB (k n : Nat) (l : List UInt8) : Bool := (k == 1 && decide (20 < n)) || (k == 2 && (number (tx l n)).isNone)

structure Tok where
  kind : Nat
  text : ByteArray
  pos : Nat

inductive Res where
  | ok (l : List Tok)
  | err (e a : Nat)

/-- The tokens from a place on at which nothing is left out. -/
def ofS (s : List UInt8) : Nat → Nat → List Tok → Res
  | 0, _, acc => .ok acc
  | f + 1, a, acc =>
    if s.length ≤ a then .ok (acc ++ [⟨0, ⟨#[]⟩, s.length⟩])
    else if (oneL (s.drop a)).1 = 0 then .err 1 a
    else if badB (oneL (s.drop a)).1 (oneL (s.drop a)).2 (s.drop a) = true then .err 2 a
    else ofS s f (a + (oneL (s.drop a)).2 + sk false (s.drop (a + (oneL (s.drop a)).2))) (acc ++ [⟨(oneL (s.drop a)).1, tx (s.drop a) (oneL (s.drop a)).2, a⟩])
def ofL (s : List UInt8) : Res := if 16384 < s.length then .err 6 0 else ofS s (s.length + 1) (sk false s) []

/-! ### What is left out -/
theorem runL_nil (p : UInt8 → Bool) : runL p [] = 0 := rfl
theorem runL_yes {p : UInt8 → Bool} {b : UInt8} {t : List UInt8} (h : p b = true) : runL p (b :: t) = 1 + runL p t := by
  unfold runL; rw [List.takeWhile_cons, if_pos h]; simp; omega
theorem runL_no {p : UInt8 → Bool} {b : UInt8} {t : List UInt8} (h : p b = false) : runL p (b :: t) = 0 := by
  unfold runL; rw [List.takeWhile_cons, if_neg (by simp [h])]; rfl
theorem runL_le (p : UInt8 → Bool) (l : List UInt8) : runL p l ≤ l.length := (List.takeWhile_sublist p).length_le
theorem takeWhile_take (p : UInt8 → Bool) (l : List UInt8) : l.take (runL p l) = l.takeWhile p := by
  induction l with
  | nil => rfl
  | cons b t ih =>
    cases h : p b with
    | true => rw [runL_yes h, List.takeWhile_cons, if_pos h, Nat.add_comm, List.take_succ_cons, ih]
    | false => rw [runL_no h, List.takeWhile_cons, if_neg (by simp [h])]; rfl

theorem sk_f (b : UInt8) (t : List UInt8) : sk false (b :: t) = if blankB b = true then 1 + sk false t else if b = 47 ∧ t.head? = some 47 then 1 + sk true t else 0 := by rw [sk]
theorem sk_t (b : UInt8) (t : List UInt8) : sk true (b :: t) = if b = 10 then 1 + sk false t else 1 + sk true t := by rw [sk]
theorem sk_n (m : Bool) : sk m [] = 0 := by cases m <;> rw [sk]

theorem sk_le : ∀ (m : Bool) (l : List UInt8), sk m l ≤ l.length
  | _, [] => by simp [sk]
  | false, b :: t => by
    have h1 := sk_le false t
    have h2 := sk_le true t
    first | rw [sk_f] | rw [sk_t]
    simp only [List.length_cons]
    split
    · omega
    · split <;> omega
  | true, b :: t => by
    have h1 := sk_le false t
    have h2 := sk_le true t
    first | rw [sk_f] | rw [sk_t]
    simp only [List.length_cons]
    split <;> omega

theorem sk_blanks (l : List UInt8) : sk false l = runL blankB l + sk false (l.drop (runL blankB l)) := by
  induction l with
  | nil => rfl
  | cons b t ih =>
    cases h : blankB b with
    | true =>
      rw [runL_yes h, Nat.add_comm 1, List.drop_succ_cons, sk_f, if_pos h]; omega
    | false => rw [runL_no h]; simp
theorem sk_note (l : List UInt8) : sk true l = runL (· != 10) l + sk false (l.drop (runL (· != 10) l)) := by
  induction l with
  | nil => rfl
  | cons b t ih =>
    by_cases h : b = 10
    · subst h
      have hf : ((10 : UInt8) != 10) = false := by decide
      rw [runL_no (p := (· != 10)) hf, List.drop_zero, sk_t, if_pos rfl, sk_f, if_pos (by decide)]; omega
    · have hf : (b != 10) = true := by simpa using h
      rw [runL_yes (p := (· != 10)) hf, Nat.add_comm 1, List.drop_succ_cons, sk_t, if_neg h]; omega
theorem note_split {l : List UInt8} (h : List.isPrefixOf [47, 47] l = true) : ∃ t, l = 47 :: 47 :: t := by
  match l, h with
  | [], h => simp [List.isPrefixOf] at h
  | [a], h => simp [List.isPrefixOf] at h
  | a :: b :: t, h =>
    simp [List.isPrefixOf] at h
    exact ⟨t, by rw [← h.1, ← h.2]⟩
theorem note_not {b : UInt8} {t : List UInt8} (h : List.isPrefixOf [47, 47] (b :: t) = false) : ¬ (b = 47 ∧ t.head? = some 47) := by
  rintro ⟨rfl, ht⟩
  match t, ht with
  | c :: t, ht =>
    simp at ht
    subst ht
    simp [List.isPrefixOf] at h
theorem sk_left (l : List UInt8) : sk false l = leftL l + sk false (l.drop (leftL l)) := by
  unfold leftL
  cases h : List.isPrefixOf [47, 47] l with
  | false => rw [if_neg (by simp)]; exact sk_blanks l
  | true =>
    rw [if_pos rfl]
    obtain ⟨t, rfl⟩ := note_split h
    rw [← sk_note]
    show sk false (47 :: 47 :: t) = sk true (47 :: 47 :: t)
    rw [sk_f, if_neg (by decide), if_pos ⟨rfl, rfl⟩, sk_t 47 (47 :: t), if_neg (by decide)]
theorem sk_zero {l : List UInt8} (h : leftL l = 0) : sk false l = 0 := by
  match l with
  | [] => rfl
  | b :: t =>
    unfold leftL at h
    cases hn : List.isPrefixOf [47, 47] (b :: t) with
    | true =>
      rw [hn, if_pos rfl] at h
      obtain ⟨t', ht⟩ := note_split hn
      rw [ht, runL_yes (by decide)] at h
      omega
    | false =>
      rw [hn, if_neg (by simp)] at h
      cases hb : blankB b with
      | true => rw [runL_yes hb] at h; omega
      | false => rw [sk_f, if_neg (by simp [hb]), if_neg (note_not hn)]
theorem leftL_le (l : List UInt8) : leftL l ≤ l.length := by
  unfold leftL; split <;> exact runL_le _ _

/-- What is left out is left out, alone. -/
theorem sk_take : ∀ (m : Bool) (l : List UInt8), sk m (l.take (sk m l)) = sk m l
  | _, [] => by simp [sk]
  | false, b :: t => by
    have h1 := sk_take false t
    have h2 := sk_take true t
    by_cases hb : blankB b = true
    · have e : sk false (b :: t) = 1 + sk false t := by rw [sk_f, if_pos hb]
      rw [e, Nat.add_comm 1, List.take_succ_cons, sk_f, if_pos hb, h1]; omega
    · by_cases hn : b = 47 ∧ t.head? = some 47
      · have e : sk false (b :: t) = 1 + sk true t := by rw [sk_f, if_neg hb, if_pos hn]
        have hh : (t.take (sk true t)).head? = some 47 := by
          match t, hn.2 with
          | c :: t', hc =>
            have hc' : c = 47 := by simpa using hc
            subst hc'
            rw [show sk true (47 :: t') = sk true t' + 1 by rw [sk_t, if_neg (by decide)]; omega, List.take_succ_cons]
            rfl
        rw [e, Nat.add_comm 1, List.take_succ_cons, sk_f, if_neg hb, if_pos ⟨hn.1, hh⟩, h2]; omega
      · have e : sk false (b :: t) = 0 := by rw [sk_f, if_neg hb, if_neg hn]
        rw [e]; rfl
  | true, b :: t => by
    have h1 := sk_take false t
    have h2 := sk_take true t
    by_cases hb : b = 10
    · have e : sk true (b :: t) = 1 + sk false t := by rw [sk_t, if_pos hb]
      rw [e, Nat.add_comm 1, List.take_succ_cons, sk_t, if_pos hb, h1]; omega
    · have e : sk true (b :: t) = 1 + sk true t := by rw [sk_t, if_neg hb]
      rw [e, Nat.add_comm 1, List.take_succ_cons, sk_t, if_neg hb, h2]; omega

/-! ### The token that a list begins with -/
theorem signL_le (l : List UInt8) : signL l ≤ l.length := by
  unfold signL
  split
  · rename_i h
    unfold dbl at h
    rw [Bool.or_eq_true] at h
    rcases h with h | h
    · have := (List.isPrefixOf_iff_prefix.1 h).length_le; simpa using this
    · have := (List.isPrefixOf_iff_prefix.1 h).length_le; simpa using this
  · match l with
    | [] => simp
    | b :: t => simp only [List.length_cons]; split <;> omega
theorem okB_let {b : UInt8} (h : letB b = true) : okB b = true := by unfold okB; unfold letB at h; rw [h]; rfl
theorem oneL_l {b : UInt8} {t : List UInt8} (h : letB b = true) : oneL (b :: t) = (if find (tx (b :: t) (runL okB (b :: t))) = 0 then 1 else 3, runL okB (b :: t)) := by rw [oneL, if_pos h]
theorem oneL_d {b : UInt8} {t : List UInt8} (h : ¬ letB b = true) (hd : digB b = true) : oneL (b :: t) = (2, runL digB (b :: t)) := by rw [oneL, if_neg h, if_pos hd]
theorem oneL_s {b : UInt8} {t : List UInt8} (h : ¬ letB b = true) (hd : ¬ digB b = true) (hs : signL (b :: t) ≠ 0) : oneL (b :: t) = (4, signL (b :: t)) := by rw [oneL, if_neg h, if_neg hd, if_neg hs]
theorem oneL_0 {b : UInt8} {t : List UInt8} (h : ¬ letB b = true) (hd : ¬ digB b = true) (hs : signL (b :: t) = 0) : oneL (b :: t) = (0, 0) := by rw [oneL, if_neg h, if_neg hd, if_pos hs]
theorem oneL_ways (b : UInt8) (t : List UInt8) : (letB b = true ∧ oneL (b :: t) = (if find (tx (b :: t) (runL okB (b :: t))) = 0 then 1 else 3, runL okB (b :: t))) ∨
    (¬ letB b = true ∧ digB b = true ∧ oneL (b :: t) = (2, runL digB (b :: t))) ∨ (¬ letB b = true ∧ ¬ digB b = true ∧ signL (b :: t) ≠ 0 ∧ oneL (b :: t) = (4, signL (b :: t))) ∨
    (¬ letB b = true ∧ ¬ digB b = true ∧ signL (b :: t) = 0 ∧ oneL (b :: t) = (0, 0)) := by
  by_cases h : letB b = true
  · exact .inl ⟨h, oneL_l h⟩
  · by_cases hd : digB b = true
    · exact .inr (.inl ⟨h, hd, oneL_d h hd⟩)
    · by_cases hs : signL (b :: t) = 0
      · exact .inr (.inr (.inr ⟨h, hd, hs, oneL_0 h hd hs⟩))
      · exact .inr (.inr (.inl ⟨h, hd, hs, oneL_s h hd hs⟩))
theorem oneL_kind (l : List UInt8) : (oneL l).1 ≤ 4 := by
  match l with
  | [] => simp [oneL]
  | b :: t =>
    rcases oneL_ways b t with ⟨_, e⟩ | ⟨_, _, e⟩ | ⟨_, _, _, e⟩ | ⟨_, _, _, e⟩ <;> rw [e]
    · show (if _ then 1 else 3) ≤ 4
      split <;> omega
    all_goals simp
theorem oneL_le (l : List UInt8) : (oneL l).2 ≤ l.length := by
  match l with
  | [] => simp [oneL]
  | b :: t =>
    rcases oneL_ways b t with ⟨_, e⟩ | ⟨_, _, e⟩ | ⟨_, _, _, e⟩ | ⟨_, _, _, e⟩ <;> rw [e]
    · exact runL_le _ _
    · exact runL_le _ _
    · exact signL_le _
    · exact Nat.zero_le _
theorem oneL_pos {l : List UInt8} (h : (oneL l).1 ≠ 0) : 0 < (oneL l).2 := by
  match l with
  | [] => simp [oneL] at h
  | b :: t =>
    rcases oneL_ways b t with ⟨hb, e⟩ | ⟨_, hd, e⟩ | ⟨_, _, hs, e⟩ | ⟨_, _, _, e⟩
    · rw [e]
      show 0 < runL okB (b :: t)
      rw [runL_yes (okB_let hb)]; omega
    · rw [e]
      show 0 < runL digB (b :: t)
      rw [runL_yes hd]; omega
    · rw [e]
      show 0 < signL (b :: t)
      omega
    · rw [e] at h; exact absurd rfl h

/-- A rest at which each token ends: nothing, or a blank. -/
def Ends (r : List UInt8) : Prop := r = [] ∨ ∃ q, r = 32 :: q

theorem runL_ends {p : UInt8 → Bool} (hp : p 32 = false) (l r : List UInt8) (hr : Ends r) : runL p (l.takeWhile p ++ r) = runL p l := by
  induction l with
  | nil =>
    rcases hr with rfl | ⟨q, rfl⟩
    · rfl
    · show runL p (32 :: q) = _
      rw [runL_no hp]; rfl
  | cons b t ih =>
    cases h : p b with
    | true => rw [List.takeWhile_cons, if_pos h, List.cons_append, runL_yes h, runL_yes h, ih]
    | false =>
      rw [List.takeWhile_cons, if_neg (by simp [h]), runL_no h]
      rcases hr with rfl | ⟨q, rfl⟩
      · rfl
      · show runL p (32 :: q) = _
        rw [runL_no hp]
theorem signL_ends {l r : List UInt8} (h : signL l ≠ 0) (hr : Ends r) : signL (l.take (signL l) ++ r) = signL l := by
  by_cases hd : dbl l = true
  · have e : signL l = 2 := by unfold signL; rw [if_pos hd]
    rw [e]
    have : dbl (l.take 2 ++ r) = true := by
      unfold dbl at hd ⊢
      rw [Bool.or_eq_true] at hd ⊢
      rcases hd with hd | hd
      · left
        match l, hd with
        | [], hd => simp [List.isPrefixOf] at hd
        | [a], hd => simp [List.isPrefixOf] at hd
        | a :: b :: t, hd => simpa [List.isPrefixOf] using hd
      · right
        match l, hd with
        | [], hd => simp [List.isPrefixOf] at hd
        | [a], hd => simp [List.isPrefixOf] at hd
        | a :: b :: t, hd => simpa [List.isPrefixOf] using hd
    unfold signL; rw [if_pos this]
  · match l with
    | [] => simp [signL, dbl, List.isPrefixOf] at h
    | b :: t =>
      have hs : shorts.contains b = true := by
        cases hc : shorts.contains b with
        | true => rfl
        | false =>
          unfold signL at h
          rw [if_neg hd] at h
          simp only [hc] at h
          exact absurd rfl h
      have e : signL (b :: t) = 1 := by
        unfold signL; rw [if_neg hd]; simp only [hs]; rfl
      rw [e]
      have hd' : ¬ dbl (b :: r) = true := by
        unfold dbl
        rcases hr with rfl | ⟨q, rfl⟩
        · simp [List.isPrefixOf]
        · simp [List.isPrefixOf]
      show signL (b :: r) = 1
      unfold signL; rw [if_neg hd']; simp only [hs]; rfl

theorem tx_eq {l m : List UInt8} {n k : Nat} (h : l.take n = m.take k) : tx l n = tx m k := by unfold tx; rw [h]
theorem take_app {l r : List UInt8} {n : Nat} (h : n ≤ l.length) : (l.take n ++ r).take n = l.take n := by
  rw [List.take_append_of_le_length (by simp; omega), List.take_take, Nat.min_self]

/-- The first token stays the first, whatever ends it. -/
theorem oneL_ends {l r : List UInt8} (h : (oneL l).1 ≠ 0) (hr : Ends r) : oneL (l.take (oneL l).2 ++ r) = oneL l := by
  match l with
  | [] => simp [oneL] at h
  | b :: t =>
    by_cases hb : letB b = true
    · have e : oneL (b :: t) = (if find (tx (b :: t) (runL okB (b :: t))) = 0 then 1 else 3, runL okB (b :: t)) := by rw [oneL, if_pos hb]
      rw [e]
      have hw : (b :: t).take (runL okB (b :: t)) = b :: t.takeWhile okB := by rw [takeWhile_take, List.takeWhile_cons, if_pos (okB_let hb)]
      have hrun : runL okB (b :: (t.takeWhile okB ++ r)) = runL okB (b :: t) := by
        have := runL_ends (p := okB) (by decide) (b :: t) r hr
        rw [List.takeWhile_cons, if_pos (okB_let hb)] at this
        exact this
      show oneL ((b :: t).take (runL okB (b :: t)) ++ r) = _
      have htx : tx (b :: (t.takeWhile okB ++ r)) (runL okB (b :: (t.takeWhile okB ++ r))) = tx (b :: t) (runL okB (b :: t)) := by
        rw [hrun]
        apply tx_eq
        have := take_app (l := b :: t) (r := r) (runL_le okB (b :: t))
        rw [hw] at this
        rw [hw]; exact this
      rw [hw, List.cons_append, oneL, if_pos hb, htx, hrun]
    · by_cases hd : digB b = true
      · have e : oneL (b :: t) = (2, runL digB (b :: t)) := by rw [oneL, if_neg hb, if_pos hd]
        rw [e]
        have hw : (b :: t).take (runL digB (b :: t)) = b :: t.takeWhile digB := by rw [takeWhile_take, List.takeWhile_cons, if_pos hd]
        have hrun : runL digB (b :: (t.takeWhile digB ++ r)) = runL digB (b :: t) := by
          have := runL_ends (p := digB) (by decide) (b :: t) r hr
          rw [List.takeWhile_cons, if_pos hd] at this
          exact this
        show oneL ((b :: t).take (runL digB (b :: t)) ++ r) = _
        rw [hw, List.cons_append, oneL, if_neg hb, if_pos hd, hrun]
      · have hs : signL (b :: t) ≠ 0 := by
          intro hs
          rw [oneL, if_neg hb, if_neg hd, if_pos hs] at h
          exact h rfl
        have e : oneL (b :: t) = (4, signL (b :: t)) := by rw [oneL, if_neg hb, if_neg hd, if_neg hs]
        rw [e]
        show oneL ((b :: t).take (signL (b :: t)) ++ r) = _
        have hE := signL_ends hs hr
        obtain ⟨n, hn⟩ : ∃ n, signL (b :: t) = n + 1 := ⟨signL (b :: t) - 1, by omega⟩
        rw [hn] at hE ⊢
        rw [List.take_succ_cons, List.cons_append] at hE ⊢
        rw [oneL, if_neg hb, if_neg hd, hE, if_neg (by omega)]

/-- The byte that a token begins with is not left out. -/
theorem oneL_skip {l r : List UInt8} (h : (oneL l).1 ≠ 0) : sk false (l.take (oneL l).2 ++ r) = 0 := by
  match l with
  | [] => simp [oneL] at h
  | b :: t =>
    have hp := oneL_pos h
    obtain ⟨n, hn⟩ : ∃ n, (oneL (b :: t)).2 = n + 1 := ⟨(oneL (b :: t)).2 - 1, by omega⟩
    rw [hn, List.take_succ_cons, List.cons_append]
    have key : blankB b = false ∧ b ≠ 47 := by
      by_cases hb : letB b = true
      · unfold letB isLetter at hb
        simp at hb
        refine ⟨?_, ?_⟩
        · unfold blankB isBlank; simp; omega
        · rintro rfl; simp at hb
      · by_cases hd : digB b = true
        · unfold digB isDigit at hd
          simp at hd
          refine ⟨?_, ?_⟩
          · unfold blankB isBlank; simp; omega
          · rintro rfl; simp at hd
        · have hs : signL (b :: t) ≠ 0 := by
            intro hs
            rw [oneL, if_neg hb, if_neg hd, if_pos hs] at h
            exact h rfl
          have hc : b = 61 ∨ b = 38 ∨ shorts.contains b = true := by
            unfold signL at hs
            by_cases hd : dbl (b :: t) = true
            · unfold dbl at hd
              rw [Bool.or_eq_true] at hd
              rcases hd with hd | hd
              · left; simp [List.isPrefixOf] at hd; exact hd.1.symm
              · right; left; simp [List.isPrefixOf] at hd; exact hd.1.symm
            · right; right
              rw [if_neg hd] at hs
              cases hc : shorts.contains b with
              | true => rfl
              | false => simp only [hc] at hs; exact absurd rfl hs
          rcases hc with rfl | rfl | hc
          · decide
          · decide
          · unfold shorts at hc
            simp at hc
            rcases hc with rfl | rfl | rfl | rfl | rfl | rfl | rfl | rfl | rfl | rfl | rfl | rfl | rfl | rfl <;> decide
    rw [sk_f, if_neg (by simp [key.1]), if_neg (by rintro ⟨e, _⟩; exact key.2 e)]

end Tk
end Go.Proofs.YtdehpgdffafebaaDoor
namespace Go.Proofs.YtdehpgdffafebaaDoor
namespace Tk
open Wd

/-- The token that stands at a place. -/
def tokAt (s : List UInt8) (a : Nat) : Tok := ⟨(oneL (s.drop a)).1, tx (s.drop a) (oneL (s.drop a)).2, a⟩
/-- The place behind the token that stands at a place, and behind what is left out there. -/
def nextAt (s : List UInt8) (a : Nat) : Nat := a + (oneL (s.drop a)).2 + sk false (s.drop (a + (oneL (s.drop a)).2))
def endTok (s : List UInt8) : Tok := ⟨0, ⟨#[]⟩, s.length⟩

inductive Toks (s : List UInt8) : Nat → List Tok → Prop where
  | fin {a : Nat} (h : s.length ≤ a) : Toks s a [endTok s]
  | more {a : Nat} {r : List Tok} (h : a < s.length) (hk : (oneL (s.drop a)).1 ≠ 0) (hb : badB (oneL (s.drop a)).1 (oneL (s.drop a)).2 (s.drop a) = false) (hr : Toks s (nextAt s a) r) : Toks s a (tokAt s a :: r)

theorem ofS_end {s : List UInt8} {f a : Nat} {acc : List Tok} (h : s.length ≤ a) : ofS s (f + 1) a acc = .ok (acc ++ [endTok s]) := by
  rw [ofS, if_pos h]; rfl
theorem ofS_byte {s : List UInt8} {f a : Nat} {acc : List Tok} (h : a < s.length) (hk : (oneL (s.drop a)).1 = 0) : ofS s (f + 1) a acc = .err 1 a := by
  rw [ofS, if_neg (by omega), if_pos hk]
theorem ofS_long {s : List UInt8} {f a : Nat} {acc : List Tok} (h : a < s.length) (hk : (oneL (s.drop a)).1 ≠ 0) (hb : badB (oneL (s.drop a)).1 (oneL (s.drop a)).2 (s.drop a) = true) : ofS s (f + 1) a acc = .err 2 a := by
  rw [ofS, if_neg (by omega), if_neg hk, if_pos hb]
theorem ofS_more {s : List UInt8} {f a : Nat} {acc : List Tok} (h : a < s.length) (hk : (oneL (s.drop a)).1 ≠ 0) (hb : badB (oneL (s.drop a)).1 (oneL (s.drop a)).2 (s.drop a) = false) : ofS s (f + 1) a acc = ofS s f (nextAt s a) (acc ++ [tokAt s a]) := by
  rw [ofS, if_neg (by omega), if_neg hk, if_neg (by simp [hb])]; rfl

theorem nextAt_of {s : List UInt8} {a : Nat} {k : Nat × Nat} (h : oneL (s.drop a) = k) : nextAt s a = a + k.2 + sk false (s.drop (a + k.2)) := by unfold nextAt; rw [h]
theorem nextAt_gt {s : List UInt8} {a : Nat} (hk : (oneL (s.drop a)).1 ≠ 0) : a < nextAt s a := by
  have := oneL_pos hk
  unfold nextAt; omega
theorem nextAt_le {s : List UInt8} {a : Nat} (h : a < s.length) : nextAt s a ≤ s.length := by
  have h1 := oneL_le (s.drop a)
  have h2 := sk_le false (s.drop (a + (oneL (s.drop a)).2))
  rw [List.length_drop] at h1 h2
  unfold nextAt; omega

theorem ofS_err (s : List UInt8) : ∀ (f a : Nat) (acc : List Tok) (e x : Nat), s.length - a < f → a ≤ s.length → ofS s f a acc = .err e x → x < s.length ∧ (e = 1 ∨ e = 2)
  | 0, a, acc, e, x, h, _, _ => by omega
  | f + 1, a, acc, e, x, h, ha, hr => by
    by_cases hl : s.length ≤ a
    · rw [ofS_end hl] at hr; cases hr
    · by_cases hk : (oneL (s.drop a)).1 = 0
      · rw [ofS_byte (by omega) hk] at hr; cases hr; exact ⟨by omega, .inl rfl⟩
      · cases hb : badB (oneL (s.drop a)).1 (oneL (s.drop a)).2 (s.drop a) with
        | true => rw [ofS_long (by omega) hk hb] at hr; cases hr; exact ⟨by omega, .inr rfl⟩
        | false =>
          rw [ofS_more (by omega) hk hb] at hr
          have h1 := nextAt_gt hk
          have h2 := nextAt_le (s := s) (a := a) (by omega)
          exact ofS_err s f _ _ e x (by omega) h2 hr
theorem ofS_toks (s : List UInt8) : ∀ (f a : Nat) (acc l : List Tok), s.length - a < f → a ≤ s.length → ofS s f a acc = .ok l → ∃ r, l = acc ++ r ∧ Toks s a r
  | 0, a, acc, l, h, _, _ => by omega
  | f + 1, a, acc, l, h, ha, hr => by
    by_cases hl : s.length ≤ a
    · rw [ofS_end hl] at hr; cases hr; exact ⟨_, rfl, .fin hl⟩
    · by_cases hk : (oneL (s.drop a)).1 = 0
      · rw [ofS_byte (by omega) hk] at hr; cases hr
      · cases hb : badB (oneL (s.drop a)).1 (oneL (s.drop a)).2 (s.drop a) with
        | true => rw [ofS_long (by omega) hk hb] at hr; cases hr
        | false =>
          rw [ofS_more (by omega) hk hb] at hr
          have h1 := nextAt_gt hk
          have h2 := nextAt_le (s := s) (a := a) (by omega)
          obtain ⟨r, e, ht⟩ := ofS_toks s f _ _ l (by omega) h2 hr
          exact ⟨tokAt s a :: r, by rw [e]; simp, .more (by omega) hk hb ht⟩
theorem toks_ofS {s : List UInt8} {a : Nat} {l : List Tok} (h : Toks s a l) : ∀ (f : Nat) (acc : List Tok), s.length - a < f → ofS s f a acc = .ok (acc ++ l) := by
  induction h with
  | fin h =>
    intro f acc hf
    obtain ⟨g, rfl⟩ : ∃ g, f = g + 1 := ⟨f - 1, by omega⟩
    exact ofS_end h
  | @more a r h hk hb hr ih =>
    intro f acc hf
    obtain ⟨g, rfl⟩ : ∃ g, f = g + 1 := ⟨f - 1, by omega⟩
    have h1 := nextAt_gt hk
    rw [ofS_more h hk hb, ih g _ (by omega)]
    simp

theorem ofL_small {s : List UInt8} (h : s.length ≤ 16384) : ofL s = ofS s (s.length + 1) (sk false s) [] := by unfold ofL; rw [if_neg (by omega)]
theorem ofL_toks {s : List UInt8} {l : List Tok} (h : ofL s = .ok l) : s.length ≤ 16384 ∧ Toks s (sk false s) l := by
  by_cases hl : 16384 < s.length
  · unfold ofL at h; rw [if_pos hl] at h; cases h
  · rw [ofL_small (by omega)] at h
    obtain ⟨r, e, ht⟩ := ofS_toks s _ _ _ _ (by omega) (sk_le false s) h
    rw [List.nil_append] at e
    subst e
    exact ⟨by omega, ht⟩
theorem toks_ofL {s : List UInt8} {l : List Tok} (h : s.length ≤ 16384) (ht : Toks s (sk false s) l) : ofL s = .ok l := by
  rw [ofL_small h, toks_ofS ht _ _ (by omega)]; rfl
theorem ofL_err {s : List UInt8} {e x : Nat} (h : s.length ≤ 16384) (hr : ofL s = .err e x) : x < s.length ∧ (e = 1 ∨ e = 2) := by
  rw [ofL_small h] at hr
  exact ofS_err s _ _ _ e x (by omega) (sk_le false s) hr

/-! ### The text of tokens -/
def texts (l : List Tok) : List (List UInt8) := (l.filter fun t => t.kind != 0).map fun t => t.text.data.toList
/-- The texts of all tokens but those of the kind 0, a blank between each two. -/
def txt (l : List Tok) : List UInt8 := Lib.join (texts l) [32]
/-- As many tokens, of the same kinds and texts. -/
def same : List Tok → List Tok → Bool
  | [], [] => true
  | a :: r, b :: q => decide (a.kind = b.kind) && decide (a.text = b.text) && same r q
  | _, _ => false

theorem toks_head {s : List UInt8} {a : Nat} {l : List Tok} (h : Toks s a l) : (l = [endTok s] ∧ s.length ≤ a) ∨ (∃ r, l = tokAt s a :: r ∧ Toks s (nextAt s a) r ∧ a < s.length ∧ (oneL (s.drop a)).1 ≠ 0 ∧ badB (oneL (s.drop a)).1 (oneL (s.drop a)).2 (s.drop a) = false) := by
  cases h with
  | fin h => exact .inl ⟨rfl, h⟩
  | more h hk hb hr => exact .inr ⟨_, rfl, hr, h, hk, hb⟩
theorem toks_ne {s : List UInt8} {a : Nat} {l : List Tok} (h : Toks s a l) : l ≠ [] := by
  cases h <;> simp
theorem texts_end (s : List UInt8) : texts [endTok s] = [] := rfl
theorem texts_more {s : List UInt8} {a : Nat} (r : List Tok) (hk : (oneL (s.drop a)).1 ≠ 0) : texts (tokAt s a :: r) = ((s.drop a).take (oneL (s.drop a)).2) :: texts r := by
  unfold texts
  rw [List.filter_cons, if_pos (by show ((oneL (s.drop a)).1 != 0) = true; simpa using hk)]
  rw [List.map_cons]
  rfl
theorem join_more (x y : List UInt8) (r : List (List UInt8)) : Lib.join (x :: y :: r) [32] = x ++ 32 :: Lib.join (y :: r) [32] := by
  rw [Lib.join_cons, Lib.join_cons]
  simp [Lib.joinTail]
theorem txt_end (s : List UInt8) : txt [endTok s] = [] := rfl
theorem txt_last {s : List UInt8} {a : Nat} (hk : (oneL (s.drop a)).1 ≠ 0) : txt [tokAt s a, endTok s] = (s.drop a).take (oneL (s.drop a)).2 := by
  unfold txt
  rw [texts_more _ hk, texts_end, Lib.join_one]
theorem txt_more {s : List UInt8} {a b : Nat} (r : List Tok) (hk : (oneL (s.drop a)).1 ≠ 0) (hk' : (oneL (s.drop b)).1 ≠ 0) : txt (tokAt s a :: tokAt s b :: r) = (s.drop a).take (oneL (s.drop a)).2 ++ 32 :: txt (tokAt s b :: r) := by
  unfold txt
  rw [texts_more _ hk, texts_more _ hk', join_more]

/-- The text of a text's tokens begins with no blank and no note. -/
theorem txt_skip {s : List UInt8} {a : Nat} {l : List Tok} (h : Toks s a l) : sk false (txt l) = 0 := by
  rcases toks_head h with ⟨rfl, _⟩ | ⟨r, rfl, hr, _, hk, _⟩
  · rfl
  · rcases toks_head hr with ⟨rfl, _⟩ | ⟨q, rfl, _, _, hk', _⟩
    · rw [txt_last hk]
      have := oneL_skip (l := s.drop a) (r := []) hk
      rwa [List.append_nil] at this
    · rw [txt_more q hk hk']
      exact oneL_skip hk

theorem txt_len {s : List UInt8} {a : Nat} {l : List Tok} (h : Toks s a l) : a ≤ s.length → (txt l).length ≤ 2 * (s.length - a) := by
  induction h with
  | fin h => intro _; rw [txt_end]; simp
  | @more a r h hk hb hr ih =>
    intro ha
    have h1 := oneL_pos hk
    have h2 := oneL_le (s.drop a)
    rw [List.length_drop] at h2
    have h3 := ih (nextAt_le h)
    have h4 : a + (oneL (s.drop a)).2 ≤ nextAt s a := by unfold nextAt; omega
    have h5 := nextAt_le h
    rcases toks_head hr with ⟨rfl, _⟩ | ⟨q, rfl, _, _, hk', _⟩
    · rw [txt_last hk, List.length_take, List.length_drop]; omega
    · rw [txt_more q hk hk', List.length_append, List.length_cons, List.length_take, List.length_drop]; omega

theorem badB_app {k n : Nat} {l r : List UInt8} (h : n ≤ l.length) : badB k n (l.take n ++ r) = badB k n l := by
  unfold badB
  rw [tx_eq (l := l.take n ++ r) (m := l) (take_app h)]

/-- The tokens of the text of a text's tokens are the same. -/
theorem back {s : List UInt8} {a : Nat} {l : List Tok} (h : Toks s a l) : ∀ p : List UInt8, ∃ l', Toks (p ++ txt l) p.length l' ∧ same l l' = true := by
  induction h with
  | fin h =>
    intro p
    exact ⟨_, .fin (by rw [txt_end]; simp), rfl⟩
  | @more a r h hk hb hr ih =>
    intro p
    have hle := oneL_le (s.drop a)
    rcases toks_head hr with ⟨rfl, _⟩ | ⟨q, rfl, hq, hlt, hk', hb'⟩
    · rw [txt_last hk]
      have hd : (p ++ (s.drop a).take (oneL (s.drop a)).2).drop p.length = (s.drop a).take (oneL (s.drop a)).2 := by simp
      have ho := oneL_ends (l := s.drop a) (r := []) hk (.inl rfl)
      have hbb := badB_app (k := (oneL (s.drop a)).1) (r := []) hle
      have hta := take_app (l := s.drop a) (r := []) hle
      rw [List.append_nil] at ho hbb hta
      have hpos := oneL_pos hk
      have hlen : ((s.drop a).take (oneL (s.drop a)).2).length = (oneL (s.drop a)).2 := by rw [List.length_take]; omega
      refine ⟨tokAt (p ++ (s.drop a).take (oneL (s.drop a)).2) p.length :: [endTok _], .more ?_ ?_ ?_ (.fin ?_), ?_⟩
      · rw [List.length_append, hlen]; omega
      · rw [hd, ho]; exact hk
      · rw [hd, ho, hbb]; exact hb
      · unfold nextAt
        rw [hd, ho, List.length_append, hlen]; omega
      · simp only [same, tokAt, hd, ho, endTok]
        simp
        exact (tx_eq hta).symm
    · rw [txt_more q hk hk']
      have hE : Ends (32 :: txt (tokAt s (nextAt s a) :: q)) := .inr ⟨_, rfl⟩
      have hd : (p ++ ((s.drop a).take (oneL (s.drop a)).2 ++ 32 :: txt (tokAt s (nextAt s a) :: q))).drop p.length = (s.drop a).take (oneL (s.drop a)).2 ++ 32 :: txt (tokAt s (nextAt s a) :: q) := by simp
      have ho := oneL_ends (l := s.drop a) hk hE
      have hbb := badB_app (k := (oneL (s.drop a)).1) (r := 32 :: txt (tokAt s (nextAt s a) :: q)) hle
      have hta := take_app (l := s.drop a) (r := 32 :: txt (tokAt s (nextAt s a) :: q)) hle
      have hpos := oneL_pos hk
      have hlen : ((s.drop a).take (oneL (s.drop a)).2).length = (oneL (s.drop a)).2 := by rw [List.length_take]; omega
      have hskip := txt_skip hr
      obtain ⟨l', ht, hs⟩ := ih (p ++ ((s.drop a).take (oneL (s.drop a)).2 ++ [32]))
      have he : p ++ ((s.drop a).take (oneL (s.drop a)).2 ++ [32]) ++ txt (tokAt s (nextAt s a) :: q) = p ++ ((s.drop a).take (oneL (s.drop a)).2 ++ 32 :: txt (tokAt s (nextAt s a) :: q)) := by simp
      rw [he] at ht
      have hn : nextAt (p ++ ((s.drop a).take (oneL (s.drop a)).2 ++ 32 :: txt (tokAt s (nextAt s a) :: q))) p.length = (p ++ ((s.drop a).take (oneL (s.drop a)).2 ++ [32])).length := by
        rw [nextAt_of (hd.symm ▸ ho)]
        have hd2 : (p ++ ((s.drop a).take (oneL (s.drop a)).2 ++ 32 :: txt (tokAt s (nextAt s a) :: q))).drop (p.length + (oneL (s.drop a)).2) = 32 :: txt (tokAt s (nextAt s a) :: q) := by
          rw [← List.drop_drop, hd, List.drop_append, hlen, Nat.sub_self, List.drop_zero, List.drop_eq_nil_of_le (by omega), List.nil_append]
        rw [hd2, sk_f, if_pos (by decide), hskip]
        simp only [List.length_append, List.length_cons, List.length_nil, hlen]; omega
      refine ⟨tokAt (p ++ ((s.drop a).take (oneL (s.drop a)).2 ++ 32 :: txt (tokAt s (nextAt s a) :: q))) p.length :: l', .more ?_ ?_ ?_ (by rw [hn]; exact ht), ?_⟩
      · simp only [List.length_append, List.length_cons, hlen]; omega
      · rw [hd, ho]; exact hk
      · rw [hd, ho, hbb]; exact hb
      · have e1 : (tokAt (p ++ ((s.drop a).take (oneL (s.drop a)).2 ++ 32 :: txt (tokAt s (nextAt s a) :: q))) p.length).kind = (tokAt s a).kind := by
          show (oneL _).1 = _
          rw [hd, ho]; rfl
        have e2 : (tokAt (p ++ ((s.drop a).take (oneL (s.drop a)).2 ++ 32 :: txt (tokAt s (nextAt s a) :: q))) p.length).text = (tokAt s a).text := by
          show tx _ _ = _
          rw [hd, ho]
          exact tx_eq hta
        rw [same, e1, e2, hs]
        simp

/-- The tokens of the text of a text's tokens: there are such, and they are the same. -/
theorem ofL_back {s : List UInt8} {l : List Tok} (hs : s.length ≤ 400) (h : ofL s = .ok l) : ∃ l', ofL (txt l) = .ok l' ∧ same l l' = true := by
  have ht := (ofL_toks h).2
  have hl := txt_len ht (sk_le false s)
  have hk := txt_skip ht
  obtain ⟨l', ht', hs'⟩ := back ht []
  refine ⟨l', toks_ofL (by omega) ?_, hs'⟩
  rw [hk]
  simpa using ht'

/-! ### Each token stands where it says -/
def Stand (s : List UInt8) : Nat → List Tok → Prop
  | _, [] => True
  | p, t :: r => p ≤ t.pos ∧ t.pos + t.text.size ≤ s.length ∧ (s.drop t.pos).take t.text.size = t.text.data.toList ∧ sk false ((s.drop p).take (t.pos - p)) = t.pos - p ∧ Stand s (t.pos + t.text.size) r

theorem tx_size (l : List UInt8) (n : Nat) (h : n ≤ l.length) : (tx l n).size = n := by
  show (l.take n).toArray.size = n
  simp; omega
theorem stand_gap (s : List UInt8) (p : Nat) : sk false ((s.drop p).take (p + sk false (s.drop p) - p)) = p + sk false (s.drop p) - p := by
  rw [Nat.add_sub_cancel_left, sk_take]
theorem stands {s : List UInt8} {a : Nat} {l : List Tok} (h : Toks s a l) : ∀ p, p ≤ s.length → a = p + sk false (s.drop p) → Stand s p l := by
  induction h with
  | @fin a h =>
    intro p hp ha
    have h1 := sk_le false (s.drop p)
    rw [List.length_drop] at h1
    have ha' : s.length = p + sk false (s.drop p) := by omega
    refine ⟨by show p ≤ s.length; omega, Nat.le_refl _, by simp [endTok, ByteArray.size], ?_, trivial⟩
    show sk false ((s.drop p).take (s.length - p)) = s.length - p
    rw [ha', Nat.add_sub_cancel_left]
    rw [sk_take]
  | @more a r h hk hb hr ih =>
    intro p hp ha
    have h2 := oneL_le (s.drop a)
    have hsz : (tokAt s a).text.size = (oneL (s.drop a)).2 := tx_size _ _ h2
    rw [List.length_drop] at h2
    refine ⟨by show p ≤ a; omega, ?_, ?_, ?_, ?_⟩
    · rw [hsz]; show a + _ ≤ _; omega
    · rw [hsz]; rfl
    · show sk false ((s.drop p).take (a - p)) = a - p
      rw [ha]; exact stand_gap s p
    · rw [hsz]
      exact ih (a + (oneL (s.drop a)).2) (by omega) rfl
theorem ofL_stand {s : List UInt8} {l : List Tok} (h : ofL s = .ok l) : Stand s 0 l :=
  stands (ofL_toks h).2 0 (Nat.zero_le _) (by simp)
theorem ofL_gap {s : List UInt8} (h : sk false s = s.length) (hs : s.length ≤ 16384) : ofL s = .ok [endTok s] := toks_ofL hs (.fin (by omega))
theorem toks_last {s : List UInt8} {a : Nat} {l : List Tok} (h : Toks s a l) : l.getLast? = some (endTok s) := by
  induction h with
  | fin h => rfl
  | @more a r h hk hb hr ih =>
    match r, ih with
    | b :: q, ih => rw [List.getLast?_cons_cons]; exact ih
theorem toks_len {s : List UInt8} {a : Nat} {l : List Tok} (h : Toks s a l) : a ≤ s.length → l.length ≤ s.length - a + 1 := by
  induction h with
  | fin h => intro _; simp
  | @more a r h hk hb hr ih =>
    intro ha
    have h1 := nextAt_gt hk
    have h2 := nextAt_le h
    have h3 := ih h2
    rw [List.length_cons]; omega
theorem ofL_len {s : List UInt8} {l : List Tok} (h : ofL s = .ok l) : l.length ≤ s.length + 1 := by
  have := toks_len (ofL_toks h).2 (sk_le false s)
  omega

end Tk
end Go.Proofs.YtdehpgdffafebaaDoor
namespace Go.Proofs.YtdehpgdffafebaaDoor
open Go.RowKit

theorem ret_b {a b : Bool} (h : a = true ↔ b = true) : Ending.returned (.bool a) = .returned (.bool b) := by rw [Bool.eq_iff_iff.2 h]

theorem letter_any (x : Int) (w : World) : Calls Tryd.prog 70 #[.int .u8 x] w fun e w' => e = .returned (.bool (Wd.isLetter x)) ∧ w = w' := by
  go_enter Tryd.func70, Tryd.ntmps70
  go_wp2
  all_goals
    go_ret
    exact ⟨ret_b (by simp [Wd.isLetter]; omega), rfl⟩
theorem refLetter_any (x : Int) (w : World) : Calls Tryd.prog 45 #[.int .u8 x] w fun e w' => e = .returned (.bool (Wd.isLetter x)) ∧ w = w' := by
  go_enter Tryd.func45, Tryd.ntmps45
  go_wp2
  all_goals
    go_ret
    exact ⟨ret_b (by simp [Wd.isLetter]; omega), rfl⟩
theorem digit_any (x : Int) (w : World) : Calls Tryd.prog 69 #[.int .u8 x] w fun e w' => e = .returned (.bool (Wd.isDigit x)) ∧ w = w' := by
  go_enter Tryd.func69, Tryd.ntmps69
  go_wp2
  all_goals
    go_ret
    exact ⟨ret_b (by simp [Wd.isDigit]; omega), rfl⟩
theorem refDigit_any (x : Int) (w : World) : Calls Tryd.prog 46 #[.int .u8 x] w fun e w' => e = .returned (.bool (Wd.isDigit x)) ∧ w = w' := by
  go_enter Tryd.func46, Tryd.ntmps46
  go_wp2
  all_goals
    go_ret
    exact ⟨ret_b (by simp [Wd.isDigit]; omega), rfl⟩
theorem refBlank_any (x : Int) (w : World) : Calls Tryd.prog 44 #[.int .u8 x] w fun e w' => e = .returned (.bool (Wd.isBlank x)) ∧ w = w' := by
  go_enter Tryd.func44, Tryd.ntmps44
  go_wp2
  all_goals
    go_ret
    exact ⟨ret_b (by simp [Wd.isBlank] <;> omega), rfl⟩

theorem heap_new (w : World) (o : Obj) : (w.alloc o).heap[w.heap.size]? = some o := by
  show (w.heap.push o)[w.heap.size]? = some o
  simp

theorem str_yes {a b : ByteArray} (h : (a.toList == b.toList) = true) : a = b := by
  rw [ByteArray.toList_eq, ByteArray.toList_eq, beq_iff_eq] at h
  cases a with | mk a => cases b with | mk b => exact congrArg ByteArray.mk (Array.toList_inj.1 h)
theorem str_no {a b : ByteArray} (h : (a.toList == b.toList) = false) : ¬ a = b := by
  rintro rfl
  simp at h

/-- The cells of the table of words. -/
def wordVals : Array Value := (Wd.wordsL.map fun b => Value.string b).toArray
theorem wordVals_size : wordVals.size = 23 := rfl
theorem wordVals_at (k : Nat) (h : k < 23) : wordVals[k]? = some (.string (Wd.at_ k)) := by
  have hl : k < Wd.wordsL.length := h
  simp [wordVals, Wd.at_, List.getD, hl]

/-- The table of words lies in memory. -/
def WordsIn (w : World) : Prop := ∃ t fr, w.heap[2]? = some (.cells wordVals t fr)
theorem WordsIn.below {w w' : World} (h : WordsIn w) (hb : Below w.heap.size w w') : WordsIn w' := by
  obtain ⟨t, fr, h0⟩ := h
  have hl : 2 < w.heap.size := by
    rcases Nat.lt_or_ge 2 w.heap.size with g | g
    · exact g
    · rw [Array.getElem?_eq_none g] at h0; cases h0
  exact ⟨t, fr, (hb.block 2 hl).trans h0⟩
theorem WordsIn.cell {w : World} (h : WordsIn w) (k : Nat) (hk : k < 23) : w.cell? ⟨2, k, none⟩ = some (.string (Wd.at_ k)) := by
  obtain ⟨t, fr, h0⟩ := h
  rw [cell_of_row w 2 k wordVals t fr h0, wordVals_at k hk]
theorem WordsIn.load {w : World} (h : WordsIn w) : (loadVar 112 ⟨2, 0, none⟩).run Tryd.prog w = .ok (.agg wordVals) w := by
  obtain ⟨t, fr, h0⟩ := h
  exact run_loadVar_row w 2 t 112 wordVals fr _ h0 Tryd.underlying112 rfl (by kernel_rfl)

/-- The table of powers of ten lies in memory. -/
def PowIn (w : World) : Prop := Lib.TabIs Tryd.prog w "internal/strconv.uint64pow10" .u64 Lib.pow10Tab

theorem PowIn.below {w w' : World} (h : PowIn w) (hb : Below w.heap.size w w') : PowIn w' := by
  unfold PowIn Lib.TabIs at *
  unfold World.var? at h ⊢
  cases hg : Tryd.prog.globalNamed "internal/strconv.uint64pow10" with
  | none => rw [hg] at h; cases h
  | some g =>
    rw [hg] at h
    simp only [Option.bind_some] at h ⊢
    have hl : g < w.heap.size := by
      rcases Nat.lt_or_ge g w.heap.size with k | k
      · exact k
      · rw [Array.getElem?_eq_none k] at h; cases h
    rw [hb.block g hl]
    exact h


end Go.Proofs.YtdehpgdffafebaaDoor
namespace Go.Proofs.YtdehpgdffafebaaDoor
open Go.RowKit

theorem run_yes {p : UInt8 → Bool} (s : ByteArray) (k : Nat) (h : k < s.size) (hr : Tk.runL p s.data.toList = k + Tk.runL p (s.data.toList.drop k)) (e : p s[k] = true) :
    Tk.runL p s.data.toList = (k + 1) + Tk.runL p (s.data.toList.drop (k + 1)) := by
  rw [Wd.num_drop s k h, Tk.runL_yes e] at hr; omega
theorem run_no {p : UInt8 → Bool} (s : ByteArray) (k : Nat) (h : k < s.size) (hr : Tk.runL p s.data.toList = k + Tk.runL p (s.data.toList.drop k)) (e : p s[k] = false) :
    Tk.runL p s.data.toList = k := by
  rw [Wd.num_drop s k h, Tk.runL_no e] at hr; omega
theorem run_end {p : UInt8 → Bool} (s : ByteArray) (k : Nat) (h : ¬ k < s.size) (hr : Tk.runL p s.data.toList = k + Tk.runL p (s.data.toList.drop k)) :
    Tk.runL p s.data.toList = k := by
  rw [List.drop_eq_nil_of_le (by show s.size ≤ k; omega), Tk.runL_nil] at hr; omega

theorem ret_nat {k : IntKind} {a b : Nat} (h : a = b) : Ending.returned (.int k (a : Int)) = .returned (.int k (b : Int)) := by rw [h]

end Go.Proofs.YtdehpgdffafebaaDoor

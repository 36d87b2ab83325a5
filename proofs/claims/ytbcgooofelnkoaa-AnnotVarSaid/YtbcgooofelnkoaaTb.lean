/- The tokens of a text as a list: they come back from their text, each stands where it says, and a fault lies within the text. No program is named here. Conditions: none. -/
import Derived.Test.YtbcgooofelnkoaaTk
import Derived.Lib.Join
namespace Go.Proofs.Ytbcgooofelnkoaa
namespace Tk
open Wd

/-- The token that stands at a place. -/
def tokAt (s : List UInt8) (a : Nat) : Tok := ⟨(oneL (s.drop a)).1, tx (s.drop a) (oneL (s.drop a)).2, a⟩
/-- The place behind the token that stands at a place, and behind what is left out there. -/
def nextAt (s : List UInt8) (a : Nat) : Nat := a + (oneL (s.drop a)).2 + sk false (s.drop (a + (oneL (s.drop a)).2))
def endTok (s : List UInt8) : Tok := ⟨0, ⟨#[]⟩, s.length⟩

inductive Toks (s : List UInt8) : Nat → List Tok → Prop where
  | fin {a : Nat} (h : s.length ≤ a) : Toks s a [endTok s]
  | more {a : Nat} {r : List Tok} (h : a < s.length) (hk : (oneL (s.drop a)).1 ≠ 0) (hb : badB (oneL (s.drop a)).1 (oneL (s.drop a)).2 (s.drop a) = false) (hr : Toks s (nextAt s a) r) : Toks s a (tokAt s a :: r)

theorem ofS_end {s : List UInt8} {f a : Nat} {acc : List Tok} (h : s.length ≤ a) : ofS s (f + 1) a acc = .ok (acc ++ [endTok s]) := by
  rw [ofS, if_pos h]; rfl
theorem ofS_byte {s : List UInt8} {f a : Nat} {acc : List Tok} (h : a < s.length) (hk : (oneL (s.drop a)).1 = 0) : ofS s (f + 1) a acc = .err 1 a := by
  rw [ofS, if_neg (by omega), if_pos hk]
theorem ofS_long {s : List UInt8} {f a : Nat} {acc : List Tok} (h : a < s.length) (hk : (oneL (s.drop a)).1 ≠ 0) (hb : badB (oneL (s.drop a)).1 (oneL (s.drop a)).2 (s.drop a) = true) : ofS s (f + 1) a acc = .err 2 a := by
  rw [ofS, if_neg (by omega), if_neg hk, if_pos hb]
theorem ofS_more {s : List UInt8} {f a : Nat} {acc : List Tok} (h : a < s.length) (hk : (oneL (s.drop a)).1 ≠ 0) (hb : badB (oneL (s.drop a)).1 (oneL (s.drop a)).2 (s.drop a) = false) : ofS s (f + 1) a acc = ofS s f (nextAt s a) (acc ++ [tokAt s a]) := by
  rw [ofS, if_neg (by omega), if_neg hk, if_neg (by simp [hb])]; rfl

theorem nextAt_of {s : List UInt8} {a : Nat} {k : Nat × Nat} (h : oneL (s.drop a) = k) : nextAt s a = a + k.2 + sk false (s.drop (a + k.2)) := by unfold nextAt; rw [h]
theorem nextAt_gt {s : List UInt8} {a : Nat} (hk : (oneL (s.drop a)).1 ≠ 0) : a < nextAt s a := by
  have := oneL_pos hk
  unfold nextAt; omega
theorem nextAt_le {s : List UInt8} {a : Nat} (h : a < s.length) : nextAt s a ≤ s.length := by
  have h1 := oneL_le (s.drop a)
  have h2 := sk_le false (s.drop (a + (oneL (s.drop a)).2))
  rw [List.length_drop] at h1 h2
  unfold nextAt; omega

theorem ofS_err (s : List UInt8) : ∀ (f a : Nat) (acc : List Tok) (e x : Nat), s.length - a < f → a ≤ s.length → ofS s f a acc = .err e x → x < s.length ∧ (e = 1 ∨ e = 2)
  | 0, a, acc, e, x, h, _, _ => by omega
  | f + 1, a, acc, e, x, h, ha, hr => by
    by_cases hl : s.length ≤ a
    · rw [ofS_end hl] at hr; cases hr
    · by_cases hk : (oneL (s.drop a)).1 = 0
      · rw [ofS_byte (by omega) hk] at hr; cases hr; exact ⟨by omega, .inl rfl⟩
      · cases hb : badB (oneL (s.drop a)).1 (oneL (s.drop a)).2 (s.drop a) with
        | true => rw [ofS_long (by omega) hk hb] at hr; cases hr; exact ⟨by omega, .inr rfl⟩
        | false =>
          rw [ofS_more (by omega) hk hb] at hr
          have h1 := nextAt_gt hk
          have h2 := nextAt_le (s := s) (a := a) (by omega)
          exact ofS_err s f _ _ e x (by omega) h2 hr
theorem ofS_toks (s : List UInt8) : ∀ (f a : Nat) (acc l : List Tok), s.length - a < f → a ≤ s.length → ofS s f a acc = .ok l → ∃ r, l = acc ++ r ∧ Toks s a r
  | 0, a, acc, l, h, _, _ => by omega
  | f + 1, a, acc, l, h, ha, hr => by
    by_cases hl : s.length ≤ a
    · rw [ofS_end hl] at hr; cases hr; exact ⟨_, rfl, .fin hl⟩
    · by_cases hk : (oneL (s.drop a)).1 = 0
      · rw [ofS_byte (by omega) hk] at hr; cases hr
      · cases hb : badB (oneL (s.drop a)).1 (oneL (s.drop a)).2 (s.drop a) with
        | true => rw [ofS_long (by omega) hk hb] at hr; cases hr
        | false =>
          rw [ofS_more (by omega) hk hb] at hr
          have h1 := nextAt_gt hk
          have h2 := nextAt_le (s := s) (a := a) (by omega)
          obtain ⟨r, e, ht⟩ := ofS_toks s f _ _ l (by omega) h2 hr
          exact ⟨tokAt s a :: r, by rw [e]; simp, .more (by omega) hk hb ht⟩
theorem toks_ofS {s : List UInt8} {a : Nat} {l : List Tok} (h : Toks s a l) : ∀ (f : Nat) (acc : List Tok), s.length - a < f → ofS s f a acc = .ok (acc ++ l) := by
  induction h with
  | fin h =>
    intro f acc hf
    obtain ⟨g, rfl⟩ : ∃ g, f = g + 1 := ⟨f - 1, by omega⟩
    exact ofS_end h
  | @more a r h hk hb hr ih =>
    intro f acc hf
    obtain ⟨g, rfl⟩ : ∃ g, f = g + 1 := ⟨f - 1, by omega⟩
    have h1 := nextAt_gt hk
    rw [ofS_more h hk hb, ih g _ (by omega)]
    simp

theorem ofL_small {s : List UInt8} (h : s.length ≤ 16384) : ofL s = ofS s (s.length + 1) (sk false s) [] := by unfold ofL; rw [if_neg (by omega)]
theorem ofL_toks {s : List UInt8} {l : List Tok} (h : ofL s = .ok l) : s.length ≤ 16384 ∧ Toks s (sk false s) l := by
  by_cases hl : 16384 < s.length
  · unfold ofL at h; rw [if_pos hl] at h; cases h
  · rw [ofL_small (by omega)] at h
    obtain ⟨r, e, ht⟩ := ofS_toks s _ _ _ _ (by omega) (sk_le false s) h
    rw [List.nil_append] at e
    subst e
    exact ⟨by omega, ht⟩
theorem toks_ofL {s : List UInt8} {l : List Tok} (h : s.length ≤ 16384) (ht : Toks s (sk false s) l) : ofL s = .ok l := by
  rw [ofL_small h, toks_ofS ht _ _ (by omega)]; rfl
theorem ofL_err {s : List UInt8} {e x : Nat} (h : s.length ≤ 16384) (hr : ofL s = .err e x) : x < s.length ∧ (e = 1 ∨ e = 2) := by
  rw [ofL_small h] at hr
  exact ofS_err s _ _ _ e x (by omega) (sk_le false s) hr

/-! ### The text of tokens -/
def texts (l : List Tok) : List (List UInt8) := (l.filter fun t => t.kind != 0).map fun t => t.text.data.toList
/-- The texts of all tokens but those of the kind 0, a blank between each two. -/
def txt (l : List Tok) : List UInt8 := Lib.join (texts l) [32]
/-- As many tokens, of the same kinds and texts. -/
def same : List Tok → List Tok → Bool
  | [], [] => true
  | a :: r, b :: q => decide (a.kind = b.kind) && decide (a.text = b.text) && same r q
  | _, _ => false

theorem toks_head {s : List UInt8} {a : Nat} {l : List Tok} (h : Toks s a l) : (l = [endTok s] ∧ s.length ≤ a) ∨ (∃ r, l = tokAt s a :: r ∧ Toks s (nextAt s a) r ∧ a < s.length ∧ (oneL (s.drop a)).1 ≠ 0 ∧ badB (oneL (s.drop a)).1 (oneL (s.drop a)).2 (s.drop a) = false) := by
  cases h with
  | fin h => exact .inl ⟨rfl, h⟩
  | more h hk hb hr => exact .inr ⟨_, rfl, hr, h, hk, hb⟩
theorem toks_ne {s : List UInt8} {a : Nat} {l : List Tok} (h : Toks s a l) : l ≠ [] := by
  cases h <;> simp
theorem texts_end (s : List UInt8) : texts [endTok s] = [] := rfl
theorem texts_more {s : List UInt8} {a : Nat} (r : List Tok) (hk : (oneL (s.drop a)).1 ≠ 0) : texts (tokAt s a :: r) = ((s.drop a).take (oneL (s.drop a)).2) :: texts r := by
  unfold texts
  rw [List.filter_cons, if_pos (by show ((oneL (s.drop a)).1 != 0) = true; simpa using hk)]
  rw [List.map_cons]
  rfl
theorem join_more (x y : List UInt8) (r : List (List UInt8)) : Lib.join (x :: y :: r) [32] = x ++ 32 :: Lib.join (y :: r) [32] := by
  rw [Lib.join_cons, Lib.join_cons]
  simp [Lib.joinTail]
theorem txt_end (s : List UInt8) : txt [endTok s] = [] := rfl
theorem txt_last {s : List UInt8} {a : Nat} (hk : (oneL (s.drop a)).1 ≠ 0) : txt [tokAt s a, endTok s] = (s.drop a).take (oneL (s.drop a)).2 := by
  unfold txt
  rw [texts_more _ hk, texts_end, Lib.join_one]
theorem txt_more {s : List UInt8} {a b : Nat} (r : List Tok) (hk : (oneL (s.drop a)).1 ≠ 0) (hk' : (oneL (s.drop b)).1 ≠ 0) : txt (tokAt s a :: tokAt s b :: r) = (s.drop a).take (oneL (s.drop a)).2 ++ 32 :: txt (tokAt s b :: r) := by
  unfold txt
  rw [texts_more _ hk, texts_more _ hk', join_more]

/-- The text of a text's tokens begins with no blank and no note. -/
theorem txt_skip {s : List UInt8} {a : Nat} {l : List Tok} (h : Toks s a l) : sk false (txt l) = 0 := by
  rcases toks_head h with ⟨rfl, _⟩ | ⟨r, rfl, hr, _, hk, _⟩
  · rfl
  · rcases toks_head hr with ⟨rfl, _⟩ | ⟨q, rfl, _, _, hk', _⟩
    · rw [txt_last hk]
      have := oneL_skip (l := s.drop a) (r := []) hk
      rwa [List.append_nil] at this
    · rw [txt_more q hk hk']
      exact oneL_skip hk

theorem txt_len {s : List UInt8} {a : Nat} {l : List Tok} (h : Toks s a l) : a ≤ s.length → (txt l).length ≤ 2 * (s.length - a) := by
  induction h with
  | fin h => intro _; rw [txt_end]; simp
  | @more a r h hk hb hr ih =>
    intro ha
    have h1 := oneL_pos hk
    have h2 := oneL_le (s.drop a)
    rw [List.length_drop] at h2
    have h3 := ih (nextAt_le h)
    have h4 : a + (oneL (s.drop a)).2 ≤ nextAt s a := by unfold nextAt; omega
    have h5 := nextAt_le h
    rcases toks_head hr with ⟨rfl, _⟩ | ⟨q, rfl, _, _, hk', _⟩
    · rw [txt_last hk, List.length_take, List.length_drop]; omega
    · rw [txt_more q hk hk', List.length_append, List.length_cons, List.length_take, List.length_drop]; omega

theorem badB_app {k n : Nat} {l r : List UInt8} (h : n ≤ l.length) : badB k n (l.take n ++ r) = badB k n l := by
  unfold badB
  rw [tx_eq (l := l.take n ++ r) (m := l) (take_app h)]

/-- The tokens of the text of a text's tokens are the same. -/
theorem back {s : List UInt8} {a : Nat} {l : List Tok} (h : Toks s a l) : ∀ p : List UInt8, ∃ l', Toks (p ++ txt l) p.length l' ∧ same l l' = true := by
  induction h with
  | fin h =>
    intro p
    exact ⟨_, .fin (by rw [txt_end]; simp), rfl⟩
  | @more a r h hk hb hr ih =>
    intro p
    have hle := oneL_le (s.drop a)
    rcases toks_head hr with ⟨rfl, _⟩ | ⟨q, rfl, hq, hlt, hk', hb'⟩
    · rw [txt_last hk]
      have hd : (p ++ (s.drop a).take (oneL (s.drop a)).2).drop p.length = (s.drop a).take (oneL (s.drop a)).2 := by simp
      have ho := oneL_ends (l := s.drop a) (r := []) hk (.inl rfl)
      have hbb := badB_app (k := (oneL (s.drop a)).1) (r := []) hle
      have hta := take_app (l := s.drop a) (r := []) hle
      rw [List.append_nil] at ho hbb hta
      have hpos := oneL_pos hk
      have hlen : ((s.drop a).take (oneL (s.drop a)).2).length = (oneL (s.drop a)).2 := by rw [List.length_take]; omega
      refine ⟨tokAt (p ++ (s.drop a).take (oneL (s.drop a)).2) p.length :: [endTok _], .more ?_ ?_ ?_ (.fin ?_), ?_⟩
      · rw [List.length_append, hlen]; omega
      · rw [hd, ho]; exact hk
      · rw [hd, ho, hbb]; exact hb
      · unfold nextAt
        rw [hd, ho, List.length_append, hlen]; omega
      · simp only [same, tokAt, hd, ho, endTok]
        simp
        exact (tx_eq hta).symm
    · rw [txt_more q hk hk']
      have hE : Ends (32 :: txt (tokAt s (nextAt s a) :: q)) := .inr ⟨_, rfl⟩
      have hd : (p ++ ((s.drop a).take (oneL (s.drop a)).2 ++ 32 :: txt (tokAt s (nextAt s a) :: q))).drop p.length = (s.drop a).take (oneL (s.drop a)).2 ++ 32 :: txt (tokAt s (nextAt s a) :: q) := by simp
      have ho := oneL_ends (l := s.drop a) hk hE
      have hbb := badB_app (k := (oneL (s.drop a)).1) (r := 32 :: txt (tokAt s (nextAt s a) :: q)) hle
      have hta := take_app (l := s.drop a) (r := 32 :: txt (tokAt s (nextAt s a) :: q)) hle
      have hpos := oneL_pos hk
      have hlen : ((s.drop a).take (oneL (s.drop a)).2).length = (oneL (s.drop a)).2 := by rw [List.length_take]; omega
      have hskip := txt_skip hr
      obtain ⟨l', ht, hs⟩ := ih (p ++ ((s.drop a).take (oneL (s.drop a)).2 ++ [32]))
      have he : p ++ ((s.drop a).take (oneL (s.drop a)).2 ++ [32]) ++ txt (tokAt s (nextAt s a) :: q) = p ++ ((s.drop a).take (oneL (s.drop a)).2 ++ 32 :: txt (tokAt s (nextAt s a) :: q)) := by simp
      rw [he] at ht
      have hn : nextAt (p ++ ((s.drop a).take (oneL (s.drop a)).2 ++ 32 :: txt (tokAt s (nextAt s a) :: q))) p.length = (p ++ ((s.drop a).take (oneL (s.drop a)).2 ++ [32])).length := by
        rw [nextAt_of (hd.symm ▸ ho)]
        have hd2 : (p ++ ((s.drop a).take (oneL (s.drop a)).2 ++ 32 :: txt (tokAt s (nextAt s a) :: q))).drop (p.length + (oneL (s.drop a)).2) = 32 :: txt (tokAt s (nextAt s a) :: q) := by
          rw [← List.drop_drop, hd, List.drop_append, hlen, Nat.sub_self, List.drop_zero, List.drop_eq_nil_of_le (by omega), List.nil_append]
        rw [hd2, sk_f, if_pos (by decide), hskip]
        simp only [List.length_append, List.length_cons, List.length_nil, hlen]; omega
      refine ⟨tokAt (p ++ ((s.drop a).take (oneL (s.drop a)).2 ++ 32 :: txt (tokAt s (nextAt s a) :: q))) p.length :: l', .more ?_ ?_ ?_ (by rw [hn]; exact ht), ?_⟩
      · simp only [List.length_append, List.length_cons, hlen]; omega
      · rw [hd, ho]; exact hk
      · rw [hd, ho, hbb]; exact hb
      · have e1 : (tokAt (p ++ ((s.drop a).take (oneL (s.drop a)).2 ++ 32 :: txt (tokAt s (nextAt s a) :: q))) p.length).kind = (tokAt s a).kind := by
          show (oneL _).1 = _
          rw [hd, ho]; rfl
        have e2 : (tokAt (p ++ ((s.drop a).take (oneL (s.drop a)).2 ++ 32 :: txt (tokAt s (nextAt s a) :: q))) p.length).text = (tokAt s a).text := by
          show tx _ _ = _
          rw [hd, ho]
          exact tx_eq hta
        rw [same, e1, e2, hs]
        simp

/-- The tokens of the text of a text's tokens: there are such, and they are the same. -/
theorem ofL_back {s : List UInt8} {l : List Tok} (hs : s.length ≤ 400) (h : ofL s = .ok l) : ∃ l', ofL (txt l) = .ok l' ∧ same l l' = true := by
  have ht := (ofL_toks h).2
  have hl := txt_len ht (sk_le false s)
  have hk := txt_skip ht
  obtain ⟨l', ht', hs'⟩ := back ht []
  refine ⟨l', toks_ofL (by omega) ?_, hs'⟩
  rw [hk]
  simpa using ht'

/-! ### Each token stands where it says -/
def Stand (s : List UInt8) : Nat → List Tok → Prop
  | _, [] => True
  | p, t :: r => p ≤ t.pos ∧ t.pos + t.text.size ≤ s.length ∧ (s.drop t.pos).take t.text.size = t.text.data.toList ∧ sk false ((s.drop p).take (t.pos - p)) = t.pos - p ∧ Stand s (t.pos + t.text.size) r

theorem tx_size (l : List UInt8) (n : Nat) (h : n ≤ l.length) : (tx l n).size = n := by
  show (l.take n).toArray.size = n
  simp; omega
theorem stand_gap (s : List UInt8) (p : Nat) : sk false ((s.drop p).take (p + sk false (s.drop p) - p)) = p + sk false (s.drop p) - p := by
  rw [Nat.add_sub_cancel_left, sk_take]
theorem stands {s : List UInt8} {a : Nat} {l : List Tok} (h : Toks s a l) : ∀ p, p ≤ s.length → a = p + sk false (s.drop p) → Stand s p l := by
  induction h with
  | @fin a h =>
    intro p hp ha
    have h1 := sk_le false (s.drop p)
    rw [List.length_drop] at h1
    have ha' : s.length = p + sk false (s.drop p) := by omega
    refine ⟨by show p ≤ s.length; omega, Nat.le_refl _, by simp [endTok, ByteArray.size], ?_, trivial⟩
    show sk false ((s.drop p).take (s.length - p)) = s.length - p
    rw [ha', Nat.add_sub_cancel_left]
    rw [sk_take]
  | @more a r h hk hb hr ih =>
    intro p hp ha
    have h2 := oneL_le (s.drop a)
    have hsz : (tokAt s a).text.size = (oneL (s.drop a)).2 := tx_size _ _ h2
    rw [List.length_drop] at h2
    refine ⟨by show p ≤ a; omega, ?_, ?_, ?_, ?_⟩
    · rw [hsz]; show a + _ ≤ _; omega
    · rw [hsz]; rfl
    · show sk false ((s.drop p).take (a - p)) = a - p
      rw [ha]; exact stand_gap s p
    · rw [hsz]
      exact ih (a + (oneL (s.drop a)).2) (by omega) rfl
theorem ofL_stand {s : List UInt8} {l : List Tok} (h : ofL s = .ok l) : Stand s 0 l :=
  stands (ofL_toks h).2 0 (Nat.zero_le _) (by simp)
theorem ofL_gap {s : List UInt8} (h : sk false s = s.length) (hs : s.length ≤ 16384) : ofL s = .ok [endTok s] := toks_ofL hs (.fin (by omega))
theorem toks_last {s : List UInt8} {a : Nat} {l : List Tok} (h : Toks s a l) : l.getLast? = some (endTok s) := by
  induction h with
  | fin h => rfl
  | @more a r h hk hb hr ih =>
    match r, ih with
    | b :: q, ih => rw [List.getLast?_cons_cons]; exact ih
theorem toks_len {s : List UInt8} {a : Nat} {l : List Tok} (h : Toks s a l) : a ≤ s.length → l.length ≤ s.length - a + 1 := by
  induction h with
  | fin h => intro _; simp
  | @more a r h hk hb hr ih =>
    intro ha
    have h1 := nextAt_gt hk
    have h2 := nextAt_le h
    have h3 := ih h2
    rw [List.length_cons]; omega
theorem ofL_len {s : List UInt8} {l : List Tok} (h : ofL s = .ok l) : l.length ≤ s.length + 1 := by
  have := toks_len (ofL_toks h).2 (sk_le false s)
  omega

end Tk
end Go.Proofs.Ytbcgooofelnkoaa

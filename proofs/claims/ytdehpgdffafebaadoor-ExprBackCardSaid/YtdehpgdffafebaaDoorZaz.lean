/- What is written is read back, token by token: the tokens of an expression's text, and what the plain function reads of them. No function is walked here. Conditions: none.
What is written is read back: by induction on the expression. No function is walked here. Conditions: none.
The tokens of an expression's text are those that it is made of. No function is walked here. Conditions: none. -/
import Derived.Test.YtdehpgdffafebaaDoorZau
import Derived.Test.YtdehpgdffafebaaDoorZak
import Derived.Test.YtdehpgdffafebaaDoorZab
namespace Go.Proofs.YtdehpgdffafebaaDoor
open Go.RowKit
open Go.Lib (decDigits itoa)
set_option linter.unusedVariables false

/-- A token's kind and its text. -/
abbrev KT := Nat × ByteArray
def kkt (ts : List KT) (b q : Int) : List KT := if b < q then (4, ⟨#[40]⟩) :: (ts ++ [(4, ⟨#[41]⟩)]) else ts
def tkk (k n : Int) (s : ByteArray) (ts : List (List KT)) : List KT :=
  if k = 1 then [(2, ⟨(itoa n).toArray⟩)] else if k = 2 then [(1, s)] else if k = 12 then (4, ⟨#[33]⟩) :: ts.getD 0 []
  else if k = 13 then (3, ⟨#[110, 105, 108]⟩) :: (4, ⟨#[40]⟩) :: (ts.getD 0 [] ++ [(4, ⟨#[41]⟩)])
  else if k = 14 then (3, ⟨#[115, 97, 109, 101]⟩) :: (4, ⟨#[40]⟩) :: (ts.getD 0 [] ++ ((4, ⟨#[44]⟩) :: (ts.getD 1 [] ++ [(4, ⟨#[41]⟩)])))
  else if isSign k = true then ts.getD 0 [] ++ ((4, sgT k) :: ts.getD 1 []) else [(3, plT k)]
mutual
/-- The tokens of an expression's text. -/
def tk : E → List KT
  | .mk k n s l => tkk k n s (tks k 0 l)
def tks (k : Int) : Nat → List E → List (List KT)
  | _, [] => []
  | i, e :: r => kkt (tk e) (bindI e.kind) (leastI k i) :: tks k (i + 1) r
end
def kte (e : E) (q : Int) : List KT := kkt (tk e) (bindI e.kind) q
theorem kte_yes {e : E} {q : Int} (h : bindI e.kind < q) : kte e q = (4, ⟨#[40]⟩) :: (tk e ++ [(4, ⟨#[41]⟩)]) := by unfold kte kkt; rw [if_pos h]
theorem kte_no {e : E} {q : Int} (h : ¬ bindI e.kind < q) : kte e q = tk e := by unfold kte kkt; rw [if_neg h]
theorem tk_1 (n : Int) (s : ByteArray) (l : List E) : tk (.mk 1 n s l) = [(2, ⟨(itoa n).toArray⟩)] := by rw [tk]; rfl
theorem tk_2 (n : Int) (s : ByteArray) (l : List E) : tk (.mk 2 n s l) = [(1, s)] := by rw [tk]; rfl
theorem tk_3 (n : Int) (s : ByteArray) (l : List E) : tk (.mk 3 n s l) = [(3, plT 3)] := by rw [tk]; rfl
theorem tk_4 (n : Int) (s : ByteArray) (l : List E) : tk (.mk 4 n s l) = [(3, plT 4)] := by rw [tk]; rfl
theorem tk_5 (n : Int) (s : ByteArray) (l : List E) : tk (.mk 5 n s l) = [(3, plT 5)] := by rw [tk]; rfl
theorem tk_12 (n : Int) (s : ByteArray) (x : E) : tk (.mk 12 n s [x]) = (4, ⟨#[33]⟩) :: kte x 5 := by rw [tk, tks, tks]; rfl
theorem tk_13 (n : Int) (s : ByteArray) (x : E) : tk (.mk 13 n s [x]) = (3, ⟨#[110, 105, 108]⟩) :: (4, ⟨#[40]⟩) :: (kte x 5 ++ [(4, ⟨#[41]⟩)]) := by rw [tk, tks, tks]; rfl
theorem tk_14 (n : Int) (s : ByteArray) (x y : E) : tk (.mk 14 n s [x, y]) = (3, ⟨#[115, 97, 109, 101]⟩) :: (4, ⟨#[40]⟩) :: (kte x 5 ++ ((4, ⟨#[44]⟩) :: (kte y 5 ++ [(4, ⟨#[41]⟩)]))) := by rw [tk, tks, tks, tks]; rfl
theorem tk_sign (k n : Int) (s : ByteArray) (x y : E) (h : isSign k = true) : tk (.mk k n s [x, y]) = kte x (leastI k 0) ++ ((4, sgT k) :: kte y (leastI k 1)) := by
  rw [tk, tks, tks, tks]
  have hk : 6 ≤ k ∧ k ≤ 11 := by simpa [isSign] using h
  unfold tkk
  rw [if_neg (by omega), if_neg (by omega), if_neg (by omega), if_neg (by omega), if_neg (by omega), if_pos h]
  rfl

/-- The tokens from a place on are of these kinds, and texts. -/
def Mat (l : List Gt) (a : Nat) (ts : List KT) : Prop := ∀ (i : Nat) (t : KT), ts[i]? = some t → (tokN l (a + i)).kind = (t.1 : Int) ∧ (tokN l (a + i)).text = t.2
theorem Mat.head {l : List Gt} {a : Nat} {t : KT} {ts : List KT} (h : Mat l a (t :: ts)) : (tokN l a).kind = (t.1 : Int) ∧ (tokN l a).text = t.2 := by
  have := h 0 t rfl
  rwa [Nat.add_zero] at this
theorem Mat.tail {l : List Gt} {a : Nat} {t : KT} {ts : List KT} (h : Mat l a (t :: ts)) : Mat l (a + 1) ts := fun i u hu => by
  have := h (i + 1) u (by simpa using hu)
  rwa [show a + (i + 1) = a + 1 + i by omega] at this
theorem Mat.left {l : List Gt} {a : Nat} {ts us : List KT} (h : Mat l a (ts ++ us)) : Mat l a ts := fun i u hu => h i u (by
  rw [List.getElem?_append_left (List.getElem?_eq_some_iff.1 hu).1]
  exact hu)
theorem Mat.right {l : List Gt} {a : Nat} {ts us : List KT} (h : Mat l a (ts ++ us)) : Mat l (a + ts.length) us := fun i u hu => by
  have := h (ts.length + i) u (by
    rw [List.getElem?_append_right (by omega), Nat.add_sub_cancel_left]
    exact hu)
  rwa [show a + (ts.length + i) = a + ts.length + i by omega] at this

/-! ### What is read with fuel enough -/
def RB (l : List Gt) (b : Int) (a r : Nat) (X : Pr) : Prop := ∃ f0, ∀ f, f0 ≤ f → boundP l f b a r = X
def RTi (l : List Gt) (a r : Nat) (X : Pr) : Prop := ∃ f0, ∀ f, f0 ≤ f → tightP l f a r = X
def RL (l : List Gt) (b : Int) (r : Nat) (Y X : Pr) : Prop := ∃ f0, ∀ f, f0 ≤ f → loopP l f b r Y = X
theorem RL.one {l : List Gt} {b : Int} {r : Nat} {Y X X' : Pr} (h : RL l b r Y X) (h' : RL l b r Y X') : X = X' := by
  obtain ⟨f, h⟩ := h
  obtain ⟨g, h'⟩ := h'
  rw [← h (max f g) (by omega), ← h' (max f g) (by omega)]
theorem succ_of {f0 f : Nat} (h : f0 + 1 ≤ f) : ∃ g, f = g + 1 ∧ f0 ≤ g := ⟨f - 1, by omega, by omega⟩
theorem rb5 {l : List Gt} {b : Int} {a r : Nat} {X : Pr} (hb : 5 ≤ b) (h : RTi l a r X) : RB l b a r X := by
  obtain ⟨f0, h⟩ := h
  refine ⟨f0 + 1, fun f hf => ?_⟩
  obtain ⟨g, rfl, hg⟩ := succ_of hf
  rw [boundP, if_pos hb]
  exact h g hg
theorem rbl {l : List Gt} {b : Int} {a r : Nat} {X Y : Pr} (hb : b < 5) (h1 : RB l (b + 1) a r Y) (h2 : RL l b r Y X) : RB l b a r X := by
  obtain ⟨f1, h1⟩ := h1
  obtain ⟨f2, h2⟩ := h2
  refine ⟨max f1 f2 + 1, fun f hf => ?_⟩
  obtain ⟨g, rfl, hg⟩ := succ_of hf
  rw [boundP, if_neg (by omega), h1 g (by omega)]
  exact h2 g (by omega)
theorem rl0 {l : List Gt} {b : Int} {r : Nat} {e : E} {d a : Nat} (h : signAt (tokN l a) b = none) : RL l b r (.ok e d a) (.ok e d a) := by
  refine ⟨1, fun f hf => ?_⟩
  obtain ⟨g, rfl, hg⟩ := succ_of (f0 := 0) hf
  rw [loopP, h]
theorem rl1 {l : List Gt} {b : Int} {r : Nat} {e : E} {d a : Nat} {s : Sg} {X Y : Pr} (h : signAt (tokN l a) b = some s) (hc : s.chain = true) (h1 : RB l (s.bind + 1) (a + 1) r Y) (h2 : RL l b r (joinQ (tokN l a) s.kind e d Y) X) : RL l b r (.ok e d a) X := by
  obtain ⟨f1, h1⟩ := h1
  obtain ⟨f2, h2⟩ := h2
  refine ⟨max f1 f2 + 1, fun f hf => ?_⟩
  obtain ⟨g, rfl, hg⟩ := succ_of hf
  rw [loopP, h]
  simp only [hc, if_true]
  rw [h1 g (by omega)]
  exact h2 g (by omega)
theorem rl2 {l : List Gt} {b : Int} {r : Nat} {e : E} {d a : Nat} {s : Sg} {Y : Pr} (h : signAt (tokN l a) b = some s) (hc : s.chain = false) (h1 : RB l (s.bind + 1) (a + 1) r Y) : RL l b r (.ok e d a) (joinQ (tokN l a) s.kind e d Y) := by
  obtain ⟨f1, h1⟩ := h1
  refine ⟨f1 + 1, fun f hf => ?_⟩
  obtain ⟨g, rfl, hg⟩ := succ_of hf
  rw [loopP, h]
  simp only [hc]
  rw [h1 g (by omega)]
  simp
/-- What is bound tightly is read where less tight ones are, as long as no sign of theirs stands behind it. -/
theorem desc {l : List Gt} {a r a' : Nat} {e : E} {d : Nat} : ∀ (n : Nat) (j b : Int), j = b + 1 + n → j ≤ 5 → RB l j a r (.ok e d a') → (∀ b', b < b' → b' ≤ 4 → signAt (tokN l a') b' = none) → RB l (b + 1) a r (.ok e d a')
  | 0, j, b, hj, h5, h, hn => by
    have : j = b + 1 := by omega
    rwa [this] at h
  | n + 1, j, b, hj, h5, h, hn => by
    refine desc n (j - 1) b (by omega) (by omega) ?_ hn
    refine rbl (by omega) ?_ (rl0 (hn (j - 1) (by omega) (by omega)))
    rwa [show j - 1 + 1 = j by omega]
theorem desc' {l : List Gt} {a r a' : Nat} {e : E} {d : Nat} {j b : Int} {X : Pr} (hj : b < j) (h5 : j ≤ 5) (h : RB l j a r (.ok e d a')) (hn : ∀ b', b < b' → b' ≤ 4 → signAt (tokN l a') b' = none) (hX : RL l b r (.ok e d a') X) : RB l b a r X :=
  rbl (by omega) (desc (j - (b + 1)).toNat j b (by omega) h5 h hn) hX

theorem is_of {t : Gt} {k : Int} {x s : ByteArray} (h : t.kind = k ∧ t.text = x) : t.is s = ((decide (k = 3) || decide (k = 4)) && decide (x = s)) := by
  unfold Gt.is
  rw [h.1, h.2]
theorem rt_not {l : List Gt} {a r a' : Nat} {e : E} {d : Nat} (h : (tokN l a).is ⟨#[33]⟩ = true) (hr : r < 20) (hb : RB l 5 (a + 1) (r + 1) (.ok e d a')) (hd : d + 1 ≤ 20) : RTi l a r (.ok (.mk 12 0 ⟨#[]⟩ [e]) (d + 1) a') := by
  obtain ⟨f0, hb⟩ := hb
  refine ⟨f0 + 1, fun f hf => ?_⟩
  obtain ⟨g, rfl, hg⟩ := succ_of hf
  rw [tightP, if_pos h, hb g hg]
  unfold withinP notP notQ
  rw [if_neg (by omega)]
  dsimp only
  rw [if_neg (by omega)]
theorem rt_br {l : List Gt} {a r a' : Nat} {e : E} {d : Nat} (h0 : (tokN l a).is ⟨#[33]⟩ = false) (h : (tokN l a).is ⟨#[40]⟩ = true) (hr : r < 20) (hb : RB l 1 (a + 1) (r + 1) (.ok e d a')) (hc : (tokN l a').is ⟨#[41]⟩ = true) : RTi l a r (.ok e d (a' + 1)) := by
  obtain ⟨f0, hb⟩ := hb
  refine ⟨f0 + 1, fun f hf => ?_⟩
  obtain ⟨g, rfl, hg⟩ := succ_of hf
  rw [tightP, if_neg (by rw [h0]; simp), if_pos h, hb g hg]
  unfold withinP bracketP
  rw [if_neg (by omega)]
  dsimp only
  rw [if_pos hc]
theorem rt_nil {l : List Gt} {a r : Nat} (h0 : (tokN l a).is ⟨#[33]⟩ = false) (h1 : (tokN l a).is ⟨#[40]⟩ = false) (h : (tokN l a).is ⟨#[110, 105, 108]⟩ = true) : RTi l a r (nilP l a) := by
  refine ⟨1, fun f hf => ?_⟩
  obtain ⟨g, rfl, hg⟩ := succ_of (f0 := 0) hf
  rw [tightP, if_neg (by rw [h0]; simp), if_neg (by rw [h1]; simp), if_pos h]
theorem rt_same {l : List Gt} {a r : Nat} (h0 : (tokN l a).is ⟨#[33]⟩ = false) (h1 : (tokN l a).is ⟨#[40]⟩ = false) (h2 : (tokN l a).is ⟨#[110, 105, 108]⟩ = false) (h : (tokN l a).is ⟨#[115, 97, 109, 101]⟩ = true) : RTi l a r (sameP l a) := by
  refine ⟨1, fun f hf => ?_⟩
  obtain ⟨g, rfl, hg⟩ := succ_of (f0 := 0) hf
  rw [tightP, if_neg (by rw [h0]; simp), if_neg (by rw [h1]; simp), if_neg (by rw [h2]; simp), if_pos h]
theorem rt_plain {l : List Gt} {a r : Nat} (h0 : (tokN l a).is ⟨#[33]⟩ = false) (h1 : (tokN l a).is ⟨#[40]⟩ = false) (h2 : (tokN l a).is ⟨#[110, 105, 108]⟩ = false) (h3 : (tokN l a).is ⟨#[115, 97, 109, 101]⟩ = false) : RTi l a r (plainP l a) := by
  refine ⟨1, fun f hf => ?_⟩
  obtain ⟨g, rfl, hg⟩ := succ_of (f0 := 0) hf
  rw [tightP, if_neg (by rw [h0]; simp), if_neg (by rw [h1]; simp), if_neg (by rw [h2]; simp), if_neg (by rw [h3]; simp)]

/-! ### Signs -/
theorem sign_find {t : Gt} {k : Int} (hk : isSign k = true) (h : t.kind = 4 ∧ t.text = sgT k) : signAt t (bindI k) = some ⟨sgT k, k, bindI k, chainB k⟩ ∧ ∀ b, b ≠ bindI k → signAt t b = none := by
  have hk' : 6 ≤ k ∧ k ≤ 11 := by simpa [isSign] using hk
  have hi := fun s => is_of (s := s) h
  rcases (by omega : k = 6 ∨ k = 7 ∨ k = 8 ∨ k = 9 ∨ k = 10 ∨ k = 11) with rfl | rfl | rfl | rfl | rfl | rfl
  all_goals
    refine ⟨?_, fun b hb => ?_⟩
    · unfold signAt sgL
      simp only [List.find?, hi]
      rfl
    · have hb' : ∀ x : Int, bindI _ = x → ¬ x = b := fun x hx e => hb (by rw [← e, ← hx])
      unfold signAt
      rw [List.find?_eq_none]
      intro s hs
      simp only [sgL, List.mem_cons, List.not_mem_nil, or_false] at hs
      rcases hs with rfl | rfl | rfl | rfl | rfl | rfl <;> simp [hi, sgT, bindI] at hb ⊢ <;> omega
theorem no_sign {t : Gt} {x : ByteArray} (h : t.kind = 0 ∨ (t.text = x ∧ (x = ⟨#[41]⟩ ∨ x = ⟨#[44]⟩))) (b : Int) : signAt t b = none := by
  unfold signAt
  rw [List.find?_eq_none]
  intro s hs
  simp only [sgL, List.mem_cons, List.not_mem_nil, or_false] at hs
  rcases h with h | ⟨h, hx⟩
  · rcases hs with rfl | rfl | rfl | rfl | rfl | rfl <;> simp [Gt.is, h]
  · rcases hx with rfl | rfl <;> rcases hs with rfl | rfl | rfl | rfl | rfl | rfl <;> simp [Gt.is, h]
end Go.Proofs.YtdehpgdffafebaaDoor
namespace Go.Proofs.YtdehpgdffafebaaDoor
open Go.RowKit
open Go.Lib (decDigits itoa)
set_option linter.unusedVariables false

theorem num_back {n : Int} (h0 : 0 ≤ n) (h1 : n ≤ 999999999) : (Wd.number ⟨(itoa n).toArray⟩).map (fun m : Nat => (m : Int)) = some n := by
  obtain ⟨u, rfl⟩ : ∃ u : Nat, n = (u : Int) := ⟨n.toNat, by omega⟩
  have hi : itoa (u : Int) = decDigits u := by unfold itoa; rw [if_neg (by omega)]; rfl
  rw [hi, Wd.number_dec u (by omega)]
  rfl
/-- Where a leaf stands, it is told as it is. -/
theorem leaf_at {l : List Gt} {a : Nat} {k n : Int} {s : ByteArray} (hf : E.form (.mk k n s []) = true) (hm : Mat l a (tk (.mk k n s []))) : (tk (.mk k n s [])).length = 1 ∧ plainE (tokN l a) = some (k, n, s) ∧ ∀ x : ByteArray, (x = ⟨#[33]⟩ ∨ x = ⟨#[40]⟩ ∨ x = ⟨#[110, 105, 108]⟩ ∨ x = ⟨#[115, 97, 109, 101]⟩) → (tokN l a).is x = false := by
  rcases form_ways hf with ⟨rfl, _, h0, h1, rfl⟩ | ⟨rfl, _, rfl, h0⟩ | ⟨h, _, rfl, rfl⟩ | ⟨x, y, h, h9, _⟩ | ⟨x, h, h9, _⟩
  · rw [tk_1] at hm ⊢
    have h := hm.head
    refine ⟨rfl, ?_, fun x hx => by rw [is_of h]; rfl⟩
    unfold plainE
    rw [show (tokN l a).kind = 2 from h.1, show (tokN l a).text = ⟨(itoa n).toArray⟩ from h.2, if_neg (show ¬ (2 : Int) = 1 by decide), if_pos rfl]
    have := num_back h0 h1
    cases hn : Wd.number ⟨(itoa n).toArray⟩ with
    | none => rw [hn] at this; cases this
    | some m =>
      rw [hn] at this
      simp at this ⊢
      exact this
  · rw [tk_2] at hm ⊢
    have h := hm.head
    refine ⟨rfl, ?_, fun x hx => by rw [is_of h]; rfl⟩
    unfold plainE
    rw [show (tokN l a).kind = 1 from h.1, show (tokN l a).text = s from h.2, if_pos rfl]
  · rcases h with rfl | rfl | rfl
    · rw [tk_3] at hm ⊢
      have h := hm.head
      refine ⟨rfl, ?_, fun x hx => ?_⟩
      · unfold plainE
        simp only [is_of h, h.1]
        rfl
      · rw [is_of h]; rcases hx with rfl | rfl | rfl | rfl <;> rfl
    · rw [tk_4] at hm ⊢
      have h := hm.head
      refine ⟨rfl, ?_, fun x hx => ?_⟩
      · unfold plainE
        simp only [is_of h, h.1]
        rfl
      · rw [is_of h]; rcases hx with rfl | rfl | rfl | rfl <;> rfl
    · rw [tk_5] at hm ⊢
      have h := hm.head
      refine ⟨rfl, ?_, fun x hx => ?_⟩
      · unfold plainE
        simp only [is_of h, h.1]
        rfl
      · rw [is_of h]; rcases hx with rfl | rfl | rfl | rfl <;> rfl
  · cases h9
  · cases h9
theorem bare_at {l : List Gt} {a : Nat} {kk : Int} {x : E} (hf : E.form x = true) (hk : E.kidOk kk x.kind = true) (hkk : kk = 13 ∨ kk = 14) (hm : Mat l a (kte x 5)) : (kte x 5).length = 1 ∧ E.deep x = 1 ∧ bareP kk l a = .ok x 1 (a + 1) := by
  obtain ⟨k, n, s, r⟩ := x
  have h234 : k = 2 ∨ k = 3 ∨ k = 4 := by
    have hk2 : E.kidOk kk k = true := hk
    rcases hkk with rfl | rfl
    · have : k = 2 ∨ k = 3 := by simpa [E.kidOk] using hk2
      omega
    · have : k = 2 ∨ k = 3 ∨ k = 4 := by simpa [E.kidOk] using hk2
      omega
  have hr : r = [] := by
    rcases form_ways hf with ⟨rfl, h9, _⟩ | ⟨rfl, h9, _⟩ | ⟨h, h9, _⟩ | ⟨x, y, h, _⟩ | ⟨x, h, _⟩
    · exact h9
    · exact h9
    · exact h9
    · exfalso; omega
    · exfalso; omega
  subst hr
  have hb : ¬ bindI (E.kind (.mk k n s [])) < 5 := by
    show ¬ bindI k < 5
    rcases h234 with rfl | rfl | rfl <;> decide
  rw [kte_no hb] at hm ⊢
  obtain ⟨h1, h2, _⟩ := leaf_at hf hm
  refine ⟨h1, by rw [E.deep, E.deeps], ?_⟩
  unfold bareP
  rw [h2]
  dsimp only
  rw [if_pos (show E.kidOk kk k = true from hk)]

def eb (e : E) (q : Int) : Int := if bindI e.kind < q then 5 else bindI e.kind
theorem bind_ways (k : Int) : (isSign k = true ∧ 1 ≤ bindI k ∧ bindI k ≤ 4) ∨ (isSign k = false ∧ bindI k = 5) := by
  rcases signOf_ways k with ⟨h1, _, h2, h3⟩ | ⟨h1, _, h2⟩
  · exact .inl ⟨h1, h2, h3⟩
  · exact .inr ⟨h1, h2⟩
/-- What is said of an expression: it is read where it stands tightly, and where it does not. -/
structure Rd1 (e : E) : Prop where
  t : ∀ (l : List Gt) (q : Int) (a r : Nat), q ≤ 5 → Mat l a (kte e q) → eb e q = 5 → r + E.deep e ≤ 20 → RTi l a r (.ok e (E.deep e) (a + (kte e q).length))
  b : ∀ (l : List Gt) (a r : Nat), bindI e.kind < 5 → Mat l a (tk e) → r + E.deep e ≤ 21 → E.deep e ≤ 20 → ∀ (b : Int) (X : Pr), 1 ≤ b → b ≤ bindI e.kind → (∀ b', b < b' → b' ≤ 4 → signAt (tokN l (a + (tk e).length)) b' = none) → (bindI e.kind = 2 → signAt (tokN l (a + (tk e).length)) 2 = none) → RL l b r (.ok e (E.deep e) (a + (tk e).length)) X → RB l b a r X
/-- Both at once. -/
theorem Rd1.k {e : E} (h : Rd1 e) {l : List Gt} {q b : Int} {a r : Nat} {X : Pr} (hq : q ≤ 5) (hm : Mat l a (kte e q)) (hr : r + E.deep e ≤ 20) (hb1 : 1 ≤ b) (hb4 : b ≤ 4) (hbe : b ≤ eb e q) (hn : ∀ b', b < b' → b' ≤ 4 → signAt (tokN l (a + (kte e q).length)) b' = none) (h2 : eb e q = 2 → signAt (tokN l (a + (kte e q).length)) 2 = none) (hX : RL l b r (.ok e (E.deep e) (a + (kte e q).length)) X) : RB l b a r X := by
  by_cases h5 : eb e q = 5
  · exact desc' (j := 5) (by omega) (by omega) (rb5 (by omega) (h.t l q a r hq hm h5 hr)) hn hX
  · have hnq : ¬ bindI e.kind < q := fun hh => h5 (by unfold eb; rw [if_pos hh])
    have heb : eb e q = bindI e.kind := by unfold eb; rw [if_neg hnq]
    rw [kte_no hnq] at hm hn h2 hX
    have hlt : bindI e.kind < 5 := by
      rcases bind_ways e.kind with ⟨_, _, h⟩ | ⟨_, h⟩ <;> omega
    exact h.b l a r hlt hm (by omega) (by omega) b X hb1 (by omega) hn (fun e => h2 (by omega)) hX
/-- Where no sign from there on stands behind it. -/
theorem Rd1.ok {e : E} (h : Rd1 e) {l : List Gt} {q b : Int} {a r : Nat} (hq : q ≤ 5) (hm : Mat l a (kte e q)) (hr : r + E.deep e ≤ 20) (hb1 : 1 ≤ b) (hb5 : b ≤ 5) (hbe : b ≤ eb e q) (hn : ∀ b', b ≤ b' → b' ≤ 4 → signAt (tokN l (a + (kte e q).length)) b' = none) (h2 : eb e q = 2 → signAt (tokN l (a + (kte e q).length)) 2 = none) : RB l b a r (.ok e (E.deep e) (a + (kte e q).length)) := by
  by_cases hb : b = 5
  · subst hb
    have h5 : eb e q = 5 := by
      unfold eb at hbe ⊢
      split
      · rfl
      · rename_i hh
        rw [if_neg hh] at hbe
        rcases bind_ways e.kind with ⟨_, _, h⟩ | ⟨_, h⟩ <;> omega
    exact rb5 (by omega) (h.t l q a r hq hm h5 hr)
  · exact h.k hq hm hr hb1 (by omega) hbe (fun b' h1 h2 => hn b' (by omega) h2) h2 (rl0 (hn b (by omega) (by omega)))

theorem deep_1 (k n : Int) (s : ByteArray) : E.deep (.mk k n s []) = 1 := by rw [E.deep, E.deeps]
theorem deep_2 (k n : Int) (s : ByteArray) (x : E) : E.deep (.mk k n s [x]) = E.deep x + 1 := by rw [E.deep, E.deeps, E.deeps]; omega
theorem deep_3 (k n : Int) (s : ByteArray) (x y : E) : E.deep (.mk k n s [x, y]) = max (E.deep x + 1) (E.deep y + 1) := by rw [E.deep, E.deeps, E.deeps, E.deeps]; omega

/-- A sign between two. -/
theorem rd_sign {k : Int} {x y : E} (hk : isSign k = true) (hx : Rd1 x) (hy : Rd1 y) : ∀ (l : List Gt) (a r : Nat), Mat l a (tk (.mk k 0 ⟨#[]⟩ [x, y])) → r + E.deep (.mk k 0 ⟨#[]⟩ [x, y]) ≤ 21 → E.deep (.mk k 0 ⟨#[]⟩ [x, y]) ≤ 20 → ∀ (b : Int) (X : Pr), 1 ≤ b → b ≤ bindI k → (∀ b', b < b' → b' ≤ 4 → signAt (tokN l (a + (tk (.mk k 0 ⟨#[]⟩ [x, y])).length)) b' = none) → (bindI k = 2 → signAt (tokN l (a + (tk (.mk k 0 ⟨#[]⟩ [x, y])).length)) 2 = none) → RL l b r (.ok (.mk k 0 ⟨#[]⟩ [x, y]) (E.deep (.mk k 0 ⟨#[]⟩ [x, y])) (a + (tk (.mk k 0 ⟨#[]⟩ [x, y])).length)) X → RB l b a r X := by
  intro l a r hm hr hd b X hb1 hbk hn h2 hX
  have hk' : 6 ≤ k ∧ k ≤ 11 := by simpa [isSign] using hk
  rw [deep_3] at hr hd hX
  obtain ⟨b0, hb0⟩ : ∃ b0, b0 = bindI k := ⟨_, rfl⟩
  have hb04 : 1 ≤ b0 ∧ b0 ≤ 4 := by
    rcases bind_ways k with ⟨_, h⟩ | ⟨h, _⟩
    · omega
    · rw [h] at hk; cases hk
  have hl1 : leastI k 1 = b0 + 1 := by unfold leastI; rw [if_pos ⟨hk, fun h => by have := h.2; omega⟩, hb0]
  rw [tk_sign k _ _ x y hk] at hm hn h2 hX
  obtain ⟨qx, hqx⟩ : ∃ q, q = leastI k 0 := ⟨_, rfl⟩
  rw [hl1, ← hqx] at hm hn h2 hX
  have hqx2 : (chainB k = true ∧ qx = b0) ∨ (chainB k = false ∧ qx = b0 + 1 ∧ b0 = 2) := by
    unfold leastI at hqx
    cases hc : chainB k with
    | true => exact .inl ⟨rfl, by rw [hqx, if_neg (by rw [hc]; simp), hb0]⟩
    | false =>
      refine .inr ⟨rfl, by rw [hqx, if_pos ⟨hk, by rw [hc]; simp⟩, hb0], ?_⟩
      rw [hb0]
      rcases (by omega : k = 6 ∨ k = 7 ∨ k = 8 ∨ k = 9 ∨ k = 10 ∨ k = 11) with rfl | rfl | rfl | rfl | rfl | rfl
      · cases hc
      · cases hc
      · cases hc
      · rfl
      · rfl
      · cases hc
  have hmx := hm.left
  have hms := hm.right
  have hmo := hms.head
  have hmy := hms.tail
  obtain ⟨ax, hax⟩ : ∃ ax, ax = a + (kte x qx).length := ⟨_, rfl⟩
  rw [← hax] at hmo hmy
  have hlen : a + (kte x qx ++ (4, sgT k) :: kte y (b0 + 1)).length = ax + 1 + (kte y (b0 + 1)).length := by
    rw [List.length_append, List.length_cons]; omega
  rw [hlen] at hn h2 hX
  obtain ⟨so, sn⟩ := sign_find hk hmo
  rw [← hb0] at so sn h2
  -- the right one
  have hq5 : b0 + 1 ≤ 5 := by omega
  have heby : b0 + 1 ≤ eb y (b0 + 1) := by unfold eb; split <;> omega
  have hRy : RB l (b0 + 1) (ax + 1) r (.ok y (E.deep y) (ax + 1 + (kte y (b0 + 1)).length)) :=
    hy.ok hq5 hmy (by omega) (by omega) hq5 heby (fun b' h1 h4 => hn b' (by omega) h4) (fun e2 => by
      have : b0 = 1 := by omega
      exact hn 2 (by omega) (by omega))
  have hj : joinQ (tokN l ax) k x (E.deep x) (.ok y (E.deep y) (ax + 1 + (kte y (b0 + 1)).length)) = .ok (.mk k 0 ⟨#[]⟩ [x, y]) (max (E.deep x + 1) (E.deep y + 1)) (ax + 1 + (kte y (b0 + 1)).length) := by
    unfold joinQ
    dsimp only
    rw [if_neg (by omega)]
  rcases hqx2 with ⟨hc, hq⟩ | ⟨hc, hq, hb2⟩
  · -- several in a row
    have hRx : ∀ X0, RL l b0 r (.ok (.mk k 0 ⟨#[]⟩ [x, y]) (max (E.deep x + 1) (E.deep y + 1)) (ax + 1 + (kte y (b0 + 1)).length)) X0 → RB l b0 a r X0 := fun X0 h0 => by
      have heb : b0 ≤ eb x qx := by unfold eb; split <;> omega
      refine hx.k (q := qx) (by omega) hmx (by omega) hb04.1 hb04.2 heb (fun b' h1 _ => ?_) (fun e2 => ?_) ?_
      · rw [← hax]; exact sn b' (by omega)
      · rw [← hax]
        refine sn 2 (fun e => ?_)
        have h2k : bindI k = 2 := by rw [← hb0, ← e]
        rcases (by omega : k = 6 ∨ k = 7 ∨ k = 8 ∨ k = 9 ∨ k = 10 ∨ k = 11) with rfl | rfl | rfl | rfl | rfl | rfl
        · revert h2k; decide
        · revert h2k; decide
        · revert h2k; decide
        · cases hc
        · cases hc
        · revert h2k; decide
      · rw [← hax]
        exact rl1 so hc hRy (by rw [hj]; exact h0)
    by_cases hbb : b = b0
    · subst hbb
      exact hRx X hX
    · exact desc' (j := b0) (by omega) (by omega) (hRx _ (rl0 (hn b0 (by omega) (by omega)))) hn hX
  · have heb : b0 + 1 ≤ eb x qx := by unfold eb; split <;> omega
    have hRx : RB l (b0 + 1) a r (.ok x (E.deep x) ax) := by
      rw [hax]
      refine hx.ok (q := qx) (by omega) hmx (by omega) (by omega) (by omega) heb (fun b' h1 _ => ?_) (fun e2 => by omega)
      rw [← hax]
      exact sn b' (by omega)
    have hR : RB l b0 a r (.ok (.mk k 0 ⟨#[]⟩ [x, y]) (max (E.deep x + 1) (E.deep y + 1)) (ax + 1 + (kte y (b0 + 1)).length)) := by
      rw [← hj]
      exact rbl (by omega) hRx (rl2 so hc hRy)
    by_cases hbb : b = b0
    · have h20 := h2 (by omega)
      have h30 : b = 2 := by omega
      subst h30
      have := hX.one (rl0 h20)
      rw [this, hbb]
      exact hR
    · exact desc' (j := b0) (by omega) (by omega) hR hn hX

theorem back_all : ∀ (m : Nat) (e : E), E.count e ≤ m → E.form e = true → Rd1 e
  | 0, e, hm, _ => by have := E.count_pos e; omega
  | m + 1, .mk k n s c, hm, hf => by
    have hnosign : ∀ {q : Int}, q ≤ 5 → isSign k = false → kte (.mk k n s c) q = tk (.mk k n s c) := fun hq h => kte_no (by
      show ¬ bindI k < _
      rcases bind_ways k with ⟨h', _⟩ | ⟨_, h'⟩
      · rw [h] at h'; cases h'
      · omega)
    have hnob : isSign k = false → ¬ bindI (E.kind (.mk k n s c)) < 5 := fun h => by
      show ¬ bindI k < 5
      rcases bind_ways k with ⟨h', _⟩ | ⟨_, h'⟩
      · rw [h] at h'; cases h'
      · omega
    rcases form_ways hf with ⟨h1, rfl, _⟩ | ⟨h1, rfl, _⟩ | ⟨h1, rfl, _⟩ | ⟨x, y, h1, rfl, fx, fy, kx, ky, rfl, rfl⟩ | ⟨x, h1, rfl, fx, kx, rfl, rfl⟩
    · have hs : isSign k = false := by subst h1; rfl
      refine ⟨fun l q a r hq hmat _ _ => ?_, fun l a r hb => absurd hb (hnob hs)⟩
      rw [hnosign hq hs] at hmat ⊢
      obtain ⟨h3, h4, h5⟩ := leaf_at hf hmat
      rw [h3, deep_1]
      have : plainP l a = .ok (.mk k n s []) 1 (a + 1) := by unfold plainP; rw [h4]
      rw [← this]
      exact rt_plain (h5 _ (.inl rfl)) (h5 _ (.inr (.inl rfl))) (h5 _ (.inr (.inr (.inl rfl)))) (h5 _ (.inr (.inr (.inr rfl))))
    · have hs : isSign k = false := by subst h1; rfl
      refine ⟨fun l q a r hq hmat _ _ => ?_, fun l a r hb => absurd hb (hnob hs)⟩
      rw [hnosign hq hs] at hmat ⊢
      obtain ⟨h3, h4, h5⟩ := leaf_at hf hmat
      rw [h3, deep_1]
      have : plainP l a = .ok (.mk k n s []) 1 (a + 1) := by unfold plainP; rw [h4]
      rw [← this]
      exact rt_plain (h5 _ (.inl rfl)) (h5 _ (.inr (.inl rfl))) (h5 _ (.inr (.inr (.inl rfl)))) (h5 _ (.inr (.inr (.inr rfl))))
    · have hs : isSign k = false := by rcases h1 with rfl | rfl | rfl <;> rfl
      refine ⟨fun l q a r hq hmat _ _ => ?_, fun l a r hb => absurd hb (hnob hs)⟩
      rw [hnosign hq hs] at hmat ⊢
      obtain ⟨h3, h4, h5⟩ := leaf_at hf hmat
      rw [h3, deep_1]
      have : plainP l a = .ok (.mk k n s []) 1 (a + 1) := by unfold plainP; rw [h4]
      rw [← this]
      exact rt_plain (h5 _ (.inl rfl)) (h5 _ (.inr (.inl rfl))) (h5 _ (.inr (.inr (.inl rfl)))) (h5 _ (.inr (.inr (.inr rfl))))
    · have hcx : E.count x ≤ m := by rw [E.count, E.counts, E.counts] at hm; omega
      have hcy : E.count y ≤ m := by rw [E.count, E.counts, E.counts] at hm; have := E.count_pos x; omega
      by_cases h14 : k = 14
      · subst h14
        have hs : isSign 14 = false := rfl
        refine ⟨fun l q a r hq hmat _ hr => ?_, fun l a r hb => absurd hb (hnob hs)⟩
        rw [hnosign hq hs] at hmat ⊢
        rw [tk_14] at hmat ⊢
        have t0 := hmat.head
        have m1 := hmat.tail
        have t1 := m1.head
        have m2 := m1.tail
        have m3 := m2.left
        have m4 := m2.right
        obtain ⟨e3, e4, e5⟩ := bare_at fx kx (.inr rfl) m3
        rw [e3] at m4
        have t4 := m4.head
        have m5 := m4.tail
        have m6 := m5.left
        have m7 := m5.right
        obtain ⟨e6, e7, e8⟩ := bare_at fy ky (.inr rfl) m6
        rw [e6] at m7
        have t7 := m7.head
        have hsame : sameP l a = .ok (.mk 14 0 ⟨#[]⟩ [x, y]) 2 (a + 1 + 1 + 1 + 1 + 1 + 1) := by
          unfold sameP wantP thenP
          rw [if_pos (by rw [is_of t1]; rfl)]
          dsimp only
          rw [e5]
          dsimp only
          rw [if_pos (by rw [is_of t4]; rfl)]
          rw [e8]
          dsimp only
          rw [if_pos (by rw [is_of t7]; rfl)]
          rfl
        have hd : E.deep (.mk 14 0 ⟨#[]⟩ [x, y]) = 2 := by rw [deep_3, e4, e7]; rfl
        have hl : ((3, ⟨#[115, 97, 109, 101]⟩) :: (4, ⟨#[40]⟩) :: (kte x 5 ++ ((4, ⟨#[44]⟩) :: (kte y 5 ++ [(4, ⟨#[41]⟩)]))) : List KT).length = 6 := by
          simp [e3, e6]
        rw [hd, hl, show a + 6 = a + 1 + 1 + 1 + 1 + 1 + 1 by omega, ← hsame]
        exact rt_same (by rw [is_of t0]; rfl) (by rw [is_of t0]; rfl) (by rw [is_of t0]; rfl) (by rw [is_of t0]; rfl)
      · have hs : isSign k = true := by rcases h1 with rfl | rfl | rfl | rfl | rfl | rfl | rfl <;> first | rfl | exact absurd rfl h14
        have hx := back_all m x hcx fx
        have hy := back_all m y hcy fy
        have hb4 : 1 ≤ bindI k ∧ bindI k ≤ 4 := by
          rcases bind_ways k with ⟨_, h⟩ | ⟨h, _⟩
          · exact h
          · rw [h] at hs; cases hs
        refine ⟨fun l q a r hq hmat he hr => ?_, fun l a r _ hmat hr hd b X hb1 hbk => rd_sign hs hx hy l a r hmat hr hd b X hb1 hbk⟩
        have hlt : bindI (E.kind (.mk k 0 ⟨#[]⟩ [x, y])) < q := by
          show bindI k < q
          unfold eb at he
          split at he
          · assumption
          · have : bindI k = 5 := he
            omega
        rw [kte_yes hlt] at hmat ⊢
        have t0 := hmat.head
        have m1 := hmat.tail
        have m2 := m1.left
        have t3 := m1.right.head
        have hlen : a + ((4, ⟨#[40]⟩) :: (tk (.mk k 0 ⟨#[]⟩ [x, y]) ++ [(4, ⟨#[41]⟩)]) : List KT).length = a + 1 + (tk (.mk k 0 ⟨#[]⟩ [x, y])).length + 1 := by
          simp; omega
        rw [hlen]
        have hd2 := deep_3 k 0 ⟨#[]⟩ x y
        have hns := fun b => no_sign (t := tokN l (a + 1 + (tk (.mk k 0 ⟨#[]⟩ [x, y])).length)) (x := ⟨#[41]⟩) (.inr ⟨t3.2, .inl rfl⟩) b
        refine rt_br (by rw [is_of t0]; rfl) (by rw [is_of t0]; rfl) (by omega) ?_ (by rw [is_of t3]; rfl)
        exact rd_sign hs hx hy l (a + 1) (r + 1) m2 (by omega) (by omega) 1 _ (by omega) hb4.1 (fun b' _ _ => hns b') (fun _ => hns 2) (rl0 (hns 1))
    · have hcx : E.count x ≤ m := by rw [E.count, E.counts] at hm; omega
      rcases h1 with rfl | rfl
      · have hs : isSign 12 = false := rfl
        have hx := back_all m x hcx fx
        refine ⟨fun l q a r hq hmat _ hr => ?_, fun l a r hb => absurd hb (hnob hs)⟩
        rw [hnosign hq hs] at hmat ⊢
        rw [tk_12] at hmat ⊢
        rw [deep_2] at hr ⊢
        have t0 := hmat.head
        have m1 := hmat.tail
        have heb : eb x 5 = 5 := by
          unfold eb
          split
          · rfl
          · rcases bind_ways x.kind with ⟨_, _, h⟩ | ⟨_, h⟩ <;> omega
        have := rt_not (by rw [is_of t0]; rfl) (by omega) (rb5 (by omega) (hx.t l 5 (a + 1) (r + 1) (by omega) m1 heb (by omega))) (by omega)
        rw [List.length_cons, show a + ((kte x 5).length + 1) = a + 1 + (kte x 5).length by omega]
        exact this
      · have hs : isSign 13 = false := rfl
        refine ⟨fun l q a r hq hmat _ hr => ?_, fun l a r hb => absurd hb (hnob hs)⟩
        rw [hnosign hq hs] at hmat ⊢
        rw [tk_13] at hmat ⊢
        have t0 := hmat.head
        have m1 := hmat.tail
        have t1 := m1.head
        have m2 := m1.tail
        have m3 := m2.left
        have m4 := m2.right
        obtain ⟨e3, e4, e5⟩ := bare_at fx kx (.inl rfl) m3
        rw [e3] at m4
        have t4 := m4.head
        have hnil : nilP l a = .ok (.mk 13 0 ⟨#[]⟩ [x]) 2 (a + 1 + 1 + 1 + 1) := by
          unfold nilP wantP thenP
          rw [if_pos (by rw [is_of t1]; rfl)]
          dsimp only
          rw [e5]
          dsimp only
          rw [if_pos (by rw [is_of t4]; rfl)]
        have hl : ((3, ⟨#[110, 105, 108]⟩) :: (4, ⟨#[40]⟩) :: (kte x 5 ++ [(4, ⟨#[41]⟩)]) : List KT).length = 4 := by simp [e3]
        rw [deep_2, e4, hl, show a + 4 = a + 1 + 1 + 1 + 1 by omega]
        rw [show (1 + 1 : Nat) = 2 from rfl, ← hnil]
        exact rt_nil (by rw [is_of t0]; rfl) (by rw [is_of t0]; rfl) (by rw [is_of t0]; rfl)
end Go.Proofs.YtdehpgdffafebaaDoor
namespace Go.Proofs.YtdehpgdffafebaaDoor
open Go.Lib (decDigits itoa)
set_option linter.unusedVariables false
namespace Lx
open Wd Tk

/-- A list of bytes is these tokens, one behind the other. -/
inductive Is : List UInt8 → List (Nat × List UInt8) → Prop
  | fin {u : List UInt8} (h : sk false u = u.length) : Is u []
  | more {u : List UInt8} {ts : List (Nat × List UInt8)} (h : sk false u < u.length) (hk : (oneL (u.drop (sk false u))).1 ≠ 0) (hb : badB (oneL (u.drop (sk false u))).1 (oneL (u.drop (sk false u))).2 (u.drop (sk false u)) = false)
      (hr : Is ((u.drop (sk false u)).drop (oneL (u.drop (sk false u))).2) ts) : Is u (((oneL (u.drop (sk false u))).1, (u.drop (sk false u)).take (oneL (u.drop (sk false u))).2) :: ts)

def ptok (t : Tok) : Nat × List UInt8 := (t.kind, t.text.data.toList)
theorem Is.toks {u : List UInt8} {ts : List (Nat × List UInt8)} (h : Is u ts) : ∀ (s : List UInt8) (p : Nat), s.drop p = u → p ≤ s.length → ∃ r, Toks s (p + sk false u) r ∧ r.map ptok = ts ++ [(0, [])] := by
  induction h with
  | fin h =>
    intro s p hs hp
    have hl := congrArg List.length hs
    rw [List.length_drop] at hl
    exact ⟨[endTok s], .fin (by omega), rfl⟩
  | @more u ts h hk hb hr ih =>
    intro s p hs hp
    have hl := congrArg List.length hs
    rw [List.length_drop] at hl
    obtain ⟨a, ha⟩ : ∃ a, a = p + sk false u := ⟨_, rfl⟩
    have hd : s.drop a = u.drop (sk false u) := by rw [ha, ← hs, List.drop_drop]
    have hle := oneL_le (u.drop (sk false u))
    rw [List.length_drop] at hle
    rw [← hd] at hk hb hr ih hle ⊢
    obtain ⟨r, h1, h2⟩ := ih s (a + (oneL (s.drop a)).2) (by rw [List.drop_drop]) (by omega)
    rw [List.drop_drop] at h1
    rw [← ha]
    refine ⟨tokAt s a :: r, .more (by omega) hk hb h1, ?_⟩
    rw [List.map_cons, h2]
    show (_, ((s.drop a).take (oneL (s.drop a)).2).toArray.toList) :: _ = _
    simp
    rfl

theorem skip {u : List UInt8} {ts : List (Nat × List UInt8)} (h : Is u ts) : Is (32 :: u) ts := by
  have h0 : sk false (32 :: u) = 1 + sk false u := by rw [sk_f, if_pos (by decide)]
  cases h with
  | fin h => exact .fin (by rw [h0, h, List.length_cons]; omega)
  | @more _ ts h hk hb hr =>
    have hd : (32 :: u).drop (sk false (32 :: u)) = u.drop (sk false u) := by rw [h0, Nat.add_comm, List.drop_succ_cons]
    rw [← hd] at hk hb hr ⊢
    exact .more (by rw [h0, List.length_cons]; omega) hk hb hr
/-- A token that stands first. -/
theorem tok {w u : List UInt8} {ts : List (Nat × List UInt8)} {k : Nat} (h0 : sk false (w ++ u) = 0) (hw : w ≠ []) (ho : oneL (w ++ u) = (k, w.length)) (hk : k ≠ 0) (hb : badB k w.length (w ++ u) = false) (h : Is u ts) : Is (w ++ u) ((k, w) :: ts) := by
  have hl : 0 < w.length := by cases w with | nil => exact absurd rfl hw | cons a b => simp
  have := Is.more (u := w ++ u) (ts := ts) (by rw [h0, List.length_append]; omega) (by rw [h0, List.drop_zero, ho]; exact hk) (by rw [h0, List.drop_zero, ho]; exact hb) (by rw [h0, List.drop_zero, ho]; simpa using h)
  rw [h0, List.drop_zero, ho] at this
  simpa using this

/-- What may stand behind a word. -/
def Safe (u : List UInt8) : Prop := u = [] ∨ ∃ b q, u = b :: q ∧ (b = 32 ∨ b = 41 ∨ b = 44)
theorem runL_app {p : UInt8 → Bool} : ∀ {w u : List UInt8}, (∀ b ∈ w, p b = true) → (u = [] ∨ ∃ b q, u = b :: q ∧ p b = false) → runL p (w ++ u) = w.length
  | [], u, _, h => by
    rcases h with rfl | ⟨b, q, rfl, h⟩
    · rfl
    · exact runL_no h
  | b :: w, u, hw, h => by
    rw [List.cons_append, runL_yes (hw b (List.mem_cons_self ..)), runL_app (fun c hc => hw c (List.mem_cons_of_mem _ hc)) h, List.length_cons]
    omega
theorem Safe.ok {u : List UInt8} (h : Safe u) : u = [] ∨ ∃ b q, u = b :: q ∧ okB b = false := by
  rcases h with h | ⟨b, q, h, hb⟩
  · exact .inl h
  · exact .inr ⟨b, q, h, by rcases hb with rfl | rfl | rfl <;> decide⟩
theorem Safe.dig {u : List UInt8} (h : Safe u) : u = [] ∨ ∃ b q, u = b :: q ∧ digB b = false := by
  rcases h with h | ⟨b, q, h, hb⟩
  · exact .inl h
  · exact .inr ⟨b, q, h, by rcases hb with rfl | rfl | rfl <;> decide⟩
theorem sk_no {b : UInt8} {t : List UInt8} (h1 : blankB b = false) (h2 : b ≠ 47) : sk false (b :: t) = 0 := by
  rw [sk_f, if_neg (by rw [h1]; simp), if_neg (fun h => h2 h.1)]
theorem let_not : ∀ b : UInt8, letB b = true → blankB b = false ∧ b ≠ 47 := by
  intro b h
  constructor
  · cases hb : blankB b with
    | false => rfl
    | true =>
      exfalso
      unfold letB isLetter at h
      unfold blankB isBlank at hb
      simp at h hb
      omega
  · rintro rfl
    revert h
    decide
theorem dig_not : ∀ b : UInt8, digB b = true → blankB b = false ∧ b ≠ 47 ∧ letB b = false := by
  intro b h
  refine ⟨?_, ?_, ?_⟩
  · cases hb : blankB b with
    | false => rfl
    | true =>
      exfalso
      unfold digB isDigit at h
      unfold blankB isBlank at hb
      simp at h hb
      omega
  · rintro rfl
    revert h
    decide
  · cases hb : letB b with
    | false => rfl
    | true =>
      exfalso
      unfold digB isDigit at h
      unfold letB isLetter at hb
      simp at h hb
      omega
theorem tx_app (w u : List UInt8) : Tk.tx (w ++ u) w.length = ⟨w.toArray⟩ := by unfold Tk.tx; rw [List.take_left' rfl]
/-- A name, or a word of the language, where something else stands behind it. -/
theorem more_word {w u : List UInt8} {ts : List (Nat × List UInt8)} {k : Nat} (hl : (w.head?.map letB).getD false = true) (ha : ∀ b ∈ w, okB b = true) (hk : k = if find ⟨w.toArray⟩ = 0 then 1 else 3) (h20 : k = 1 → w.length ≤ 20) (hu : u = [] ∨ ∃ b q, u = b :: q ∧ okB b = false) (h : Is u ts) : Is (w ++ u) ((k, w) :: ts) := by
  cases w with
  | nil => simp at hl
  | cons b t =>
    have hb : letB b = true := by simpa using hl
    obtain ⟨n1, n2⟩ := let_not b hb
    have hr : runL okB ((b :: t) ++ u) = (b :: t).length := runL_app ha hu
    have ho : oneL ((b :: t) ++ u) = (k, (b :: t).length) := by
      rw [List.cons_append, oneL_l hb, ← List.cons_append, hr, tx_app, hk]
    refine tok (by rw [List.cons_append]; exact sk_no n1 n2) (by simp) ho (by rw [hk]; split <;> decide) ?_ h
    unfold badB
    by_cases h1 : k = 1
    · have := h20 h1
      rw [h1]
      simp at this ⊢
      omega
    · have h3 : k = 3 := by rw [hk] at h1 ⊢; split at h1 <;> simp_all
      rw [h3]; rfl
theorem word {w u : List UInt8} {ts : List (Nat × List UInt8)} {k : Nat} (hl : (w.head?.map letB).getD false = true) (ha : ∀ b ∈ w, okB b = true) (hk : k = if find ⟨w.toArray⟩ = 0 then 1 else 3) (h20 : k = 1 → w.length ≤ 20) (hu : Safe u) (h : Is u ts) : Is (w ++ u) ((k, w) :: ts) :=
  more_word hl ha hk h20 hu.ok h
theorem numFrom_dig : ∀ (l : List UInt8) (a m : Nat), numFrom a l = some m → ∀ b ∈ l, digB b = true
  | [], _, _, _, b, hb => by cases hb
  | c :: r, a, m, h, b, hb => by
    rw [numFrom] at h
    split at h
    · rename_i hc
      cases hb with
      | head => exact hc
      | tail _ hb => exact numFrom_dig r _ m h b hb
    · cases h
/-- A number. -/
theorem num {w u : List UInt8} {ts : List (Nat × List UInt8)} (hn : (number ⟨w.toArray⟩).isSome = true) (hu : Safe u) (h : Is u ts) : Is (w ++ u) ((2, w) :: ts) := by
  have ha : ∀ b ∈ w, digB b = true := by
    unfold number at hn
    split at hn
    · cases hn
    · obtain ⟨m, hm⟩ := Option.isSome_iff_exists.1 hn
      exact numFrom_dig _ _ m (by simpa using hm)
  cases w with
  | nil => exact absurd hn (by decide)
  | cons b t =>
    obtain ⟨n1, n2, n3⟩ := dig_not b (ha b (List.mem_cons_self ..))
    have hr : runL digB ((b :: t) ++ u) = (b :: t).length := runL_app ha hu.dig
    have ho : oneL ((b :: t) ++ u) = (2, (b :: t).length) := by
      rw [List.cons_append, oneL_d (by rw [n3]; simp) (ha b (List.mem_cons_self ..)), ← List.cons_append, hr]
    refine tok (by rw [List.cons_append]; exact sk_no n1 n2) (by simp) ho (by decide) ?_ h
    unfold badB
    rw [tx_app]
    obtain ⟨m, hm⟩ := Option.isSome_iff_exists.1 hn
    rw [hm]
    rfl
/-- A sign. -/
theorem sign {w u : List UInt8} {ts : List (Nat × List UInt8)} (hw : w = [40] ∨ w = [41] ∨ w = [44] ∨ w = [33] ∨ w = [43] ∨ w = [45] ∨ w = [42] ∨ w = [60] ∨ w = [61, 61] ∨ w = [38, 38]) (h : Is u ts) : Is (w ++ u) ((4, w) :: ts) := by
  rcases hw with rfl | rfl | rfl | rfl | rfl | rfl | rfl | rfl | rfl | rfl
  all_goals exact tok (by rw [List.cons_append]; exact sk_no (by decide) (by decide)) (by simp) (by rfl) (by decide) (by rfl) h
end Lx
end Go.Proofs.YtdehpgdffafebaaDoor

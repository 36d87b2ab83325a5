/- The tokens of an expression's text: by induction on it; read by the plain function they are the expression. No function is walked here. Conditions: the text is at most 16384 bytes long.
What is read from a text's tokens may be, and ends ahead of the end. No function is walked here. Conditions: none.
How many expressions there are in one that may be, and what is told of their number. No function is walked here. Conditions: none. -/
import Derived.Test.YtdehpgdffafebaaDoorZaz
namespace Go.Proofs.YtdehpgdffafebaaDoor
open Go.RowKit
open Go.Lib (decDigits itoa)
set_option linter.unusedVariables false

def cv (t : KT) : Nat × List UInt8 := (t.1, t.2.data.toList)
theorem txB_list (e : E) : (txB e).data.toList = tx e := by simp [txB]
theorem ktB_list (e : E) (q : Int) : (ktB e q).data.toList = kt (tx e) (bindI e.kind) q := by simp [ktB]
/-- What is shown of an expression's text ahead of what may stand behind it. -/
def LxE (e : E) : Prop := ∀ (u : List UInt8) (ts : List (Nat × List UInt8)), Lx.Safe u → Lx.Is u ts → Lx.Is (tx e ++ u) ((tk e).map cv ++ ts)
theorem lx_kt {e : E} (h : LxE e) {q : Int} {u : List UInt8} {ts : List (Nat × List UInt8)} (hs : Lx.Safe u) (hu : Lx.Is u ts) : Lx.Is (kt (tx e) (bindI e.kind) q ++ u) ((kte e q).map cv ++ ts) := by
  by_cases hb : bindI e.kind < q
  · rw [kte_yes hb]
    unfold kt
    rw [if_pos hb]
    have h1 := Lx.sign (w := [41]) (.inr (.inl rfl)) hu
    have h2 := h _ _ (.inr ⟨41, u, rfl, .inr (.inl rfl)⟩) h1
    have h3 := Lx.sign (w := [40]) (.inl rfl) h2
    simpa [cv] using h3
  · rw [kte_no hb]
    unfold kt
    rw [if_neg hb]
    exact h u ts hs hu
theorem sgT_ways (k : Int) : (sgT k).data.toList = [43] ∨ (sgT k).data.toList = [45] ∨ (sgT k).data.toList = [42] ∨ (sgT k).data.toList = [60] ∨ (sgT k).data.toList = [61, 61] ∨ (sgT k).data.toList = [38, 38] := by
  unfold sgT
  repeat' split
  all_goals simp
theorem safe_32 (u : List UInt8) : Lx.Safe (32 :: u) := .inr ⟨32, u, rfl, .inl rfl⟩
theorem safe_41 (u : List UInt8) : Lx.Safe (41 :: u) := .inr ⟨41, u, rfl, .inr (.inl rfl)⟩
theorem safe_44 (u : List UInt8) : Lx.Safe (44 :: u) := .inr ⟨44, u, rfl, .inr (.inr rfl)⟩
theorem lx_all : ∀ (m : Nat) (e : E), E.count e ≤ m → E.form e = true → LxE e
  | 0, e, hm, _ => by have := E.count_pos e; omega
  | m + 1, .mk k n s c, hm, hf => by
    intro u ts hs hu
    rcases form_ways hf with ⟨rfl, rfl, h0, h1, rfl⟩ | ⟨rfl, rfl, rfl, h1⟩ | ⟨h1, rfl, _⟩ | ⟨x, y, h1, rfl, fx, fy, kx, ky, rfl, rfl⟩ | ⟨x, h1, rfl, fx, kx, rfl, rfl⟩
    · rw [tk_1, ← txB_list, txB_1]
      have hn : (Wd.number ⟨(itoa n).toArray⟩).isSome = true := by rw [number_itoa, decide_eq_true ⟨h0, h1⟩]
      simpa [cv] using Lx.num hn hs hu
    · rw [tk_2, ← txB_list, txB_2]
      unfold Wd.nameB at h1
      simp only [Bool.and_eq_true, decide_eq_true_eq, List.all_eq_true, beq_iff_eq] at h1
      obtain ⟨⟨⟨⟨g1, g2⟩, g3⟩, g4⟩, g5⟩ := h1
      have hl : (s.data.toList.head?.map Tk.letB).getD false = true := g3
      have hfd : Wd.find ⟨s.data.toList.toArray⟩ = 0 := by simpa using g5
      have := Lx.word (w := s.data.toList) (k := 1) hl g4 (by rw [if_pos hfd]) (fun _ => g2) hs hu
      simpa [cv] using this
    · rcases h1 with rfl | rfl | rfl
      · rw [tk_3, ← txB_list, txB_3]
        have := Lx.word (w := [116, 104, 105, 115]) (k := 3) (by decide) (by decide) (by decide +kernel) (by decide) hs hu
        simpa [cv, plT] using this
      · rw [tk_4, ← txB_list, txB_4]
        have := Lx.word (w := [110, 117, 108, 108]) (k := 3) (by decide) (by decide) (by decide +kernel) (by decide) hs hu
        simpa [cv, plT] using this
      · rw [tk_5, ← txB_list, txB_5]
        have := Lx.word (w := [105, 110, 112, 117, 116]) (k := 3) (by decide) (by decide) (by decide +kernel) (by decide) hs hu
        simpa [cv, plT] using this
    · have hcx : E.count x ≤ m := by rw [E.count, E.counts, E.counts] at hm; omega
      have hcy : E.count y ≤ m := by rw [E.count, E.counts, E.counts] at hm; have := E.count_pos x; omega
      have hx := lx_all m x hcx fx
      have hy := lx_all m y hcy fy
      by_cases h14 : k = 14
      · subst h14
        rw [tk_14, ← txB_list, txB_14]
        have l1 := Lx.sign (w := [41]) (.inr (.inl rfl)) hu
        have l2 := lx_kt hy (q := 5) (safe_41 u) l1
        have l3 := Lx.sign (w := [44]) (.inr (.inr (.inl rfl))) (Lx.skip l2)
        have l4 := lx_kt hx (q := 5) (safe_44 _) l3
        have l5 := Lx.sign (w := [40]) (.inl rfl) l4
        have hsafe := Lx.more_word (w := [115, 97, 109, 101]) (k := 3) (by decide) (by decide) (by decide +kernel) (by decide) (.inr ⟨40, _, rfl, by decide⟩) l5
        simpa [ba_app, ktB_list, cv] using hsafe
      · have hk : isSign k = true := by rcases h1 with rfl | rfl | rfl | rfl | rfl | rfl | rfl <;> first | rfl | exact absurd rfl h14
        rw [tk_sign k _ _ x y hk, ← txB_list, txB_sign k _ _ x y hk]
        have l1 := lx_kt hy (q := leastI k 1) hs hu
        have l2 := Lx.sign (w := (sgT k).data.toList) (by
          rcases sgT_ways k with h | h | h | h | h | h <;> rw [h] <;> simp) (Lx.skip l1)
        have l3 := lx_kt hx (q := leastI k 0) (safe_32 _) (Lx.skip l2)
        simpa [ba_app, ktB_list, cv] using l3
    · have hcx : E.count x ≤ m := by rw [E.count, E.counts] at hm; omega
      have hx := lx_all m x hcx fx
      rcases h1 with rfl | rfl
      · rw [tk_12, ← txB_list, txB_12]
        have l1 := lx_kt hx (q := 5) hs hu
        have l2 := Lx.sign (w := [33]) (.inr (.inr (.inr (.inl rfl)))) l1
        simpa [ba_app, ktB_list, cv] using l2
      · rw [tk_13, ← txB_list, txB_13]
        have l1 := Lx.sign (w := [41]) (.inr (.inl rfl)) hu
        have l4 := lx_kt hx (q := 5) (safe_41 _) l1
        have l5 := Lx.sign (w := [40]) (.inl rfl) l4
        have hsafe := Lx.more_word (w := [110, 105, 108]) (k := 3) (by decide) (by decide) (by decide +kernel) (by decide) (.inr ⟨40, _, rfl, by decide⟩) l5
        simpa [ba_app, ktB_list, cv] using hsafe

/-- The tokens of the text, if it is not too long. -/
theorem text_toks (e : E) (hf : E.form e = true) (hl : (tx e).length ≤ 16384) : ∃ r, Tk.ofL (tx e) = .ok r ∧ r.map Lx.ptok = (tk e).map cv ++ [(0, [])] := by
  have h := lx_all (E.count e) e (Nat.le_refl _) hf [] [] (.inl rfl) (.fin rfl)
  rw [List.append_nil, List.append_nil] at h
  obtain ⟨r, h1, h2⟩ := h.toks (tx e) 0 (by rw [List.drop_zero]) (Nat.zero_le _)
  rw [Nat.zero_add] at h1
  exact ⟨r, Tk.toks_ofL hl h1, h2⟩
theorem mat_of {r : List Tk.Tok} {ts : List KT} (h : r.map Lx.ptok = ts.map cv ++ [(0, [])]) : r.length = ts.length + 1 ∧ Mat (r.map Gt.ofTok) 0 ts ∧ (tokN (r.map Gt.ofTok) ts.length).kind = 0 := by
  have hl : r.length = ts.length + 1 := by
    have := congrArg List.length h
    simpa using this
  refine ⟨hl, fun i t ht => ?_, ?_⟩
  · have hi : i < ts.length := (List.getElem?_eq_some_iff.1 ht).1
    have h1 : (r.map Lx.ptok)[i]? = some (cv t) := by
      rw [h, List.getElem?_append_left (by simpa using hi), List.getElem?_map, ht]
      rfl
    rw [List.getElem?_map] at h1
    obtain ⟨x, hx, hxe⟩ := Option.map_eq_some_iff.1 h1
    rw [Nat.zero_add]
    unfold tokN
    rw [List.getElem?_map, hx]
    have e1 : x.kind = t.1 := congrArg Prod.fst hxe
    have e2 : x.text.data.toList = t.2.data.toList := congrArg Prod.snd hxe
    exact ⟨congrArg (fun n : Nat => (n : Int)) e1, ba_ext e2⟩
  · have h1 : (r.map Lx.ptok)[ts.length]? = some (0, []) := by
      rw [h, List.getElem?_append_right (by simp)]
      simp
    rw [List.getElem?_map] at h1
    obtain ⟨x, hx, hxe⟩ := Option.map_eq_some_iff.1 h1
    unfold tokN
    rw [List.getElem?_map, hx]
    have e1 : x.kind = 0 := congrArg Prod.fst hxe
    exact congrArg (fun n : Nat => (n : Int)) e1
theorem ne_loop {l : List Gt} {f : Nat} {b : Int} {r : Nat} {pr : Pr} (h : NE (loopP l f b r pr)) : NE pr := by
  cases pr with
  | ok e d a => exact .ok
  | err x p =>
    cases f with
    | zero => exact absurd rfl (h 0 0 (by unfold loopP; rfl))
    | succ f => unfold loopP at h; exact h
theorem ne_not {l : List Gt} {a : Nat} {pr : Pr} (h : NE (notP l a pr)) : NE pr := by
  cases pr with
  | ok e d a => exact .ok
  | err x p => exact h
theorem ne_bracket {l : List Gt} {pr : Pr} (h : NE (bracketP l pr)) : NE pr := by
  cases pr with
  | ok e d a => exact .ok
  | err x p => exact h
theorem ne_join {t : Gt} {k : Int} {e : E} {d : Nat} {pr : Pr} (h : NE (joinQ t k e d pr)) : NE pr := by
  cases pr with
  | ok e d a => exact .ok
  | err x p => exact h
/-- With fuel that suffices more changes nothing. -/
theorem more_fuel (l : List Gt) : ∀ f, (∀ b a r, NE (boundP l f b a r) → boundP l (f + 1) b a r = boundP l f b a r) ∧ (∀ a r, NE (tightP l f a r) → tightP l (f + 1) a r = tightP l f a r) ∧ (∀ b r pr, NE (loopP l f b r pr) → loopP l (f + 1) b r pr = loopP l f b r pr) := by
  intro f
  induction f with
  | zero =>
    refine ⟨fun b a r h => ?_, fun a r h => ?_, fun b r pr h => ?_⟩
    · exact absurd rfl (h 0 0 (by unfold boundP; rfl))
    · exact absurd rfl (h 0 0 (by unfold tightP; rfl))
    · exact absurd rfl (h 0 0 (by unfold loopP; rfl))
  | succ f ih =>
    obtain ⟨hB, hT, hL⟩ := ih
    refine ⟨fun b a r h => ?_, fun a r h => ?_, fun b r pr h => ?_⟩
    · rw [boundP.eq_def l (f + 1)] at h
      rw [boundP.eq_def l (f + 1 + 1), boundP.eq_def l (f + 1)]
      dsimp only at h ⊢
      by_cases h5 : 5 ≤ b
      · rw [if_pos h5] at h ⊢
        rw [if_pos h5]
        exact hT a r h
      · rw [if_neg h5] at h ⊢
        rw [if_neg h5, hB _ _ _ (ne_loop h)]
        exact hL _ _ _ h
    · have hw : ∀ (bb : Int), (r ≠ 20 → NE (boundP l f bb (a + 1) (r + 1))) → withinP l a r (boundP l (f + 1) bb (a + 1) (r + 1)) = withinP l a r (boundP l f bb (a + 1) (r + 1)) := fun bb hh => by
        unfold withinP
        by_cases h20 : r = 20
        · rw [if_pos h20, if_pos h20]
        · rw [if_neg h20, if_neg h20, hB _ _ _ (hh h20)]
      have hwi : ∀ (pr : Pr), r ≠ 20 → NE (withinP l a r pr) → NE pr := fun pr hh h => by
        unfold withinP at h
        rwa [if_neg hh] at h
      rw [tightP.eq_def l (f + 1)] at h
      rw [tightP.eq_def l (f + 1 + 1), tightP.eq_def l (f + 1)]
      dsimp only at h ⊢
      by_cases h1 : (tokN l a).is ⟨#[33]⟩ = true
      · rw [if_pos h1] at h ⊢
        rw [if_pos h1, hw 5 (fun h20 => hwi _ h20 (ne_not h))]
      · rw [if_neg h1] at h ⊢
        rw [if_neg h1]
        by_cases h2 : (tokN l a).is ⟨#[40]⟩ = true
        · rw [if_pos h2] at h ⊢
          rw [if_pos h2, hw 1 (fun h20 => hwi _ h20 (ne_bracket h))]
        · rw [if_neg h2, if_neg h2]
    · cases pr with
      | err x p => unfold loopP; rfl
      | ok e d a =>
        rw [loopP.eq_def l (f + 1)] at h
        rw [loopP.eq_def l (f + 1 + 1), loopP.eq_def l (f + 1)]
        dsimp only at h ⊢
        cases hs : signAt (tokN l a) b with
        | none => rfl
        | some s =>
          rw [hs] at h
          dsimp only at h ⊢
          cases hc : s.chain with
          | true =>
            simp only [hc, if_true] at h ⊢
            rw [hB _ _ _ (ne_join (ne_loop h))]
            exact hL _ _ _ h
          | false =>
            simp only [hc] at h ⊢
            simp only [Bool.false_eq_true, if_false] at h ⊢
            rw [hB _ _ _ (ne_join h)]
/-- What was written is read: the whole expression, and nothing behind it. -/
theorem text_back (e : E) (hr : E.right e = true) (hl : (tx e).length ≤ 16384) : ∃ r d, Tk.ofL (tx e) = .ok r ∧ parseP (r.map Gt.ofTok) = .ok e d (r.length - 1) := by
  unfold E.right at hr
  simp only [Bool.and_eq_true, decide_eq_true_eq] at hr
  obtain ⟨r, h1, h2⟩ := text_toks e hr.1 hl
  obtain ⟨h3, h4, h5⟩ := mat_of h2
  refine ⟨r, E.deep e, h1, ?_⟩
  have hnq : ¬ bindI e.kind < 1 := by
    rcases bind_ways e.kind with ⟨_, h, _⟩ | ⟨_, h⟩ <;> omega
  have hm : Mat (r.map Gt.ofTok) 0 (kte e 1) := by rw [kte_no hnq]; exact h4
  have heb : 1 ≤ eb e 1 := by unfold eb; split <;> omega
  have hns := fun b => no_sign (t := tokN (r.map Gt.ofTok) (0 + (kte e 1).length)) (x := ⟨#[41]⟩) (.inl (by rw [kte_no hnq, Nat.zero_add]; exact h5)) b
  obtain ⟨f0, hf⟩ := (back_all _ e (Nat.le_refl _) hr.1).ok (q := 1) (b := 1) (by omega) hm (r := 0) (by omega) (by omega) (by omega) heb (fun b' _ _ => hns b') (fun _ => hns 2)
  have hne := (all_ne (r.map Gt.ofTok) (12 * (r.map Gt.ofTok).length + 12)).1 1 0 0 (by omega) (by omega) (by omega)
  have hmore : ∀ k, boundP (r.map Gt.ofTok) (12 * (r.map Gt.ofTok).length + 12 + k) 1 0 0 = parseP (r.map Gt.ofTok) := by
    intro k
    induction k with
    | zero => rfl
    | succ k ih =>
      have := (more_fuel (r.map Gt.ofTok) (12 * (r.map Gt.ofTok).length + 12 + k)).1 1 0 0 (by rw [ih]; exact hne)
      rw [← ih]
      exact this
  rw [← hmore f0, hf _ (by omega), kte_no hnq, Nat.zero_add, h3]
  rfl
end Go.Proofs.YtdehpgdffafebaaDoor
namespace Go.Proofs.YtdehpgdffafebaaDoor
open Go.RowKit
open Go.Lib (decDigits itoa)
set_option linter.unusedVariables false

/-- Tokens as a text has them: names are names, and an end stands last. -/
structure Fine (l : List Gt) : Prop where
  names : ∀ i, (tokN l i).kind = 1 → Wd.nameB (tokN l i).text = true
  last : ∀ i, l.length ≤ i + 1 → (tokN l i).kind = 0
section
variable {l : List Gt} (hl : Fine l)
include hl
theorem Fine.tok {a : Nat} (h : (tokN l a).kind ≠ 0) : a + 2 ≤ l.length := by
  rcases Nat.lt_or_ge (a + 1) l.length with g | g
  · omega
  · exact absurd (hl.last a g) h
theorem Fine.is {a : Nat} {s : ByteArray} (h : (tokN l a).is s = true) : a + 2 ≤ l.length := by
  refine hl.tok (fun h0 => ?_)
  unfold Gt.is at h
  rw [h0] at h
  simp at h
theorem Fine.plain {a : Nat} {k n : Int} {s : ByteArray} (h : plainE (tokN l a) = some (k, n, s)) : a + 2 ≤ l.length ∧ E.form (.mk k n s []) = true := by
  constructor
  · refine hl.tok (fun h0 => ?_)
    unfold plainE at h
    rw [if_neg (by omega), if_neg (by omega)] at h
    have hn : ∀ s, (tokN l a).is s = false := fun s => by unfold Gt.is; rw [h0]; simp
    simp [hn] at h
  · unfold plainE at h
    split at h
    · rename_i h1
      have := hl.names a h1
      cases h
      rw [E.form, E.forms]
      simpa [E.isKind, E.kidsN, E.selfR] using this
    · split at h
      · cases hn : Wd.number (tokN l a).text with
        | none => rw [hn] at h; cases h
        | some m =>
          rw [hn] at h
          cases h
          have := Wd.num_bound _ m hn
          rw [E.form, E.forms]
          simp [E.isKind, E.kidsN, E.selfR]
          omega
      · split at h
        · cases h; rfl
        · split at h
          · cases h; rfl
          · split at h
            · cases h; rfl
            · cases h
omit hl
/-- What is read may be, and ends behind its first token, ahead of the end. -/
def Gd (l : List Gt) (a : Nat) (pr : Pr) : Prop := ∀ e d a', pr = .ok e d a' → a < a' ∧ a' + 1 ≤ l.length ∧ d ≤ 20 ∧ E.form e = true ∧ E.deep e = d
theorem Gd.err {a : Nat} {x p : Int} : Gd l a (.err x p) := fun e d a' h => by cases h
theorem Gd.le {a b : Nat} {pr : Pr} (h : Gd l b pr) (hab : a ≤ b) : Gd l a pr := fun e d a' hh => by
  obtain ⟨h1, h2⟩ := h e d a' hh
  exact ⟨by omega, h2⟩
include hl
theorem gd_want {a b : Nat} {s : ByteArray} {next : Nat → Pr} (h : b + 2 ≤ l.length → Gd l a (next (b + 1))) : Gd l a (wantP l b s next) := by
  unfold wantP
  split
  · exact h (hl.is (by assumption))
  · exact .err
theorem gd_bare {k : Int} {a : Nat} {e : E} {d a' : Nat} (h : bareP k l a = .ok e d a') : a' = a + 1 ∧ a + 2 ≤ l.length ∧ d = 1 ∧ E.form e = true ∧ E.deep e = 1 ∧ E.kidOk k e.kind = true := by
  unfold bareP at h
  cases hp : plainE (tokN l a) with
  | none => rw [hp] at h; cases h
  | some y =>
    obtain ⟨kk, n, s⟩ := y
    rw [hp] at h
    dsimp only at h
    split at h
    · cases h
      obtain ⟨h1, h2⟩ := hl.plain hp
      exact ⟨rfl, h1, rfl, h2, deep_1 _ _ _, by assumption⟩
    · cases h
theorem gd_nil (a : Nat) : Gd l a (nilP l a) := by
  unfold nilP
  refine gd_want hl fun h1 => ?_
  cases hb : bareP 13 l (a + 1 + 1) with
  | err x p => exact .err
  | ok e d a2 =>
    obtain ⟨rfl, h2, rfl, h3, h4, h5⟩ := gd_bare hl hb
    refine gd_want hl fun h6 => ?_
    intro e' d a' h
    cases h
    refine ⟨by omega, by omega, by omega, ?_, by rw [deep_2, h4]⟩
    rw [E.form, E.forms, E.forms, h3, h5]
    rfl
theorem gd_same (a : Nat) : Gd l a (sameP l a) := by
  unfold sameP
  refine gd_want hl fun h1 => ?_
  cases hb : bareP 14 l (a + 1 + 1) with
  | err x p => exact .err
  | ok e d a2 =>
    obtain ⟨rfl, h2, rfl, h3, h4, h5⟩ := gd_bare hl hb
    unfold thenP
    dsimp only
    refine gd_want hl fun h6 => ?_
    cases hb2 : bareP 14 l (a + 1 + 1 + 1 + 1) with
    | err x p => exact .err
    | ok e2 d2 a4 =>
      obtain ⟨rfl, h7, rfl, h8, h9, h10⟩ := gd_bare hl hb2
      refine gd_want hl fun h11 => ?_
      intro e' d a' h
      cases h
      refine ⟨by omega, by omega, by decide, ?_, by rw [deep_3, h4, h9]⟩
      rw [E.form, E.forms, E.forms, E.forms, h3, h5, h8, h10]
      rfl
theorem gd_plain (a : Nat) : Gd l a (plainP l a) := by
  unfold plainP
  cases hp : plainE (tokN l a) with
  | none => exact .err
  | some y =>
    obtain ⟨k, n, s⟩ := y
    intro e d a' h
    cases h
    obtain ⟨h1, h2⟩ := hl.plain hp
    exact ⟨by omega, by omega, by decide, h2, deep_1 _ _ _⟩
omit hl
theorem gd_not {a : Nat} {pr : Pr} (h : Gd l (a + 1) pr) : Gd l a (notP l a pr) := by
  unfold notP notQ
  cases pr with
  | err x p => exact .err
  | ok e d a2 =>
    dsimp only
    split
    · exact .err
    · intro e' d' a' hh
      obtain ⟨h1, h2, h3, h4, h5⟩ := h e d a2 rfl
      cases hh
      refine ⟨by omega, h2, by omega, ?_, by rw [deep_2, h5]⟩
      rw [E.form, E.forms, E.forms, h4]
      simp [E.isKind, E.kidsN, E.selfR, E.kidOk]
include hl
theorem gd_bracket {a : Nat} {pr : Pr} (h : Gd l (a + 1) pr) : Gd l a (bracketP l pr) := by
  cases pr with
  | err x p => exact .err
  | ok e d a2 =>
    obtain ⟨h1, h2, h3⟩ := h e d a2 rfl
    simp only [bracketP]
    split
    · rename_i hs
      have := hl.is hs
      intro e' d' a' hh
      cases hh
      exact ⟨by omega, by omega, h3⟩
    · exact .err
omit hl
theorem gd_within {a b r : Nat} {pr : Pr} (h : Gd l a pr) : Gd l a (withinP l b r pr) := by
  unfold withinP
  split
  · exact .err
  · exact h
theorem gd_join {a : Nat} {t : Gt} {k : Int} {e : E} {d : Nat} {pr : Pr} (hk : 6 ≤ k ∧ k ≤ 11) (h0 : E.form e = true ∧ E.deep e = d) (h : Gd l a pr) : Gd l a (joinQ t k e d pr) := by
  cases pr with
  | err x p => exact .err
  | ok e2 d2 a2 =>
    obtain ⟨h1, h2, h3, h4, h5⟩ := h e2 d2 a2 rfl
    simp only [joinQ]
    split
    · exact .err
    · intro e' d' a' hh
      cases hh
      refine ⟨by omega, by omega, by omega, ?_, by rw [deep_3, h0.2, h5]⟩
      have hkk : ∀ kk, E.kidOk k kk = true := fun kk => by
        unfold E.kidOk
        rw [decide_eq_false (by omega : ¬ k = 13), decide_eq_false (by omega : ¬ k = 14)]
        rfl
      rw [E.form, E.forms, E.forms, E.forms, h0.1, h4, hkk, hkk]
      unfold E.selfR
      rw [if_neg (by omega), if_neg (by omega)]
      simp [E.isKind, E.kidsN]
      omega
theorem signAt_kind {t : Gt} {b : Int} {s : Sg} (h : signAt t b = some s) : 6 ≤ s.kind ∧ s.kind ≤ 11 := by
  have hm := List.mem_of_find?_eq_some h
  simp only [sgL, List.mem_cons, List.not_mem_nil, or_false] at hm
  rcases hm with rfl | rfl | rfl | rfl | rfl | rfl <;> decide
include hl
theorem all_good : ∀ f, (∀ b a r, Gd l a (boundP l f b a r)) ∧ (∀ a r, Gd l a (tightP l f a r)) ∧ (∀ b r pr a, Gd l a pr → Gd l a (loopP l f b r pr)) := by
  intro f
  induction f with
  | zero =>
    refine ⟨fun b a r => ?_, fun a r => ?_, fun b r pr a h => ?_⟩
    · unfold boundP; exact .err
    · unfold tightP; exact .err
    · unfold loopP; exact .err
  | succ f ih =>
    obtain ⟨hB, hT, hL⟩ := ih
    refine ⟨fun b a r => ?_, fun a r => ?_, fun b r pr a h => ?_⟩
    · unfold boundP
      split
      · exact hT a r
      · exact hL _ _ _ _ (hB _ _ _)
    · unfold tightP
      split
      · exact gd_not (gd_within (hB _ _ _))
      · split
        · exact gd_bracket hl (gd_within (hB _ _ _))
        · split
          · exact gd_nil hl a
          · split
            · exact gd_same hl a
            · exact gd_plain hl a
    · cases pr with
      | err x p => unfold loopP; exact .err
      | ok e d a0 =>
        obtain ⟨h1, h2, h3, h4, h5⟩ := h e d a0 rfl
        unfold loopP
        split
        · intro e' d' a' hh
          cases hh
          exact ⟨h1, h2, h3, h4, h5⟩
        · rename_i s hs
          have hj : ∀ bb, Gd l a (joinQ (tokN l a0) s.kind e d (boundP l f bb (a0 + 1) r)) := fun bb => (gd_join (signAt_kind hs) ⟨h4, h5⟩ (hB bb (a0 + 1) r)).le (by omega)
          split
          · exact hL _ _ _ _ (hj _)
          · exact hj _
theorem parse_good {e : E} {d a : Nat} (h : parseP l = .ok e d a) : 1 ≤ a ∧ a + 1 ≤ l.length ∧ E.right e = true := by
  obtain ⟨h1, h2, h3, h4, h5⟩ := (all_good hl _).1 1 0 0 e d a h
  refine ⟨by omega, h2, ?_⟩
  unfold E.right
  rw [h4, decide_eq_true (by omega)]
  rfl
end
/-- The tokens of a text are so. -/
theorem toks_names {s : List UInt8} {a : Nat} {r : List Tk.Tok} (h : Tk.Toks s a r) : ∀ t ∈ r, t.kind = 1 → Wd.nameB t.text = true := by
  induction h with
  | fin h =>
    intro t ht hk
    simp at ht
    subst ht
    cases hk
  | @more a r h hk hb hr ih =>
    intro t ht h1
    rcases List.mem_cons.1 ht with rfl | ht
    · have h1' : (Tk.oneL (s.drop a)).1 = 1 := h1
      obtain ⟨v, hv⟩ : ∃ v, v = s.drop a := ⟨_, rfl⟩
      show Wd.nameB (Tk.tx (s.drop a) (Tk.oneL (s.drop a)).2) = true
      rw [← hv] at hb h1' ⊢
      cases v with
      | nil => cases h1'
      | cons b t =>
        rcases Tk.oneL_ways b t with ⟨hl, ho⟩ | h
        · rw [ho] at h1' hb ⊢
          dsimp only at h1' hb ⊢
          have hf : Wd.find (Tk.tx (b :: t) (Tk.runL Wd.okB (b :: t))) = 0 := by
            split at h1'
            · assumption
            · cases h1'
          rw [if_pos hf] at hb
          have h20 : Tk.runL Wd.okB (b :: t) ≤ 20 := by
            unfold Tk.badB at hb
            simp at hb
            omega
          have hok : Tk.runL Wd.okB (b :: t) = 1 + Tk.runL Wd.okB t := Tk.runL_yes (Tk.okB_let hl)
          have htk := Tk.takeWhile_take Wd.okB (b :: t)
          have hsz := Tk.tx_size (b :: t) (Tk.runL Wd.okB (b :: t)) (Tk.runL_le _ _)
          have hlist : (Tk.tx (b :: t) (Tk.runL Wd.okB (b :: t))).data.toList = (b :: t).takeWhile Wd.okB := by
            unfold Tk.tx
            rw [htk]
          unfold Wd.nameB
          rw [hf, hsz, hlist, List.takeWhile_cons, if_pos (Tk.okB_let hl)]
          have hall : (List.takeWhile Wd.okB t).all Wd.okB = true := List.all_takeWhile
          have hlet : Wd.isLetter (b.toNat : Int) = true := hl
          simp [hall, hlet, Tk.okB_let hl]
          omega
        · exfalso
          rcases h with ⟨_, _, ho⟩ | h
          · rw [ho] at h1'; cases h1'
          · rcases h with ⟨_, _, _, ho⟩ | ⟨_, _, _, ho⟩ <;> (rw [ho] at h1'; cases h1')
    · exact ih t ht h1
theorem fine_of {s : List UInt8} {r : List Tk.Tok} (h : Tk.ofL s = .ok r) : Fine (r.map Gt.ofTok) := by
  obtain ⟨_, ht⟩ := Tk.ofL_toks h
  have hn := toks_names ht
  have hla := Tk.toks_last ht
  refine ⟨fun i hi => ?_, fun i hi => ?_⟩
  · unfold tokN at hi ⊢
    rw [List.getElem?_map] at hi ⊢
    cases hr : r[i]? with
    | none => rw [hr] at hi; cases hi
    | some t =>
      rw [hr] at hi
      have hk : (t.kind : Int) = 1 := hi
      exact hn t (List.mem_of_getElem? hr) (by omega)
  · rw [List.length_map] at hi
    unfold tokN
    rw [List.getElem?_map]
    cases hr : r[i]? with
    | none => rfl
    | some t =>
      have hil : i < r.length := (List.getElem?_eq_some_iff.1 hr).1
      rw [List.getLast?_eq_getElem?, show r.length - 1 = i by omega, hr] at hla
      cases hla
      rfl
end Go.Proofs.YtdehpgdffafebaaDoor
namespace Go.Proofs.YtdehpgdffafebaaDoor
open Go.RowKit
set_option linter.unusedVariables false

mutual
theorem right_count : ∀ (e : E) (d : Nat), E.form e = true → E.deep e ≤ d → E.count e + 1 ≤ 2 ^ d
  | .mk k n s l, d, hf, hd => by
    rw [E.deep] at hd
    obtain ⟨d, rfl⟩ : ∃ d', d = d' + 1 := ⟨d - 1, by omega⟩
    have hf' := hf
    rw [E.form] at hf
    simp only [Bool.and_eq_true, decide_eq_true_eq] at hf
    have hl : l.length ≤ 2 := by
      have := hf.2.1
      unfold E.kidsN at this
      split at this
      · omega
      · split at this <;> omega
    have h := right_counts k l d hf.2.2.2 (by omega)
    have h1 : l.length * 2 ^ d ≤ 2 * 2 ^ d := Nat.mul_le_mul hl (Nat.le_refl _)
    have h2 : 1 ≤ 2 ^ d := Nat.one_le_two_pow
    rw [E.count, Nat.pow_succ]
    cases l with
    | nil => rw [E.counts]; omega
    | cons a r =>
      simp only [List.length_cons] at h h1 hl
      cases r with
      | nil => simp at h; omega
      | cons b q =>
        have : q = [] := by simpa using hl
        subst this
        simp at h
        omega
theorem right_counts (k : Int) : ∀ (l : List E) (d : Nat), E.forms k l = true → E.deeps l ≤ d → E.counts l + l.length ≤ l.length * 2 ^ d
  | [], d, _, _ => by rw [E.counts]; simp
  | e :: r, d, hf, hd => by
    rw [E.forms] at hf
    simp only [Bool.and_eq_true] at hf
    rw [E.deeps] at hd
    have h1 := right_count e d hf.2.1 (by omega)
    have h2 := right_counts k r d hf.2.2 (by omega)
    rw [E.counts, List.length_cons, Nat.add_mul]
    omega
end
mutual
theorem sz_few : ∀ e : E, E.count e ≤ 4611686018427387904 → 1 ≤ sz e ∧ sz e ≤ E.count e ∧ (sz e < 1000 → sz e = E.count e)
  | .mk k n s l, h => by
    rw [E.count] at h
    have := szl_few l 1 (by omega) (by omega) (by omega)
    rw [sz, E.count]
    omega
theorem szl_few : ∀ (l : List E) (n : Int), 1 ≤ n → n + E.counts l ≤ 9223372036854775807 → E.counts l ≤ 4611686018427387904 → n ≤ szs n (szl l) ∧ szs n (szl l) ≤ n + E.counts l ∧ (szs n (szl l) < 1000 → szs n (szl l) = n + E.counts l)
  | [], n, h1, h2, h3 => by
    rw [szl, szs, E.counts]
    omega
  | e :: r, n, h1, h2, h3 => by
    rw [E.counts] at h2 h3
    by_cases hn : n < 1000
    · have he := sz_few e (by omega)
      have hr := szl_few r (n + sz e) (by omega) (by omega) (by omega)
      have hw : wrap64 (n + sz e) = n + sz e := by
        unfold wrap64
        omega
      rw [szl, szs, if_pos hn, hw, E.counts]
      omega
    · rw [szs_full hn, E.counts]
      omega
end
theorem small_text {e : E} (hr : E.right e = true) (hs : sz e ≤ 200) : E.count e ≤ 1048576 ∧ (tx e).length ≤ 16384 := by
  unfold E.right at hr
  simp only [Bool.and_eq_true, decide_eq_true_eq] at hr
  have h1 := right_count e 20 hr.1 hr.2
  have h2 := sz_few e (by omega)
  have h3 := tx_len e hr.1
  constructor <;> omega
end Go.Proofs.YtdehpgdffafebaaDoor

/- The pure walk, first part: what a slot holds, told without memory (lists, structs, the function's own variables), and how a world bears it. Conditions: none. -/
import Derived.WalkKit
import Derived.Below
import Derived.Maps.AppendAt
import Derived.Deep.MidRow
import Derived.Great.BuildSlice
import Derived.Laws.Tables
import Derived.Laws.Rows
import Derived.Orders
namespace Go.Proofs.YtjghgpmkepfdhaaGreatDoor
open Go.RowKit
set_option linter.unusedVariables false

/-- What a slot holds, told without memory. -/
inductive AV where
  | sc (v : Value)
  | nl
  | ls (own : Option Nat) (rows : List (List AV))
  | ag (cs : List AV)
  | tp (vs : List AV)
  | pt (t : Nat) (off : Nat)
  | pr (cs : List AV)
  | fn (k : Fn) (ks cs : List AV)
  | un
  deriving Inhabited

/-- One cell that bears what it should, in memory that stays. -/
inductive RC (w : World) (S : Nat → Nat → Prop) : Value → AV → Prop
  | sc (v : Value) (h : v.oneCell' = true) : RC w S v (.sc v)
  | nl : RC w S (.slice none 0 0) .nl
  | un (v : Value) (h : v.oneCell' = true) : RC w S v .un
  | e (A : Option Addr) (c : Nat) : RC w S (.slice A 0 c) (.ls none [])
  | ls (b o n c k : Nat) (rows : List (List AV)) (f : Nat → Nat → Value) (hn : rows.length = n) (hc : n ≤ c) (hm : c ≤ maxLen) (hk : ∀ (i : Nat) r, rows[i]? = some r → r.length = k)
      (h1 : ∀ i j, i < n → j < k → S b (o + (i * k + j)) ∧ w.cell? ⟨b, o + (i * k + j), none⟩ = some (f i j))
      (h2 : ∀ (i j : Nat) r x, rows[i]? = some r → r[j]? = some x → RC w S (f i j) x) : RC w S (.slice (some ⟨b, o, none⟩) n c) (.ls none rows)
  | pr (b o n : Nat) (xs : List AV) (f : Nat → Value) (hn : xs.length = n) (h1 : ∀ j, j < n → S b (o + j) ∧ w.cell? ⟨b, o + j, none⟩ = some (f j)) (h2 : ∀ (j : Nat) x, xs[j]? = some x → RC w S (f j) x) : RC w S (.pointer (some ⟨b, o, none⟩)) (.pr xs)
  | fn (k : Fn) (vs cs : List Value) (ks xs : List AV) (g f : Nat → Value) (hm : ks.length = vs.length) (h3 : ∀ j, j < vs.length → vs[j]? = some (g j)) (h4 : ∀ (j : Nat) x, ks[j]? = some x → RC w S (g j) x) (hn : xs.length = cs.length) (h1 : ∀ j, j < cs.length → cs[j]? = some (f j)) (h2 : ∀ (j : Nat) x, xs[j]? = some x → RC w S (f j) x) : RC w S (.func k vs.toArray cs.toArray) (.fn k ks xs)

theorem RC.mono {w w' : World} {S S' : Nat → Nat → Prop} {v : Value} {x : AV} (h : RC w S v x) (hs : ∀ b o, S b o → S' b o) (hw : ∀ b o, S b o → w'.cell? ⟨b, o, none⟩ = w.cell? ⟨b, o, none⟩) : RC w' S' v x := by
  induction h with
  | sc v h => exact .sc v h
  | nl => exact .nl
  | un v h => exact .un v h
  | e A c => exact .e A c
  | ls b o n c k rows f hn hc hm hk h1 h2 ih =>
    exact .ls b o n c k rows f hn hc hm hk (fun i j hi hj => ⟨hs _ _ (h1 i j hi hj).1, (hw _ _ (h1 i j hi hj).1).trans (h1 i j hi hj).2⟩) ih
  | pr b o n xs f hn h1 h2 ih => exact .pr b o n xs f hn (fun j hj => ⟨hs _ _ (h1 j hj).1, (hw _ _ (h1 j hj).1).trans (h1 j hj).2⟩) ih
  | fn k vs cs ks xs g f hm h3 h4 hn h1 h2 ih4 ih2 => exact .fn k vs cs ks xs g f hm h3 ih4 hn h1 ih2
theorem RC.one {w : World} {S : Nat → Nat → Prop} {v : Value} {x : AV} (h : RC w S v x) : v.oneCell' = true := by
  cases h <;> first | assumption | rfl

/-- Values, one by one. -/
def RL (R : Value → AV → Prop) (cs : List Value) (xs : List AV) : Prop := cs.length = xs.length ∧ ∀ (j : Nat) v x, cs[j]? = some v → xs[j]? = some x → R v x
theorem RL.imp {R R' : Value → AV → Prop} {cs : List Value} {xs : List AV} (h : RL R cs xs) (hi : ∀ v x, R v x → R' v x) : RL R' cs xs := ⟨h.1, fun j v x hv hx => hi _ _ (h.2 j v x hv hx)⟩
theorem RL.map {R R' : Value → AV → Prop} {cs : List Value} {xs : List AV} (g : AV → AV) (h : RL R cs xs) (hi : ∀ v x, R v x → R' v (g x)) : RL R' cs (xs.map g) := ⟨by simpa using h.1, fun j v x hv hx => by
  rw [List.getElem?_map] at hx
  cases hj : xs[j]? with
  | none => rw [hj] at hx; cases hx
  | some y =>
    rw [hj] at hx
    cases hx
    exact hi _ _ (h.2 j v y hv hj)⟩
theorem RL.nil {R : Value → AV → Prop} : RL R [] [] := ⟨rfl, fun j v x h => by simp at h⟩
theorem RL.cons {R : Value → AV → Prop} {c : Value} {cs : List Value} {x : AV} {xs : List AV} (h : R c x) (hs : RL R cs xs) : RL R (c :: cs) (x :: xs) := ⟨by simp [hs.1], fun j v y hv hy => by
  cases j with
  | zero => simp at hv hy; subst hv; subst hy; exact h
  | succ j => exact hs.2 j v y (by simpa using hv) (by simpa using hy)⟩
theorem RL.app {R : Value → AV → Prop} {cs ds : List Value} {xs ys : List AV} (h : RL R cs xs) (h' : RL R ds ys) : RL R (cs ++ ds) (xs ++ ys) := ⟨by simp [h.1, h'.1], fun j v x hv hx => by
  rcases Nat.lt_or_ge j cs.length with hj | hj
  · rw [List.getElem?_append_left hj] at hv
    rw [List.getElem?_append_left (by rw [← h.1]; exact hj)] at hx
    exact h.2 j v x hv hx
  · rw [List.getElem?_append_right hj] at hv
    rw [List.getElem?_append_right (by rw [← h.1]; exact hj), ← h.1] at hx
    exact h'.2 _ v x hv hx⟩
theorem RL.take {R : Value → AV → Prop} {cs : List Value} {xs : List AV} (n : Nat) (h : RL R cs xs) : RL R (cs.take n) (xs.take n) := ⟨by simp [h.1], fun j v x hv hx => by
  rw [List.getElem?_take] at hv hx
  split at hv
  · rw [if_pos (by assumption)] at hx; exact h.2 j v x hv hx
  · cases hv⟩
theorem RL.drop {R : Value → AV → Prop} {cs : List Value} {xs : List AV} (n : Nat) (h : RL R cs xs) : RL R (cs.drop n) (xs.drop n) := ⟨by simp [h.1], fun j v x hv hx => by
  rw [List.getElem?_drop] at hv hx
  exact h.2 _ v x hv hx⟩
theorem RL.get {R : Value → AV → Prop} {cs : List Value} {xs : List AV} (h : RL R cs xs) {j : Nat} {x : AV} (hx : xs[j]? = some x) : ∃ v, cs[j]? = some v ∧ R v x := by
  have hj : j < cs.length := by rw [h.1]; exact (List.getElem?_eq_some_iff.1 hx).1
  exact ⟨cs[j], List.getElem?_eq_getElem hj, h.2 j _ x (List.getElem?_eq_getElem hj) hx⟩
theorem RL.one {R : Value → AV → Prop} {cs : List Value} {xs : List AV} (h : RL R cs xs) (hi : ∀ v x, R v x → v.oneCell' = true) : ∀ v ∈ cs, v.oneCell' = true := fun v hv => by
  obtain ⟨j, hj⟩ := List.mem_iff_getElem?.1 hv
  have hlt : j < xs.length := by rw [← h.1]; exact (List.getElem?_eq_some_iff.1 hj).1
  exact hi v _ (h.2 j v _ hj (List.getElem?_eq_getElem hlt))

theorem RC_pr {w : World} {S : Nat → Nat → Prop} {v : Value} {xs : List AV} (h : RC w S v (.pr xs)) : ∃ b o, ∃ cs : List Value, v = .pointer (some ⟨b, o, none⟩) ∧ RL (RC w S) cs xs ∧ ∀ (j : Nat) u, cs[j]? = some u → S b (o + j) ∧ w.cell? ⟨b, o + j, none⟩ = some u := by
  cases h with
  | pr b o n _ f hn h1 h2 =>
    refine ⟨b, o, (List.range n).map f, rfl, ⟨by simp [hn], fun j v x hv hx => ?_⟩, fun j u hu => ?_⟩
    · rw [List.getElem?_map] at hv
      have hj : j < n := by rw [← hn]; exact (List.getElem?_eq_some_iff.1 hx).1
      rw [List.getElem?_range hj] at hv
      cases hv
      exact h2 j x hx
    · rw [List.getElem?_map] at hu
      have hj : j < n := by
        cases hr : (List.range n)[j]? with
        | none => rw [hr] at hu; cases hu
        | some y => have := (List.getElem?_eq_some_iff.1 hr).1; simpa using this
      rw [List.getElem?_range hj] at hu
      cases hu
      exact h1 j hj
theorem RC_to {w : World} {S : Nat → Nat → Prop} {b o : Nat} {cs : List Value} {xs : List AV} (h : RL (RC w S) cs xs) (hc : ∀ (j : Nat) u, cs[j]? = some u → S b (o + j) ∧ w.cell? ⟨b, o + j, none⟩ = some u) : RC w S (.pointer (some ⟨b, o, none⟩)) (.pr xs) := by
  refine .pr b o xs.length xs (fun j => cs.getD j undef) rfl (fun j hj => ?_) (fun j x hx => ?_)
  · have hlt : j < cs.length := by rw [h.1]; exact hj
    have hj' : cs[j]? = some cs[j] := List.getElem?_eq_getElem hlt
    have := hc j _ hj'
    rw [List.getD_eq_getElem?_getD, hj']
    exact this
  · obtain ⟨v, hv, hr⟩ := h.get hx
    rw [List.getD_eq_getElem?_getD, hv]
    exact hr
theorem RC_fn {w : World} {S : Nat → Nat → Prop} {v : Value} {k : Fn} {ks xs : List AV} (h : RC w S v (.fn k ks xs)) : ∃ vs cs : List Value, v = .func k vs.toArray cs.toArray ∧ RL (RC w S) vs ks ∧ RL (RC w S) cs xs := by
  cases h with
  | fn _ vs cs _ _ g f hm h3 h4 hn h1 h2 =>
    refine ⟨vs, cs, rfl, ⟨hm.symm, fun j v x hv hx => ?_⟩, hn.symm, fun j v x hv hx => ?_⟩
    · have hj : j < vs.length := (List.getElem?_eq_some_iff.1 hv).1
      rw [h3 j hj] at hv
      cases hv
      exact h4 j x hx
    · have hj : j < cs.length := (List.getElem?_eq_some_iff.1 hv).1
      rw [h1 j hj] at hv
      cases hv
      exact h2 j x hx
theorem RC_mkfn {w : World} {S : Nat → Nat → Prop} {k : Fn} {vs cs : List Value} {ks xs : List AV} (hk : RL (RC w S) vs ks) (h : RL (RC w S) cs xs) : RC w S (.func k vs.toArray cs.toArray) (.fn k ks xs) := by
  refine .fn k vs cs ks xs (fun j => vs.getD j undef) (fun j => cs.getD j undef) hk.1.symm (fun j hj => ?_) (fun j x hx => ?_) h.1.symm (fun j hj => ?_) (fun j x hx => ?_)
  · rw [List.getD_eq_getElem?_getD, List.getElem?_eq_getElem hj]; rfl
  · obtain ⟨v, hv, hr⟩ := hk.get hx
    rw [List.getD_eq_getElem?_getD, hv]
    exact hr
  · rw [List.getD_eq_getElem?_getD, List.getElem?_eq_getElem hj]; rfl
  · obtain ⟨v, hv, hr⟩ := h.get hx
    rw [List.getD_eq_getElem?_getD, hv]
    exact hr

/-- A list that may be appended to: its block, its elements' type, how many there are, how many there is room for, how many cells an element has. -/
structure Tk where
  b : Nat
  e : TypeId
  n : Nat
  c : Nat
  k : Nat

/-- One cell, of a list that may be appended to, too. -/
def RK (w : World) (S : Nat → Nat → Prop) (τ : Nat → Option Tk) (v : Value) : AV → Prop
  | .ls (some q) rows => RC w S v (.ls none rows) ∧ (rows = [] → v = .slice none 0 0) ∧ (rows ≠ [] → ∃ tk, τ q = some tk ∧ v = .slice (some ⟨tk.b, 0, none⟩) tk.n tk.c ∧ rows.length = tk.n ∧ (∀ (i : Nat) r, rows[i]? = some r → r.length = tk.k))
  | .ag _ | .tp _ | .pt _ _ => False
  | x => RC w S v x
theorem RK.of {w : World} {S : Nat → Nat → Prop} {τ : Nat → Option Tk} {v : Value} {x : AV} (h : RC w S v x) : RK w S τ v x := by
  cases h with
  | sc v h => exact .sc v h
  | nl => exact .nl
  | un v h => exact .un v h
  | e A c => exact .e A c
  | ls b o n c k rows f hn hc hm hk h1 h2 => exact .ls b o n c k rows f hn hc hm hk h1 h2
  | pr b o n xs f hn h1 h2 => exact .pr b o n xs f hn h1 h2
  | fn k vs cs ks xs g f hm h3 h4 hn h1 h2 => exact .fn k vs cs ks xs g f hm h3 h4 hn h1 h2
/-- Without what may be appended to. -/
def AV.strip0 : AV → AV
  | .ls _ rows => .ls none rows
  | .ag _ | .tp _ | .pt _ _ => .un
  | x => x
def AV.strip1 : AV → AV
  | .ag cs => .ag (cs.map AV.strip0)
  | x => x.strip0
def AV.strip : AV → AV
  | .ag cs => .ag (cs.map AV.strip0)
  | .tp cs => .tp (cs.map AV.strip1)
  | x => x.strip0
theorem RK.closed {w : World} {S : Nat → Nat → Prop} {τ : Nat → Option Tk} {v : Value} {x : AV} (h : RK w S τ v x) : RC w S v x.strip0 := by
  cases x with
  | sc v' => exact h
  | pr cs => exact h
  | fn k ks cs => exact h
  | nl => exact h
  | ls o rows =>
    cases o with
    | none => exact h
    | some q =>
      exact h.1
  | ag _ => exact h.elim
  | tp _ => exact h.elim
  | pt _ _ => exact h.elim
  | un => exact h
theorem RK.one {w : World} {S : Nat → Nat → Prop} {τ : Nat → Option Tk} {v : Value} {x : AV} (h : RK w S τ v x) : v.oneCell' = true := h.closed.one
theorem RK.mono {w w' : World} {S S' : Nat → Nat → Prop} {τ : Nat → Option Tk} {v : Value} {x : AV} (h : RK w S τ v x) (hs : ∀ b o, S b o → S' b o) (hw : ∀ b o, S b o → w'.cell? ⟨b, o, none⟩ = w.cell? ⟨b, o, none⟩) : RK w' S' τ v x := by
  cases x with
  | ls o rows =>
    cases o with
    | none => exact RC.mono (x := .ls none rows) h hs hw
    | some q =>
      exact ⟨h.1.mono hs hw, h.2⟩
  | sc v' => exact RC.mono (x := .sc v') h hs hw
  | pr cs => exact RC.mono (x := .pr cs) h hs hw
  | fn k ks cs => exact RC.mono (x := .fn k ks cs) h hs hw
  | nl => exact RC.mono (x := .nl) h hs hw
  | un => exact RC.mono (x := .un) h hs hw
  | ag _ => exact h.elim
  | tp _ => exact h.elim
  | pt _ _ => exact h.elim

/-- What a part of several results bears. -/
def R1 (w : World) (S : Nat → Nat → Prop) (τ : Nat → Option Tk) (v : Value) : AV → Prop
  | .un => True
  | .ag xs => ∃ cs : List Value, v = .agg cs.toArray ∧ RL (RK w S τ) cs xs
  | x => RK w S τ v x
/-- What a slot bears. -/
def RT (w : World) (S : Nat → Nat → Prop) (m : Nat → Option Nat) (τ : Nat → Option Tk) (v : Value) : AV → Prop
  | .un => True
  | .ag xs => ∃ cs : List Value, v = .agg cs.toArray ∧ RL (RK w S τ) cs xs
  | .tp xs => ∃ cs : List Value, v = .tuple cs.toArray ∧ RL (R1 w S τ) cs xs
  | .pt t off => ∃ b, m t = some b ∧ v = .pointer (some ⟨b, off, none⟩)
  | x => RK w S τ v x
theorem R1.mono {w w' : World} {S S' : Nat → Nat → Prop} {τ : Nat → Option Tk} {v : Value} {x : AV} (h : R1 w S τ v x) (hs : ∀ b o, S b o → S' b o) (hw : ∀ b o, S b o → w'.cell? ⟨b, o, none⟩ = w.cell? ⟨b, o, none⟩) : R1 w' S' τ v x := by
  cases x with
  | un => trivial
  | ag xs => exact ⟨h.choose, h.choose_spec.1, h.choose_spec.2.imp fun v x g => g.mono hs hw⟩
  | sc v' => exact RK.mono (τ := τ) (x := .sc v') h hs hw
  | pr cs => exact RK.mono (τ := τ) (x := .pr cs) h hs hw
  | fn k ks cs => exact RK.mono (τ := τ) (x := .fn k ks cs) h hs hw
  | nl => exact RK.mono (τ := τ) (x := .nl) h hs hw
  | ls o rows => exact RK.mono (τ := τ) (x := .ls o rows) h hs hw
  | tp _ => exact h.elim
  | pt _ _ => exact h.elim
theorem RT.mono {w w' : World} {S S' : Nat → Nat → Prop} {m : Nat → Option Nat} {τ : Nat → Option Tk} {v : Value} {x : AV} (h : RT w S m τ v x) (hs : ∀ b o, S b o → S' b o) (hw : ∀ b o, S b o → w'.cell? ⟨b, o, none⟩ = w.cell? ⟨b, o, none⟩) : RT w' S' m τ v x := by
  cases x with
  | un => trivial
  | ag xs => exact ⟨h.choose, h.choose_spec.1, h.choose_spec.2.imp fun v x g => g.mono hs hw⟩
  | tp xs => exact ⟨h.choose, h.choose_spec.1, h.choose_spec.2.imp fun v x g => g.mono hs hw⟩
  | pt t off => exact h
  | sc v' => exact RK.mono (τ := τ) (x := .sc v') h hs hw
  | pr cs => exact RK.mono (τ := τ) (x := .pr cs) h hs hw
  | fn k ks cs => exact RK.mono (τ := τ) (x := .fn k ks cs) h hs hw
  | nl => exact RK.mono (τ := τ) (x := .nl) h hs hw
  | ls o rows => exact RK.mono (τ := τ) (x := .ls o rows) h hs hw

/-- What goes into a call, and comes out of it. -/
abbrev RV (w : World) (S : Nat → Nat → Prop) : Value → AV → Prop := RT w S (fun _ => none) (fun _ => none)
theorem R1.closed {w : World} {S : Nat → Nat → Prop} {τ τ' : Nat → Option Tk} {v : Value} {x : AV} (h : R1 w S τ v x) : R1 w S τ' v x.strip1 := by
  cases x with
  | un => trivial
  | ag xs => exact ⟨h.choose, h.choose_spec.1, h.choose_spec.2.map _ fun v x g => RK.of g.closed⟩
  | sc v' => exact RK.of (τ := τ') (x := .sc v') (RK.closed (τ := τ) (x := .sc v') h)
  | pr cs => exact RK.of (τ := τ') (x := .pr cs) (RK.closed (τ := τ) (x := .pr cs) h)
  | fn k ks cs => exact RK.of (τ := τ') (x := .fn k ks cs) (RK.closed (τ := τ) (x := .fn k ks cs) h)
  | nl => exact RK.of (τ := τ') (x := .nl) (RK.closed (τ := τ) (x := .nl) h)
  | ls o rows => exact RK.of (τ := τ') (x := .ls none rows) (RK.closed (τ := τ) (x := .ls o rows) h)
  | tp _ => exact h.elim
  | pt _ _ => exact h.elim
theorem RT.closed {w : World} {S : Nat → Nat → Prop} {m : Nat → Option Nat} {τ : Nat → Option Tk} {v : Value} {x : AV} (h : RT w S m τ v x) : RV w S v x.strip := by
  cases x with
  | un => trivial
  | ag xs => exact ⟨h.choose, h.choose_spec.1, h.choose_spec.2.map _ fun v x g => RK.of g.closed⟩
  | tp xs => exact ⟨h.choose, h.choose_spec.1, h.choose_spec.2.map _ fun v x g => g.closed⟩
  | pt t off => trivial
  | sc v' => exact RK.of (τ := fun _ => none) (x := .sc v') (RK.closed (τ := τ) (x := .sc v') h)
  | pr cs => exact RK.of (τ := fun _ => none) (x := .pr cs) (RK.closed (τ := τ) (x := .pr cs) h)
  | fn k ks cs => exact RK.of (τ := fun _ => none) (x := .fn k ks cs) (RK.closed (τ := τ) (x := .fn k ks cs) h)
  | nl => exact RK.of (τ := fun _ => none) (x := .nl) (RK.closed (τ := τ) (x := .nl) h)
  | ls o rows => exact RK.of (τ := fun _ => none) (x := .ls none rows) (RK.closed (τ := τ) (x := .ls o rows) h)
theorem RK.open {w : World} {S : Nat → Nat → Prop} {τ : Nat → Option Tk} {v : Value} {x : AV} (h : RK w S (fun _ => none) v x) : RK w S τ v x := by
  cases x with
  | ls o rows =>
    cases o with
    | none => exact h
    | some q => exact ⟨h.1, h.2.1, fun hn => by obtain ⟨tk, h1, _⟩ := h.2.2 hn; cases h1⟩
  | sc v' => exact h
  | pr cs => exact h
  | fn k ks cs => exact h
  | nl => exact h
  | un => exact h
  | ag _ => exact h.elim
  | tp _ => exact h.elim
  | pt _ _ => exact h.elim
theorem R1.open {w : World} {S : Nat → Nat → Prop} {τ : Nat → Option Tk} {v : Value} {x : AV} (h : R1 w S (fun _ => none) v x) : R1 w S τ v x := by
  cases x with
  | un => trivial
  | ag xs => exact ⟨h.choose, h.choose_spec.1, h.choose_spec.2.imp fun v x g => g.open⟩
  | sc v' => exact RK.open (τ := τ) (x := .sc v') h
  | pr cs => exact RK.open (τ := τ) (x := .pr cs) h
  | fn k ks cs => exact RK.open (τ := τ) (x := .fn k ks cs) h
  | nl => exact RK.open (τ := τ) (x := .nl) h
  | ls o rows => exact RK.open (τ := τ) (x := .ls o rows) h
  | tp _ => exact h.elim
  | pt _ _ => exact h.elim
theorem RT.open {w : World} {S : Nat → Nat → Prop} {m : Nat → Option Nat} {τ : Nat → Option Tk} {v : Value} {x : AV} (h : RV w S v x) : RT w S m τ v x := by
  cases x with
  | un => trivial
  | ag xs => exact ⟨h.choose, h.choose_spec.1, h.choose_spec.2.imp fun v x g => g.open⟩
  | tp xs => exact ⟨h.choose, h.choose_spec.1, h.choose_spec.2.imp fun v x g => g.open⟩
  | pt t off => obtain ⟨b, h1, _⟩ := h; cases h1
  | sc v' => exact RK.open (τ := τ) (x := .sc v') h
  | pr cs => exact RK.open (τ := τ) (x := .pr cs) h
  | fn k ks cs => exact RK.open (τ := τ) (x := .fn k ks cs) h
  | nl => exact RK.open (τ := τ) (x := .nl) h
  | ls o rows => exact RK.open (τ := τ) (x := .ls o rows) h
end Go.Proofs.YtjghgpmkepfdhaaGreatDoor

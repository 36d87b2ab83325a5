/- The pure walk: functions that are ranged over: they ask for a loop's rounds. Conditions: none.
The pure walk: loops over functions. Conditions: none.
The pure walk: loops over functions: the rule. Conditions: none.
The pure walk: arrays made and asked; a loop, round by round. Conditions: none.
The pure walk by reflection: a function goes through a region's operations by itself; what it hands back is a run. Conditions: none.
The pure walk by reflection: calls, what is built, all operations that hand back a value. Conditions: none.
The pure walk by reflection: a region's state, with values that are there only where a guard fires; a region, gone through. Conditions: none. -/
import Derived.Test.YtjghgpmkepfdhaaGreatDoorZae
namespace Go.Proofs.YtjghgpmkepfdhaaGreatDoor
open Go.RowKit
set_option linter.unusedVariables false

/-- Where a state begins anew: the lists may be appended to no more, the variables are gone. -/
theorem Rel.reb {E : En} {S : Nat → Nat → Prop} {m : Nat → Option Nat} {τ : Nat → Option Tk} {st : Ast} {a : Act} {w : World} (h : Rel E S m τ st a w) (w' : World) (hS : ∀ b o, S b o → w'.cell? ⟨b, o, none⟩ = w.cell? ⟨b, o, none⟩) (y : Yst) (hy : st.y.yl ≠ none) :
    Rel ⟨w', S, fun _ => none, fun _ => none⟩ S (fun _ => none) (fun _ => none) ⟨st.tmps.map AV.strip, [], y⟩ a w' := by
  refine ⟨⟨rfl, rfl, rfl, Nat.le_refl _, fun _ _ _ => rfl⟩, fun b o h => h, fun b o h => .inl h, fun b o hs => by rw [hS b o hs]; exact h.sc b o hs, fun _ _ _ => rfl, by rw [h.df.nil hy]; exact Marks.zero, by simp [h.sz], fun i x hx => ?_, fun t r h => (by cases h), fun t b h => (by cases h), fun t b h => (by cases h), fun t t' b h => (by cases h), fun q k h => (by cases h), fun q q' k k' h => (by cases h), fun t b q k h => (by cases h)⟩
  rw [List.getElem?_map] at hx
  cases hi : st.tmps[i]? with
  | none => rw [hi] at hx; cases hx
  | some y =>
    rw [hi] at hx
    cases hx
    exact RT.mono (h.tm i y hi).closed (fun _ _ g => g) hS
/-- More cells that stay. -/
theorem Rel.more {S : Nat → Nat → Prop} {st : Ast} {a : Act} {w : World} (h : Rel ⟨w, S, fun _ => none, fun _ => none⟩ S (fun _ => none) (fun _ => none) st a w) (S' : Nat → Nat → Prop) (h1 : ∀ b o, S b o → S' b o) (h3 : ∀ b o, S' b o → (w.cell? ⟨b, o, none⟩).isSome = true) (hv : st.vars = [] := by rfl) :
    Rel ⟨w, S', fun _ => none, fun _ => none⟩ S' (fun _ => none) (fun _ => none) st a w :=
  ⟨⟨rfl, rfl, rfl, Nat.le_refl _, fun _ _ _ => rfl⟩, fun b o h => h, fun b o h => .inl h, h3, fun _ _ _ => rfl, h.df, h.sz, fun i x hx => (h.tm i x hx).mono h1 fun _ _ _ => rfl, fun t r g => (by rw [hv] at g; cases g), fun t b h => (by cases h), fun t b h => (by cases h), fun t t' b h => (by cases h), fun q k h => (by cases h), fun q q' k k' h => (by cases h), fun t b q k h => (by cases h)⟩
theorem roundWF {P : Program} {r : Option Nat} {n k : Nat} {l : Nat} {f : FuncId} {tmps : Array Value} {assign body : Code} {w : World} {R : Ending → World → Prop} (h : RoundIn Fence.wide k P l f tmps assign body w R) : RoundIn (WF r) n P l f tmps assign body w R :=
  ⟨trivial, fun c cs _ => h.2 c cs (room_wide _)⟩
section
variable {P : Program} {o : Oper} {st : Ast}
theorem y_frz {st' : Ast} (t : Nat) (row row' : List AV) (ht : t < 1000) (hv : vget st.vars t = some row) (hrow : row.map AV.strip0 = row') (h : YOp P o (st.frz t row') st') : YOp P o st st' := by
  intro C hC r n a w K Q ⟨E, hc, S, m, τ, hr⟩ hk
  obtain ⟨S', m', hr'⟩ := hr.frz t row row' ht hv hrow
  exact h C hC r n a w K Q ⟨E, hc, S', m', τ, hr'⟩ hk
/-- The same place, told anew. -/
theorem YC.here {C : En → Yst → Prop} (hC : YC P C) {E : En} {S : Nat → Nat → Prop} {m : Nat → Option Nat} {τ : Nat → Option Tk} {a : Act} {w : World} {y : Yst} (hc : C E y) (hy : y.yl ≠ none) (hr : Rel E S m τ st a w) : C ⟨w, S, fun _ => none, fun _ => none⟩ y := by
  obtain ⟨h1, h2⟩ := hC.no E y hc hy
  refine hC.stab E y w S hc hy hr.bel hr.s0 (fun b o hs => ?_) hr.sc hr.sS
  rcases hr.s1 b o hs with g | g | ⟨q, k, g, _⟩
  · exact .inl g
  · exact .inr g
  · rw [h2] at g; cases g
/-- A round is asked for. -/
theorem y_yield (f : Operand) (xs : List Operand) (ts : Array TypeId) (Y : Ys) (h : Nat) (as0 row : List AV) (ho : o.op = .call { callee := .value f, args := xs.toArray, argTypes := ts }) (hf : st.ev f = .fn (.yield Y.l) [] []) (hy : st.y = ⟨h, some Y⟩) (hl : h = 0 ∨ Y.ans (h - 1) = true) (hg : Y.items[h]? = some row)
    (hargs : xs.map (fun x => (st.ev x).strip) = as0) (hco : CqA [] [] as0 row) : YOp P o st ((⟨st.tmps.map AV.strip, [], ⟨h + 1, some Y⟩⟩ : Ast).putD o.dst (.sc (.bool (Y.ans h)))) := by
  intro C hC r n a w K Q ⟨E, hc, S, m, τ, hr⟩ hk
  have hff := hr.ev f
  rw [hf] at hff
  obtain ⟨us0, vs0, hf1, hf0, hf2⟩ := RC_fn hff
  have hv0 : vs0 = [] := by have := hf2.1; simpa using this
  subst hv0
  have hu0 : us0 = [] := by have := hf0.1; simpa using this
  subst hu0
  have hne : st.y.yl ≠ none := by rw [hy]; simp
  have hc1 := hC.here hc hne hr
  rw [hy] at hc1
  have hl1 : RL (RV w S) (xs.map a.eval) as0 := by
    rw [← hargs]
    refine ⟨by simp, fun j v x hv hx => ?_⟩
    rw [List.getElem?_map] at hv hx
    cases hj : xs[j]? with
    | none => rw [hj] at hv; cases hv
    | some y =>
      rw [hj] at hv hx
      cases hv
      cases hx
      exact (hr.ev y).closed
  have hrow : RL (RV w S) (xs.map a.eval) row := (hco.rl hl1).imp fun v x g => g.sub (fun t b h => (cutm_in h).2) (fun q k h => (cut_in h).2)
  obtain ⟨fn, tmps, assign, body, h1, h2⟩ := hC.yld _ h Y row _ hc1 hl hg hrow hr.sc
  have hrun : (execOp a.eval o).run P w = .ok (.round Y.l fn tmps assign body) w := by
    unfold execOp
    rw [ho]
    simp [resolve, invoke, Deferred.ofValue, hf1]
    simpa using h1
  refine ⟨fun _ _ => trivial, ?_⟩
  rw [semAt_run hrun (fun d e => by cases e), Oper.uponIn_round]
  refine ⟨fun hd => (by cases hd), roundWF (h2.mono fun e w' he => ?_)⟩
  obtain ⟨rfl, S', g1, g3, g2⟩ := he
  exact hk _ _ ⟨_, by rw [putD_y]; exact g2, S', fun _ => none, fun _ => none, ((hr.reb w' (fun b o g => (g1 b o g).2) ⟨h + 1, some Y⟩ hne).more S' (fun b o g => (g1 b o g).1) g3).put _ (RK_to (RK.of (RC.sc _ rfl)))⟩
end
/-- What a function that asks for rounds hands back, and which it asked for. -/
def YCalls (P : Program) (F : FuncId) (args : List AV) (Y : Ys) (h : Nat) (r : AV) (h' : Nat) : Prop :=
  ∀ (C : En → Yst → Prop), YC P C → ∀ (w : World) (S : Nat → Nat → Prop) (vs : List Value), C ⟨w, S, fun _ => none, fun _ => none⟩ ⟨h, some Y⟩ → (∀ b o, S b o → (w.cell? ⟨b, o, none⟩).isSome = true) → RL (RV w S) vs args →
    Calls P F vs.toArray w fun e w' => ∃ v S', e = .returned v ∧ RV w' S' v r ∧ (∀ b o, S b o → S' b o ∧ w'.cell? ⟨b, o, none⟩ = w.cell? ⟨b, o, none⟩) ∧ (∀ b o, S' b o → (w'.cell? ⟨b, o, none⟩).isSome = true) ∧ C ⟨w', S', fun _ => none, fun _ => none⟩ ⟨h', some Y⟩
section
variable {P : Program} {o : Oper} {st : Ast}
/-- A function that asks for rounds is called by another one. -/
theorem y_call (F : FuncId) (xs : List Operand) (ts : Array TypeId) (as0 args : List AV) (r : AV) (Y : Ys) (h h' : Nat) (ho : o.op = .call { callee := .value (.func F), args := xs.toArray, argTypes := ts }) (hy : st.y = ⟨h, some Y⟩)
    (hargs : xs.map (fun x => (st.ev x).strip) = as0) (hco : CqA [] [] as0 args) (hc : YCalls P F args Y h r h') (he : ∀ vs w, (callFunc F vs).run P w = .ok (.enter F vs) w) : YOp P o st ((⟨st.tmps.map AV.strip, [], ⟨h', some Y⟩⟩ : Ast).putD o.dst r) := by
  intro C hC rr n a w K Q ⟨E, hcE, S, m, τ, hr⟩ hk
  have hne : st.y.yl ≠ none := by rw [hy]; simp
  have hc1 := hC.here hcE hne hr
  rw [hy] at hc1
  have hrun : (execOp a.eval o).run P w = .ok (.enter F (xs.map a.eval).toArray) w := by
    unfold execOp
    rw [ho]
    simp [resolve, invoke, Act.eval, Deferred.ofValue, he]
  have hl : RL (RV w S) (xs.map a.eval) as0 := by
    rw [← hargs]
    refine ⟨by simp, fun j v x hv hx => ?_⟩
    rw [List.getElem?_map] at hv hx
    cases hj : xs[j]? with
    | none => rw [hj] at hv; cases hv
    | some y =>
      rw [hj] at hv hx
      cases hv
      cases hx
      exact (hr.ev y).closed
  have hl2 : RL (RV w S) (xs.map a.eval) args := (hco.rl hl).imp fun v x g => g.sub (fun t b h => (cutm_in h).2) (fun q k h => (cut_in h).2)
  refine wpIn_ent hrun (hc C hC w S _ hc1 hr.sc hl2) ?_
  rintro e w' ⟨v, S', rfl, h1, h2, h3, h4⟩
  have hb2 := (hr.reb w' (fun b o g => (h2 b o g).2) ⟨h', some Y⟩ hne).more S' (fun b o g => (h2 b o g).1) h3
  exact ⟨v, rfl, hk _ _ ⟨_, by rw [putD_y]; exact h4, S', fun _ => none, fun _ => none, hb2.put _ h1⟩⟩
/-- A function that asks for rounds, told by its code. -/
theorem ycalls_wp {F : FuncId} {fn : Func} {c : Code} (hm : P.follows .mixedOrders = true) (hf : P.funcs[F]? = some fn) (hb : fn.body = some c) {args : List AV} {r : AV} {Y : Ys} {h h' : Nat} (s0 : Ast) (h0 : (⟨args ++ List.replicate (fn.ntmps - args.length) .un, [], ⟨h, some Y⟩⟩ : Ast) = s0)
    (hw : Wp P false c s0 fun e st' => (e = .ret ∨ e = .normal) ∧ ResOk P fn st' r ∧ st'.y = ⟨h', some Y⟩) : YCalls P F args Y h r h' := by
  intro C hC w S vs hc hS hvs
  obtain ⟨e, st', hex, he, hres, hy⟩ := hw
  subst h0
  refine calls_of_wp hf hb ?_
  have hl := hvs.1
  have hrel0 : Rel (En.mk w S (fun _ => none) (fun _ => none)) S (fun _ => none) (fun _ => none) ⟨args ++ List.replicate (fn.ntmps - args.length) .un, [], ⟨h, some Y⟩⟩ { tmps := vs.toArray ++ Array.replicate (fn.ntmps - vs.toArray.size) undef, defers := [] } w := by
    refine ⟨⟨rfl, rfl, rfl, Nat.le_refl _, fun _ _ _ => rfl⟩, fun b o h => h, fun b o h => .inl h, hS, fun _ _ _ => rfl, Marks.zero, by simp [hl], fun i x hx => ?_, fun t r h => (by cases h), fun t b h => (by cases h), fun t b h => (by cases h), fun t t' b h => (by cases h), fun q k h => (by cases h), fun q q' k k' h => (by cases h), fun t b q k h => (by cases h)⟩
    rcases Nat.lt_or_ge i args.length with g | g
    · rw [List.getElem?_append_left g] at hx
      have hv : vs[i]? = some vs[i] := List.getElem?_eq_getElem (by omega)
      have := hvs.2 i _ x hv hx
      have e1 : (vs.toArray ++ Array.replicate (fn.ntmps - vs.toArray.size) undef).getD i undef = vs[i] := by
        rw [Array.getD_eq_getD_getElem?, Array.getElem?_append_left (by simp; omega)]
        simp [hv]
      rw [e1]
      exact this
    · rw [List.getElem?_append_right g, List.getElem?_replicate] at hx
      split at hx
      · cases hx; trivial
      · cases hx
  have hC2 : YC P (fun E y => C E y ∧ ((∀ b o, S b o → E.S b o ∧ E.w.cell? ⟨b, o, none⟩ = w.cell? ⟨b, o, none⟩))) := by
    refine ⟨fun E y h => hC.gl E y h.1, fun E y h g => hC.no E y h.1 g, fun E y w1 S1 h g h1 h2 h3 h4 h5 => ⟨hC.stab E y w1 S1 h.1 g h1 h2 h3 h4 h5, fun b o hs => ⟨h2 b o (h.2 b o hs).1, (h5 b o (h.2 b o hs).1).trans (h.2 b o hs).2⟩⟩, fun E h Y row vs hc hl hg hrl hs => ?_⟩
    obtain ⟨fn, tmps, assign, body, g1, g2⟩ := hC.yld E h Y row vs hc.1 hl hg hrl hs
    exact ⟨fn, tmps, assign, body, g1, g2.mono fun e w1 ⟨k1, S1, k2, k4, k3⟩ => ⟨k1, S1, k2, k4, k3, fun b o hs => ⟨(k2 b o (hc.2 b o hs).1).1, ((k2 b o (hc.2 b o hs).1).2).trans (hc.2 b o hs).2⟩⟩⟩
  refine wpIn_wide.1 (hex.both hm _ hC2 none 0 (fun h => by cases h) _ w _ ⟨En.mk w S (fun _ => none) (fun _ => none), ⟨hc, fun b o hs => ⟨hs, rfl⟩⟩, S, _, _, hrel0⟩ fun a' w' hs' => ?_).1
  obtain ⟨E', ⟨hcE, hSE⟩, S', m, τ, hrel⟩ := hs'
  obtain ⟨v, h1, h2⟩ := hres S' m τ _ a' w' hrel
  have hc' := hC.here hcE (by rw [hy]; simp) hrel
  rw [hy] at hc'
  have hp : a'.defers = [] ∧ ∃ v, (results fn a'.tmps).run P w' = .ok v w' ∧ ∃ v' S', Ending.returned v = .returned v' ∧ RV w' S' v' r ∧ (∀ b o, S b o → S' b o ∧ w'.cell? ⟨b, o, none⟩ = w.cell? ⟨b, o, none⟩) ∧ (∀ b o, S' b o → (w'.cell? ⟨b, o, none⟩).isSome = true) ∧ C ⟨w', S', fun _ => none, fun _ => none⟩ ⟨h', some Y⟩ :=
    ⟨hrel.df.nil (by rw [hy]; simp), v, h1, v, S', rfl, h2, fun b o hs => ⟨hrel.s0 b o (hSE b o hs).1, (hrel.sS b o (hSE b o hs).1).trans (hSE b o hs).2⟩, hrel.sc, hc'⟩
  rcases he with rfl | rfl
  · exact hp
  · exact hp
theorem ycalls_fine {F : FuncId} {args : List AV} {Y : Ys} {h h' : Nat} {r : AV} (hh : (∀ (j : Nat) a, args[j]? = some a → Fine a) → YCalls P F args Y h r h') : YCalls P F args Y h r h' := fun C hC w S vs hc hS hvs =>
  hh (fun j a ha => by
    obtain ⟨v, _, hv⟩ := hvs.get ha
    exact RT.fine hv) C hC w S vs hc hS hvs
theorem res_none {fn : Func} {st : Ast} (h : fn.results = #[]) : ResOk P fn st (.tp []) := fun S m τ E a w hr => ⟨.tuple #[], by simp [results, h], [], rfl, RL.nil⟩
end
/-- From round k on, n times at most: where that ends, and whether it was answered to the end. -/
def ran (ans : Nat → Bool) (k : Nat) : Nat → Nat × Bool
  | 0 => (k, true)
  | n + 1 => match ran ans k n with
    | (j, true) => (j + 1, ans j)
    | p => p
theorem ran_le {ans : Nat → Bool} {k : Nat} : ∀ n, (ran ans k n).1 ≤ k + n ∧ ((ran ans k n).2 = true → (ran ans k n).1 = k + n)
  | 0 => by simp [ran]
  | n + 1 => by
    have ih := ran_le (ans := ans) (k := k) n
    unfold ran
    cases hr : ran ans k n with
    | mk j b =>
      rw [hr] at ih
      cases b with
      | true =>
        have := ih.2 rfl
        simp only at this ih ⊢
        exact ⟨by omega, fun _ => by omega⟩
      | false =>
        simp only at ih ⊢
        exact ⟨by omega, fun h => by cases h⟩
theorem ran_next {ans : Nat → Bool} {k j : Nat} (h : ran ans k j = (k + j, true)) (ha : ans (k + j) = true) : ran ans k (j + 1) = (k + (j + 1), true) := by
  unfold ran; rw [h]; simp only [ha]; rfl
theorem ran_more {ans : Nat → Bool} {k j : Nat} (h : (ran ans k j).2 = false) : ∀ n, ran ans k (j + n) = ran ans k j
  | 0 => rfl
  | n + 1 => by
    have ih := ran_more h n
    have e : ran ans k (j + (n + 1)) = match ran ans k (j + n) with
      | (q, true) => (q + 1, ans q)
      | p => p := rfl
    rw [e, ih]
    cases hr : ran ans k j with
    | mk q b =>
      rw [hr] at h
      simp only at h
      subst h
      rfl
theorem ran_stop {ans : Nat → Bool} {k j n : Nat} (h : ran ans k j = (k + j, true)) (ha : ans (k + j) = false) (hn : j < n) : ran ans k n = (k + j + 1, false) := by
  have h1 : ran ans k (j + 1) = (k + j + 1, false) := by unfold ran; rw [h]; simp only [ha]
  have h2 := ran_more (j := j + 1) (by rw [h1]) (n - (j + 1))
  rw [show j + 1 + (n - (j + 1)) = n by omega] at h2
  rw [h2, h1]
theorem ran_live {ans : Nat → Bool} {k : Nat} (h0 : k = 0 ∨ ans (k - 1) = true) : ∀ {j : Nat}, ran ans k j = (k + j, true) → (k + j = 0 ∨ ans (k + j - 1) = true)
  | 0, _ => h0
  | j + 1, h => by
    unfold ran at h
    cases hr : ran ans k j with
    | mk q b =>
      rw [hr] at h
      cases b with
      | true =>
        simp only [Prod.mk.injEq] at h
        obtain ⟨h1, h2⟩ := h
        have : q = k + j := by omega
        subst this
        exact .inr h2
      | false =>
        simp at h
end Go.Proofs.YtjghgpmkepfdhaaGreatDoor
namespace Go.Proofs.YtjghgpmkepfdhaaGreatDoor
open Go.RowKit
set_option linter.unusedVariables false

/-- A slot's value with no list that may be appended to. -/
def AV.noq : AV → AV
  | .pt t o => .pt t o
  | x => x.strip
/-- The variables get other names. -/
def AV.ren (k : Nat) : AV → AV
  | .pt t o => .pt (t + k) o
  | x => x
def vren (k : Nat) : List (Nat × List AV) → List (Nat × List AV)
  | [] => []
  | (t, r) :: l => (t + k, r) :: vren k l
theorem vget_ren (k s : Nat) : ∀ l, vget (vren k l) s = if k ≤ s then vget l (s - k) else none
  | [] => by simp [vren, vget]
  | (t, r) :: l => by
    simp only [vren, vget]
    rw [vget_ren k s l]
    by_cases h1 : k ≤ s
    · rw [if_pos h1, if_pos h1]
      by_cases h2 : t = s - k
      · rw [if_pos h2, if_pos (by omega)]
      · rw [if_neg h2, if_neg (by omega)]
    · rw [if_neg h1, if_neg h1, if_neg (by omega)]
def Ast.loop (st : Ast) (k : Nat) : Ast := ⟨st.tmps.map fun x => x.noq.ren k, vren k st.vars, st.y⟩
section
variable {E : En} {S : Nat → Nat → Prop} {m : Nat → Option Nat} {τ : Nat → Option Tk} {st : Ast} {a : Act} {w : World}
theorem RT.loop {v : Value} {x : AV} (k : Nat) (h : RT w S m τ v x) : RT w S (fun t => if k ≤ t then m (t - k) else none) τ v (x.noq.ren k) := by
  cases x with
  | pt t o =>
    obtain ⟨b, h1, h2⟩ := h
    exact ⟨b, by show (if k ≤ t + k then m (t + k - k) else none) = some b; rw [if_pos (by omega), Nat.add_sub_cancel]; exact h1, h2⟩
  | un => trivial
  | sc v' => exact h
  | pr cs => exact h
  | fn k ks cs => exact h
  | nl => exact h
  | ls o rows => exact (RT.closed (x := .ls o rows) h).open
  | ag xs => exact (RT.closed (x := .ag xs) h).open
  | tp xs => exact (RT.closed (x := .tp xs) h).open
theorem Rel.loop (h : Rel E S m τ st a w) (k : Nat) (hE : E.m = fun _ => none) : Rel E S (fun t => if k ≤ t then m (t - k) else none) τ (st.loop k) a w := by
  have hk : ∀ t b, (fun t => if k ≤ t then m (t - k) else none) t = some b → k ≤ t ∧ m (t - k) = some b := fun t b g => by
    dsimp only at g
    split at g
    · exact ⟨by assumption, g⟩
    · cases g
  refine ⟨h.bel, h.s0, h.s1, h.sc, h.sS, by
    obtain ⟨Ds, d1, d2, d3, d4⟩ := h.df
    exact ⟨Ds, d1, d2, fun D hD => ⟨(d3 D hD).1, (d3 D hD).2.1, fun t g => (d3 D hD).2.2 _ (hk t D g).2⟩, d4⟩, by simp [Ast.loop, h.sz], fun i x hx => ?_, fun t r hr => ?_, fun t b g => (by rw [hE] at g; cases g), fun t b g => ?_, fun t t' b g g' => ?_, h.tk, h.ti, fun t b q tk g g' => h.mt _ b q tk (hk t b g).2 g'⟩
  · simp only [Ast.loop, List.getElem?_map] at hx
    cases hi : st.tmps[i]? with
    | none => rw [hi] at hx; cases hx
    | some y =>
      rw [hi] at hx
      cases hx
      exact (h.tm i y hi).loop k
  · simp only [Ast.loop, vget_ren] at hr
    split at hr
    · rename_i hkt
      obtain ⟨b, cs, ty, g1, g2, g3⟩ := h.vr _ r hr
      exact ⟨b, cs, ty, (if_pos hkt).trans g1, g2, g3⟩
    · cases hr
  · obtain ⟨g1, g2, g3⟩ := h.mB _ b (hk t b g).2
    refine ⟨?_, g2, g3⟩
    rcases g1 with g1 | g1
    · exact .inl g1
    · rw [hE] at g1; cases g1
  · have h1 := hk t b g
    have h2 := hk t' b g'
    have := h.mi _ _ b h1.2 h2.2
    omega
/-- A round begins: what the loop's function has is lent. -/
theorem Rel.enter (h : Rel E S m τ st a w) (hm : ∀ t b, m t = some b → 1000 ≤ t) (tmps' : Array Value) (tm' : List AV) (hsz : tmps'.size = tm'.length) (htm : ∀ (i : Nat) x, tm'[i]? = some x → RT w S m τ (tmps'.getD i undef) x) :
    Rel ⟨w, S, m, τ⟩ S m τ ⟨tm', st.vars, y0⟩ { tmps := tmps', defers := [] } w :=
  ⟨⟨rfl, rfl, rfl, Nat.le_refl _, fun _ _ _ => rfl⟩, fun b o h => h, fun b o h => .inl h, h.sc, fun _ _ _ => rfl, Marks.zero, hsz, htm, h.vr, fun t b g => ⟨g, hm t b g⟩, fun t b g => ⟨.inr g, (h.mB t b g).2⟩, h.mi, fun q k g => ⟨.inr ⟨q, k, g, rfl⟩, (h.tk q k g).2⟩, h.ti, h.mt⟩
theorem putObj_cell {w : World} {l : Nat} {o o' : Obj} (ho : w.heap[l]? = some o) (hnc : ∀ cs ty x, o ≠ .cells cs ty x) (b i : Nat) (h : (w.cell? ⟨b, i, none⟩).isSome = true) : (w.putObj l o').cell? ⟨b, i, none⟩ = w.cell? ⟨b, i, none⟩ := by
  refine World.cell?_of_block (a := ⟨b, i, none⟩) (World.putObj_heap_other fun e => ?_)
  subst e
  unfold World.cell? at h
  simp only at h
  rw [ho] at h
  cases o <;> first | exact hnc _ _ _ rfl | simp at h
/-- A block that holds no cells changes, where the round began, too. -/
theorem Rel.obj2 (h : Rel E S m τ st a w) (l : Nat) (o o1 o' : Obj) (hE : E.w.heap[l]? = some o) (hn : ∀ cs ty x, o ≠ .cells cs ty x) (ho : w.heap[l]? = some o1) (hn1 : ∀ cs ty x, o1 ≠ .cells cs ty x) (hd : o1 ≠ .deferred (some [])) :
    Rel ⟨E.w.putObj l o', E.S, E.m, E.τ⟩ S m τ st a (w.putObj l o') := by
  have hsz : (w.putObj l o').heap.size = w.heap.size := World.putObj_size
  have hszE : (E.w.putObj l o').heap.size = E.w.heap.size := World.putObj_size
  have hbl : ∀ k, k ≠ l → (w.putObj l o').heap[k]? = w.heap[k]? := fun k hk => World.putObj_heap_other hk
  have hne : ∀ k cs ty x, w.heap[k]? = some (.cells cs ty x) → k ≠ l := fun k cs ty x hk e => by subst e; rw [ho] at hk; cases hk; exact hn1 _ _ _ rfl
  have hc : ∀ k i, S k i → (w.putObj l o').cell? ⟨k, i, none⟩ = w.cell? ⟨k, i, none⟩ := fun k i hk => putObj_cell ho hn1 k i (h.sc k i hk)
  refine ⟨⟨h.bel.os, h.bel.tape, h.bel.output, ?_, fun k hk hio => ?_⟩, h.s0, fun b i hs => ?_, fun k i hs => by rw [hc k i hs]; exact h.sc k i hs, fun b i hs => ?_, by
    obtain ⟨Ds, d1, d2, d3, d4⟩ := h.df
    exact ⟨Ds, d1, d2, fun D hD => ⟨by show (E.w.putObj l o').heap.size ≤ D; rw [hszE]; exact (d3 D hD).1, (hbl D fun e => by subst e; have := (d3 D hD).2.1; rw [ho] at this; exact hd (Option.some.inj this)).trans (d3 D hD).2.1, (d3 D hD).2.2⟩, d4⟩, h.sz, fun i x hx => (h.tm i x hx).mono (fun _ _ g => g) hc, fun t row hr => ?_, h.m0, fun t b hm => ?_, h.mi, fun q k hk => ?_, h.ti, h.mt⟩
  · show (E.w.putObj l o').heap.size ≤ _
    rw [hsz, hszE]; exact h.bel.size
  · have hk2 : k < (E.w.putObj l o').heap.size := hk
    rw [hszE] at hk2
    by_cases e : k = l
    · subst e
      show _ = (E.w.putObj k o').heap[k]?
      rw [World.putObj_heap_same (Array.getElem?_eq_some_iff.1 ho).1, World.putObj_heap_same (w := E.w) hk2]
    · show _ = (E.w.putObj l o').heap[k]?
      rw [hbl k e, World.putObj_heap_other e]
      exact h.bel.block k hk2 hio
  · show E.S b i ∨ (E.w.putObj l o').heap.size ≤ b ∨ _
    rw [hszE]; exact h.s1 b i hs
  · have h1 := h.sS b i hs
    have h2 := h.sc b i (h.s0 b i hs)
    show _ = (E.w.putObj l o').cell? ⟨b, i, none⟩
    rw [hc b i (h.s0 b i hs), h1, putObj_cell hE hn b i (by rw [← h1]; exact h2)]
  · obtain ⟨b, cs, ty, g1, g2, g3⟩ := h.vr t row hr
    exact ⟨b, cs, ty, g1, (hbl b (hne b _ _ _ g2)).trans g2, g3.imp fun v x g => g.mono (fun _ _ g => g) hc⟩
  · obtain ⟨g1, g2, g3⟩ := h.mB t b hm
    refine ⟨?_, by rw [hsz]; exact g2, g3⟩
    show (E.w.putObj l o').heap.size ≤ b ∨ _
    rw [hszE]; exact g1
  · obtain ⟨g1, ⟨cur, g2, g3⟩, g4⟩ := h.tk q k hk
    refine ⟨?_, ⟨cur, (hbl _ (hne _ _ _ _ g2)).trans g2, g3⟩, g4⟩
    show (E.w.putObj l o').heap.size ≤ _ ∨ _
    rw [hszE]; exact g1
theorem noq_strip {x : AV} (h : x.noq = x) (hp : ∀ t o, x ≠ .pt t o) : x.strip = x := by
  cases x <;> first | exact absurd rfl (hp _ _) | exact h
/-- A round has ended: what it changed stays. -/
theorem Rel.back {S3 : Nat → Nat → Prop} {m3 : Nat → Option Nat} {τ3 : Nat → Option Tk} {st3 : Ast} {a3 : Act} {w3 : World} (hc : Rel E S m τ st a w) (hE : E.m = fun _ => none) (hm : ∀ t b, m t = some b → 1000 ≤ t) (htm : ∀ x ∈ st.tmps, x.noq = x) (hr : Rel ⟨w, S, m, τ⟩ S3 m3 τ3 st3 a3 w3)
    (V' : List (Nat × List AV)) (hV : ∀ t row, vget V' t = some row → 1000 ≤ t ∧ vget st3.vars t = some row) : Rel E S3 (fun t => if 1000 ≤ t then m3 t else none) τ3 ⟨st.tmps, V', st.y⟩ a w3 := by
  have hs : w.heap.size ≤ w3.heap.size := hr.bel.size
  have hm' : ∀ t b, (fun t => if 1000 ≤ t then m3 t else none) t = some b → 1000 ≤ t ∧ m3 t = some b := fun t b g => by
    dsimp only at g
    split at g
    · exact ⟨by assumption, g⟩
    · cases g
  have hio : ∀ k, (En.mk w S m τ).io k → E.w.heap.size ≤ k ∨ E.io k := fun k hk => by
    rcases hk with ⟨t, g⟩ | ⟨q, tk, g, rfl⟩
    · rcases (hc.mB t k g).1 with g2 | g2
      · exact .inl g2
      · rw [hE] at g2; cases g2
    · rcases (hc.tk q tk g).1 with g2 | ⟨q', k', g2, g3⟩
      · exact .inl g2
      · exact .inr (.inr ⟨q', k', g2, g3⟩)
  have hS : ∀ b o, S b o → w3.cell? ⟨b, o, none⟩ = w.cell? ⟨b, o, none⟩ := fun b o g => hr.sS b o g
  have h0 := hc.bel.size
  refine ⟨⟨hr.bel.os.trans hc.bel.os, hr.bel.tape.trans hc.bel.tape, hr.bel.output.trans hc.bel.output, Nat.le_trans h0 hs, fun k hk hno => (hr.bel.block k (by show k < w.heap.size; omega) fun h => ?_).trans (hc.bel.block k hk hno)⟩, fun b o g => hr.s0 b o (hc.s0 b o g), fun b o g => ?_, hr.sc, fun b o g => (hS b o (hc.s0 b o g)).trans (hc.sS b o g), hc.df.mono (fun t D g => ?_) (fun D g gn => hr.bel.block D (Array.getElem?_eq_some_iff.1 g).1 fun h => ?_), hc.sz, fun i x hx => ?_, fun t row hv => ?_, fun t b g => (by rw [hE] at g; cases g), fun t b g => ?_, fun t t' b g g' => hr.mi t t' b (hm' t b g).2 (hm' t' b g').2, fun q k hk => ?_, hr.ti, fun t b q k g g' => hr.mt t b q k (hm' t b g).2 g'⟩
  · rcases hio k h with g | g
    · omega
    · exact hno g
  · rcases hr.s1 b o g with g | g | ⟨q, k, g4, rfl⟩
    · exact hc.s1 b o g
    · exact .inr (.inl (Nat.le_trans h0 g))
    · rcases (hc.tk q k g4).1 with g2 | ⟨q', k', g2, g3⟩
      · exact .inr (.inl g2)
      · exact .inr (.inr ⟨q', k', g2, g3⟩)
  · rcases (hr.mB t D (hm' t D g).2).1 with g2 | g2
    · exact .inr g2
    · exact .inl g2
  · rcases h with ⟨t, g5⟩ | ⟨q, tk, g5, g6⟩
    · exact gn t g5
    · obtain ⟨_, ⟨cur, g7, _⟩, _⟩ := hc.tk q tk g5
      rw [g6, g] at g7
      cases g7
  · have h1 := hc.tm i x hx
    have h2 := htm x (List.mem_of_getElem? hx)
    by_cases hp : ∃ t o, x = .pt t o
    · obtain ⟨t, o, rfl⟩ := hp
      obtain ⟨b, g1, g2⟩ := h1
      have g3 := hr.m0 t b g1
      exact ⟨b, (if_pos g3.2).trans g3.1, g2⟩
    · have h3 := noq_strip h2 fun t o e => hp ⟨t, o, e⟩
      have h4 := (h1.closed).mono (fun b o g => hr.s0 b o g) hS
      rw [h3] at h4
      exact h4.open
  · obtain ⟨g1, g2⟩ := hV t row hv
    obtain ⟨b, cs, ty, k1, k2, k3⟩ := hr.vr t row g2
    exact ⟨b, cs, ty, (if_pos g1).trans k1, k2, k3⟩
  · obtain ⟨g1, g2, g3⟩ := hr.mB t b (hm' t b g).2
    refine ⟨.inl ?_, g2, g3⟩
    rcases g1 with g1 | g1
    · exact Nat.le_trans h0 g1
    · rcases (hc.mB t b g1).1 with g4 | g4
      · exact g4
      · rw [hE] at g4; cases g4
  · obtain ⟨g1, g2⟩ := hr.tk q k hk
    refine ⟨?_, g2⟩
    rcases g1 with g1 | ⟨q', k', g1, g3⟩
    · exact .inl (Nat.le_trans h0 g1)
    · rcases (hc.tk q' k' g1).1 with g4 | ⟨q2, k2, g4, g5⟩
      · exact .inl (by omega)
      · exact .inr ⟨q2, k2, g4, by omega⟩
/-- A mark more. -/
theorem Rel.mark (h : Rel E S m τ st a w) (D : Nat) (hD : E.w.heap.size ≤ D) (hw : w.heap[D]? = some (.deferred (some []))) (hm : ∀ t, m t ≠ some D) (hn : ∀ D', Go.Proofs.YtjghgpmkepfdhaaGreatDoor.mark D' ∈ a.defers → D' ≠ D) (hy : st.y.yl = none) :
    Rel E S m τ st { tmps := a.tmps, defers := Go.Proofs.YtjghgpmkepfdhaaGreatDoor.mark D :: a.defers } w := by
  obtain ⟨Ds, d1, d2, d3, d4⟩ := h.df
  refine ⟨h.bel, h.s0, h.s1, h.sc, h.sS, ⟨D :: Ds, by rw [List.map_cons, d1], List.nodup_cons.2 ⟨fun hd => hn D (by rw [d1]; exact List.mem_map.2 ⟨D, hd, rfl⟩) rfl, d2⟩, fun D' hD' => ?_, fun g => absurd hy g⟩, h.sz, h.tm, h.vr, h.m0, h.mB, h.mi, h.tk, h.ti, h.mt⟩
  rcases List.mem_cons.1 hD' with rfl | g
  · exact ⟨hD, hw, hm⟩
  · exact d3 D' g
/-- What a round is handed. -/
theorem params_rel : ∀ (ps : List Tmp) (vs : List Value) (row : List AV) (tmps : Array Value) (tm : List AV), RL (RT w S m τ) vs row → tmps.size = tm.length → (∀ (i : Nat) x, tm[i]? = some x → RT w S m τ (tmps.getD i undef) x) →
    ((ps.zip vs).foldl (fun t p => t.setIfInBounds p.1 p.2) tmps).size = ((ps.zip row).foldl (fun t p => t.set p.1 p.2) tm).length ∧ ∀ (i : Nat) x, ((ps.zip row).foldl (fun t p => t.set p.1 p.2) tm)[i]? = some x → RT w S m τ (((ps.zip vs).foldl (fun t p => t.setIfInBounds p.1 p.2) tmps).getD i undef) x
  | [], vs, row, tmps, tm, hl, hs, ht => ⟨hs, ht⟩
  | p :: ps, [], row, tmps, tm, hl, hs, ht => by
    have : row = [] := by have := hl.1; exact List.eq_nil_of_length_eq_zero (by simpa using this.symm)
    subst this
    exact ⟨hs, ht⟩
  | p :: ps, v :: vs, [], tmps, tm, hl, hs, ht => by have := hl.1; simp at this
  | p :: ps, v :: vs, x :: row, tmps, tm, hl, hs, ht => by
    simp only [List.zip_cons_cons, List.foldl_cons]
    refine params_rel ps vs row _ _ ⟨by have := hl.1; simpa using this, fun j v x hv hx => hl.2 (j + 1) v x (by simpa using hv) (by simpa using hx)⟩ (by simp [hs]) fun i y hy => ?_
    by_cases hi : p = i
    · subst hi
      have hlt : p < tm.length := by have := (List.getElem?_eq_some_iff.1 hy).1; simpa using this
      rw [List.getElem?_set_self hlt] at hy
      cases hy
      have hlt2 : p < tmps.size := by rw [hs]; exact hlt
      rw [Array.getD_eq_getD_getElem?, Array.getElem?_setIfInBounds_self_of_lt hlt2]
      exact hl.2 0 v x rfl rfl
    · rw [List.getElem?_set_ne hi] at hy
      rw [Array.getD_eq_getD_getElem?, Array.getElem?_setIfInBounds_ne hi, ← Array.getD_eq_getD_getElem?]
      exact ht i y hy
end
end Go.Proofs.YtjghgpmkepfdhaaGreatDoor
namespace Go.Proofs.YtjghgpmkepfdhaaGreatDoor
open Go.RowKit
set_option linter.unusedVariables false

/-- How a loop is left by such rounds. -/
def jcode : Option Nat → Code
  | none => .ret
  | some id => .exit id
def jexit : Option Nat → Exit
  | none => .ret
  | some id => .exit id
def liveB (ans : Nat → Bool) (h : Nat) : Bool := h == 0 || ans (h - 1)
theorem live_iff {ans : Nat → Bool} {h : Nat} : liveB ans h = true ↔ (h = 0 ∨ ans (h - 1) = true) := by
  simp [liveB]
theorem live_app {ans : Nat → Bool} {h : Nat} : liveB ans (h + 1) = ans h := by
  simp [liveB]
/-- What a round's code must come to. -/
def RoundQ (ans : Nat → Bool) (jx : Nat → Option Nat) (V : Nat → List (Nat × List AV)) (h : Nat) (e : Exit) (st : Ast) : Prop :=
  (∀ t r, vget (V (h + 1)) t = some r → vget st.vars t = some r) ∧ ((e = .normal ∧ ans h = true) ∨ (e = jexit (jx h) ∧ ans h = false))
theorem range_sem {P : Program} (hm : P.follows .mixedOrders = true) {g : Operand} {ps : Array Tmp} {assign body : Code} {gf : FuncId} {fs caps : List AV} {st : Ast} (he : ∀ vs w, (callFunc gf vs).run P w = .ok (.enter gf vs) w) (hg : st.ev g = .fn (.func gf) fs caps) (hy : st.y.yl = none)
    (ans : Nat → Bool) (items : List (List AV)) (jx : Nat → Option Nat) (V : Nat → List (Nat × List AV)) (tm0 : List AV) (h0 : (st.loop 10000).le ⟨tm0, V 0, st.y⟩) (htm : ∀ x ∈ tm0, x.noq = x) (hV : ∀ h t row, vget (V h) t = some row → 1000 ≤ t)
    (hps : ∀ row ∈ items, row.length = ps.size) (r : AV) (H : Nat) (hit : ∀ l, YCalls P gf (fs ++ .fn (.yield l) [] [] :: caps) ⟨l, ans, items⟩ 0 r H)
    (hbody : ∀ pre row, items[pre]? = some row → (pre = 0 ∨ ans (pre - 1) = true) → Wp P false assign ⟨(ps.toList.zip row).foldl (fun t p => t.set p.1 p.2) tm0, V pre, y0⟩ fun e st1 => e = .normal ∧ Wp P false body st1 (RoundQ ans jx V pre)) :
    SemEx P (.rangeFunc g ps assign body) st (if liveB ans H then .normal else jexit (jx (H - 1))) ⟨tm0, V H, st.y⟩ := by
  intro C hC hCm n a w Q ⟨E, hc, S, m, τ, hr⟩ hk
  have hE := hCm E _ hc
  have hGE := hC.gl E _ hc
  obtain ⟨m1, hm1⟩ : ∃ m1, (fun t => if 10000 ≤ t then m (t - 10000) else none) = m1 := ⟨_, rfl⟩
  have hr1 := hr.loop 10000 hE
  rw [hm1] at hr1
  have hmn : ∀ t b, m1 t = some b → 1000 ≤ t := fun t b g => by
    rw [← hm1] at g
    dsimp only at g
    split at g
    · omega
    · cases g
  -- the state of the loop
  have hr2 : Rel E S m1 τ ⟨tm0, V 0, st.y⟩ a w := by
    obtain ⟨h1, h2, h3, h4⟩ := h0
    refine ⟨hr1.bel, hr1.s0, hr1.s1, hr1.sc, hr1.sS, hr1.df, hr1.sz.trans h1, fun i x hx => ?_, fun t r hr => hr1.vr t r (h3 t r hr), hr1.m0, hr1.mB, hr1.mi, hr1.tk, hr1.ti, hr1.mt⟩
    rcases h2 i x hx with rfl | g5 | ⟨g5, q5, rfl⟩
    · trivial
    · exact hr1.tm i x g5
    · have g6 := hr1.tm i _ g5
      have g6 : RC w S _ .nl := g6
      generalize a.tmps.getD i undef = v at g6
      cases g6
      exact ⟨.e none 0, fun _ => rfl, fun h => absurd rfl h⟩
  -- the function
  have hgv := hr.ev g
  rw [hg] at hgv
  obtain ⟨us, cs, hgv1, hgv0, hgv2⟩ := RC_fn hgv
  refine wpIn_rangeFunc fun fn _ => ?_
  obtain ⟨rec, hrec⟩ : ∃ rec : Nat → Loop, rec = fun h => { state := if liveB ans h then .ready else .done, pending := if liveB ans h then none else some (jcode (jx (h - 1))), fn, tmps := a.tmps, params := ps, assign, body, defers := w.heap.size } := ⟨_, rfl⟩
  have hrec0 : rec 0 = { state := .ready, pending := none, fn, tmps := a.tmps, params := ps, assign, body, defers := w.heap.size } := by rw [hrec]; rfl
  obtain ⟨W1, hW1⟩ : ∃ W1, (w.alloc (.deferred (some []))).alloc (.loop (rec 0)) = W1 := ⟨_, rfl⟩
  obtain ⟨l, hl⟩ : ∃ l, w.heap.size + 1 = l := ⟨_, rfl⟩
  have hL1 : W1.heap[l]? = some (.loop (rec 0)) := by
    rw [← hW1, ← hl]; have := World.alloc_heap_new (w.alloc (.deferred (some []))) (.loop (rec 0)); rwa [World.size_alloc] at this
  have hK1 : W1.heap[w.heap.size]? = some (.deferred (some [])) := by
    rw [← hW1]; exact (Below.heap_alloc _ _ _ (by simp)).trans (World.alloc_heap_new w _)
  have hb1 : Below w.heap.size w W1 := by
    rw [← hW1]; exact ((Below.refl _ w).alloc (Nat.le_refl _) _).alloc (by simp) _
  have hsc1 : ∀ b o, S b o → W1.cell? ⟨b, o, none⟩ = w.cell? ⟨b, o, none⟩ := fun b o hs => hb1.cell (cell_lt (hr2.sc b o hs))
  have hw0 : E.w.heap.size ≤ w.heap.size := hr.bel.size
  have hml : ∀ t, m1 t ≠ some l := fun t g => by have := (hr2.mB t l g).2.1; omega
  have hmk : ∀ t, m1 t ≠ some w.heap.size := fun t g => by have := (hr2.mB t _ g).2.1; omega
  have hr3 : Rel E S m1 τ ⟨tm0, V 0, st.y⟩ { tmps := a.tmps, defers := mark w.heap.size :: a.defers } W1 :=
    (hr2.grow hb1 (fun _ _ g => g) (fun _ _ g => .inl g) fun b o g => by rw [hsc1 b o g]; exact hr2.sc b o g).mark w.heap.size hw0 hK1 hmk (fun D' hD' e => by
      obtain ⟨Ds, d1, d2, d3, d4⟩ := hr2.df
      rw [d1] at hD'
      obtain ⟨D2, k1, k2⟩ := List.mem_map.1 hD'
      have e2 : D2 = D' := by unfold mark at k2; cases k2; rfl
      subst e2
      have := (Array.getElem?_eq_some_iff.1 (d3 D2 k1).2.1).1
      omega) hy
  obtain ⟨a0, ha0⟩ : ∃ a0 : Act, { tmps := a.tmps, defers := mark w.heap.size :: a.defers } = a0 := ⟨_, rfl⟩
  rw [ha0] at hr3
  -- what holds behind rounds
  obtain ⟨CL, hCL⟩ : ∃ CL : En → Yst → Prop, CL = fun E' y => E'.m = (fun _ => none) ∧ E'.τ = (fun _ => none) ∧ y.yl = some ⟨l, ans, items⟩ ∧ (∃ m' τ', (∀ t b, m' t = some b → 1000 ≤ t) ∧ (∀ t, m' t ≠ some l) ∧ Rel E E'.S m' τ' ⟨tm0, V y.hist, st.y⟩ a0 E'.w) ∧ E'.w.heap[l]? = some (.loop (rec y.hist)) := ⟨_, rfl⟩
  have hlE : E.w.heap.size ≤ l := by omega
  have hD0 : ∀ w2 ds, Marks E st.y m1 ds w2 → True := fun _ _ _ => trivial
  have hYC : YC P CL := by
    subst hCL
    refine ⟨?_, fun E' y h _ => ⟨h.1, h.2.1⟩, ?_, ?_⟩
    · rintro E' y ⟨h1, h2, h3, ⟨m', τ', h4, h5, h6⟩, h7⟩
      refine ⟨hGE.now h6.bel, fun b hb hio => ?_⟩
      rcases hio with ⟨t, g⟩ | ⟨q, k', g, _⟩
      · rw [h1] at g; cases g
      · rw [h2] at g; cases g
    · rintro E' y w2 S2 ⟨h1, h2, h3, ⟨m', τ', h4, h5, h6⟩, h7⟩ _ hsame hS1 hS2 hS3 hS4
      have hno : ∀ k, ¬ E'.io k := fun k hk => by
        rcases hk with ⟨t, g⟩ | ⟨q, k', g, _⟩
        · rw [h1] at g; cases g
        · rw [h2] at g; cases g
      have hlt := (Array.getElem?_eq_some_iff.1 h7).1
      exact ⟨rfl, rfl, h3, ⟨m', τ', h4, h5, h6.grow ⟨hsame.os, hsame.tape, hsame.output, hsame.size, fun k hk => hsame.block k hk (hno k)⟩ hS1 hS2 hS3⟩, (hsame.block l hlt (hno l)).trans h7⟩
    · rintro E' h Y row vs ⟨h1, h2, h3, ⟨m', τ', h4, h5, h6⟩, h7⟩ hlive hgd hrow hSE
      cases h3
      dsimp only at h6 h7 hlive hgd ⊢
      have hlb := live_iff.2 hlive
      have hrd : (rec h).state = .ready := by rw [hrec]; simp [hlb]
      have hvl : vs.length = row.length := hrow.1
      have hyl := run_yield (P := P) (args := vs.toArray) h7 (by rw [hrec]; simp only [List.size_toArray]; rw [hvl]; exact hps row (List.mem_of_getElem? hgd))
      refine ⟨_, _, _, _, hyl, roundIn_of_wpIn trivial ?_⟩
      have q1 : (rec h).tmps = a.tmps := by rw [hrec]
      have q2 : (rec h).params = ps := by rw [hrec]
      have q3 : (rec h).assign = assign := by rw [hrec]
      have q4 : (rec h).body = body := by rw [hrec]
      rw [q1, q2, q3, q4]
      -- into the round
      have hpar := params_rel (m := m') (τ := τ') ps.toList vs row a.tmps tm0 (hrow.imp fun v x g => g.open) (by have := h6.sz; rw [← ha0] at this; exact this) (fun i x hx => by have := h6.tm i x hx; rw [← ha0] at this; exact this)
      have hrE := h6.enter h4 _ _ hpar.1 hpar.2
      have hfold : (ps.zip vs.toArray).foldl (fun t (p, v) => t.setIfInBounds p v) a.tmps = (ps.toList.zip vs).foldl (fun t p => t.setIfInBounds p.1 p.2) a.tmps := by
        rw [← Array.foldl_toList]
        simp
      rw [hfold]
      obtain ⟨e1, st1, hex1, rfl, e2, st2, hex2, hq⟩ := hbody h row hgd hlive
      obtain ⟨Ea, hEa⟩ : ∃ Ea, En.mk E'.w E'.S m' τ' = Ea := ⟨_, rfl⟩
      rw [hEa] at hrE
      have hnoio : ∀ b, Gb b → ¬ (En.mk E'.w E'.S m' τ').io b := fun b hb hio => by
        have k1 := (hGE.1 b hb).1
        rcases hio with ⟨t, g⟩ | ⟨q, tk, g, g2⟩
        · rcases (h6.mB t b g).1 with g3 | g3
          · omega
          · rw [hE] at g3; cases g3
        · rcases (h6.tk q tk g).1 with g3 | ⟨q', k', g3, g4⟩
          · omega
          · exact hGE.2 b hb (.inr ⟨q', k', g3, by omega⟩)
      have hGa : GOk Ea := by rw [← hEa]; exact ⟨hGE.now h6.bel, hnoio⟩
      refine (hex1.both hm _ (YC.one Ea hGa) (some l) _ (fun h => by cases h) _ E'.w _ ⟨Ea, ⟨rfl, rfl⟩, _, _, _, hrE⟩ fun a1 w1 hs1 => ?_).1
      obtain ⟨E1, ⟨rfl, hs1y⟩, S1, m1', τ1, hs1⟩ := hs1
      subst hEa
      have hio : ∀ o, E'.w.heap[l]? = some (.loop o) → ¬ (En.mk E'.w E'.S m' τ').io l := fun o ho hk => by
        rcases hk with ⟨t, g⟩ | ⟨q, tk, g, e⟩
        · exact h5 t g
        · obtain ⟨_, ⟨cur, g2, _⟩, _⟩ := h6.tk q tk g
          rw [e, ho] at g2
          cases g2
      have hlt := (Array.getElem?_eq_some_iff.1 h7).1
      have hl1 : w1.heap[l]? = some (.loop (rec h)) := (hs1.bel.block l hlt (hio _ h7)).trans h7
      refine ⟨_, run_beginRound hl1 hrd, ?_⟩
      obtain ⟨bz, hbz⟩ : ∃ bz : Loop, { rec h with state := .busy } = bz := ⟨_, rfl⟩
      have hs2 := hs1.obj2 l _ _ (.loop bz) h7 (fun _ _ _ e => by cases e) hl1 (fun _ _ _ e => by cases e) (fun e => by cases e)
      rw [hbz]
      obtain ⟨Eb, hEb⟩ : ∃ Eb, En.mk (E'.w.putObj l (.loop bz)) E'.S m' τ' = Eb := ⟨_, rfl⟩
      have hs2' : Rel Eb S1 m1' τ1 st1 a1 (w1.putObj l (.loop bz)) := by rw [← hEb]; exact hs2
      have hGb : GOk Eb := by
        rw [← hEb]
        refine ⟨fun b hb => ?_, hnoio⟩
        have k1 := (hGE.1 b hb).1
        have k2 := hGE.now h6.bel b hb
        show b < (E'.w.putObj l (.loop bz)).heap.size ∧ Gc b (E'.w.putObj l (.loop bz)).heap[b]?
        rw [World.putObj_size, World.putObj_heap_other (by omega)]
        exact k2
      refine (hex2.both hm _ (YC.one Eb hGb) (some l) _ (fun h => by cases h) _ _ _ ⟨Eb, ⟨rfl, (hs1y).trans rfl⟩, _, _, _, hs2'⟩ fun a3 w3 hs3 => ?_).1
      obtain ⟨E3, ⟨rfl, _⟩, S3, m3, τ3, hs3⟩ := hs3
      subst hEb
      have hlt2 : l < (E'.w.putObj l (.loop bz)).heap.size := by rw [World.putObj_size]; exact hlt
      have hio2 : ¬ (En.mk (E'.w.putObj l (.loop bz)) E'.S m' τ').io l := fun hk => hio _ h7 hk
      have hl3 : w3.heap[l]? = some (.loop bz) := (hs3.bel.block l hlt2 hio2).trans (World.putObj_heap_same hlt)
      obtain ⟨hq1, hq2⟩ := hq
      have hlw3 : l < w3.heap.size := (Array.getElem?_eq_some_iff.1 hl3).1
      have hcE : ∀ b o, E'.S b o → (E'.w.putObj l (.loop bz)).cell? ⟨b, o, none⟩ = E'.w.cell? ⟨b, o, none⟩ := fun b o g => putObj_cell h7 (fun _ _ _ e => by cases e) b o (hSE b o g)
      have hback := (h6.obj l _ (.loop bz) hlE h7 (fun _ _ _ e => by cases e) a0.defers (h6.df.mono (fun t D g => .inl g) fun D g _ => World.putObj_heap_other fun e => by subst e; rw [h7] at g; cases g)).back hE h4 htm hs3 (V (h + 1)) fun t r g => ⟨hV _ t r g, hq1 t r g⟩
      have hfin : ∀ jump : Option Code, jump = (if ans h = true then none else some (jcode (jx h))) → ∃ v w4, (Instr.endRound l jump).run P w3 = .ok v w4 ∧ Ending.returned v = .returned (.bool (ans h)) ∧ ∃ S' : Nat → Nat → Prop, (∀ b o, E'.S b o → S' b o ∧ w4.cell? ⟨b, o, none⟩ = E'.w.cell? ⟨b, o, none⟩) ∧ (∀ b o, S' b o → (w4.cell? ⟨b, o, none⟩).isSome = true) ∧
          (fun (E' : En) (y : Yst) => E'.m = (fun _ => none) ∧ E'.τ = (fun _ => none) ∧ y.yl = some ⟨l, ans, items⟩ ∧ (∃ m' τ', (∀ t b, m' t = some b → 1000 ≤ t) ∧ (∀ t, m' t ≠ some l) ∧ Rel E E'.S m' τ' ⟨tm0, V y.hist, st.y⟩ a0 E'.w) ∧ E'.w.heap[l]? = some (.loop (rec y.hist))) ⟨w4, S', fun _ => none, fun _ => none⟩ ⟨h + 1, some ⟨l, ans, items⟩⟩ := by
        intro jump hj
        have hrun := run_endRound (P := P) jump hl3
        have hrc : ({ bz with state := if jump.isNone then .ready else .done, pending := jump } : Loop) = rec (h + 1) := by
          rw [← hbz, hrec, hj]
          simp only [live_app, Nat.add_sub_cancel]
          cases ans h <;> rfl
        rw [hrc] at hrun
        refine ⟨_, _, hrun, by rw [hj]; cases ans h <;> rfl, S3, fun b o g => ⟨hs3.s0 b o g, ?_⟩, fun b o g => ?_, rfl, rfl, rfl, ⟨_, τ3, ?_, ?_, hback.obj l _ (.loop (rec (h + 1))) hlE hl3 (fun _ _ _ e => by cases e) a0.defers (hback.df.mono (fun t D g => .inl g) fun D g _ => World.putObj_heap_other fun e => by subst e; rw [hl3] at g; cases g)⟩, World.putObj_heap_same hlw3⟩
        · rw [putObj_cell hl3 (fun _ _ _ e => by cases e) b o (hs3.sc b o (hs3.s0 b o g)), hs3.sS b o g]
          exact hcE b o g
        · rw [putObj_cell hl3 (fun _ _ _ e => by cases e) b o (hs3.sc b o g)]
          exact hs3.sc b o g
        · intro t b g
          split at g
          · assumption
          · cases g
        · intro t g
          split at g
          · rcases (hs3.mB t l g).1 with g2 | g2
            · have g2 : (E'.w.putObj l (.loop bz)).heap.size ≤ l := g2
              omega
            · exact h5 t g2
          · cases g
      rcases hq2 with ⟨rfl, hans⟩ | ⟨rfl, hans⟩
      · exact hfin none (by rw [if_pos hans])
      · have := hfin (some (jcode (jx h))) (by rw [if_neg (by rw [hans]; simp)])
        cases hjx : jx h with
        | none => rw [hjx] at this; exact this
        | some id => rw [hjx] at this; exact this
  have hC1 : CL ⟨W1, S, fun _ => none, fun _ => none⟩ ⟨0, some ⟨l, ans, items⟩⟩ := by
    rw [hCL]
    exact ⟨rfl, rfl, rfl, ⟨m1, τ, hmn, hml, hr3⟩, hL1⟩
  have hargs : RL (RV W1 S) (us ++ .func (.yield l) #[] #[] :: cs) (fs ++ .fn (.yield l) [] [] :: caps) := (hgv0.imp fun v x g => RK_to (RK.of (g.mono (fun _ _ g => g) hsc1))).app (RL.cons (RK_to (RK.of (RC_mkfn (vs := []) (cs := []) RL.nil RL.nil))) (hgv2.imp fun v x g => RK_to (RK.of (g.mono (fun _ _ g => g) hsc1))))
  have hcall := hit l CL hYC W1 S _ hC1 hr3.sc hargs
  refine ⟨l, [mark w.heap.size], W1, { target := .fn (.func gf) cs.toArray, args := us.toArray ++ #[.func (.yield l) #[] #[]] }, W1, gf, (us ++ Value.func (.yield l) #[] #[] :: cs).toArray, W1, ?_, ?_, fun _ _ => trivial, ?_, fun hd => (by cases hd), callsWF (hcall.mono ?_)⟩
  · rw [← hW1, ← hl, hrec0]
    exact run_enterLoop_outer _ _ _ _ _
  · simp only [resolve, hgv1]
    simp [Deferred.ofValue, Act.eval]
  · simp [invoke, he]
  · rintro e w' ⟨v, S', rfl, k1, k2, k3, k4⟩
    rw [hCL] at k4
    obtain ⟨_, _, _, ⟨m', τ', k5, k6, k7⟩, k8⟩ := k4
    dsimp only at k7 k8
    have hend := run_endLoop (P := P) k8 (by rw [hrec]; dsimp only; split <;> simp)
    have hfinal := k7.obj l _ (.loop { rec H with state := .exhausted }) hlE k8 (fun _ _ _ e => by cases e) a0.defers (k7.df.mono (fun t D g => .inl g) fun D g _ => World.putObj_heap_other fun e => by subst e; rw [k8] at g; cases g)
    have hq := hk _ _ ⟨E, hc, S', m', τ', hfinal⟩
    generalize w'.putObj l (.loop { rec H with state := .exhausted }) = W5 at hend hq
    refine ⟨_, _, hend, ?_⟩
    have hpd : (rec H).pending = if liveB ans H then none else some (jcode (jx (H - 1))) := by rw [hrec]
    rw [hpd]
    rw [← ha0] at hq
    cases hlv : liveB ans H with
    | true =>
      rw [hlv] at hq
      exact hq
    | false =>
      rw [hlv] at hq
      simp only [Bool.false_eq_true, if_false] at hq ⊢
      cases hjx : jx (H - 1) with
      | none => rw [hjx] at hq; exact wpIn_ret hq
      | some id => rw [hjx] at hq; exact wpIn_exit hq
theorem Wp.range {P : Program} (hm : P.follows .mixedOrders = true) {g : Operand} {ps : Array Tmp} {assign body : Code} {gf : FuncId} {fs caps : List AV} {st st' : Ast} {Q : Exit → Ast → Prop} (he : ∀ vs w, (callFunc gf vs).run P w = .ok (.enter gf vs) w) (hg : st.ev g = .fn (.func gf) fs caps) (hy : st.y.yl = none)
    (ans : Nat → Bool) (items : List (List AV)) (jx : Nat → Option Nat) (V : Nat → List (Nat × List AV)) (tm0 : List AV) (h0 : (st.loop 10000).le ⟨tm0, V 0, st.y⟩) (htm : ∀ x ∈ tm0, x.noq = x) (hV : ∀ h t row, vget (V h) t = some row → 1000 ≤ t)
    (hps : ∀ row ∈ items, row.length = ps.size) (r : AV) (H : Nat) (hit : ∀ l, YCalls P gf (fs ++ .fn (.yield l) [] [] :: caps) ⟨l, ans, items⟩ 0 r H)
    (hbody : ∀ pre row, items[pre]? = some row → (pre = 0 ∨ ans (pre - 1) = true) → Wp P false assign ⟨(ps.toList.zip row).foldl (fun t p => t.set p.1 p.2) tm0, V pre, y0⟩ fun e st1 => e = .normal ∧ Wp P false body st1 (RoundQ ans jx V pre))
    (hs : (⟨tm0, V H, st.y⟩ : Ast) = st') (hq : Q (if liveB ans H then .normal else jexit (jx (H - 1))) st') : Wp P true (.rangeFunc g ps assign body) st Q :=
  ⟨_, _, .sem rfl (fun c e => by cases e) (range_sem hm he hg hy ans items jx V tm0 h0 htm hV hps r H hit hbody), by rw [hs]; exact hq⟩
theorem le_of {st st' : Ast} (keep vk : List Nat) (h : st.only keep vk = st') : st.le st' := h ▸ le_only st keep vk
theorem noq_all : ∀ {l : List AV}, l.map AV.noq = l → ∀ x ∈ l, x.noq = x
  | [], _, x, hx => by simp at hx
  | y :: l, h, x, hx => by
    simp only [List.map_cons, List.cons.injEq] at h
    rcases List.mem_cons.1 hx with rfl | g
    · exact h.1
    · exact noq_all h.2 x g
theorem vget_ge : ∀ {l : List (Nat × List AV)} {t : Nat} {r : List AV}, l.all (fun p => Nat.ble 1000 p.1) = true → vget l t = some r → 1000 ≤ t
  | [], t, r, _, h => by cases h
  | (s, q) :: l, t, r, ha, h => by
    simp only [List.all_cons, Bool.and_eq_true] at ha
    simp only [vget] at h
    split at h
    · rename_i e
      subst e
      exact Nat.le_of_ble_eq_true ha.1
    · exact vget_ge ha.2 h
theorem vsub {V' vars : List (Nat × List AV)} (vk : List Nat) (h : vars.filter (fun p => vk.contains p.1) = V') (t : Nat) (r : List AV) (hg : vget V' t = some r) : vget vars t = some r := by
  rw [← h] at hg
  exact vget_filter vk t r _ hg
theorem mapIdx_out {α : Type} {f : Nat → α → List AV} {l : List α} {i : Nat} {r : List AV} (h : (l.mapIdx f)[i]? = some r) : ∃ x, l[i]? = some x ∧ r = f i x := by
  rw [List.getElem?_mapIdx] at h
  cases hx : l[i]? with
  | none => rw [hx] at h; cases h
  | some x => rw [hx] at h; cases h; exact ⟨x, rfl, rfl⟩
theorem map_out {α : Type} {f : α → List AV} {l : List α} {i : Nat} {r : List AV} (h : (l.map f)[i]? = some r) : ∃ x, l[i]? = some x ∧ r = f x := by
  rw [List.getElem?_map] at h
  cases hx : l[i]? with
  | none => rw [hx] at h; cases h
  | some x => rw [hx] at h; cases h; exact ⟨x, rfl, rfl⟩
end Go.Proofs.YtjghgpmkepfdhaaGreatDoor
namespace Go.Proofs.YtjghgpmkepfdhaaGreatDoor
open Go.RowKit
set_option linter.unusedVariables false
section
variable {P : Program} {o : Oper} {st : Ast}
theorem val_buildA (t e : TypeId) (n : Nat) (ps : List (Nat × Operand)) (it ie : TypeInfo) (z : Value) (l : List (Nat × List AV)) (ys : List AV) (ho : o.op = .build t ps.toArray) (hi : P.info? t = some it) (hu : P.underlying t = some (.array n e)) (he : P.info? e = some ie) (hz : it.zero = some z) (h1 : z.cells.all (·.oneCell') = true)
    (hl : st.parts ps = some l) (hf : fillA (fun i => some (i * ie.size, ie.size)) (z.cells.toList.map cAV0) l = some ys) : ValOk P o st (.ag ys) := by
  refine val_pure fun S m τ E st' a w hr hev0 hv => ?_
  have hev : ∀ p ∈ ps, st'.ev p.2 = st.ev p.2 := fun p hp => hev0 _ (by rw [ho]; simp [Op.operands]; exact ⟨_, hp⟩)
  have hl' : st'.parts ps = some l := by
    rw [← hl]
    clear hl hr hev0 ho
    induction ps with
    | nil => rfl
    | cons p ps ih =>
      obtain ⟨i, x⟩ := p
      simp only [Ast.parts]
      rw [hev (i, x) (by simp), ih fun p hp => hev p (by simp [hp])]
  obtain ⟨cs', k1, k2⟩ := fill_rel hr.ev (fun i => some (i * ie.size, ie.size)) ps l z.cells.toList _ ys hl' ((RL_const _ fun v hv => (Array.all_eq_true_iff_forall_mem.1 h1) v (by simpa using hv)).imp fun v x g => RK.of g) hf
  refine ⟨.agg cs'.toArray, ?_, cs', rfl, k2⟩
  unfold execOp
  rw [ho]
  have hzv : (zeroValue t).run P w = .ok z w := by simp [zeroValue, typeInfo, hi, hz]
  simp [Instr.build, hzv, run_underlying hu, sizeOf, typeInfo, he]
  have k1 : Instr.fill (fun i => some (i * ie.size, ie.size)) z.cells (ps.map fun p => (p.1, a.eval p.2)) = some cs'.toArray := by simpa using k1
  simp [k1]
/-- A part of an array that is a value, of one cell. -/
theorem g_ix1 (t e : TypeId) (x y : Operand) (k : IntKind) (i len : Nat) (d : TypeDesc) (cs : List AV) (c : AV) (ho : o.op = .index t x y) (ht : P.underlying t = some (.array len e)) (hu : P.underlying e = some d) (hd : d.isRow = false) (ie : TypeInfo) (hi : P.info? e = some ie) (hs : ie.size = 1)
    (hx : st.ev x = .ag cs) (hy : st.ev y = .sc (.int k (i : Int))) (hlt : i < len) (hc : cs[i]? = some c) : ValOk P o st c := by
  refine val_pure fun S m τ E st' a w hr he hv => ?_
  have h1 := hr.ev x
  rw [he x (by rw [ho]; simp [Op.operands]), hx] at h1
  have h2 := hr.ev y
  rw [he y (by rw [ho]; simp [Op.operands]), hy] at h2
  have h2 := RT_sc h2
  obtain ⟨vs, g1, g2⟩ := h1
  obtain ⟨v, k1, k2⟩ := g2.get hc
  refine ⟨v, ?_, RK_to k2⟩
  unfold execOp
  rw [ho]
  cases d <;> first | (simp [g1, h2, Instr.index, run_underlying ht, asIntOf, hlt, part, isAgg, run_underlying hu, sizeOf, typeInfo, hi, hs, k1]; done) | cases hd
end
/-- A loop's round, and the loop. -/
theorem Wp.unroll {P : Program} {T : Bool} {Q : Exit → Ast → Prop} {st : Ast} {c : Code} (h : Wp P T c st fun e st1 => match e with
      | .normal => Wp P T (.loop c) st1 Q
      | e => Exit.open e = true ∧ Q e st1) : Wp P T (.loop c) st Q := by
  obtain ⟨e, st1, h1, h2⟩ := h
  cases e with
  | normal =>
    obtain ⟨e2, st2, h3, h4⟩ := h2
    exact ⟨_, _, .again h1 h3, h4⟩
  | exit id => exact ⟨_, _, .out h1 h2.1, h2.2⟩
  | ret => exact ⟨_, _, .out h1 h2.1, h2.2⟩
  | goto l => exact ⟨_, _, .out h1 h2.1, h2.2⟩
  | panic c => exact ⟨_, _, .out h1 h2.1, h2.2⟩
  | outgrown => exact ⟨_, _, .out h1 h2.1, h2.2⟩
end Go.Proofs.YtjghgpmkepfdhaaGreatDoor
namespace Go.Proofs.YtjghgpmkepfdhaaGreatDoor
open Go.RowKit
set_option linter.unusedVariables false

/-- A list grows by others: all that an append asks for. -/
structure AppOk (rows rows' R : List (List AV)) (n by_ : Nat) : Prop where
  eq : rows ++ rows' = R
  ne : rows' ≠ []
  k' : ∀ r ∈ rows', r.length = n
  k : ∀ r ∈ rows, r.length = n
  bytes : (rows.length + rows'.length) * by_ ≤ 140737488355328
  max : rows.length + rows'.length ≤ maxLen
/-- What is told beside the operations, in the order in which it is wanted. -/
inductive Ht (P : Program)
  | c {F : FuncId} {args : List AV} {r : AV} (h : PCalls P F args r)
  | cv {F : FuncId} {fs args cs : List AV} {r : AV} (he : ∀ vs w, (callFunc F vs).run P w = .ok (.enter F vs) w) (h : PCalls P F (fs ++ args ++ cs) r)
  | i {rows : List (List AV)} {n : Nat} {r : List AV} (h : rows[n]? = some r)
  | z {b : BinOp} {k : IntKind} {x y z : Int} (h : intRes b k x y = some (.int k z))
  | n {rows : List (List AV)} {m : Nat} (h : rows.length = m)
  | m {x y z : Int} (h : (if y > x then y else x) = z)
  | g {b v : Bool} (h : b = v)
  | p {b v : Bool} (h : b = v)
  | u
  | e {t : TypeId} {cx cy : Array Value} {b : Bool} (h : ∀ w, (Op.equalIn 10000 t (.agg cx) (.agg cy)).run P w = .ok b w)
  | a {rows rows' R : List (List AV)} {n by_ : Nat} (h : AppOk rows rows' R n by_)
  | yy {Y : Ys} {h : Nat} {row : List AV} (hl : h = 0 ∨ Y.ans (h - 1) = true) (hg : Y.items[h]? = some row)
  | yc {F : FuncId} {args : List AV} {Y : Ys} {h : Nat} {r : AV} {h' : Nat} (hc : YCalls P F args Y h r h')
abbrev Prs := List (AV × AV)
/-- All pairs are the same. -/
def Prs.ok (l : Prs) : Prop := ∀ p ∈ l, p.1 = p.2
theorem Prs.ok_nil : Prs.ok [] := fun p h => by cases h
theorem Prs.ok_cons {x y : AV} {l : Prs} : Prs.ok ((x, y) :: l) ↔ x = y ∧ Prs.ok l := by simp [Prs.ok]
theorem Prs.ok_app {l r : Prs} : Prs.ok (l ++ r) ↔ Prs.ok l ∧ Prs.ok r := by
  simp only [Prs.ok, List.mem_append]
  exact ⟨fun h => ⟨fun p hp => h p (.inl hp), fun p hp => h p (.inr hp)⟩, fun h p hp => hp.elim (h.1 p) (h.2 p)⟩
/-- Known, or nothing said. -/
def Lw (x y : AV) : Prop := x = .un ∨ y = x
theorem Lw.refl (x : AV) : Lw x x := .inr rfl
theorem Lw.to {x y : AV} (h : Lw x y) (hx : x ≠ .un) : y = x := h.resolve_left hx

def unI (i : Int) : AV := .sc (.int .i64 i)
def kI (k : IntKind) : AV := .sc (.int k 0)
def bI (b : Bool) : AV := .sc (.bool b)
def nI (n : Nat) : AV := .sc (.int .i64 (n : Int))
def rI (rows : List (List AV)) : AV := .ls none rows
theorem bI_inj {a b : Bool} (h : bI a = bI b) : a = b := by cases h; rfl
theorem unI_inj {a b : Int} (h : unI a = unI b) : a = b := by cases h; rfl
theorem nI_inj {a b : Nat} (h : nI a = nI b) : a = b := by
  have : (a : Int) = b := unI_inj h
  omega
theorem rI_inj {a b : List (List AV)} (h : rI a = rI b) : a = b := by cases h; rfl
theorem kI_inj {a b : IntKind} (h : kI a = kI b) : a = b := by cases h; rfl

/-- Arguments, told as a call wants them. -/
def cq0E : AV → AV → Option Prs
  | .nl, .nl => some []
  | .nl, .ls none rows => some [(rI [], rI rows)]
  | .nl, .ls (some _) _ => none
  | .ls (some _) rows, .ls none rows' => some [(rI rows, rI rows')]
  | .ls (some _) _, _ => none
  | .sc v, y => some [(.sc v, y)]
  | .ls none rows, y => some [(.ls none rows, y)]
  | .pr xs, y => some [(.pr xs, y)]
  | .fn k ks cs, y => some [(.fn k ks cs, y)]
  | .un, .un => some []
  | _, _ => none
theorem cq0E_ok {x y : AV} {p : Prs} (h : cq0E x y = some p) (hp : p.ok) : Cq0 [] x y := by
  unfold cq0E at h
  split at h
  · exact .nl
  · cases h; have := rI_inj (Prs.ok_cons.1 hp).1; subst this; exact .nl0
  · cases h
  · cases h; have := rI_inj (Prs.ok_cons.1 hp).1; subst this; exact .drop _ _
  · cases h
  · cases h; have := (Prs.ok_cons.1 hp).1; subst this; exact .sc _
  · cases h; have := (Prs.ok_cons.1 hp).1; subst this; exact .ls _
  · cases h; have := (Prs.ok_cons.1 hp).1; subst this; exact .pr _
  · cases h; have := (Prs.ok_cons.1 hp).1; subst this; exact .fn _ _ _
  · exact .un
  · cases h
def cqLE : List AV → List AV → Option Prs
  | [], [] => some []
  | x :: xs, y :: ys => match cq0E x y, cqLE xs ys with
    | some p, some q => some (p ++ q)
    | _, _ => none
  | _, _ => none
theorem cqLE_ok : ∀ {xs ys : List AV} {p : Prs}, cqLE xs ys = some p → p.ok → CqL [] xs ys
  | [], [], p, h, hp => .nil
  | x :: xs, y :: ys, p, h, hp => by
    simp only [cqLE] at h
    split at h
    · rename_i p1 p2 e1 e2
      cases h
      have h2 := Prs.ok_app.1 hp
      exact .cons (cq0E_ok e1 h2.1) (cqLE_ok e2 h2.2)
    · cases h
  | [], _ :: _, p, h, hp => by cases h
  | _ :: _, [], p, h, hp => by cases h
def cqE (x y : AV) : Option Prs := match y with
  | .un => some []
  | .ag ys => match x with
    | .ag xs => cqLE xs ys
    | _ => none
  | y => cq0E x y
theorem cqE_ok {x y : AV} {p : Prs} (h : cqE x y = some p) (hp : p.ok) : Cq [] [] x y := by
  unfold cqE at h
  split at h
  · exact .un _
  · split at h
    · exact .ag (cqLE_ok h hp)
    · cases h
  · exact .of (cq0E_ok h hp)
def cqAE : List AV → List AV → Option Prs
  | [], [] => some []
  | x :: xs, y :: ys => match cqE x y, cqAE xs ys with
    | some p, some q => some (p ++ q)
    | _, _ => none
  | _, _ => none
theorem strip_un {y : AV} : (AV.un).strip = .un := rfl
theorem cqAE_ok {e : Operand → AV} {st : Ast} : ∀ {xs : List Operand} {ys : List AV} {p : Prs}, (∀ x ∈ xs, Lw (e x) (st.ev x)) → cqAE (xs.map fun x => (e x).strip) ys = some p → p.ok → CqA [] [] (xs.map fun x => (st.ev x).strip) ys
  | [], [], p, hl, h, hp => .nil
  | x :: xs, y :: ys, p, hl, h, hp => by
    simp only [List.map_cons, cqAE] at h ⊢
    split at h
    · rename_i p1 p2 e1 e2
      cases h
      have h2 := Prs.ok_app.1 hp
      refine .cons ?_ (cqAE_ok (fun z hz => hl z (by simp [hz])) e2 h2.2)
      rcases hl x (by simp) with g | g
      · rw [g] at e1
        have h3 := cqE_ok e1 h2.1
        rw [strip_un (y := .un)] at h3
        cases h3 with
        | of h => cases h; exact .un _
        | un => exact .un _
      · rw [g]; exact cqE_ok e1 h2.1
    · cases h
  | [], _ :: _, p, hl, h, hp => by cases h
  | _ :: _, [], p, hl, h, hp => by cases h

section
variable {P : Program}
abbrev Rs (P : Program) := Option (AV × List (Ht P) × Prs)
def atE (vars : List (Nat × List AV)) : AV → Option (List AV)
  | .pt v n => match vget vars v with
    | some row => some (row.drop n)
    | none => none
  | .pr cs => some cs
  | _ => none
theorem atE_ok {st : Ast} {x : AV} : atE st.vars x = st.at_ x := by
  cases x <;> simp only [atE, Ast.at_]
  cases vget st.vars _ <;> rfl
theorem atE_ne {vars : List (Nat × List AV)} {x : AV} {cs : List AV} (h : atE vars x = some cs) : x ≠ .un := by rintro rfl; cases h
/-- A value is loaded. -/
def evLoad (P : Program) (vars : List (Nat × List AV)) (t : TypeId) (x : AV) : Option AV := match atE vars x, P.underlying t, P.info? t with
  | some cs, some d, some i => match d.isRow with
    | true => match Nat.ble i.size cs.length with
      | true => some (.ag (cs.take i.size))
      | false => none
    | false => match cs with
      | y :: _ => some y
      | [] => none
  | _, _, _ => none
theorem evLoad_ok {o : Oper} {st : Ast} {t : TypeId} {x : Operand} {X y : AV} (ho : o.op = .load t x) (hl : Lw X (st.ev x)) (h : evLoad P st.vars t X = some y) : ValOk P o st y := by
  unfold evLoad at h
  split at h
  · rename_i cs d i e1 e2 e3
    have hx := hl.to (atE_ne e1)
    have hx2 : st.at_ (st.ev x) = some cs := by rw [hx, ← atE_ok]; exact e1
    split at h
    · rename_i hd
      split at h
      · rename_i hb
        cases h
        exact val_ldr t x d i cs ho e2 hd e3 hx2 (Nat.le_of_ble_eq_true hb)
      · cases h
    · rename_i hd
      split at h
      · cases h
        exact val_ld t x d _ y ho e2 hd hx2 rfl
      · cases h
  · cases h
def evFA (P : Program) (t : TypeId) (x : AV) (f : Nat) : Option AV := match P.underlying t with
  | some (.struct fs) => match fs[f]? with
    | some fl => match P.info? fl.type with
      | some i => match i.size with
        | 0 => none
        | _ + 1 => match x with
          | .pt v n => some (.pt v (n + fl.offset))
          | .pr cs => some (.pr (cs.drop fl.offset))
          | _ => none
      | none => none
    | none => none
  | _ => none
theorem evFA_ok {o : Oper} {st : Ast} {t : TypeId} {x : Operand} {f : Nat} {X y : AV} (ho : o.op = .fieldAddr t x f) (hl : Lw X (st.ev x)) (h : evFA P t X f = some y) : ValOk P o st y := by
  unfold evFA at h
  split at h <;> try cases h
  rename_i fs e1
  split at h <;> try cases h
  rename_i fl e2
  split at h <;> try cases h
  rename_i i e3
  split at h <;> try cases h
  rename_i k e4
  split at h <;> try cases h
  · rename_i v n
    exact val_fa t x f fs fl i ho e1 e2 e3 (by rw [e4]; simp) _ (.inl ⟨v, n, hl.to (by simp), rfl⟩)
  · rename_i cs
    exact val_fa t x f fs fl i ho e1 e2 e3 (by rw [e4]; simp) _ (.inr ⟨cs, hl.to (by simp), rfl⟩)
def evFd (P : Program) (t : TypeId) (x : AV) (f : Nat) : Option AV := match P.underlying t with
  | some (.struct fs) => match fs[f]? with
    | some fl => match P.underlying fl.type, P.info? fl.type, x with
      | some d, some i, .ag cs => match d.isRow with
        | true => some (.ag ((cs.drop fl.offset).take i.size))
        | false => cs[fl.offset]?
      | _, _, _ => none
    | none => none
  | _ => none
theorem evFd_ok {o : Oper} {st : Ast} {t : TypeId} {x : Operand} {f : Nat} {X y : AV} (ho : o.op = .field t x f) (hl : Lw X (st.ev x)) (h : evFd P t X f = some y) : ValOk P o st y := by
  unfold evFd at h
  split at h <;> try cases h
  rename_i fs e1
  split at h <;> try cases h
  rename_i fl e2
  split at h <;> try cases h
  rename_i d i cs e3 e4
  have hx := hl.to (by simp)
  split at h
  · rename_i hd
    cases h
    exact val_fdr t x f fs fl d i cs ho e1 e2 e3 hd e4 hx
  · rename_i hd
    exact val_fd t x f fs fl d cs y ho e1 e2 e3 hd hx h
/-- Which place of an array a number is. -/
def litN : AV → Option (IntKind × Nat)
  | .sc (.int k (.ofNat n)) => some (k, n)
  | _ => none
theorem litN_ok {x : AV} {k : IntKind} {n : Nat} (h : litN x = some (k, n)) : x = .sc (.int k (n : Int)) := by
  unfold litN at h
  split at h
  · cases h; rfl
  · cases h
theorem litN_ne {x : AV} {p : IntKind × Nat} (h : litN x = some p) : x ≠ .un := by rintro rfl; cases h
def evIA (P : Program) (t : TypeId) (x y : AV) (hs : List (Ht P)) : Rs P := match P.underlying t with
  | some (.slice e) => match P.info? e, x, y, hs with
    | some ie, .ls own rows, .sc (.int k a), .i (rows := rows') (n := n) (r := r) _ :: hs => match Nat.beq r.length ie.size with
      | true => some (.pr r, hs, [(rI rows, rI rows'), (unI a, nI n)])
      | false => none
    | _, _, _, _ => none
  | some (.array len e) => match P.info? e, litN y with
    | some ie, some (_, i) => match Nat.ble (i + 1) len, x with
      | true, .pt v m => some (.pt v (m + i * ie.size), hs, [])
      | true, .pr cs => some (.pr (cs.drop (i * ie.size)), hs, [])
      | _, _ => none
    | _, _ => none
  | _ => none
theorem evIA_ok {o : Oper} {st : Ast} {t : TypeId} {x y : Operand} {X Y z : AV} {hs hs' : List (Ht P)} {p : Prs} (ho : o.op = .indexAddr t x y) (hl : Lw X (st.ev x)) (hl2 : Lw Y (st.ev y)) (h : evIA P t X Y hs = some (z, hs', p)) (hp : p.ok) : ValOk P o st z := by
  unfold evIA at h
  split at h
  · rename_i e e1
    split at h
    · rename_i ie own rows k a rows' n r hr hs2 e2
      split at h
      · rename_i hlen
        cases h
        obtain ⟨p1, p2⟩ := Prs.ok_cons.1 hp
        obtain ⟨p2, -⟩ := Prs.ok_cons.1 p2
        have p1 := rI_inj p1
        have p2 : a = (n : Int) := unI_inj p2
        subst p1
        subst p2
        exact val_ia t e x y k n own rows r ie ho e1 e2 (hl.to (by simp)) (hl2.to (by simp)) hr (Nat.eq_of_beq_eq_true hlen)
      · cases h
    · cases h
  · rename_i len e e1
    split at h
    · rename_i ie k i e2 e3
      have hy := (hl2.to (litN_ne e3)).trans (litN_ok e3)
      split at h
      · rename_i hlt
        cases h
        exact g_iac t e x y k i _ len _ _ _ ie ho e1 e2 rfl (hl.to (by simp)) hy (Nat.le_of_ble_eq_true hlt) rfl
      · rename_i hlt
        cases h
        exact g_iacp t e x y k i _ len ie _ _ ho e1 e2 rfl (hl.to (by simp)) hy (Nat.le_of_ble_eq_true hlt) rfl
      · cases h
    · cases h
  · cases h
def evIx (P : Program) (t : TypeId) (x y : AV) : Option AV := match P.underlying t with
  | some (.array len e) => match P.info? e, P.underlying e, litN y, x with
    | some ie, some d, some (_, i), .ag cs => match Nat.ble (i + 1) len, d.isRow with
      | true, true => some (.ag ((cs.drop (i * ie.size)).take ie.size))
      | true, false => match ie.size with
        | 1 => cs[i]?
        | _ => none
      | _, _ => none
    | _, _, _, _ => none
  | _ => none
theorem evIx_ok {o : Oper} {st : Ast} {t : TypeId} {x y : Operand} {X Y z : AV} (ho : o.op = .index t x y) (hl : Lw X (st.ev x)) (hl2 : Lw Y (st.ev y)) (h : evIx P t X Y = some z) : ValOk P o st z := by
  unfold evIx at h
  split at h
  · rename_i len e e1
    split at h
    · rename_i ie d k i cs e2 e3 e4
      have hy := (hl2.to (litN_ne e4)).trans (litN_ok e4)
      have hx := hl.to (by simp)
      split at h
      · rename_i hlt hd
        cases h
        exact g_ixr t e x y k i _ len d ie cs _ ho e1 e3 hd e2 rfl hx hy (Nat.le_of_ble_eq_true hlt) rfl
      · rename_i hlt hd
        split at h
        · rename_i hs
          exact g_ix1 t e x y k i len d cs z ho e1 e3 hd ie e2 hs hx hy (Nat.le_of_ble_eq_true hlt) h
        · cases h
      · cases h
    · cases h
  · cases h
def isArith : BinOp → BinOp → Bool
  | .add, .add => true
  | .sub, .sub => true
  | .mul, .mul => true
  | _, _ => false
theorem isArith_eq {a b : BinOp} (h : isArith a b = true) : a = b := by cases a <;> cases b <;> first | rfl | cases h
def isCmp : BinOp → Bool
  | .add | .sub | .mul => false
  | _ => true
def negB (b : BinOp) : Option Bool := match b with
  | .eql => some false
  | .neq => some true
  | _ => none
theorem negB_ok {b : BinOp} {n : Bool} (h : negB b = some n) : b = (if n then .neq else .eql) := by
  unfold negB at h
  split at h <;> cases h <;> rfl
def evBin (P : Program) (b : BinOp) (t : TypeId) (x y : AV) (hs : List (Ht P)) : Rs P := match x, y with
  | .sc (.int k i), .sc (.int k' j) => match isCmp b, hs with
    | false, .z (b := b') (k := k2) (x := i') (y := j') (z := z) _ :: hs => match isArith b b' with
      | true => some (.sc (.int k2 z), hs, [(.sc (.int k i), .sc (.int k2 i')), (.sc (.int k' j), .sc (.int k2 j'))])
      | false => none
    | _, hs => match intRes b k i j with
      | some r => some (.sc r, hs, [(kI k, kI k')])
      | none => none
  | .sc (.string s), .sc (.string r) => match b with
    | .eql => some (.sc (.bool (decide (s = r))), hs, [])
    | .neq => some (.sc (.bool (!decide (s = r))), hs, [])
    | _ => none
  | .sc (.bool s), .sc (.bool r) => match b, P.underlying t with
    | .eql, some .bool => some (.sc (.bool (decide (s = r))), hs, [])
    | .neq, some .bool => some (.sc (.bool (!decide (s = r))), hs, [])
    | _, _ => none
  | x, y => match hs with
    | .e (t := t') (cx := cx) (cy := cy) (b := v) _ :: hs => match negB b, x.val?, y.val?, Nat.beq t t', P.eqGuardType P.depth t with
      | some n, some vx, some vy, true, false => some (.sc (.bool (n ^^ v)), hs, [(.sc vx, .sc (.agg cx)), (.sc vy, .sc (.agg cy))])
      | _, _, _, _, _ => none
    | _ => none
theorem evBin_ok {o : Oper} {st : Ast} {b : BinOp} {t u : TypeId} {x y : Operand} {X Y z : AV} {hs hs' : List (Ht P)} {p : Prs} (ho : o.op = .binOp b t x y u) (hl : Lw X (st.ev x)) (hl2 : Lw Y (st.ev y)) (h : evBin P b t X Y hs = some (z, hs', p)) (hp : p.ok) : ValOk P o st z := by
  unfold evBin at h
  split at h
  · rename_i k i k' j
    have hx := hl.to (by simp)
    have hy := hl2.to (by simp)
    split at h
    · rename_i b' k2 i' j' z' hz hs2 e1
      split at h
      · rename_i hb
        have hb := isArith_eq hb
        subst hb
        cases h
        obtain ⟨p1, p2⟩ := Prs.ok_cons.1 hp
        obtain ⟨p2, -⟩ := Prs.ok_cons.1 p2
        rw [p1] at hx
        rw [p2] at hy
        exact val_int b t u x y k2 i' j' _ ho hx hy hz
      · cases h
    · split at h
      · rename_i r hr
        cases h
        have := kI_inj (Prs.ok_cons.1 hp).1
        subst this
        exact val_int b t u x y k i j r ho hx hy hr
      · cases h
  · have hx := hl.to (by simp)
    have hy := hl2.to (by simp)
    split at h
    · cases h; exact val_seq t u x y _ _ ho hx hy
    · cases h; exact val_sne t u x y _ _ ho hx hy
    · cases h
  · have hx := hl.to (by simp)
    have hy := hl2.to (by simp)
    split at h
    · rename_i hu
      cases h; exact g_beq t u x y _ _ hu ho hx hy
    · rename_i hu
      cases h; exact g_bne t u x y _ _ hu ho hx hy
    · cases h
  · split at h
    · rename_i t' cx cy v hv hs2
      split at h
      · rename_i n vx vy e1 e2 e3 e4 e5
        cases h
        have e4 := Nat.eq_of_beq_eq_true e4
        subst e4
        have hx := hl.to (by rintro rfl; cases e2)
        have hy := hl2.to (by rintro rfl; cases e3)
        obtain ⟨p1, p2⟩ := Prs.ok_cons.1 hp
        obtain ⟨p2, -⟩ := Prs.ok_cons.1 p2
        injection p1 with p1
        injection p2 with p2
        have hb := negB_ok e1
        subst hb
        exact g_seq n t u x y vx vy cx cy v ho (by rw [hx]; exact e2) (by rw [hy]; exact e3) p1 p2 e5 hv
      · cases h
    · cases h
end
end Go.Proofs.YtjghgpmkepfdhaaGreatDoor
namespace Go.Proofs.YtjghgpmkepfdhaaGreatDoor
open Go.RowKit
set_option linter.unusedVariables false
section
variable {P : Program}
def enterOk (P : Program) (F : FuncId) : Bool := match P.funcs[F]? with
  | some fn => match fn.name == "runtime.NumGoroutine", fn.body with
    | false, some _ => true
    | _, _ => false
  | none => false
theorem enterOk_ok {F : FuncId} (h : enterOk P F = true) (vs : Array Value) (w : World) : (callFunc F vs).run P w = .ok (.enter F vs) w := by
  unfold enterOk at h
  split at h
  · rename_i fn e1
    split at h
    · rename_i c e2 e3
      exact run_enter e1 e2 e3 vs w
    · cases h
  · cases h
def evCall (P : Program) (f : AV) (xs : List AV) (hs : List (Ht P)) : Rs P := match f, hs with
  | .fn (.func F) fs cs, .c (F := F') (args := ars) (r := r) _ :: hs => match enterOk P F', cqAE xs ((ars.drop fs.length).take xs.length) with
    | true, some p => some (r, hs, (.fn (.func F) [] [], .fn (.func F') [] []) :: (.tp ars, .tp (fs ++ (ars.drop fs.length).take xs.length ++ cs)) :: p)
    | _, _ => none
  | .fn (.func F) fs cs, .cv (F := F') (fs := fs') (args := ars) (cs := cs') (r := r) _ _ :: hs => match cqAE xs ars with
    | some p => some (r, hs, (.fn (.func F) [] [], .fn (.func F') [] []) :: (.tp fs, .tp fs') :: (.tp cs, .tp cs') :: p)
    | _ => none
  | _, _ => none
theorem evCall_ok {o : Oper} {st : Ast} {e : Operand → AV} {f : Operand} {xs : List Operand} {ts : Array TypeId} {z : AV} {hs hs' : List (Ht P)} {p : Prs} (ho : o.op = .call { callee := .value f, args := xs.toArray, argTypes := ts }) (hf : Lw (e f) (st.ev f)) (hl : ∀ x ∈ xs, Lw (e x) (st.ev x))
    (h : evCall P (e f) (xs.map fun x => (e x).strip) hs = some (z, hs', p)) (hp : p.ok) : ValOk P o st z := by
  have key : ∀ {F F' : FuncId} {fs cs ars : List AV} {q : Prs}, e f = .fn (.func F) fs cs → (∀ vs w, (callFunc F' vs).run P w = .ok (.enter F' vs) w) → PCalls P F' ars z → cqAE (xs.map fun x => (e x).strip) ((ars.drop fs.length).take (xs.map fun x => (e x).strip).length) = some q →
      Prs.ok ((.fn (.func F) [] [], .fn (.func F') [] []) :: (.tp ars, .tp (fs ++ (ars.drop fs.length).take (xs.map fun x => (e x).strip).length ++ cs)) :: q) → ValOk P o st z := by
    intro F F' fs cs ars q he hen hc hq hok
    obtain ⟨p1, p2⟩ := Prs.ok_cons.1 hok
    obtain ⟨p2, p3⟩ := Prs.ok_cons.1 p2
    injection p1 with p1
    injection p1 with p1
    injection p2 with p2
    subst p1
    rw [p2] at hc
    exact g_vcall f F fs cs xs ts _ _ z ho ((hf.to (by rw [he]; simp)).trans he) rfl (cqAE_ok hl hq p3) hc hen
  unfold evCall at h
  split at h
  · rename_i F fs cs F' ars r hc hs2 e1
    split at h
    · rename_i q e2 e3
      cases h
      exact key e1 (enterOk_ok e2) hc e3 hp
    · cases h
  · rename_i F fs cs F' fs' ars cs' r hen hc hs2 e1
    split at h
    · rename_i q e3
      cases h
      obtain ⟨p1, p2⟩ := Prs.ok_cons.1 hp
      obtain ⟨p2, p3⟩ := Prs.ok_cons.1 p2
      obtain ⟨p3, p4⟩ := Prs.ok_cons.1 p3
      injection p1 with p1
      injection p1 with p1
      injection p2 with p2
      injection p3 with p3
      subst p1
      subst p2
      subst p3
      exact g_vcall f F fs cs xs ts _ _ z ho ((hf.to (by rw [e1]; simp)).trans e1) rfl (cqAE_ok hl e3 p4) hc hen
    · cases h
  · cases h
def evLen (P : Program) (t : TypeId) (x : AV) (hs : List (Ht P)) : Rs P := match x, P.underlying t with
  | .ls _ rows, some (.slice _) => match hs with
    | .n (rows := rows') (m := m) _ :: hs => some (.sc (.int .i64 (m : Int)), hs, [(rI rows, rI rows')])
    | hs => some (.sc (.int .i64 (rows.length : Int)), hs, [])
  | .nl, some (.slice _) => some (.sc (.int .i64 0), hs, [])
  | .sc (.string s), some .string => some (.sc (.int .i64 (s.size : Int)), hs, [])
  | _, _ => none
theorem evLen_ok {o : Oper} {st : Ast} {t : TypeId} {x : Operand} {X z : AV} {hs hs' : List (Ht P)} {p : Prs} (ho : o.op = .call { callee := .builtin .len, args := #[x], argTypes := #[t] }) (hl : Lw X (st.ev x)) (h : evLen P t X hs = some (z, hs', p)) (hp : p.ok) : ValOk P o st z := by
  unfold evLen at h
  split at h
  · rename_i q rows e1 hu
    have hx := hl.to (by simp)
    split at h
    · rename_i rows' m hm hs2
      cases h
      have := rI_inj (Prs.ok_cons.1 hp).1
      subst this
      exact g_len t e1 x m q rows ho hu hx hm
    · cases h
      exact g_len t e1 x _ q rows ho hu hx rfl
  · rename_i e1 hu
    have hx := hl.to (by simp)
    cases h
    exact val_len t x 0 ho (.inl ⟨e1, hu⟩) (by rw [hx]; rfl) (fun s h => by rw [hx] at h; cases h) (fun h => by rw [hu] at h; cases h)
  · rename_i s hu
    have hx := hl.to (by simp)
    cases h
    exact val_lenT t x s ho hu hx
  · cases h
def evMax (x y : AV) (hs : List (Ht P)) : Rs P := match x, y, hs with
  | .sc (.int k i), .sc (.int k' j), .m (x := a) (y := b) (z := z) _ :: hs => some (.sc (.int k z), hs, [(kI k, kI k'), (unI i, unI a), (unI j, unI b)])
  | .sc (.int k i), .sc (.int k' j), hs => some (.sc (.int k (if j > i then j else i)), hs, [(kI k, kI k')])
  | _, _, _ => none
theorem evMax_ok {o : Oper} {st : Ast} {ts : Array TypeId} {x y : Operand} {X Y z : AV} {hs hs' : List (Ht P)} {p : Prs} (ho : o.op = .call { callee := .builtin .max, args := #[x, y], argTypes := ts }) (hl : Lw X (st.ev x)) (hl2 : Lw Y (st.ev y)) (h : evMax X Y hs = some (z, hs', p)) (hp : p.ok) : ValOk P o st z := by
  unfold evMax at h
  split at h
  · rename_i k i k' j a b z' hm hs2
    cases h
    obtain ⟨p1, p2⟩ := Prs.ok_cons.1 hp
    obtain ⟨p2, p3⟩ := Prs.ok_cons.1 p2
    obtain ⟨p3, -⟩ := Prs.ok_cons.1 p3
    have p1 := kI_inj p1
    have p2 := unI_inj p2
    have p3 := unI_inj p3
    subst p1
    subst p2
    subst p3
    exact g_max ts x y k i j z' ho (hl.to (by simp)) (hl2.to (by simp)) hm
  · rename_i k i k' j hs2
    cases h
    have p1 := kI_inj (Prs.ok_cons.1 hp).1
    subst p1
    exact g_max ts x y k i j _ ho (hl.to (by simp)) (hl2.to (by simp)) rfl
  · cases h
/-- Parts of what is built. -/
def partsE (e : Operand → AV) : List (Nat × Operand) → Option (List (Nat × List AV))
  | [] => some []
  | (i, x) :: r => match (e x).cells, partsE e r with
    | some row, some l => some ((i, row) :: l)
    | _, _ => none
theorem partsE_ok {e : Operand → AV} {st : Ast} : ∀ {ps : List (Nat × Operand)} {l : List (Nat × List AV)}, (∀ q ∈ ps, Lw (e q.2) (st.ev q.2)) → partsE e ps = some l → st.parts ps = some l
  | [], l, hl, h => h
  | (i, x) :: r, l, hl, h => by
    simp only [partsE] at h
    split at h
    · rename_i row l2 e1 e2
      cases h
      have hx := (hl (i, x) (by simp)).to (by intro g; simp only at g; rw [g] at e1; cases e1)
      simp only [Ast.parts]
      simp only at hx
      rw [hx, e1, partsE_ok (fun q hq => hl q (by simp [hq])) e2]
    · cases h
def placesE (P : Program) : List Field → Option (List (Nat × Nat))
  | [] => some []
  | f :: l => match P.info? f.type, placesE P l with
    | some i, some r => some ((f.offset, i.size) :: r)
    | _, _ => none
theorem placesE_ok : ∀ {fs : List Field} {l : List (Nat × Nat)}, placesE P fs = some l → fs.mapM (fun f => (P.info? f.type).map fun i => (f.offset, i.size)) = some l
  | [], l, h => h
  | f :: fs, l, h => by
    simp only [placesE] at h
    split at h
    · rename_i i r e1 e2
      cases h
      rw [List.mapM_cons, e1, placesE_ok e2]
      rfl
    · cases h
def zeroRow (P : Program) (t : TypeId) : Option (List AV) := match P.info? t with
  | some i => match i.zero with
    | some z => match z.cells.all (·.oneCell') with
      | true => some (z.cells.toList.map cAV0)
      | false => none
    | none => none
  | none => none
theorem zeroRow_ok {t : TypeId} {row : List AV} (h : zeroRow P t = some row) : ∃ i z, P.info? t = some i ∧ i.zero = some z ∧ z.cells.all (·.oneCell') = true ∧ row = z.cells.toList.map cAV0 := by
  unfold zeroRow at h
  split at h
  · rename_i i e1
    split at h
    · rename_i z e2
      split at h
      · rename_i e3
        cases h
        exact ⟨i, z, e1, e2, e3, rfl⟩
      · cases h
    · cases h
  · cases h
def evBuild (P : Program) (t : TypeId) (e : Operand → AV) (ps : List (Nat × Operand)) : Option AV := match zeroRow P t, P.underlying t, partsE e ps with
  | some zr, some (.struct fs), some l => match placesE P fs.toList with
    | some places => match fillA (places.toArray[·]?) zr l with
      | some ys => some (.ag ys)
      | none => none
    | none => none
  | some zr, some (.array _ el), some l => match P.info? el with
    | some ie => match fillA (fun i => some (i * ie.size, ie.size)) zr l with
      | some ys => some (.ag ys)
      | none => none
    | none => none
  | _, _, _ => none
theorem evBuild_ok {o : Oper} {st : Ast} {t : TypeId} {e : Operand → AV} {ps : List (Nat × Operand)} {z : AV} (ho : o.op = .build t ps.toArray) (hl : ∀ q ∈ ps, Lw (e q.2) (st.ev q.2)) (h : evBuild P t e ps = some z) : ValOk P o st z := by
  unfold evBuild at h
  split at h
  · rename_i zr fs l e1 e2 e3
    obtain ⟨i, zv, h1, h2, h3, rfl⟩ := zeroRow_ok e1
    split at h
    · rename_i places e4
      split at h
      · rename_i ys e5
        cases h
        exact g_build t ps fs i zv places _ l ys ho h1 e2 h2 h3 rfl (placesE_ok e4) (partsE_ok hl e3) e5
      · cases h
    · cases h
  · rename_i zr n el l e1 e2 e3
    obtain ⟨i, zv, h1, h2, h3, rfl⟩ := zeroRow_ok e1
    split at h
    · rename_i ie e4
      split at h
      · rename_i ys e5
        cases h
        exact val_buildA t el n ps i ie zv l ys ho h1 e2 e4 h2 h3 (partsE_ok hl e3) e5
      · cases h
    · cases h
  · cases h
/-- A row, cut into rows. -/
def cutR (n : Nat) : Nat → List AV → List (List AV)
  | 0, _ => []
  | k + 1, l => l.take n :: cutR n k (l.drop n)
def evBs (P : Program) (t : TypeId) (len : Nat) (e : Operand → AV) (ps : List (Nat × Operand)) : Option AV := match P.underlying t, partsE e ps with
  | some (.slice el), some l => match P.info? el with
    | some ie => match ie.zero with
      | some z => match ((Array.range (len * ie.size)).map (z.cells[· % z.cells.size]!)).all (·.oneCell'), Nat.ble (len * ie.size) (2 ^ 24), Nat.beq (len * ie.size) 0 with
        | true, true, false => match fillA (fun i => some (i * ie.size, ie.size)) (((Array.range (len * ie.size)).map (z.cells[· % z.cells.size]!)).toList.map cAV0) l with
          | some ys => match Nat.beq (ys.map AV.strip0).length (len * ie.size) with
            | true => some (.ls none (cutR ie.size len (ys.map AV.strip0)))
            | false => none
          | none => none
        | _, _, _ => none
      | none => none
    | none => none
  | _, _ => none
theorem cutR_ok (n : Nat) : ∀ (k : Nat) (l : List AV), l.length = k * n → (cutR n k l).flatten = l ∧ (∀ r ∈ cutR n k l, r.length = n) ∧ (cutR n k l).length = k
  | 0, l, h => by
    have : l = [] := List.eq_nil_of_length_eq_zero (by simpa using h)
    subst this
    exact ⟨rfl, (fun r h => (by cases h)), rfl⟩
  | k + 1, l, h => by
    rw [Nat.add_mul, Nat.one_mul] at h
    obtain ⟨h1, h2, h3⟩ := cutR_ok n k (l.drop n) (by rw [List.length_drop]; omega)
    refine ⟨by simp [cutR, h1], fun r hr => ?_, by simp [cutR, h3]⟩
    rcases List.mem_cons.1 hr with rfl | hr
    · rw [List.length_take]; omega
    · exact h2 r hr
theorem evBs_ok {o : Oper} {st : Ast} {t : TypeId} {len : Nat} {e : Operand → AV} {ps : List (Nat × Operand)} {z : AV} (ho : o.op = .buildSlice t len ps.toArray) (hl : ∀ q ∈ ps, Lw (e q.2) (st.ev q.2)) (h : evBs P t len e ps = some z) : ValOk P o st z := by
  unfold evBs at h
  split at h
  · rename_i el l e1 e2
    split at h
    · rename_i ie e3
      split at h
      · rename_i zv e4
        split at h
        · rename_i e5 e6 e7
          split at h
          · rename_i ys e8
            split at h
            · rename_i e9
              cases h
              obtain ⟨h1, h2, h3⟩ := cutR_ok ie.size len _ (Nat.eq_of_beq_eq_true e9)
              exact val_bslice t el len ps ie zv l ys _ ho e1 e3 e4 (by have := Nat.le_of_ble_eq_true e6; omega) (Nat.ne_of_beq_eq_false e7) e5 (partsE_ok hl e2) e8 h1 h2 h3
            · cases h
          · cases h
        · cases h
      · cases h
    · cases h
  · cases h
def evEx (x : AV) (i : Nat) : Option AV := match x with
  | .tp xs => match xs[i]? with
    | some (.tp _) => none
    | r => r
  | _ => none
theorem evEx_ok {o : Oper} {st : Ast} {x : Operand} {i : Nat} {X z : AV} (ho : o.op = .extract x i) (hl : Lw X (st.ev x)) (h : evEx X i = some z) : ValOk P o st z := by
  unfold evEx at h
  split at h
  · rename_i xs
    split at h
    · cases h
    · rename_i hne
      exact val_ex x i xs z ho (hl.to (by simp)) h (.inr fun y hy => hne y (by rw [h, hy]))
  · cases h
def evMk (k : Fn) (fs cs : List AV) : Option AV := match fs.all AV.capt, cs.all AV.capt with
  | true, true => some (.fn k fs cs)
  | _, _ => none
theorem capt_ne {x : AV} (h : x.capt = true) : x ≠ .un := by rintro rfl; cases h
theorem map_lw {e : Operand → AV} {st : Ast} : ∀ {xs : List Operand}, (∀ x ∈ xs, Lw (e x) (st.ev x)) → (xs.map e).all AV.capt = true → xs.map st.ev = xs.map e
  | [], _, _ => rfl
  | x :: xs, hl, hc => by
    simp only [List.map_cons, List.all_cons, Bool.and_eq_true] at hc ⊢
    rw [(hl x (by simp)).to (capt_ne hc.1), map_lw (fun y hy => hl y (by simp [hy])) hc.2]
theorem evMk_ok {o : Oper} {st : Ast} {k : Fn} {e : Operand → AV} {ys xs : List Operand} {z : AV} (ho : o.op = .makeFunc k ys.toArray xs.toArray) (hl : ∀ x ∈ ys ++ xs, Lw (e x) (st.ev x)) (h : evMk k (ys.map e) (xs.map e) = some z) : ValOk P o st z := by
  unfold evMk at h
  split at h
  · rename_i h1 h2
    cases h
    exact g_mkfn k ys xs _ _ ho (map_lw (fun x hx => hl x (by simp [hx])) h1) h1 (map_lw (fun x hx => hl x (by simp [hx])) h2) h2
  · cases h
def evNot (k : UnOp) (x : AV) : Option AV := match k, x with
  | .not, .sc (.bool b) => some (.sc (.bool (!b)))
  | _, _ => none
def evNil : AV → Option AV
  | .pt t n => some (.pt t n)
  | .pr cs => some (.pr cs)
  | _ => none
def mono {P : Program} (hs : List (Ht P)) : Option AV → Rs P
  | some x => some (x, hs, [])
  | none => none
theorem mono_ok {hs hs' : List (Ht P)} {x : Option AV} {z : AV} {p : Prs} (h : mono hs x = some (z, hs', p)) : x = some z := by
  cases x with
  | none => cases h
  | some y => cases h; rfl
/-- An operation that hands back a value. -/
def evVal (P : Program) (vars : List (Nat × List AV)) (e : Operand → AV) (hs : List (Ht P)) : Op → Rs P
  | .move x => some (e x, hs, [])
  | .assign x => some (e x, hs, [])
  | .nilCheck x => mono hs (evNil (e x))
  | .load t x => mono hs (evLoad P vars t (e x))
  | .fieldAddr t x f => mono hs (evFA P t (e x) f)
  | .field t x f => mono hs (evFd P t (e x) f)
  | .indexAddr t x y => evIA P t (e x) (e y) hs
  | .index t x y => mono hs (evIx P t (e x) (e y))
  | .extract x i => mono hs (evEx (e x) i)
  | .unOp k _ x => mono hs (evNot k (e x))
  | .binOp b t x y _ => evBin P b t (e x) (e y) hs
  | .build t ps => mono hs (evBuild P t e ps.toList)
  | .buildSlice t n ps => mono hs (evBs P t n e ps.toList)
  | .makeFunc k ys xs => mono hs (evMk k (ys.toList.map e) (xs.toList.map e))
  | .call ⟨.value f, xs, _⟩ => evCall P (e f) (xs.toList.map fun x => (e x).strip) hs
  | .call ⟨.builtin .len, ⟨[x]⟩, ⟨[t]⟩⟩ => evLen P t (e x) hs
  | .call ⟨.builtin .max, ⟨[x, y]⟩, _⟩ => evMax (e x) (e y) hs
  | _ => none
theorem evVal_ok {o : Oper} {st : Ast} {e : Operand → AV} {z : AV} {hs hs' : List (Ht P)} {p : Prs} (hl : ∀ y ∈ o.op.operands, Lw (e y) (st.ev y)) (h : evVal P st.vars e hs o.op = some (z, hs', p)) (hp : p.ok) : ∃ y, Lw z y ∧ ValOk P o st y := by
  generalize hop : o.op = op at h
  rw [hop] at hl
  unfold evVal at h
  split at h
  · rename_i x
    cases h
    exact ⟨_, hl x (by simp [Op.operands]), val_mv x (.inl hop)⟩
  · rename_i x
    cases h
    exact ⟨_, hl x (by simp [Op.operands]), val_mv x (.inr hop)⟩
  · rename_i x
    have h := mono_ok h
    have hx := hl x (by simp [Op.operands])
    refine ⟨z, .refl _, ?_⟩
    unfold evNil at h
    split at h
    · rename_i e1; cases h; exact g_nilck x hop ((hx.to (by rw [e1]; simp)).trans e1) (.inl ⟨_, _, rfl⟩)
    · rename_i e1; cases h; exact g_nilck x hop ((hx.to (by rw [e1]; simp)).trans e1) (.inr ⟨_, rfl⟩)
    · cases h
  · exact ⟨z, .refl _, evLoad_ok hop (hl _ (by simp [Op.operands])) (mono_ok h)⟩
  · exact ⟨z, .refl _, evFA_ok hop (hl _ (by simp [Op.operands])) (mono_ok h)⟩
  · exact ⟨z, .refl _, evFd_ok hop (hl _ (by simp [Op.operands])) (mono_ok h)⟩
  · exact ⟨z, .refl _, evIA_ok hop (hl _ (by simp [Op.operands])) (hl _ (by simp [Op.operands])) h hp⟩
  · exact ⟨z, .refl _, evIx_ok hop (hl _ (by simp [Op.operands])) (hl _ (by simp [Op.operands])) (mono_ok h)⟩
  · exact ⟨z, .refl _, evEx_ok hop (hl _ (by simp [Op.operands])) (mono_ok h)⟩
  · rename_i k t x
    have h := mono_ok h
    have hx := hl x (by simp [Op.operands])
    refine ⟨z, .refl _, ?_⟩
    unfold evNot at h
    split at h
    · rename_i b e1 _
      cases h
      exact val_not t x _ hop ((hx.to (by rw [e1]; simp)).trans e1)
    · cases h
  · exact ⟨z, .refl _, evBin_ok hop (hl _ (by simp [Op.operands])) (hl _ (by simp [Op.operands])) h hp⟩
  · rename_i t ps
    exact ⟨z, .refl _, evBuild_ok (ps := ps.toList) (by rw [hop]) (fun q hq => hl _ (by simp [Op.operands]; exact ⟨q.1, by simpa using hq⟩)) (mono_ok h)⟩
  · rename_i t n ps
    exact ⟨z, .refl _, evBs_ok (ps := ps.toList) (by rw [hop]) (fun q hq => hl _ (by simp [Op.operands]; exact ⟨q.1, by simpa using hq⟩)) (mono_ok h)⟩
  · rename_i k ys xs
    exact ⟨z, .refl _, evMk_ok (ys := ys.toList) (xs := xs.toList) (by rw [hop]) (fun x hx => hl x (by simpa [Op.operands] using hx)) (mono_ok h)⟩
  · rename_i f xs ts
    exact ⟨z, .refl _, evCall_ok (xs := xs.toList) (by rw [hop]) (hl f (by simp [Op.operands, Call.operands])) (fun x hx => hl x (by simp [Op.operands, Call.operands]; exact .inr (by simpa using hx))) h hp⟩
  · exact ⟨z, .refl _, evLen_ok hop (hl _ (by simp [Op.operands, Call.operands])) h hp⟩
  · exact ⟨z, .refl _, evMax_ok hop (hl _ (by simp [Op.operands, Call.operands])) (hl _ (by simp [Op.operands, Call.operands])) h hp⟩
  · cases h
end
end Go.Proofs.YtjghgpmkepfdhaaGreatDoor
namespace Go.Proofs.YtjghgpmkepfdhaaGreatDoor
open Go.RowKit
set_option linter.unusedVariables false

/-- Guards, one within the other: the operation's number, what is wanted of it, and whether that is so. -/
abbrev Gd := List (Nat × Bool × Bool)
def allT (L : Gd) : Prop := ∀ e ∈ L, e.2.2 = true
/-- What a slot holds: a value; a bool that is known; a value where guards fire. -/
inductive SV
  | v (x : AV)
  | k (b : Bool)
  | g (L : Gd) (x : AV)
structure Sg where
  t : List (Nat × SV)
  a : Ast
  n : Nat
def sfind : List (Nat × SV) → Nat → Option SV
  | [], _ => none
  | (i, x) :: l, t => match Nat.beq i t with
    | true => some x
    | false => sfind l t
def gget : Gd → Nat → Bool → Option Bool
  | [], _, _ => none
  | (j, w, c) :: l, i, u => match Nat.beq j i, w, u with
    | true, true, true => some c
    | true, false, false => some c
    | _, _, _ => gget l i u
theorem gget_ok : ∀ {G : Gd} {i : Nat} {u c : Bool}, gget G i u = some c → allT G → c = true
  | [], i, u, c, h, hg => by cases h
  | (j, w, c') :: l, i, u, c, h, hg => by
    simp only [gget] at h
    split at h
    · cases h; exact hg _ (List.mem_cons_self ..)
    · cases h; exact hg _ (List.mem_cons_self ..)
    · exact gget_ok h fun e he => hg e (by simp [he])
/-- Guards that fire wherever those of G do, and ex holds. -/
def cover (G : Gd) (ex : Option Bool) : Gd → Option Prs
  | [] => some []
  | (j, w, c) :: L => match gget G j w, ex, cover G ex L with
    | some c', _, some p => some ((bI c, bI c') :: p)
    | none, some c', some p => some ((bI c, bI c') :: p)
    | _, _, _ => none
theorem cover_ok {G : Gd} {ex : Option Bool} (hg : allT G) (hx : ∀ b, ex = some b → b = true) : ∀ {L : Gd} {p : Prs}, cover G ex L = some p → p.ok → allT L
  | [], p, h, hp => fun e he => by cases he
  | (j, w, c) :: L, p, h, hp => by
    simp only [cover] at h
    split at h
    · rename_i c' q e1 e2
      cases h
      obtain ⟨p1, p2⟩ := Prs.ok_cons.1 hp
      have p1 := bI_inj p1
      intro e he
      rcases List.mem_cons.1 he with rfl | he
      · exact p1.trans (gget_ok e1 hg)
      · exact cover_ok hg hx e2 p2 e he
    · rename_i c' q e1 e2
      cases h
      obtain ⟨p1, p2⟩ := Prs.ok_cons.1 hp
      have p1 := bI_inj p1
      intro e he
      rcases List.mem_cons.1 he with rfl | he
      · exact p1.trans (hx _ rfl)
      · exact cover_ok hg hx e2 p2 e he
    · cases h
def SV.rd (G : Gd) (ex : Option Bool) : SV → AV × Prs
  | .v x => (x, [])
  | .k b => (.sc (.bool b), [])
  | .g L x => match cover G ex L with
    | some p => (x, p)
    | none => (.un, [])
def Sg.rd (s : Sg) (G : Gd) (ex : Option Bool) (y : Operand) : AV × Prs := match y with
  | .tmp t => match sfind s.t t with
    | some sv => sv.rd G ex
    | none => (s.a.ev (.tmp t), [])
  | y => (s.a.ev y, [])
/-- A slot bears what it should. -/
def SVok : SV → Option AV → Prop
  | .v x, o => x = .un ∨ o = some x
  | .k b, o => o = some (.sc (.bool b))
  | .g L x, o => (allT L → x = .un ∨ o = some x) ∧ (¬ allT L → o = some (.tp []))
structure Bears (s : Sg) (st : Ast) : Prop where
  vars : st.vars = s.a.vars
  y : st.y = s.a.y
  len : st.tmps.length = s.n
  len' : s.a.tmps.length = s.n
  cl : ∀ i sv, sfind s.t i = some sv → i < s.n ∧ SVok sv (st.tmps[i]?)
  base : ∀ i, sfind s.t i = none → st.tmps[i]? = s.a.tmps[i]?
theorem Bears.init (st : Ast) : Bears ⟨[], st, st.tmps.length⟩ st := ⟨rfl, rfl, rfl, rfl, fun i sv h => (by cases h), fun _ _ => rfl⟩
theorem lw_of {x : AV} {o : Option AV} (h : x = .un ∨ o = some x) : Lw x (o.getD .un) := by
  rcases h with h | h
  · exact .inl h
  · rw [h]; exact .inr rfl
theorem Bears.rd {s : Sg} {st : Ast} (h : Bears s st) {G : Gd} {ex : Option Bool} {y : Operand} (hp : (s.rd G ex y).2.ok) (hg : allT G) (hx : ∀ b, ex = some b → b = true) : Lw (s.rd G ex y).1 (st.ev y) := by
  cases y with
  | const v => exact .refl _
  | global g => exact .refl _
  | func f => exact .refl _
  | tmp t =>
    show Lw _ ((st.tmps[t]?).getD .un)
    simp only [Sg.rd] at hp ⊢
    cases e1 : sfind s.t t with
    | none =>
      simp only []
      show Lw ((s.a.tmps[t]?).getD .un) ((st.tmps[t]?).getD .un)
      rw [h.base t e1]
      exact .refl _
    | some sv =>
      rw [e1] at hp
      obtain ⟨-, h2⟩ := h.cl t sv e1
      cases sv with
      | v x => exact lw_of h2
      | k b =>
        have h2 : st.tmps[t]? = _ := h2
        rw [h2]; exact .inr rfl
      | g L x =>
        simp only [SV.rd] at hp ⊢
        cases e2 : cover G ex L with
        | none => exact .inl rfl
        | some p =>
          rw [e2] at hp
          exact lw_of (h2.1 (cover_ok hg hx e2 hp))
def Sg.put (s : Sg) (d : Option Tmp) (sv : SV) : Option Sg := match d with
  | none => some s
  | some i => match Nat.blt i s.n with
    | true => some ⟨(i, sv) :: s.t, s.a, s.n⟩
    | false => none
theorem Bears.put {s s' : Sg} {st : Ast} (h : Bears s st) {d : Option Tmp} {sv : SV} {y : AV} (hp : s.put d sv = some s') (hy : SVok sv (some y)) : Bears s' (st.putD d y) := by
  cases d with
  | none => cases hp; exact h
  | some i =>
    simp only [Sg.put] at hp
    split at hp
    · rename_i hlt
      cases hp
      have hlt : i < s.n := Nat.le_of_ble_eq_true hlt
      refine ⟨h.vars, h.y, by simp [Ast.putD, h.len], h.len', fun j sv' hj => ?_, fun j hj => ?_⟩
      · simp only [sfind] at hj
        simp only [Ast.putD]
        split at hj
        · rename_i hij
          have := Nat.eq_of_beq_eq_true hij
          subst this
          cases hj
          rw [List.getElem?_set_self (by rw [h.len]; exact hlt)]
          exact ⟨hlt, hy⟩
        · rename_i hij
          rw [List.getElem?_set_ne (Nat.ne_of_beq_eq_false hij)]
          exact h.cl j sv' hj
      · simp only [sfind] at hj
        simp only [Ast.putD]
        split at hj
        · cases hj
        · rename_i hij
          rw [List.getElem?_set_ne (Nat.ne_of_beq_eq_false hij)]
          exact h.base j hj
    · cases hp
def SV.map (f : AV → AV) : SV → SV
  | .v x => .v (f x)
  | .k b => .k b
  | .g L x => .g L (f x)
def smap (f : AV → AV) : List (Nat × SV) → List (Nat × SV)
  | [] => []
  | (i, x) :: l => (i, x.map f) :: smap f l
theorem sfind_map (f : AV → AV) (i : Nat) : ∀ l, sfind (smap f l) i = (sfind l i).map (SV.map f)
  | [] => rfl
  | (j, x) :: l => by
    simp only [smap, sfind]
    split
    · rfl
    · exact sfind_map f i l
/-- All slots are turned, and the variables are others. -/
def Sg.map (s : Sg) (f : AV → AV) (vars : List (Nat × List AV)) : Sg := ⟨smap f s.t, ⟨s.a.tmps.map f, vars, s.a.y⟩, s.n⟩
theorem Bears.map {s : Sg} {st : Ast} (h : Bears s st) (f : AV → AV) (vars : List (Nat × List AV)) (h1 : f .un = .un) (h2 : f (.tp []) = .tp []) (h3 : ∀ v, f (.sc v) = .sc v) : Bears (s.map f vars) ⟨st.tmps.map f, vars, st.y⟩ := by
  refine ⟨rfl, h.y, by simp [h.len, Sg.map], by simp [Sg.map, h.len'], fun i sv hi => ?_, fun i hi => ?_⟩
  · simp only [Sg.map, sfind_map] at hi
    cases hs : sfind s.t i with
    | none => rw [hs] at hi; cases hi
    | some sv0 =>
      rw [hs] at hi
      cases hi
      obtain ⟨g1, g2⟩ := h.cl i sv0 hs
      refine ⟨g1, ?_⟩
      simp only [List.getElem?_map]
      have key : ∀ {x : AV} {o : Option AV}, (x = .un ∨ o = some x) → (f x = .un ∨ o.map f = some (f x)) := fun {x o} g => by
        rcases g with rfl | rfl
        · exact .inl h1
        · exact .inr rfl
      cases sv0 with
      | v x => exact key g2
      | k b =>
        have g2 : st.tmps[i]? = _ := g2
        rw [g2]
        show some (f _) = _
        rw [h3]
      | g L x =>
        refine ⟨fun hL => key (g2.1 hL), fun hL => ?_⟩
        rw [g2.2 hL]
        show some (f _) = _
        rw [h2]
  · simp only [Sg.map, sfind_map, Option.map_eq_none_iff] at hi ⊢
    rw [List.getElem?_map, List.getElem?_map, h.base i hi]
/-- What a region leaves. -/
def SV.out : SV → AV
  | .v x => x
  | .k b => .sc (.bool b)
  | .g _ _ => .un
def Sg.out (s : Sg) : Ast := ⟨s.t.foldr (fun e l => l.set e.1 e.2.out) s.a.tmps, s.a.vars, s.a.y⟩
theorem out_get (l0 : List AV) (i : Nat) : ∀ (t : List (Nat × SV)), ((t.foldr (fun e l => l.set e.1 e.2.out) l0)[i]?) = match sfind t i with
    | some sv => if i < l0.length then some sv.out else none
    | none => l0[i]?
  | [] => rfl
  | (j, x) :: t => by
    have ih := out_get l0 i t
    have hlen : ∀ t : List (Nat × SV), (t.foldr (fun e l => l.set e.1 e.2.out) l0).length = l0.length := by
      intro t
      induction t with
      | nil => rfl
      | cons p t ih => simp [ih]
    simp only [List.foldr_cons, sfind]
    split
    · rename_i sv hj
      split at hj
      · rename_i hij
        have := Nat.eq_of_beq_eq_true hij
        subst this
        cases hj
        rw [List.getElem?_set, if_pos rfl]
        simp only [hlen]
      · rename_i hij
        rw [List.getElem?_set_ne (Nat.ne_of_beq_eq_false hij), ih, hj]
    · rename_i hj
      split at hj
      · cases hj
      · rename_i hij
        rw [List.getElem?_set_ne (Nat.ne_of_beq_eq_false hij), ih, hj]
theorem Bears.out {s : Sg} {st : Ast} (h : Bears s st) : st.le s.out := by
  have hlen : ∀ t : List (Nat × SV), (t.foldr (fun e l => l.set e.1 e.2.out) s.a.tmps).length = s.a.tmps.length := by
    intro t
    induction t with
    | nil => rfl
    | cons p t ih => simp [ih]
  refine ⟨by simp only [Sg.out, hlen, h.len, h.len'], fun i x hx => ?_, fun t r hr => by rw [h.vars]; exact hr, h.y.symm⟩
  simp only [Sg.out, out_get] at hx
  split at hx
  · rename_i sv e1
    split at hx
    · cases hx
      obtain ⟨-, g2⟩ := h.cl i sv e1
      cases sv with
      | v x => exact g2.imp id .inl
      | k b => exact .inr (.inl g2)
      | g L x => exact .inl rfl
    · cases hx
  · rename_i e1
    rw [h.base i e1]
    exact .inr (.inl hx)

/-- Whether an operation is wanted, as far as that is known. -/
inductive Gr
  | go (G : Gd)
  | no
def gb : Bool → Bool → Bool
  | true, c => c
  | false, c => !c
theorem gb_eq (w c : Bool) : gb w c = (c == w) := by cases w <;> cases c <;> rfl
def grOf : Bool → Bool → Gr
  | true, true => .go []
  | false, false => .go []
  | _, _ => .no
def Sg.guard {P : Program} (ops : Array Oper) (s : Sg) (g : Option (Nat × Bool)) (hs : List (Ht P)) : Option (Gr × Sg × List (Ht P) × Prs) := match g with
  | none => some (.go [], s, hs, [])
  | some (j, w) => match (ops[j]?).bind (·.dst) with
    | none => none
    | some d => match sfind s.t d with
      | some (.k c) => some (grOf w c, s, hs, [])
      | some (.v (.tp [])) => some (.no, s, hs, [])
      | some (.v (.sc (.bool c))) => match hs with
        | .g (b := b) (v := v) _ :: hs => match s.put (some d) (.k v) with
          | some s' => some (grOf w v, s', hs, [(bI c, bI b)])
          | none => none
        | .u :: hs => match s.put (some d) (.g [] (.sc (.bool c))) with
          | some s' => some (.go [(j, w, gb w c)], s', hs, [])
          | none => none
        | hs => some (.go [(j, w, gb w c)], s, hs, [])
      | some (.g L (.sc (.bool c))) => some (.go ((j, w, gb w c) :: L), s, hs, [])
      | _ => none
/-- What a guard's answer says. -/
def GrOk (ops : Array Oper) (o : Oper) (st : Ast) : Gr → Prop
  | .no => Wants ops o st false
  | .go G => (allT G → Wants ops o st true) ∧ (¬ allT G → Wants ops o st false)
theorem grOf_ok {ops : Array Oper} {o : Oper} {st : Ast} {j : Nat} {w c : Bool} (hg : o.guard = some (j, w)) (hy : st.yield ops j = some c) : GrOk ops o st (grOf w c) := by
  have h1 : ∀ b, (c == w) = b → Wants ops o st b := fun b hb => by unfold Wants; rw [hg]; exact .inl ⟨c, hy, hb⟩
  cases w <;> cases c
  · exact ⟨fun _ => h1 true rfl, fun h => absurd (fun e he => by cases he) h⟩
  · exact h1 false rfl
  · exact h1 false rfl
  · exact ⟨fun _ => h1 true rfl, fun h => absurd (fun e he => by cases he) h⟩
theorem yield_of {ops : Array Oper} {st : Ast} {j d : Nat} {c : Bool} (hd : (ops[j]?).bind (·.dst) = some d) (h : st.tmps[d]? = some (.sc (.bool c))) : st.yield ops j = some c := by
  unfold Ast.yield
  rw [hd]
  simp only [Option.bind_some, h]
theorem gone_of {ops : Array Oper} {st : Ast} {j d : Nat} (hd : (ops[j]?).bind (·.dst) = some d) (h : st.tmps[d]? = some (.tp [])) : st.gone ops j = true := by
  unfold Ast.gone
  rw [hd]
  simp only [Option.bind_some, h]
theorem sg_put_same {st : Ast} {d : Nat} {x : AV} (h : st.tmps[d]? = some x) : st.putD (some d) x = st := by
  obtain ⟨l, v, y⟩ := st
  simp only [Ast.putD, Ast.mk.injEq, and_true]
  apply List.ext_getElem?
  intro i
  by_cases hi : d = i
  · subst hi
    have hlt := (List.getElem?_eq_some_iff.1 h).1
    rw [List.getElem?_set_self hlt, h]
  · rw [List.getElem?_set_ne hi]
theorem guard_ok {P : Program} {ops : Array Oper} {s s' : Sg} {st : Ast} {o : Oper} {hs hs' : List (Ht P)} {gr : Gr} {p : Prs} (hb : Bears s st) (h : s.guard ops o.guard hs = some (gr, s', hs', p)) (hp : p.ok) : Bears s' st ∧ GrOk ops o st gr := by
  unfold Sg.guard at h
  split at h
  · rename_i hg
    cases h
    refine ⟨hb, fun _ => by unfold Wants; rw [hg], fun h => absurd (fun e he => by cases he) h⟩
  · rename_i j w hg
    split at h
    · cases h
    · rename_i d hd
      have hone : ∀ {L : Gd} {c : Bool}, (allT L → st.tmps[d]? = some (.sc (.bool c))) → (¬ allT L → st.tmps[d]? = some (.tp [])) → GrOk ops o st (.go ((j, w, gb w c) :: L)) := fun {L c} g1 g2 => by
        refine ⟨fun hL => ?_, fun hL => ?_⟩
        · unfold Wants
          rw [hg]
          refine .inl ⟨c, yield_of hd (g1 fun e he => hL e (by simp [he])), ?_⟩
          rw [← gb_eq]; exact hL _ (List.mem_cons_self ..)
        · unfold Wants
          rw [hg]
          by_cases hL' : allT L
          · refine .inl ⟨c, yield_of hd (g1 hL'), ?_⟩
            rw [← gb_eq, Bool.eq_false_iff]
            intro hc
            exact hL fun e he => by
              rcases List.mem_cons.1 he with rfl | he
              · exact hc
              · exact hL' e he
          · exact .inr ⟨gone_of hd (g2 hL'), rfl⟩
      split at h
      · rename_i c e1
        cases h
        exact ⟨hb, grOf_ok hg (yield_of hd (hb.cl d _ e1).2)⟩
      · rename_i e1
        cases h
        refine ⟨hb, ?_⟩
        have := (hb.cl d _ e1).2
        rcases this with g | g
        · cases g
        · show Wants ops o st false
          unfold Wants
          rw [hg]
          exact .inr ⟨gone_of hd g, rfl⟩
      · rename_i c e1
        have hc : st.tmps[d]? = some (.sc (.bool c)) := by
          rcases (hb.cl d _ e1).2 with g | g
          · cases g
          · exact g
        split at h
        · rename_i b v hv hs2
          split at h
          · rename_i s2 e2
            cases h
            have := bI_inj (Prs.ok_cons.1 hp).1
            subst this
            subst hv
            have hb' := hb.put (y := .sc (.bool c)) e2 rfl
            rw [sg_put_same hc] at hb'
            exact ⟨hb', grOf_ok hg (yield_of hd hc)⟩
          · cases h
        · split at h
          · rename_i s2 e2
            cases h
            have hb' := hb.put (y := .sc (.bool c)) e2 ⟨fun _ => .inr rfl, fun hn => absurd (fun e he => by cases he) hn⟩
            rw [sg_put_same hc] at hb'
            exact ⟨hb', hone (fun _ => hc) fun hn => absurd (fun e he => by cases he) hn⟩
          · cases h
        · cases h
          exact ⟨hb, hone (fun _ => hc) fun hn => absurd (fun e he => by cases he) hn⟩
      · rename_i L c e1
        cases h
        have := (hb.cl d _ e1).2
        exact ⟨hb, hone (fun hL => (this.1 hL).resolve_left (by simp)) this.2⟩
      · cases h
end Go.Proofs.YtjghgpmkepfdhaaGreatDoor

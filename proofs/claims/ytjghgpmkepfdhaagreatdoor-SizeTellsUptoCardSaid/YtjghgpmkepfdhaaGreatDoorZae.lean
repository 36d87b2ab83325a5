/- The pure walk, seventh part: whole pieces of code, and whole functions. Conditions: none.
The pure walk, eighth part: the rules by which a function's code is gone through. Conditions: none.
The pure walk, ninth part: rules in the form in which a program types them. Conditions: none.
The document's data, plain, and how they lie in cells. Conditions: none.
The pure walk: calls of functions that change objects of their callers. Conditions: none.
The pure walk: a call of a function that changes objects, in a state. Conditions: none.
The pure walk: a function that changes objects of its callers, told by its code. Conditions: none.
The pure walk: more rules. Conditions: none.
The pure walk: how long lists can be. Conditions: none.
The pure walk: function values: a variable that changes no more, what a function captures, calls of function values. Conditions: none. -/
import Derived.Test.YtjghgpmkepfdhaaGreatDoorZad
import Derived.RangeFuncRecord
import Derived.IntWalk
namespace Go.Proofs.YtjghgpmkepfdhaaGreatDoor
open Go.RowKit
set_option linter.unusedVariables false

def Exit.leave (id : Nat) : Exit → Exit
  | .exit id' => if id' = id then .normal else .exit id'
  | e => e
def Exit.open : Exit → Bool
  | .normal => false
  | .exit _ | .ret => true
  | _ => false
/-- What is known is forgotten. -/
def Ast.le (st st' : Ast) : Prop := st.tmps.length = st'.tmps.length ∧ (∀ (i : Nat) x, st'.tmps[i]? = some x → x = .un ∨ st.tmps[i]? = some x ∨ (st.tmps[i]? = some .nl ∧ ∃ q, x = .ls (some q) [])) ∧ (∀ t r, vget st'.vars t = some r → vget st.vars t = some r) ∧ st'.y = st.y
/-- Code outside all rounds takes a state to another one, and is left so. -/
def SemEx (P : Program) (c : Code) (st : Ast) (e : Exit) (st' : Ast) : Prop := ∀ (C : En → Yst → Prop), YC P C → (∀ E y, C E y → E.m = fun _ => none) → ∀ (n : Nat) (a : Act) (w : World) (Q : Exit → Act → World → Prop),
  StA C st a w → (∀ a' w', StA C st' a' w' → Q e a' w') → c.wpIn (WF none) n P Q a w
/-- Code takes a state to another one, and is left so. -/
inductive Ex (P : Program) (T : Bool) : Code → Ast → Exit → Ast → Prop
  | skip (st : Ast) : Ex P T .skip st .normal st
  | label (l : Nat) (st : Ast) : Ex P T (.label l) st .normal st
  | ret (st : Ast) : Ex P T .ret st .ret st
  | exit (id : Nat) (st : Ast) : Ex P T (.exit id) st (.exit id) st
  | reg {id : Nat} {ops : Array Oper} (wr : Nat → Bool) {st st' : Ast} (h : Run P ops wr (List.range ops.size) st st') : Ex P T (.region id ops false) st .normal st'
  | draw {id : Nat} {ops : Array Oper} (wr : Nat → Bool) (anc : List (List Nat)) {st st' : Ast} (he : early ops = true) (ha : ancOk ops anc = true) (hp : pairsOk ops wr anc = true) (h : Run P ops wr (List.range ops.size) st st') : Ex P T (.region id ops true) st .normal st'
  | seq {x y : Code} {st st1 st' : Ast} {e : Exit} (h : Ex P T x st .normal st1) (h' : Ex P T y st1 e st') : Ex P T (.seq x y) st e st'
  | seqX {x y : Code} {st st' : Ast} {e : Exit} (h : Ex P T x st e st') (he : Exit.open e = true) : Ex P T (.seq x y) st e st'
  | cond {c : Operand} {x y : Code} {st st' : Ast} {e : Exit} (b : Bool) (hc : st.ev c = .sc (.bool b)) (h : Ex P T (if b then x else y) st e st') : Ex P T (.cond c x y) st e st'
  | block {id : Nat} {c : Code} {st st' : Ast} {e e' : Exit} (h : Ex P T c st e st') (he : e' = Exit.leave id e) : Ex P T (.block id c) st e' st'
  | again {c : Code} {st st1 st' : Ast} {e : Exit} (h : Ex P T c st .normal st1) (h' : Ex P T (.loop c) st1 e st') : Ex P T (.loop c) st e st'
  | out {c : Code} {st st' : Ast} {e : Exit} (h : Ex P T c st e st') (he : Exit.open e = true) : Ex P T (.loop c) st e st'
  | weak {c : Code} {st st1 st' : Ast} {e : Exit} (hl : st.le st1) (h : Ex P T c st1 e st') : Ex P T c st e st'
  | weakR {c : Code} {st st1 st' : Ast} {e : Exit} (h : Ex P T c st e st1) (hl : st1.le st') : Ex P T c st e st'
  | sem {c : Code} {st st' : Ast} {e : Exit} (hT : T = true) (hc : ∀ c', c ≠ .loop c') (h : SemEx P c st e st') : Ex P T c st e st'
section
variable {P : Program} {T : Bool}
theorem St.weak {E : En} {st st' : Ast} {a : Act} {w : World} (h : St E st a w) (hl : st.le st') : St E st' a w := by
  obtain ⟨S, m, τ, h⟩ := h
  obtain ⟨h1, h2, h3, h4⟩ := hl
  refine ⟨S, m, τ, h.bel, h.s0, h.s1, h.sc, h.sS, by rw [h4]; exact h.df, h.sz.trans h1, fun i x hx => ?_, fun t r hr => h.vr t r (h3 t r hr), h.m0, h.mB, h.mi, h.tk, h.ti, h.mt⟩
  rcases h2 i x hx with rfl | g | ⟨g, q, rfl⟩
  · trivial
  · exact h.tm i x g
  · have g := h.tm i _ g
    have g : RC w S _ .nl := g
    generalize a.tmps.getD i undef = v at g
    cases g
    exact ⟨.e none 0, fun _ => rfl, fun h => absurd rfl h⟩
/-- A loop, from the beginning of a round on. -/
def LoopWp (r : Option Nat) (P : Program) (c : Code) (Q : Exit → Act → World → Prop) (a : Act) (w : World) : Prop :=
  ∀ (b : Frame) (k : List Item) (cs : List Frame), b.roundOf = r → ∃ e a' w', Q e a' w' ∧ ArrivesIn (Machine.fenced P (WF r)) P (lone (b.atR a (.code c :: .inLoop c :: k)) cs w) b k cs e a' w'
theorem WF.hr {r : Option Nat} {k : Nat} : (WF r).room k := fun d hd => by cases hd
theorem LoopWp.loop {r : Option Nat} {n : Nat} {c : Code} {Q : Exit → Act → World → Prop} {a : Act} {w : World} (h : LoopWp r P c Q a w) : (Code.loop c).wpIn (WF r) n P Q a w := fun b k cs hro hb hr => by
  obtain ⟨e, a', w', hq, harr⟩ := h b k cs hro
  exact ⟨e, a', w', hq, .of_steps (.one (fenced_calm hb hr rfl) stepR_loop) harr⟩
theorem LoopWp.again {r : Option Nat} {n : Nat} {c : Code} {Q : Exit → Act → World → Prop} {a : Act} {w : World} (h : c.wpIn (WF r) n P (Exit.then (LoopWp r P c Q) Q) a w) : LoopWp r P c Q a w := fun b k cs hro => by
  obtain ⟨e, a₁, w₁, hq, harr⟩ := h b (.inLoop c :: k) cs hro trivial WF.hr
  cases e with
  | normal =>
    obtain ⟨e₂, a₂, w₂, hq₂, harr₂⟩ := hq b k cs hro
    exact ⟨e₂, a₂, w₂, hq₂, .of_steps (StepsIn.trans harr (.one (fenced_calm (n := n) trivial WF.hr rfl) stepR_inLoop)) harr₂⟩
  | exit id => exact ⟨_, a₁, w₁, hq, .pass (x := .inLoop c) rfl (fun _ _ => .inl (by simp)) harr⟩
  | goto l => exact ⟨_, a₁, w₁, hq, .pass (x := .inLoop c) rfl (fun _ _ => .inl (by simp)) harr⟩
  | ret => exact ⟨_, a₁, w₁, hq, .pass (x := .inLoop c) rfl (fun _ _ => .inl (by simp)) harr⟩
  | panic ch => exact ⟨_, a₁, w₁, hq, .pass (x := .inLoop c) rfl (fun _ _ => .inl (by simp)) harr⟩
  | outgrown => exact ⟨_, a₁, w₁, hq, .pass (x := .inLoop c) rfl (fun _ _ => .inl (by simp)) harr⟩
theorem StA.weak {C : En → Yst → Prop} {st st' : Ast} {a : Act} {w : World} (h : StA C st a w) (hl : st.le st') : StA C st' a w := by
  obtain ⟨E, hc, hs⟩ := h
  exact ⟨E, by rw [hl.2.2.2]; exact hc, hs.weak hl⟩
theorem Ex.both (hm : P.follows .mixedOrders = true) {c : Code} {st st' : Ast} {e : Exit} (h : Ex P T c st e st') :
    ∀ (C : En → Yst → Prop) (hC : YC P C) (r : Option Nat) (n : Nat) (hT : T = true → r = none ∧ ∀ E y, C E y → E.m = fun _ => none) (a : Act) (w : World) (Q : Exit → Act → World → Prop), StA C st a w → (∀ a' w', StA C st' a' w' → Q e a' w') → c.wpIn (WF r) n P Q a w ∧ ∀ c', c = .loop c' → LoopWp r P c' Q a w := by
  induction h with
  | skip st => exact fun C hC r n hT a w Q hs hk => ⟨wpIn_skip (hk a w hs), fun c' h => by cases h⟩
  | label l st => exact fun C hC r n hT a w Q hs hk => ⟨wpIn_label (hk a w hs), fun c' h => by cases h⟩
  | ret st => exact fun C hC r n hT a w Q hs hk => ⟨wpIn_ret (hk a w hs), fun c' h => by cases h⟩
  | exit id st => exact fun C hC r n hT a w Q hs hk => ⟨wpIn_exit (hk a w hs), fun c' h => by cases h⟩
  | reg wr h => exact fun C hC r n hT a w Q hs hk => ⟨wpIn_region (Run.listed hC _ h hs hk), fun c' h => by cases h⟩
  | draw wr anc he ha hp h => exact fun C hC r n hT a w Q hs hk => ⟨Run.drawn hC hm he ha hp h hs hk, fun c' h => by cases h⟩
  | seq h h' ih ih' => exact fun C hC r n hT a w Q hs hk => ⟨wpIn_seq (ih C hC r n hT a w _ hs fun a' w' hs' => (ih' C hC r n hT a' w' Q hs' hk).1).1, fun c' h => by cases h⟩
  | @seqX x y st st' e h he ih =>
    intro C hC r n hT a w Q hs hk
    refine ⟨wpIn_seq (ih C hC r n hT a w _ hs fun a' w' hs' => ?_).1, fun c' h => by cases h⟩
    cases e <;> first | exact hk a' w' hs' | cases he
  | @cond c x y st st' e b hc h ih =>
    intro C hC r n hT a w Q hs hk
    refine ⟨?_, fun c' h => by cases h⟩
    obtain ⟨E, hc0, S, m, τ, hr⟩ := hs
    have := hr.ev c
    rw [hc] at this
    exact wpIn_cond (RT_sc this) (ih C hC r n hT a w Q ⟨E, hc0, S, m, τ, hr⟩ hk).1
  | @block id c st st' e e' h he ih =>
    intro C hC r n hT a w Q hs hk
    refine ⟨wpIn_block (ih C hC r n hT a w _ hs fun a' w' hs' => ?_).1, fun c' h => by cases h⟩
    have := hk a' w' hs'
    rw [he] at this
    cases e <;> try exact this
    rename_i id'
    unfold Exit.leave at this
    unfold Exit.inBlock
    dsimp only at this ⊢
    split <;> rename_i hid
    · rw [if_pos hid] at this; exact this
    · rw [if_neg hid] at this; exact this
  | again h h' ih ih' =>
    intro C hC r n hT a w Q hs hk
    have : LoopWp r P _ Q a w := LoopWp.again (n := n) (ih C hC r n hT a w _ hs fun a' w' hs' => (ih' C hC r n hT a' w' Q hs' hk).2 _ rfl).1
    exact ⟨this.loop, fun c' h => by cases h; exact this⟩
  | @out c st st' e h he ih =>
    intro C hC r n hT a w Q hs hk
    have : LoopWp r P c Q a w := LoopWp.again (n := n) (ih C hC r n hT a w _ hs fun a' w' hs' => by
      cases e <;> first | exact hk a' w' hs' | cases he).1
    exact ⟨this.loop, fun c' h => by cases h; exact this⟩
  | weak hl h ih => exact fun C hC r n hT a w Q hs hk => ih C hC r n hT a w Q (hs.weak hl) hk
  | weakR h hl ih => exact fun C hC r n hT a w Q hs hk => ih C hC r n hT a w Q hs fun a' w' hs' => hk a' w' (hs'.weak hl)
  | sem hT' hc h =>
    intro C hC r n hT a w Q hs hk
    obtain ⟨rfl, hm⟩ := hT hT'
    exact ⟨h C hC hm n a w Q hs hk, fun c' e => absurd e (hc c')⟩

/-- A block that holds no cells may change. -/
theorem Rel.obj {E : En} {S : Nat → Nat → Prop} {m : Nat → Option Nat} {τ : Nat → Option Tk} {st : Ast} {a : Act} {w : World} (h : Rel E S m τ st a w) (D : Nat) (o o' : Obj) (hD : E.w.heap.size ≤ D) (ho : w.heap[D]? = some o) (hnc : ∀ cs ty x, o ≠ .cells cs ty x) (ds : List Deferred) (hds : Marks E st.y m ds (w.putObj D o')) :
    Rel E S m τ st { tmps := a.tmps, defers := ds } (w.putObj D o') := by
  have hsz : (w.putObj D o').heap.size = w.heap.size := World.putObj_size
  have hbl : ∀ k, k ≠ D → (w.putObj D o').heap[k]? = w.heap[k]? := fun k hk => World.putObj_heap_other hk
  have hne : ∀ k cs ty x, w.heap[k]? = some (.cells cs ty x) → k ≠ D := fun k cs ty x hk e => by subst e; rw [ho] at hk; cases hk; exact hnc _ _ _ rfl
  have hcl : ∀ k i, (w.cell? ⟨k, i, none⟩).isSome = true → (w.putObj D o').cell? ⟨k, i, none⟩ = w.cell? ⟨k, i, none⟩ := fun k i hk => by
    refine World.cell?_of_block (a := ⟨k, i, none⟩) (hbl k fun e => ?_)
    subst e
    unfold World.cell? at hk
    simp only at hk
    rw [ho] at hk
    cases o <;> first | exact hnc _ _ _ rfl | simp at hk
  have hc : ∀ k i, S k i → (w.putObj D o').cell? ⟨k, i, none⟩ = w.cell? ⟨k, i, none⟩ := fun k i hk => hcl k i (h.sc k i hk)
  refine ⟨⟨h.bel.os, h.bel.tape, h.bel.output, by rw [hsz]; exact h.bel.size, fun k hk hio => (hbl k (by omega)).trans (h.bel.block k hk hio)⟩, h.s0, h.s1, fun k i hs => by rw [hc k i hs]; exact h.sc k i hs, fun b i hs => (hc b i (h.s0 b i hs)).trans (h.sS b i hs), hds, h.sz, fun i x hx => (h.tm i x hx).mono (fun _ _ g => g) hc, fun t row hr => ?_, h.m0, fun t b hm => ?_, h.mi, fun q k hk => ?_, h.ti, h.mt⟩
  · obtain ⟨b, cs, ty, g1, g2, g3⟩ := h.vr t row hr
    exact ⟨b, cs, ty, g1, (hbl b (hne b _ _ _ g2)).trans g2, g3.imp fun v x g => g.mono (fun _ _ g => g) hc⟩
  · obtain ⟨g1, g2, g3⟩ := h.mB t b hm
    exact ⟨g1, by rw [hsz]; exact g2, g3⟩
  · obtain ⟨g1, ⟨cur, g2, g3⟩, g4⟩ := h.tk q k hk
    exact ⟨g1, ⟨cur, (hbl _ (hne _ _ _ _ g2)).trans g2, g3⟩, g4⟩
/-- Leaving: the marks are taken off, one by one. -/
theorem Rel.leaves {E : En} {S : Nat → Nat → Prop} {m : Nat → Option Nat} {τ : Nat → Option Tk} {st : Ast} {F : Fence} {n : Nat} {fn : Func} {R : Ending → World → Prop} : ∀ (Ds : List Nat) {a : Act} {w : World}, Rel E S m τ st a w → a.defers = Ds.map mark → Ds.Nodup → (∀ D ∈ Ds, E.w.heap.size ≤ D ∧ w.heap[D]? = some (.deferred (some [])) ∧ ∀ t, m t ≠ some D) →
    (∀ w', Rel E S m τ st { tmps := a.tmps, defers := [] } w' → ∃ v, (results fn a.tmps).run P w' = .ok v w' ∧ R (.returned v) w') → LeavesInM F n P fn a.tmps R a.defers .returning w
  | [], a, w, h, hd, _, _, hk => by
    rw [hd]
    obtain ⟨ta, da⟩ := a
    have hd : da = [] := hd
    subst hd
    exact hk w h
  | D :: Ds, a, w, h, hd, hnd, hD, hk => by
    rw [hd]
    obtain ⟨g1, g2, g3⟩ := hD D (by simp)
    have hDs : ∀ D' ∈ Ds, E.w.heap.size ≤ D' ∧ (w.putObj D (.deferred none)).heap[D']? = some (.deferred (some [])) ∧ ∀ t, m t ≠ some D' := fun D' h' => by
      obtain ⟨k1, k2, k3⟩ := hD D' (by simp [h'])
      exact ⟨k1, (World.putObj_heap_other (fun e => by subst e; exact (List.nodup_cons.1 hnd).1 h')).trans k2, k3⟩
    have hy : st.y.yl ≠ none → Ds = [] := fun hy => by
      have := h.df.nil hy
      rw [hd] at this
      cases this
    have hrel := h.obj D _ (.deferred none) g1 g2 (fun _ _ _ e => by cases e) (Ds.map mark) ⟨Ds, rfl, (List.nodup_cons.1 hnd).2, hDs, hy⟩
    exact ⟨by simp, .inl ⟨D, _, rfl, run_takeDeferred g2, Rel.leaves Ds hrel rfl (List.nodup_cons.1 hnd).2 hDs hk⟩⟩
/-- The results of a function, in a state. -/
def ResOk (P : Program) (fn : Func) (st : Ast) (r : AV) : Prop := ∀ (S : Nat → Nat → Prop) m τ E a w, Rel E S m τ st a w → ∃ v, (results fn a.tmps).run P w = .ok v w ∧ RV w S v r
theorem res_tmp {fn : Func} {st : Ast} (t : Tmp) (h : fn.results = #[.tmp t]) : ResOk P fn st (st.ev (.tmp t)).strip := fun S m τ E a w hr => by
  refine ⟨a.eval (.tmp t), ?_, (hr.ev (.tmp t)).closed⟩
  simp [results, h, Act.eval]
theorem res_cell {fn : Func} {st : Ast} (t : Tmp) (ty : TypeId) (d : TypeDesc) (i : TypeInfo) (cs : List AV) (h : fn.results = #[.cell t ty]) (hu : P.underlying ty = some d) (hd : d.isRow = true) (hi : P.info? ty = some i) (hx : st.at_ (st.ev (.tmp t)) = some cs) (hl : cs.length = i.size) : ResOk P fn st (.ag (cs.map AV.strip0)) := fun S m τ E a w hr => by
  have h1 := hr.ev (.tmp t)
  obtain ⟨b, n, vs, g1, g2, g3⟩ := hr.at_ h1 hx
  refine ⟨.agg vs.toArray, ?_, vs, rfl, g2.map _ fun v x g => RK.of g.closed⟩
  have hl := run_loadVar_mid (P := P) w b n ty vs d g3 hu hd (by rw [hi, g2.1, hl]; rfl)
  have g1 : a.tmps.getD t undef = .pointer (some ⟨b, n, none⟩) := g1
  simp [results, h, asAddr]
  rw [Array.getD_eq_getD_getElem?] at g1
  simp [g1, hl]
theorem res_two {fn : Func} {st : Ast} (t u : Tmp) (h : fn.results = #[.tmp t, .tmp u]) (h1 : ∀ xs, st.ev (.tmp t) ≠ .tp xs) (h2 : ∀ xs, st.ev (.tmp u) ≠ .tp xs) (h3 : ∀ xs, st.ev (.tmp t) ≠ .pr xs) (h4 : ∀ xs, st.ev (.tmp u) ≠ .pr xs) : ResOk P fn st (.tp [(st.ev (.tmp t)).strip, (st.ev (.tmp u)).strip]) := fun S m τ E a w hr => by
  have k : ∀ {v : Value} {x : AV}, RT w S m τ v x → (∀ xs, x ≠ .tp xs) → (∀ xs, x ≠ .pr xs) → R1 w S (fun _ => none) v x.strip := fun {v x} hx g1 g2 => by
    have := hx.closed
    cases x with
    | tp xs => exact absurd rfl (g1 xs)
    | pt _ _ => trivial
    | un => trivial
    | ag xs => exact this
    | sc _ => exact this
    | pr cs => exact this
    | fn k ks cs => exact this
    | nl => exact this
    | ls _ _ => exact this
  refine ⟨.tuple #[a.eval (.tmp t), a.eval (.tmp u)], ?_, [a.eval (.tmp t), a.eval (.tmp u)], rfl, RL.cons (k (hr.ev _) h1 h3) (RL.cons (k (hr.ev _) h2 h4) RL.nil)⟩
  simp [results, h, Act.eval]
theorem YC.one (E : En) (hG : GOk E) : YC P (fun E' y => E' = E ∧ y.yl = none) := ⟨fun _ _ h => by rw [h.1]; exact hG, fun _ _ h g => absurd h.2 g, fun _ _ _ _ h g => absurd h.2 g, fun _ _ _ _ _ h => by cases h.2⟩
/-- A function, told by its code. -/
theorem pcalls_of {F : FuncId} {fn : Func} {c : Code} (hm : P.follows .mixedOrders = true) (hf : P.funcs[F]? = some fn) (hb : fn.body = some c) {args : List AV} {r : AV} {e : Exit} {st' : Ast} (he : e = .ret ∨ e = .normal) (hr : ResOk P fn st' r)
    (h : Ex P true c ⟨args ++ List.replicate (fn.ntmps - args.length) .un, [], y0⟩ e st') : PCalls P F args r := by
  intro w S vs hGw hS hvs
  have hl := hvs.1
  have hno : ∀ k, ¬ (En.mk w S (fun _ => none) (fun _ => none)).io k := fun k h => by
    rcases h with ⟨t, h⟩ | ⟨q, tk, h, _⟩ <;> cases h
  have h0 : Rel (En.mk w S (fun _ => none) (fun _ => none)) S (fun _ => none) (fun _ => none) ⟨args ++ List.replicate (fn.ntmps - args.length) .un, [], y0⟩ { tmps := vs.toArray ++ Array.replicate (fn.ntmps - vs.toArray.size) undef, defers := [] } w := by
    refine ⟨⟨rfl, rfl, rfl, Nat.le_refl _, fun _ _ _ => rfl⟩, fun b o h => h, fun b o h => .inl h, hS, fun _ _ _ => rfl, Marks.zero, by simp [hl], fun i x hx => ?_, fun t r h => (by cases h), fun t b h => (by cases h), fun t b h => (by cases h), fun t t' b h => (by cases h), fun q k h => (by cases h), fun q q' k k' h => (by cases h), fun t b q k h => (by cases h)⟩
    rcases Nat.lt_or_ge i args.length with g | g
    · rw [List.getElem?_append_left g] at hx
      have hv : vs[i]? = some vs[i] := List.getElem?_eq_getElem (by omega)
      have := hvs.2 i _ x hv hx
      have e1 : (vs.toArray ++ Array.replicate (fn.ntmps - vs.toArray.size) undef).getD i undef = vs[i] := by
        rw [Array.getD_eq_getD_getElem?, Array.getElem?_append_left (by simp; omega)]
        simp [hv]
      rw [e1]
      exact this
    · rw [List.getElem?_append_right g, List.getElem?_replicate] at hx
      split at hx
      · cases hx; trivial
      · cases hx
  obtain ⟨E0, hE0⟩ : ∃ E0, En.mk w S (fun _ => none) (fun _ => none) = E0 := ⟨_, rfl⟩
  have hGE : GOk E0 := by rw [← hE0]; exact ⟨hGw, fun b _ => hno b⟩
  rw [hE0] at h0 hno
  refine (callsIn_wide (n := 0)).1 (callsIn_of_wp_marks hf hb trivial ?_ rfl)
  refine (h.both hm _ (YC.one E0 hGE) none 0 (fun _ => ⟨rfl, fun E y g => by rw [g.1, ← hE0]⟩) _ w _ ⟨E0, ⟨rfl, rfl⟩, S, _, _, h0⟩ fun a' w' hs' => ?_).1
  obtain ⟨E', ⟨h0e, _⟩, S', m, τ, hrel⟩ := hs'
  rw [h0e] at hrel
  obtain ⟨Ds, d1, d2, d3, _⟩ := hrel.df
  have hp : LeavesInM Fence.wide 0 P fn a'.tmps (fun e w' => ∃ v' S', e = .returned v' ∧ RV w' S' v' r ∧ Below w.heap.size w w' ∧ (∀ b o, S b o → S' b o) ∧ (∀ b o, S' b o → S b o ∨ w.heap.size ≤ b) ∧ (∀ b o, S' b o → (w'.cell? ⟨b, o, none⟩).isSome = true)) a'.defers .returning w' := by
    refine Rel.leaves Ds hrel d1 d2 d3 fun w2 hrel => ?_
    obtain ⟨v, h1, h2⟩ := hr S' m τ _ _ w2 hrel
    subst hE0
    exact ⟨v, h1, v, S', rfl, h2, ⟨hrel.bel.os, hrel.bel.tape, hrel.bel.output, hrel.bel.size, fun k hk => hrel.bel.block k hk (hno k)⟩, hrel.s0, fun b o h => (hrel.s1 b o h).imp id fun g => g.elim id fun ⟨q, k, h, _⟩ => (by cases h), hrel.sc⟩
  rcases he with rfl | rfl
  · exact hp
  · exact hp
end
end Go.Proofs.YtjghgpmkepfdhaaGreatDoor
namespace Go.Proofs.YtjghgpmkepfdhaaGreatDoor
open Go.RowKit
set_option linter.unusedVariables false

/-- Code takes a state to one of which Q holds. -/
def Wp (P : Program) (T : Bool) (c : Code) (st : Ast) (Q : Exit → Ast → Prop) : Prop := ∃ e st', Ex P T c st e st' ∧ Q e st'
/-- What comes behind. -/
def Then (P : Program) (T : Bool) (y : Code) (Q : Exit → Ast → Prop) : Exit → Ast → Prop
  | .normal, st => Wp P T y st Q
  | e, st => Exit.open e = true ∧ Q e st
def Ast.only (st : Ast) (keep vk : List Nat) : Ast := ⟨st.tmps.mapIdx fun i x => if keep.contains i then x else .un, st.vars.filter fun p => vk.contains p.1, st.y⟩
theorem vget_filter (vk : List Nat) (t : Nat) (r : List AV) : ∀ l, vget (l.filter fun p => vk.contains p.1) t = some r → vget l t = some r
  | [], h => h
  | (t', r') :: l, h => by
    rw [List.filter_cons] at h
    simp only [vget]
    split at h
    · simp only [vget] at h
      split at h
      · rename_i e; rw [if_pos e]; exact h
      · rename_i e; rw [if_neg e]; exact vget_filter vk t r l h
    · rename_i hc
      split
      · rename_i e
        subst e
        exfalso
        have : ∀ l : List (Nat × List AV), vget (l.filter fun p => vk.contains p.1) t' = none := by
          intro l
          induction l with
          | nil => rfl
          | cons p l ih =>
            obtain ⟨s, q⟩ := p
            rw [List.filter_cons]
            split
            · rename_i hs
              simp only [vget]
              split
              · rename_i e; subst e; exact absurd hs hc
              · exact ih
            · exact ih
        rw [this] at h
        cases h
      · exact vget_filter vk t r l h
theorem le_only (st : Ast) (keep vk : List Nat) : st.le (st.only keep vk) := by
  refine ⟨by simp [Ast.only], fun i x hx => ?_, fun t r h => vget_filter vk t r _ h, rfl⟩
  simp only [Ast.only, List.getElem?_mapIdx] at hx
  cases hi : st.tmps[i]? with
  | none => rw [hi] at hx; cases hx
  | some y =>
    rw [hi] at hx
    simp only [Option.map_some] at hx
    split at hx
    · exact .inr (.inl hx)
    · cases hx; exact .inl rfl
/-- A list of slots, a few of which hold something. -/
def mk (n : Nat) (l : List (Nat × AV)) : List AV := l.foldl (fun t p => t.set p.1 p.2) (List.replicate n .un)
section
variable {P : Program} {T : Bool} {Q : Exit → Ast → Prop} {st : Ast}
theorem Wp.skip (h : Q .normal st) : Wp P T .skip st Q := ⟨_, _, .skip st, h⟩
theorem Wp.ret (h : Q .ret st) : Wp P T .ret st Q := ⟨_, _, .ret st, h⟩
theorem Wp.exit {id : Nat} (h : Q (.exit id) st) : Wp P T (.exit id) st Q := ⟨_, _, .exit id st, h⟩
theorem Wp.label {l : Nat} (h : Q .normal st) : Wp P T (.label l) st Q := ⟨_, _, .label l st, h⟩
theorem Wp.reg {id : Nat} {ops : Array Oper} {st1 st' : Ast} (wr : Nat → Bool) (keep vk l : List Nat) (hl : List.range ops.size = l) (h : Run P ops wr l st st1) (he : st1.only keep vk = st') (hq : Q .normal st') : Wp P T (.region id ops false) st Q :=
  ⟨_, _, .weakR (.reg wr (by rw [hl]; exact h)) (by rw [← he]; exact le_only st1 keep vk), hq⟩
theorem Wp.draw {id : Nat} {ops : Array Oper} {st1 st' : Ast} (wr : Nat → Bool) (anc : List (List Nat)) (keep vk l : List Nat) (hl : List.range ops.size = l) (he0 : early ops = true) (ha : ancOk ops anc = true) (hp : pairsOk ops wr anc = true) (h : Run P ops wr l st st1) (he : st1.only keep vk = st') (hq : Q .normal st') : Wp P T (.region id ops true) st Q :=
  ⟨_, _, .weakR (.draw wr anc he0 ha hp (by rw [hl]; exact h)) (by rw [← he]; exact le_only st1 keep vk), hq⟩
theorem Wp.regM {id : Nat} {ops : Array Oper} {st' : Ast} (wr : Nat → Bool) (keep vk l : List Nat) (hl : List.range ops.size = l) (h : ∃ st1, Run P ops wr l st st1 ∧ st1.only keep vk = st') (hq : Q .normal st') : Wp P T (.region id ops false) st Q := by
  obtain ⟨st1, h1, h2⟩ := h
  exact Wp.reg wr keep vk l hl h1 h2 hq
theorem Wp.drawM {id : Nat} {ops : Array Oper} {st' : Ast} (wr : Nat → Bool) (anc : List (List Nat)) (keep vk l : List Nat) (hl : List.range ops.size = l) (he0 : early ops = true) (ha : ancOk ops anc = true) (hp : pairsOk ops wr anc = true) (h : ∃ st1, Run P ops wr l st st1 ∧ st1.only keep vk = st') (hq : Q .normal st') : Wp P T (.region id ops true) st Q := by
  obtain ⟨st1, h1, h2⟩ := h
  exact Wp.draw wr anc keep vk l hl he0 ha hp h1 h2 hq
theorem Wp.seq {x y : Code} (h : Wp P T x st (Then P T y Q)) : Wp P T (.seq x y) st Q := by
  obtain ⟨e, st1, h1, h2⟩ := h
  cases e with
  | normal =>
    obtain ⟨e', st2, h3, h4⟩ := h2
    exact ⟨_, _, .seq h1 h3, h4⟩
  | exit id => exact ⟨_, _, .seqX h1 h2.1, h2.2⟩
  | ret => exact ⟨_, _, .seqX h1 h2.1, h2.2⟩
  | goto l => exact ⟨_, _, .seqX h1 h2.1, h2.2⟩
  | panic c => exact ⟨_, _, .seqX h1 h2.1, h2.2⟩
  | outgrown => exact ⟨_, _, .seqX h1 h2.1, h2.2⟩
theorem Wp.cond {c : Operand} {x y : Code} (B : Bool) (hc : st.ev c = .sc (.bool B)) (ht : B = true → Wp P T x st Q) (hf : B = false → Wp P T y st Q) : Wp P T (.cond c x y) st Q := by
  cases B with
  | true =>
    obtain ⟨e, st1, h1, h2⟩ := ht rfl
    exact ⟨_, _, .cond true hc h1, h2⟩
  | false =>
    obtain ⟨e, st1, h1, h2⟩ := hf rfl
    exact ⟨_, _, .cond false hc h1, h2⟩
theorem Wp.block {id : Nat} {c : Code} (h : Wp P T c st fun e st1 => Q (Exit.leave id e) st1) : Wp P T (.block id c) st Q := by
  obtain ⟨e, st1, h1, h2⟩ := h
  exact ⟨_, _, .block h1 rfl, h2⟩
/-- A loop, by what holds at the beginning of each round. -/
theorem Wp.loop {α : Type} {c : Code} (keep vk : List Nat) (stOf : α → Ast) (inv : α → Prop) (μ : α → Nat) (a0 : α) (h0 : st = stOf a0) (hi : inv a0)
    (hs : ∀ a, inv a → Wp P T c (stOf a) fun e st1 => match e with
      | .normal => ∃ a', st1.only keep vk = stOf a' ∧ inv a' ∧ μ a' < μ a
      | e => Exit.open e = true ∧ Q e st1) : Wp P T (.loop c) st Q := by
  subst h0
  have key : ∀ n a, μ a = n → inv a → Wp P T (.loop c) (stOf a) Q := by
    intro n
    induction n using Nat.strongRecOn with
    | ind n ih =>
      intro a hn ha
      obtain ⟨e, st1, h1, h2⟩ := hs a ha
      cases e with
      | normal =>
        obtain ⟨a', g1, g2, g3⟩ := h2
        obtain ⟨e2, st2, h3, h4⟩ := ih (μ a') (by omega) a' rfl g2
        exact ⟨_, _, .again h1 (.weak (by rw [← g1]; exact le_only st1 keep vk) h3), h4⟩
      | exit id => exact ⟨_, _, .out h1 h2.1, h2.2⟩
      | ret => exact ⟨_, _, .out h1 h2.1, h2.2⟩
      | goto l => exact ⟨_, _, .out h1 h2.1, h2.2⟩
      | panic c => exact ⟨_, _, .out h1 h2.1, h2.2⟩
      | outgrown => exact ⟨_, _, .out h1 h2.1, h2.2⟩
  exact key _ a0 rfl hi
/-- Slots forgotten at large. -/
theorem Wp.weak {c : Code} (keep vk : List Nat) {st' : Ast} (he : st.only keep vk = st') (h : Wp P T c st' Q) : Wp P T c st Q := by
  obtain ⟨e, st1, h1, h2⟩ := h
  exact ⟨_, _, .weak (by rw [← he]; exact le_only st keep vk) h1, h2⟩

/-- A result that says less. -/
inductive Co0 : AV → AV → Prop
  | refl (x : AV) : Co0 x x
  | nl : Co0 .nl (.ls none [])
inductive Co : AV → AV → Prop
  | of {x y : AV} (h : Co0 x y) : Co x y
  | un (x : AV) : Co x .un
  | ag {xs ys : List AV} (hl : xs.length = ys.length) (h : ∀ (j : Nat) x y, xs[j]? = some x → ys[j]? = some y → Co0 x y) : Co (.ag xs) (.ag ys)
theorem Co0.rk {w : World} {S : Nat → Nat → Prop} {τ : Nat → Option Tk} {v : Value} {x y : AV} (hc : Co0 x y) (h : RK w S τ v x) : RK w S τ v y := by
  cases hc with
  | refl => exact h
  | nl =>
    have h : RC w S v .nl := h
    cases h
    exact RC.e none 0
theorem Co.rv {w : World} {S : Nat → Nat → Prop} {v : Value} {x y : AV} (hc : Co x y) (h : RV w S v x) : RV w S v y := by
  cases hc with
  | of hc =>
    cases hc with
    | refl => exact h
    | nl => exact RK_to (Co0.nl.rk h)
  | un => trivial
  | @ag xs ys hl hp =>
    obtain ⟨cs, h1, h2, h3⟩ := h
    refine ⟨cs, h1, h2.trans hl, fun j v y hv hy => ?_⟩
    have hj : j < xs.length := by rw [hl]; exact (List.getElem?_eq_some_iff.1 hy).1
    have hx : xs[j]? = some xs[j] := List.getElem?_eq_getElem hj
    exact (hp j _ y hx hy).rk (h3 j v _ hv hx)
theorem ResOk.co {fn : Func} {r r' : AV} (h : ResOk P fn st r) (hc : Co r r') : ResOk P fn st r' := fun S m τ E a w hr => by
  obtain ⟨v, h1, h2⟩ := h S m τ E a w hr
  exact ⟨v, h1, hc.rv h2⟩
theorem Co.cons {x y : AV} {xs ys : List AV} (h : Co0 x y) (hs : Co (.ag xs) (.ag ys)) : Co (.ag (x :: xs)) (.ag (y :: ys)) := by
  cases hs with
  | of hc =>
    cases hc
    refine .ag rfl fun j a b ha hb => ?_
    cases j with
    | zero => simp at ha hb; subst ha; subst hb; exact h
    | succ j => simp at ha hb; rw [ha] at hb; cases hb; exact .refl _
  | ag hl hp =>
    refine .ag (by simp [hl]) fun j a b ha hb => ?_
    cases j with
    | zero => simp at ha hb; subst ha; subst hb; exact h
    | succ j => exact hp j a b (by simpa using ha) (by simpa using hb)
theorem pcalls_wp {F : FuncId} {fn : Func} {c : Code} (hm : P.follows .mixedOrders = true) (hf : P.funcs[F]? = some fn) (hb : fn.body = some c) {args : List AV} {r : AV} (s0 : Ast) (h0 : (⟨args ++ List.replicate (fn.ntmps - args.length) .un, [], y0⟩ : Ast) = s0)
    (h : Wp P true c s0 fun e st' => (e = .ret ∨ e = .normal) ∧ ResOk P fn st' r) : PCalls P F args r := by
  obtain ⟨e, st', h1, h2, h3⟩ := h
  subst h0
  exact pcalls_of hm hf hb h2 h3 h1
theorem PCalls.co {F : FuncId} {args : List AV} {r r' : AV} (h : PCalls P F args r) (hc : Co r r') : PCalls P F args r' := fun w S vs h0 h1 h2 => (h w S vs h0 h1 h2).mono fun e w' ⟨v, S', g1, g2, g3⟩ => ⟨v, S', g1, hc.rv g2, g3⟩

/-- A list that is appended to by the slot q. -/
abbrev lstA (q : Nat) (rows : List (List AV)) : AV := .ls (some q) rows
theorem onto_lstA (q : Nat) (rows : List (List AV)) : (lstA q rows).onto q = some (q, rows) := rfl
theorem strip_lstA (q : Nat) (rows : List (List AV)) : Co0 (lstA q rows).strip0 (.ls none rows) := .refl _
theorem lstA_app {q : Nat} {rows rows' : List (List AV)} (h : rows' ≠ []) : AV.ls (some q) (rows ++ rows') = lstA q (rows ++ rows') := rfl
variable {o : Oper}
theorem int_add {x y z : Int} (hz : x + y = z) (h1 : -9223372036854775808 ≤ z) (h2 : z ≤ 9223372036854775807) : intRes .add .i64 x y = some (.int .i64 z) := by
  unfold intRes
  simp only [hz]
  have e : IntKind.i64.wrap z = z := by rw [IntKind.wrap_i64]; omega
  rw [e]
theorem int_sub {x y z : Int} (hz : x - y = z) (h1 : -9223372036854775808 ≤ z) (h2 : z ≤ 9223372036854775807) : intRes .sub .i64 x y = some (.int .i64 z) := by
  unfold intRes
  simp only [hz]
  have e : IntKind.i64.wrap z = z := by rw [IntKind.wrap_i64]; omega
  rw [e]
theorem val_lenS (t e : TypeId) (x : Operand) (rows : List (List AV)) (ho : o.op = .call { callee := .builtin .len, args := #[x], argTypes := #[t] }) (ht : P.underlying t = some (.slice e)) (hx : (st.ev x).strip0 = .ls none rows ∨ ∃ q, st.ev x = lstA q rows) : ValOk P o st (.sc (.int .i64 rows.length)) := by
  have hl : (st.ev x).len? = some rows.length ∧ ∀ s, st.ev x ≠ .sc (.string s) := by
    rcases hx with hx | ⟨q, hx⟩
    · cases hy : st.ev x with
      | ls o rs => rw [hy] at hx; cases hx; exact ⟨rfl, fun s h => by cases h⟩
      | _ => rw [hy] at hx; cases hx
    · rw [hx]
      exact ⟨rfl, fun s h => by cases h⟩
  exact val_len t x _ ho (.inl ⟨e, ht⟩) hl.1 (fun s h => absurd h (hl.2 s)) (fun h => by rw [ht] at h; cases h)
theorem val_lenT (t : TypeId) (x : Operand) (s : ByteArray) (ho : o.op = .call { callee := .builtin .len, args := #[x], argTypes := #[t] }) (ht : P.underlying t = some .string) (hx : st.ev x = .sc (.string s)) : ValOk P o st (.sc (.int .i64 s.size)) :=
  val_len t x _ ho (.inr ht) (by rw [hx]; rfl) (fun _ _ => ht) (fun _ => ⟨s, hx⟩)
theorem bytes_eq {a b : ByteArray} : (a.toList == b.toList) = decide (a = b) := by
  rw [Bool.eq_iff_iff, decide_eq_true_eq]
  constructor
  · intro h
    have h := eq_of_beq h
    have h2 : a.data = b.data := by
      have e1 : ∀ x : ByteArray, x.toList = x.data.toList := fun x => by
        exact ByteArray.toList_eq x
      rw [e1, e1] at h
      exact Array.ext' h
    cases a; cases b; simp at h2; rw [h2]
  · rintro rfl; simp
theorem val_seq (t u : TypeId) (x y : Operand) (s r : ByteArray) (ho : o.op = .binOp .eql t x y u) (hx : st.ev x = .sc (.string s)) (hy : st.ev y = .sc (.string r)) : ValOk P o st (.sc (.bool (decide (s = r)))) := by
  have := val_str (P := P) false t u x y s r ho hx hy
  rwa [bytes_eq, Bool.false_xor] at this
theorem val_sne (t u : TypeId) (x y : Operand) (s r : ByteArray) (ho : o.op = .binOp .neq t x y u) (hx : st.ev x = .sc (.string s)) (hy : st.ev y = .sc (.string r)) : ValOk P o st (.sc (.bool (!decide (s = r)))) := by
  have := val_str (P := P) true t u x y s r ho hx hy
  rwa [bytes_eq, Bool.true_xor] at this
end
end Go.Proofs.YtjghgpmkepfdhaaGreatDoor
namespace Go.Proofs.YtjghgpmkepfdhaaGreatDoor
open Go.RowKit
set_option linter.unusedVariables false
section
variable {P : Program} {st : Ast} {o : Oper}
theorem g_mv {X : AV} (x : Operand) (ho : o.op = .move x) (he : st.ev x = X) : ValOk P o st X := he ▸ val_mv x (.inl ho)
theorem g_as {X : AV} (x : Operand) (ho : o.op = .assign x) (he : st.ev x = X) : ValOk P o st X := he ▸ val_mv x (.inr ho)
theorem g_pickT {X : AV} (c x y : Operand) (ho : o.op = .pick c x y) (hc : st.ev c = .sc (.bool true)) (he : st.ev x = X) : ValOk P o st X := he ▸ val_pick c x y true ho hc
theorem g_pickF {X : AV} (c x y : Operand) (ho : o.op = .pick c x y) (hc : st.ev c = .sc (.bool false)) (he : st.ev y = X) : ValOk P o st X := he ▸ val_pick c x y false ho hc
theorem g_nilck {X : AV} (x : Operand) (ho : o.op = .nilCheck x) (he : st.ev x = X) (hx : (∃ t n, X = .pt t n) ∨ ∃ cs, X = .pr cs) : ValOk P o st X := by
  subst he
  exact val_nilck x ho hx
theorem g_ia (t e : TypeId) (x y : Operand) (k : IntKind) (a : Int) (i n : Nat) (own : Option Nat) (rows : List (List AV)) (r : List AV) (ie : TypeInfo) (ho : o.op = .indexAddr t x y) (ht : P.underlying t = some (.slice e)) (he : P.info? e = some ie) (hs : ie.size = n)
    (hx : st.ev x = .ls own rows) (hy : st.ev y = .sc (.int k a)) (ha : a = (i : Int)) (hr : rows[i]? = some r) (hl : r.length = n) : ValOk P o st (.pr r) := by
  subst ha
  exact val_ia t e x y k i own rows r ie ho ht he hx hy hr (hl.trans hs.symm)
theorem g_iaA (t e : TypeId) (x y : Operand) (k : IntKind) (a : Int) (i n : Nat) (q : Nat) (rows : List (List AV)) (r : List AV) (ie : TypeInfo) (ho : o.op = .indexAddr t x y) (ht : P.underlying t = some (.slice e)) (he : P.info? e = some ie) (hs : ie.size = n)
    (hx : st.ev x = lstA q rows) (hy : st.ev y = .sc (.int k a)) (ha : a = (i : Int)) (hr : rows[i]? = some r) (hl : r.length = n) : ValOk P o st (.pr r) := by
  exact g_ia t e x y k a i n (some q) rows r ie ho ht he hs hx hy ha hr hl
theorem g_len (t e : TypeId) (x : Operand) (n : Nat) (own : Option Nat) (rows : List (List AV)) (ho : o.op = .call { callee := .builtin .len, args := #[x], argTypes := #[t] }) (ht : P.underlying t = some (.slice e)) (hx : st.ev x = .ls own rows) (hn : rows.length = n) : ValOk P o st (.sc (.int .i64 (n : Int))) := by
  subst hn
  exact val_lenS t e x rows ho ht (.inl (by rw [hx]; rfl))
theorem g_lenA (t e : TypeId) (x : Operand) (n : Nat) (q : Nat) (rows : List (List AV)) (ho : o.op = .call { callee := .builtin .len, args := #[x], argTypes := #[t] }) (ht : P.underlying t = some (.slice e)) (hx : st.ev x = lstA q rows) (hn : rows.length = n) : ValOk P o st (.sc (.int .i64 (n : Int))) := by
  subst hn
  exact val_lenS t e x rows ho ht (.inr ⟨q, hx⟩)
theorem g_ld (t : TypeId) (x : Operand) (d : TypeDesc) (cs : List AV) (y : AV) (ho : o.op = .load t x) (ht : P.underlying t = some d) (hd : d.isRow = false) (hx : st.at_ (st.ev x) = some cs) (hy : cs[0]? = some y) : ValOk P o st y := val_ld t x d cs y ho ht hd hx hy
theorem g_ldr (t : TypeId) (x : Operand) (d : TypeDesc) (i : TypeInfo) (n : Nat) (cs ys : List AV) (ho : o.op = .load t x) (ht : P.underlying t = some d) (hd : d.isRow = true) (hi : P.info? t = some i) (hs : i.size = n) (hx : st.at_ (st.ev x) = some cs) (hl : n ≤ cs.length) (hy : cs.take n = ys) : ValOk P o st (.ag ys) := by
  subst hs
  subst hy
  exact val_ldr t x d i cs ho ht hd hi hx hl
theorem g_fa (t : TypeId) (x : Operand) (f off : Nat) (fs : Array Field) (fl : Field) (i : TypeInfo) (n : Nat) (ho : o.op = .fieldAddr t x f) (ht : P.underlying t = some (.struct fs)) (hf : fs[f]? = some fl) (hi : P.info? fl.type = some i) (hs : i.size = n) (hz : ¬ n = 0) (hoff : fl.offset = off) (v m : Nat)
    (hx : st.ev x = .pt v m) : ValOk P o st (.pt v (m + off)) := by
  subst hs
  subst hoff
  exact val_fa t x f fs fl i ho ht hf hi hz _ (.inl ⟨v, m, hx, rfl⟩)
theorem g_fap (t : TypeId) (x : Operand) (f off : Nat) (fs : Array Field) (fl : Field) (i : TypeInfo) (n : Nat) (ho : o.op = .fieldAddr t x f) (ht : P.underlying t = some (.struct fs)) (hf : fs[f]? = some fl) (hi : P.info? fl.type = some i) (hs : i.size = n) (hz : ¬ n = 0) (hoff : fl.offset = off) (cs ys : List AV)
    (hx : st.ev x = .pr cs) (hy : cs.drop off = ys) : ValOk P o st (.pr ys) := by
  subst hs
  subst hoff
  subst hy
  exact val_fa t x f fs fl i ho ht hf hi hz _ (.inr ⟨cs, hx, rfl⟩)
theorem g_fd (t : TypeId) (x : Operand) (f : Nat) (fs : Array Field) (fl : Field) (d : TypeDesc) (cs : List AV) (y : AV) (ho : o.op = .field t x f) (ht : P.underlying t = some (.struct fs)) (hf : fs[f]? = some fl) (hu : P.underlying fl.type = some d) (hd : d.isRow = false)
    (hx : st.ev x = .ag cs) (hy : cs[fl.offset]? = some y) : ValOk P o st y := val_fd t x f fs fl d cs y ho ht hf hu hd hx hy
theorem g_fdr (t : TypeId) (x : Operand) (f n : Nat) (fs : Array Field) (fl : Field) (d : TypeDesc) (i : TypeInfo) (cs ys : List AV) (ho : o.op = .field t x f) (ht : P.underlying t = some (.struct fs)) (hf : fs[f]? = some fl) (hu : P.underlying fl.type = some d) (hd : d.isRow = true) (hi : P.info? fl.type = some i) (hs : i.size = n)
    (hx : st.ev x = .ag cs) (hy : (cs.drop fl.offset).take n = ys) : ValOk P o st (.ag ys) := by
  subst hs
  subst hy
  exact val_fdr t x f fs fl d i cs ho ht hf hu hd hi hx
theorem g_store (t : TypeId) (x y : Operand) (v m n : Nat) (i : TypeInfo) (old new : List AV) (ho : o.op = .store t x y) (hi : P.info? t = some i) (hs : i.size = n) (hx : st.ev x = .pt v m) (hv : vget st.vars v = some old) (hy : (st.ev y).cells = some new) (hl : new.length = n) (hb : m + n ≤ old.length) :
    OpOk P o st ((st.setVar v (old.take m ++ new ++ old.drop (m + n))).putD o.dst .un) := by
  have := ok_store (P := P) (o := o) t x y v m i old new ho hi hx hv hy (hl.trans hs.symm) (by rw [hl]; exact hb)
  rwa [hl] at this
theorem g_store2 (t : TypeId) (x y : Operand) (v m n : Nat) (i : TypeInfo) (old new row : List AV) (ho : o.op = .store t x y) (hi : P.info? t = some i) (hs : i.size = n) (hx : st.ev x = .pt v m) (hv : vget st.vars v = some old) (hy : (st.ev y).cells = some new) (hl : new.length = n) (hb : m + n ≤ old.length) (hr : old.take m ++ new ++ old.drop (m + n) = row) :
    OpOk P o st ((st.setVar v row).putD o.dst .un) := by
  subst hr
  exact g_store t x y v m n i old new ho hi hs hx hv hy hl hb
theorem g_alloc {d : Nat} (t : TypeId) (i : TypeInfo) (z : Value) (row : List AV) (ho : o.op = .alloc t) (hd : o.dst = some d) (hd2 : d < 1000) (hi : P.info? t = some i) (hz : i.zero = some z) (h1 : z.cells.all (·.oneCell') = true) (hr : z.cells.toList.map cAV0 = row) :
    OpOk P o st (((st.kill d).setVar d row).putD o.dst (.pt d 0)) := by
  subst hr
  exact ok_alloc t i z ho hd hd2 hi hz h1
theorem g_build (t : TypeId) (ps : List (Nat × Operand)) (fs : Array Field) (it : TypeInfo) (z : Value) (places : List (Nat × Nat)) (zr : List AV) (l : List (Nat × List AV)) (ys : List AV) (ho : o.op = .build t ps.toArray) (hi : P.info? t = some it) (hu : P.underlying t = some (.struct fs)) (hz : it.zero = some z) (h1 : z.cells.all (·.oneCell') = true) (hr : z.cells.toList.map cAV0 = zr)
    (hp : fs.toList.mapM (fun f => (P.info? f.type).map fun i => (f.offset, i.size)) = some places) (hl : st.parts ps = some l) (hf : fillA (places.toArray[·]?) zr l = some ys) : ValOk P o st (.ag ys) := by
  subst hr
  exact val_build t ps fs it z places l ys ho hi hu hz h1 hp hl hf
/-- A list of one element, written out. -/
theorem g_bs1 (t e : TypeId) (x : Operand) (n : Nat) (ie : TypeInfo) (z : Value) (row ys : List AV) (ho : o.op = .buildSlice t 1 [((0 : Nat), x)].toArray) (hu : P.underlying t = some (.slice e)) (hi : P.info? e = some ie) (hs : ie.size = n) (hz : ie.zero = some z)
    (hsm : ¬ 1 * n > 2 ^ 24) (hpos : ¬ 1 * n = 0) (h1 : ((Array.range (1 * n)).map (z.cells[· % z.cells.size]!)).all (·.oneCell') = true) (hx : (st.ev x).cells = some row) (hl : row.length = n) (hy : row.map AV.strip0 = ys) : ValOk P o st (.ls none [ys]) := by
  subst hs
  subst hy
  refine val_bslice t e 1 [((0 : Nat), x)] ie z [(0, row)] row [row.map AV.strip0] ho hu hi hz hsm hpos h1 (by simp [Ast.parts, hx]) ?_ (by simp) (by simp [hl]) rfl
  simp [fillA, hl]
theorem map_get {α : Type} {l : List α} {i : Nat} {x : α} (f : α → List AV) (h : l[i]? = some x) : (l.map f)[i]? = some (f x) := by rw [List.getElem?_map, h]; rfl
theorem g_appA (t e : TypeId) (x y : Operand) (nm n : Nat) (rows : List (List AV)) (r : List AV) (ie : TypeInfo) (z : Value) (R : List (List AV)) (ho : o.op = .call { callee := .builtin .append, args := #[x, y], argTypes := #[t, t] }) (ht : P.underlying t = some (.slice e)) (hi : P.info? e = some ie) (hz : ie.zero = some z) (hs : ie.size = n) (hzs : z.cells.size = n)
    (hpos : 0 < n) (hx : st.ev x = lstA nm rows) (hy : st.ev y = .ls none [r]) (hk' : r.length = n) (hk : ∀ r ∈ rows, r.length = n) (hbytes : (rows.length + 1) * ie.bytes ≤ 140737488355328) (h63 : rows.length + 1 ≤ maxLen) (hR : rows ++ [r] = R) :
    OpOk P o st ((st.dem nm).putD o.dst (lstA nm R)) := by
  subst hR
  rw [← lstA_app (by simp)]
  exact ok_app t e x y nm nm none rows [r] ie z ho ht hi hz (hzs.trans hs.symm) (by rw [hs]; exact hpos) (by rw [hx]; exact onto_lstA nm rows) hy (by simp) (fun r' hr' => by simp at hr'; subst hr'; rw [hk', hs]) (fun r hr => by rw [hk r hr, hs]) hbytes h63
end
end Go.Proofs.YtjghgpmkepfdhaaGreatDoor
namespace Go.Proofs.YtjghgpmkepfdhaaGreatDoor
namespace Pn
set_option linter.unusedVariables false

structure Tok where
  kind : Int
  text : ByteArray
  pos : Int
structure Ow where
  kind : Int
  n : Int
  deriving DecidableEq
structure Ty where
  kind : Int
  cls : ByteArray
  n : Int
  o0 : Ow
  o1 : Ow
  o2 : Ow
  o3 : Ow
  deriving DecidableEq
structure Vr where
  name : ByteArray
  type : Ty
  pos : Int
structure Fa where
  err : Int
  pos : Int
  deriving DecidableEq
inductive Xp where
  | mk (kind num : Int) (name : ByteArray) (kids : List Xp)
def Xp.kind : Xp → Int | .mk k _ _ _ => k
def Xp.num : Xp → Int | .mk _ n _ _ => n
def Xp.name : Xp → ByteArray | .mk _ _ s _ => s
def Xp.kids : Xp → List Xp | .mk _ _ _ l => l
inductive Sm where
  | mk (kind : Int) (x y name : ByteArray) (type : Ty) (e : Xp) (args : List Xp) (body els : List Sm) (pos : Int)
def Sm.kind : Sm → Int | .mk k _ _ _ _ _ _ _ _ _ => k
def Sm.x : Sm → ByteArray | .mk _ x _ _ _ _ _ _ _ _ => x
def Sm.y : Sm → ByteArray | .mk _ _ y _ _ _ _ _ _ _ => y
def Sm.name : Sm → ByteArray | .mk _ _ _ n _ _ _ _ _ _ => n
def Sm.type : Sm → Ty | .mk _ _ _ _ t _ _ _ _ _ => t
def Sm.e : Sm → Xp | .mk _ _ _ _ _ e _ _ _ _ => e
def Sm.args : Sm → List Xp | .mk _ _ _ _ _ _ a _ _ _ => a
def Sm.body : Sm → List Sm | .mk _ _ _ _ _ _ _ b _ _ => b
def Sm.els : Sm → List Sm | .mk _ _ _ _ _ _ _ _ b _ => b
def Sm.pos : Sm → Int | .mk _ _ _ _ _ _ _ _ _ p => p
structure Me where
  name : ByteArray
  pure : Bool
  ret : Ty
  params : List Vr
  locals : List Vr
  body : List Sm
  pos : Int
structure Cl where
  name : ByteArray
  params : List ByteArray
  super : ByteArray
  above : List Ow
  fields : List Vr
  methods : List Me
  pos : Int

abbrev i (n : Int) : AV := .sc (.int .i64 n)
abbrev s (b : ByteArray) : AV := .sc (.string b)
def encTok (t : Tok) : List AV := [i t.kind, s t.text, i t.pos]
def encOw (o : Ow) : List AV := [i o.kind, i o.n]
def encTy (t : Ty) : List AV := [i t.kind, s t.cls, i t.n, i t.o0.kind, i t.o0.n, i t.o1.kind, i t.o1.n, i t.o2.kind, i t.o2.n, i t.o3.kind, i t.o3.n]
def encStr (b : ByteArray) : List AV := [s b]
def encInt (n : Int) : List AV := [i n]
def encVr (v : Vr) : List AV := [s v.name, i v.type.kind, s v.type.cls, i v.type.n, i v.type.o0.kind, i v.type.o0.n, i v.type.o1.kind, i v.type.o1.n, i v.type.o2.kind, i v.type.o2.n, i v.type.o3.kind, i v.type.o3.n, i v.pos]
mutual
def encX : Xp → List AV
  | .mk k n b l => [i k, i n, s b, .ls none (encXs l)]
def encXs : List Xp → List (List AV)
  | [] => []
  | x :: l => encX x :: encXs l
end
theorem encXs_map : ∀ l, encXs l = l.map encX
  | [] => by simp [encXs]
  | x :: l => by simp [encXs, encXs_map l]
theorem encX_eq (x : Xp) : encX x = [i x.kind, i x.num, s x.name, .ls none (List.map encX x.kids)] := by
  cases x with
  | mk k n b l => simp [encX, encXs_map, Xp.kind, Xp.num, Xp.name, Xp.kids]
mutual
def encS : Sm → List AV
  | .mk k x y n t e a b c p => [i k, s x, s y, s n, i t.kind, s t.cls, i t.n, i t.o0.kind, i t.o0.n, i t.o1.kind, i t.o1.n, i t.o2.kind, i t.o2.n, i t.o3.kind, i t.o3.n, i e.kind, i e.num, s e.name, .ls none (List.map encX e.kids), .ls none (List.map encX a), .ls none (encSs b), .ls none (encSs c), i p]
def encSs : List Sm → List (List AV)
  | [] => []
  | x :: l => encS x :: encSs l
end
theorem encSs_map : ∀ l, encSs l = l.map encS
  | [] => by simp [encSs]
  | x :: l => by simp [encSs, encSs_map l]
theorem encS_eq (x : Sm) : encS x = [i x.kind, s x.x, s x.y, s x.name, i x.type.kind, s x.type.cls, i x.type.n, i x.type.o0.kind, i x.type.o0.n, i x.type.o1.kind, i x.type.o1.n, i x.type.o2.kind, i x.type.o2.n, i x.type.o3.kind, i x.type.o3.n, i x.e.kind, i x.e.num, s x.e.name, .ls none (List.map encX x.e.kids), .ls none (List.map encX x.args), .ls none (List.map encS x.body), .ls none (List.map encS x.els), i x.pos] := by
  cases x with
  | mk k x y n t e a b c p => simp [encS, encSs_map, Sm.kind, Sm.x, Sm.y, Sm.name, Sm.type, Sm.e, Sm.args, Sm.body, Sm.els, Sm.pos]
def encMe (m : Me) : List AV := [s m.name, .sc (.bool m.pure), i m.ret.kind, s m.ret.cls, i m.ret.n, i m.ret.o0.kind, i m.ret.o0.n, i m.ret.o1.kind, i m.ret.o1.n, i m.ret.o2.kind, i m.ret.o2.n, i m.ret.o3.kind, i m.ret.o3.n, .ls none (List.map encVr m.params), .ls none (List.map encVr m.locals), .ls none (List.map encS m.body), i m.pos]
def encCl (c : Cl) : List AV := [s c.name, .ls none (List.map encStr c.params), s c.super, .ls none (List.map encOw c.above), .ls none (List.map encVr c.fields), .ls none (List.map encMe c.methods), i c.pos]
/-! The cells of each, by name. -/
abbrev cOw (x : Ow) : List AV := [(.sc (.int .i64 x.kind)), (.sc (.int .i64 x.n))]
abbrev cTy (x : Ty) : List AV := [(.sc (.int .i64 x.kind)), (.sc (.string x.cls)), (.sc (.int .i64 x.n)), (.sc (.int .i64 x.o0.kind)), (.sc (.int .i64 x.o0.n)), (.sc (.int .i64 x.o1.kind)), (.sc (.int .i64 x.o1.n)), (.sc (.int .i64 x.o2.kind)), (.sc (.int .i64 x.o2.n)), (.sc (.int .i64 x.o3.kind)), (.sc (.int .i64 x.o3.n))]
abbrev cVr (x : Vr) : List AV := [(.sc (.string x.name)), (.sc (.int .i64 x.type.kind)), (.sc (.string x.type.cls)), (.sc (.int .i64 x.type.n)), (.sc (.int .i64 x.type.o0.kind)), (.sc (.int .i64 x.type.o0.n)), (.sc (.int .i64 x.type.o1.kind)), (.sc (.int .i64 x.type.o1.n)), (.sc (.int .i64 x.type.o2.kind)), (.sc (.int .i64 x.type.o2.n)), (.sc (.int .i64 x.type.o3.kind)), (.sc (.int .i64 x.type.o3.n)), (.sc (.int .i64 x.pos))]
abbrev cX (x : Xp) : List AV := [(.sc (.int .i64 x.kind)), (.sc (.int .i64 x.num)), (.sc (.string x.name)), (.ls none (List.map encX x.kids))]
abbrev cS (x : Sm) : List AV := [(.sc (.int .i64 x.kind)), (.sc (.string x.x)), (.sc (.string x.y)), (.sc (.string x.name)), (.sc (.int .i64 x.type.kind)), (.sc (.string x.type.cls)), (.sc (.int .i64 x.type.n)), (.sc (.int .i64 x.type.o0.kind)), (.sc (.int .i64 x.type.o0.n)), (.sc (.int .i64 x.type.o1.kind)), (.sc (.int .i64 x.type.o1.n)), (.sc (.int .i64 x.type.o2.kind)), (.sc (.int .i64 x.type.o2.n)), (.sc (.int .i64 x.type.o3.kind)), (.sc (.int .i64 x.type.o3.n)), (.sc (.int .i64 x.e.kind)), (.sc (.int .i64 x.e.num)), (.sc (.string x.e.name)), (.ls none (List.map encX x.e.kids)), (.ls none (List.map encX x.args)), (.ls none (List.map encS x.body)), (.ls none (List.map encS x.els)), (.sc (.int .i64 x.pos))]
abbrev cMe (x : Me) : List AV := [(.sc (.string x.name)), (.sc (.bool x.pure)), (.sc (.int .i64 x.ret.kind)), (.sc (.string x.ret.cls)), (.sc (.int .i64 x.ret.n)), (.sc (.int .i64 x.ret.o0.kind)), (.sc (.int .i64 x.ret.o0.n)), (.sc (.int .i64 x.ret.o1.kind)), (.sc (.int .i64 x.ret.o1.n)), (.sc (.int .i64 x.ret.o2.kind)), (.sc (.int .i64 x.ret.o2.n)), (.sc (.int .i64 x.ret.o3.kind)), (.sc (.int .i64 x.ret.o3.n)), (.ls none (List.map encVr x.params)), (.ls none (List.map encVr x.locals)), (.ls none (List.map encS x.body)), (.sc (.int .i64 x.pos))]
abbrev cCl (x : Cl) : List AV := [(.sc (.string x.name)), (.ls none (List.map encStr x.params)), (.sc (.string x.super)), (.ls none (List.map encOw x.above)), (.ls none (List.map encVr x.fields)), (.ls none (List.map encMe x.methods)), (.sc (.int .i64 x.pos))]
abbrev cTok (x : Tok) : List AV := [(.sc (.int .i64 x.kind)), (.sc (.string x.text)), (.sc (.int .i64 x.pos))]
theorem map_to {α : Type} {l : List α} {n : Nat} {x : α} {f : α → List AV} {r : List AV} (h : l[n]? = some x) (hf : f x = r) : (l.map f)[n]? = some r := by rw [List.getElem?_map, h, ← hf]; rfl
mutual
/-- How many there are in one. -/
def cntX : Xp → Nat
  | .mk _ _ _ l => cntXs l + 1
def cntXs : List Xp → Nat
  | [] => 0
  | x :: l => cntX x + cntXs l
end
theorem cntX_kid : ∀ {l : List Xp} {x : Xp}, x ∈ l → cntX x ≤ cntXs l
  | y :: l, x, h => by
    rcases List.mem_cons.1 h with rfl | h
    · simp only [cntXs]; omega
    · have := cntX_kid h; simp only [cntXs]; omega
theorem cntX_eq (x : Xp) : cntX x = cntXs x.kids + 1 := by cases x; simp [cntX, Xp.kids]
mutual
def cntS : Sm → Nat
  | .mk _ _ _ _ _ _ _ b c _ => cntSs b + cntSs c + 1
def cntSs : List Sm → Nat
  | [] => 0
  | x :: l => cntS x + cntSs l
end
theorem cntS_eq (x : Sm) : cntS x = cntSs x.body + cntSs x.els + 1 := by cases x; simp [cntS, Sm.body, Sm.els]
theorem cntS_in : ∀ {l : List Sm} {x : Sm}, x ∈ l → cntS x ≤ cntSs l
  | y :: l, x, h => by
    rcases List.mem_cons.1 h with rfl | h
    · simp only [cntSs]; omega
    · have := cntS_in h; simp only [cntSs]; omega
end Pn
end Go.Proofs.YtjghgpmkepfdhaaGreatDoor
namespace Go.Proofs.YtjghgpmkepfdhaaGreatDoor
open Go.RowKit
set_option linter.unusedVariables false

/-- A value that says the same, or less, and names no list beyond Q, no object beyond T. -/
inductive Cq0 (Q : List Nat) : AV → AV → Prop
  | sc (v : Value) : Cq0 Q (.sc v) (.sc v)
  | nl : Cq0 Q .nl .nl
  | nl0 : Cq0 Q .nl (.ls none [])
  | ls (rows : List (List AV)) : Cq0 Q (.ls none rows) (.ls none rows)
  | drop (q : Nat) (rows : List (List AV)) : Cq0 Q (.ls (some q) rows) (.ls none rows)
  | own (q : Nat) (rows : List (List AV)) (h : Q.contains q = true) : Cq0 Q (.ls (some q) rows) (.ls (some q) rows)
  | ownN (q : Nat) : Cq0 Q .nl (.ls (some q) [])
  | pr (xs : List AV) : Cq0 Q (.pr xs) (.pr xs)
  | fn (k : Fn) (ks xs : List AV) : Cq0 Q (.fn k ks xs) (.fn k ks xs)
  | un : Cq0 Q .un .un
theorem Cq0.lst {Q : List Nat} (q : Nat) (rows : List (List AV)) (h : Q.contains q = true) : Cq0 Q (lstA q rows) (lstA q rows) := .own q rows h
theorem Cq0.lst0 {Q : List Nat} (q : Nat) (rows : List (List AV)) : Cq0 Q (lstA q rows) (.ls none rows) := .drop q rows
inductive CqL (Q : List Nat) : List AV → List AV → Prop
  | nil : CqL Q [] []
  | cons {x y : AV} {xs ys : List AV} (h : Cq0 Q x y) (hs : CqL Q xs ys) : CqL Q (x :: xs) (y :: ys)
inductive Cq (T Q : List Nat) : AV → AV → Prop
  | of {x y : AV} (h : Cq0 Q x y) : Cq T Q x y
  | un (x : AV) : Cq T Q x .un
  | ag {xs ys : List AV} (h : CqL Q xs ys) : Cq T Q (.ag xs) (.ag ys)
  | pt (t o : Nat) (h : T.contains t = true) : Cq T Q (.pt t o) (.pt t o)
  | pr (xs : List AV) : Cq T Q (.pr xs) (.pr xs)
  | tp0 {xs ys : List AV} (h : CqL Q xs ys) : Cq T Q (.tp xs) (.tp ys)
  | tp2 {x : AV} {xs ys : List AV} {y : AV} (hx : CqL Q xs ys) (h : Cq0 Q x y) : Cq T Q (.tp [.ag xs, x]) (.tp [.ag ys, y])
  | tp2' {x : AV} {xs ys : List AV} {y : AV} (h : Cq0 Q x y) (hx : CqL Q xs ys) : Cq T Q (.tp [x, .ag xs]) (.tp [y, .ag ys])
  | tp22 {xs ys xs' ys' : List AV} (hx : CqL Q xs ys) (hx' : CqL Q xs' ys') : Cq T Q (.tp [.ag xs, .ag xs']) (.tp [.ag ys, .ag ys'])
inductive CqA (T Q : List Nat) : List AV → List AV → Prop
  | nil : CqA T Q [] []
  | cons {x y : AV} {xs ys : List AV} (h : Cq T Q x y) (hs : CqA T Q xs ys) : CqA T Q (x :: xs) (y :: ys)
/-- The lists that Q names. -/
def cut (Q : List Nat) (τ : Nat → Option Tk) : Nat → Option Tk := fun q => if Q.contains q = true then τ q else none
def cutm (T : List Nat) (m : Nat → Option Nat) : Nat → Option Nat := fun t => if T.contains t = true then m t else none
section
variable {w : World} {S : Nat → Nat → Prop} {m : Nat → Option Nat} {τ : Nat → Option Tk} {T Q : List Nat}
theorem lstA_rk {τ2 : Nat → Option Tk} {v : Value} {q : Nat} {rows : List (List AV)} (h : RK w S τ v (lstA q rows)) (hq : τ2 q = τ q) : RK w S τ2 v (lstA q rows) := by
  exact ⟨h.1, h.2.1, fun hn => by obtain ⟨tk, h1, h2⟩ := h.2.2 hn; exact ⟨tk, hq.trans h1, h2⟩⟩
theorem lstA_rc {v : Value} {q : Nat} {rows : List (List AV)} (h : RK w S τ v (lstA q rows)) : RC w S v (.ls none rows) := h.1
theorem nl_own {v : Value} {q : Nat} (h : RK w S τ v .nl) : RK w S τ v (.ls (some q) []) := by
  have h : RC w S v .nl := h
  cases h
  exact ⟨.e none 0, fun _ => rfl, fun h => absurd rfl h⟩
theorem Cq0.rk {v : Value} {x y : AV} (hc : Cq0 Q x y) (h : RK w S τ v x) : RK w S (cut Q τ) v y := by
  cases hc with
  | sc u => exact h
  | pr u => exact h
  | fn k ks u => exact h
  | nl => exact h
  | nl0 =>
    have h : RC w S v .nl := h
    cases h
    exact RC.e none 0
  | ls rows => exact h
  | drop q rows => exact h.closed
  | own q rows hq =>
    exact lstA_rk h (by unfold cut; rw [if_pos hq])
  | ownN q => exact nl_own (τ := cut Q τ) (RK.of (x := .nl) (RK.closed (τ := τ) (x := .nl) h))
  | un => exact h
theorem CqL.rl {xs ys : List AV} (hc : CqL Q xs ys) : ∀ {cs : List Value}, RL (RK w S τ) cs xs → RL (RK w S (cut Q τ)) cs ys := by
  induction hc with
  | nil => exact fun h => ⟨h.1, fun j v x hv hx => by simp at hx⟩
  | @cons x y xs ys h hs ih =>
    intro cs hl
    cases cs with
    | nil => have := hl.1; simp at this
    | cons c cs => exact RL.cons (h.rk (hl.2 0 c x rfl rfl)) (ih ⟨by have := hl.1; simpa using this, fun j v x hv hx => hl.2 (j + 1) v x (by simpa using hv) (by simpa using hx)⟩)
theorem R1_of {v : Value} {x : AV} (h : RK w S τ v x) : R1 w S τ v x := by
  cases x with
  | un => trivial
  | ag _ => exact h.elim
  | sc _ => exact h
  | pr _ => exact h
  | fn _ _ _ => exact h
  | nl => exact h
  | ls _ _ => exact h
  | tp _ => exact h.elim
  | pt _ _ => exact h.elim
theorem Cq0.r1 {v : Value} {x y : AV} (hc : Cq0 Q x y) (h : R1 w S τ v x) : R1 w S (cut Q τ) v y := by
  cases hc with
  | sc u => exact R1_of (Cq0.rk (.sc u) (τ := τ) h)
  | pr u => exact R1_of (Cq0.rk (.pr u) (τ := τ) h)
  | fn k ks u => exact R1_of (Cq0.rk (.fn k ks u) (τ := τ) h)
  | nl => exact R1_of (Cq0.rk .nl (τ := τ) h)
  | nl0 => exact R1_of (Cq0.rk .nl0 (τ := τ) h)
  | ls rows => exact R1_of (Cq0.rk (.ls rows) (τ := τ) h)
  | drop q rows => exact R1_of (Cq0.rk (.drop q rows) (τ := τ) h)
  | own q rows hq => exact R1_of (Cq0.rk (.own q rows hq) (τ := τ) h)
  | ownN q => exact R1_of (Cq0.rk (.ownN q) (τ := τ) h)
  | un => trivial
theorem Cq.rt {v : Value} {x y : AV} (hc : Cq T Q x y) (h : RT w S m τ v x) : RT w S (cutm T m) (cut Q τ) v y := by
  cases hc with
  | of hc =>
    cases hc with
    | sc u => exact RK_to (Cq0.rk (.sc u) (τ := τ) h)
    | pr u => exact RK_to (Cq0.rk (.pr u) (τ := τ) h)
    | fn k ks u => exact RK_to (Cq0.rk (.fn k ks u) (τ := τ) h)
    | nl => exact RK_to (Cq0.rk .nl (τ := τ) h)
    | nl0 => exact RK_to (Cq0.rk .nl0 (τ := τ) h)
    | ls rows => exact RK_to (Cq0.rk (.ls rows) (τ := τ) h)
    | drop q rows => exact RK_to (Cq0.rk (.drop q rows) (τ := τ) h)
    | own q rows hq => exact RK_to (Cq0.rk (.own q rows hq) (τ := τ) h)
    | ownN q => exact RK_to (Cq0.rk (.ownN q) (τ := τ) h)
    | un => trivial
  | un => trivial
  | ag hl =>
    obtain ⟨cs, h1, h2⟩ := h
    exact ⟨cs, h1, hl.rl h2⟩
  | pt t o ht =>
    obtain ⟨b, h1, h2⟩ := h
    exact ⟨b, by unfold cutm; rw [if_pos ht]; exact h1, h2⟩
  | pr xs => exact h
  | tp0 hl =>
    obtain ⟨cs, h1, h2⟩ := h
    refine ⟨cs, h1, ?_⟩
    clear h1
    induction hl generalizing cs with
    | nil => exact ⟨h2.1, fun j v x hv hx => by simp at hx⟩
    | @cons x y xs ys g gs ih =>
      cases cs with
      | nil => have := h2.1; simp at this
      | cons c cs => exact RL.cons (g.r1 (h2.2 0 c x rfl rfl)) (ih _ ⟨by have := h2.1; simpa using this, fun j v x hv hx => h2.2 (j + 1) v x (by simpa using hv) (by simpa using hx)⟩)
  | tp2 hx hy =>
    obtain ⟨cs, h1, h2⟩ := h
    match cs, h2 with
    | [c0, c1], h2 =>
      obtain ⟨ds, g1, g2⟩ := h2.2 0 c0 _ rfl rfl
      exact ⟨[c0, c1], h1, RL.cons ⟨ds, g1, hx.rl g2⟩ (RL.cons (hy.r1 (h2.2 1 c1 _ rfl rfl)) RL.nil)⟩
    | [], h2 => exact absurd h2.1 (by simp)
    | [_], h2 => exact absurd h2.1 (by simp)
    | _ :: _ :: _ :: _, h2 => exact absurd h2.1 (by simp)
  | tp2' hy hx =>
    obtain ⟨cs, h1, h2⟩ := h
    match cs, h2 with
    | [c0, c1], h2 =>
      obtain ⟨ds, g1, g2⟩ := h2.2 1 c1 _ rfl rfl
      exact ⟨[c0, c1], h1, RL.cons (hy.r1 (h2.2 0 c0 _ rfl rfl)) (RL.cons ⟨ds, g1, hx.rl g2⟩ RL.nil)⟩
    | [], h2 => exact absurd h2.1 (by simp)
    | [_], h2 => exact absurd h2.1 (by simp)
    | _ :: _ :: _ :: _, h2 => exact absurd h2.1 (by simp)
  | tp22 hx hx' =>
    obtain ⟨cs, h1, h2⟩ := h
    match cs, h2 with
    | [c0, c1], h2 =>
      obtain ⟨ds, g1, g2⟩ := h2.2 0 c0 _ rfl rfl
      obtain ⟨ds', g1', g2'⟩ := h2.2 1 c1 _ rfl rfl
      exact ⟨[c0, c1], h1, RL.cons ⟨ds, g1, hx.rl g2⟩ (RL.cons ⟨ds', g1', hx'.rl g2'⟩ RL.nil)⟩
    | [], h2 => exact absurd h2.1 (by simp)
    | [_], h2 => exact absurd h2.1 (by simp)
    | _ :: _ :: _ :: _, h2 => exact absurd h2.1 (by simp)
end

/-- The objects that a call may change, where it begins and where it ends. -/
structure Objs (w : World) (S : Nat → Nat → Prop) (m : Nat → Option Nat) (τ : Nat → Option Tk) (objs : List (Nat × List AV)) : Prop where
  vr : ∀ t row, vget objs t = some row → ∃ b, ∃ cs : List Value, ∃ ty, m t = some b ∧ w.heap[b]? = some (.cells cs.toArray ty (0, 0)) ∧ RL (RK w S τ) cs row
/-- What holds of a world in which a call begins. -/
structure Ent (E : En) (objs : List (Nat × List AV)) : Prop where
  sc : ∀ b o, E.S b o → (E.w.cell? ⟨b, o, none⟩).isSome = true
  ob : Objs E.w E.S E.m E.τ objs
  mN : ∀ t b, E.m t = some b → 1000 ≤ t
  mB : ∀ t b, E.m t = some b → b < E.w.heap.size ∧ ∀ o, ¬ E.S b o
  mi : ∀ t t' b, E.m t = some b → E.m t' = some b → t = t'
  tk : ∀ q k, E.τ q = some k → (∃ cur, E.w.heap[k.b]? = some (.cells cur k.e (0, 0)) ∧ cur.size = k.c * k.k) ∧ k.n ≤ k.c ∧ k.c ≤ maxLen ∧ ∀ o, k.n * k.k ≤ o → ¬ E.S k.b o
  ti : ∀ q q' k k', E.τ q = some k → E.τ q' = some k' → k.b = k'.b → q = q'
  mt : ∀ t b q k, E.m t = some b → E.τ q = some k → b ≠ k.b
/-- What holds of the world in which it ends. -/
structure Lea (E : En) (objs : List (Nat × List AV)) (S : Nat → Nat → Prop) (τ : Nat → Option Tk) (w : World) : Prop where
  bel : Same E w
  s0 : ∀ b o, E.S b o → S b o
  s1 : ∀ b o, S b o → E.S b o ∨ E.w.heap.size ≤ b ∨ ∃ q k, E.τ q = some k ∧ k.b = b
  sc : ∀ b o, S b o → (w.cell? ⟨b, o, none⟩).isSome = true
  sS : ∀ b o, E.S b o → w.cell? ⟨b, o, none⟩ = E.w.cell? ⟨b, o, none⟩
  ob : Objs w S E.m τ objs
  mB : ∀ t b, E.m t = some b → ∀ o, ¬ S b o
  tk : ∀ q k, τ q = some k → (E.w.heap.size ≤ k.b ∨ ∃ q' k', E.τ q' = some k' ∧ k'.b = k.b) ∧ (∃ cur, w.heap[k.b]? = some (.cells cur k.e (0, 0)) ∧ cur.size = k.c * k.k) ∧ k.n ≤ k.c ∧ k.c ≤ maxLen ∧ ∀ o, k.n * k.k ≤ o → ¬ S k.b o
  ti : ∀ q q' k k', τ q = some k → τ q' = some k' → k.b = k'.b → q = q'
  mt : ∀ t b q k, E.m t = some b → τ q = some k → b ≠ k.b
/-- A function that may change objects: what it hands back for such arguments, and what the objects are then; T are the objects' names, Q those of the lists that it may append to. -/
def FCalls (P : Program) (F : FuncId) (T Q : List Nat) (args : List AV) (objs : List (Nat × List AV)) (r : AV) (objs' : List (Nat × List AV)) : Prop :=
  ∀ (E : En) (vs : List Value), (∀ t, T.contains t = false → E.m t = none) → (∀ q, Q.contains q = false → E.τ q = none) → GOk E → Ent E objs → RL (RT E.w E.S E.m E.τ) vs args →
    Calls P F vs.toArray E.w fun e w' => ∃ v S' τ', e = .returned v ∧ RT w' S' E.m τ' v r ∧ Lea E objs' S' τ' w' ∧ ∀ q, Q.contains q = false → τ' q = none
end Go.Proofs.YtjghgpmkepfdhaaGreatDoor
namespace Go.Proofs.YtjghgpmkepfdhaaGreatDoor
open Go.RowKit
set_option linter.unusedVariables false

/-- The lists that Q names may be appended to no more, where they stood. -/
def AV.demL0 (Q : List Nat) : AV → AV
  | .ls (some q) rows => if Q.contains q = true then .ls none rows else .ls (some q) rows
  | x => x
def AV.demL1 (Q : List Nat) : AV → AV
  | .ag cs => .ag (cs.map (AV.demL0 Q))
  | x => x.demL0 Q
def AV.demL (Q : List Nat) : AV → AV
  | .ag cs => .ag (cs.map (AV.demL0 Q))
  | .tp cs => .tp (cs.map (AV.demL1 Q))
  | x => x.demL0 Q
section
variable {w : World} {S : Nat → Nat → Prop} {m : Nat → Option Nat} {τ τ2 : Nat → Option Tk} {Q : List Nat}
theorem RK.demL {v : Value} {x : AV} (h : RK w S τ v x) (ht : ∀ q, Q.contains q = false → τ2 q = τ q) : RK w S τ2 v (x.demL0 Q) := by
  cases x with
  | ls o rows =>
    cases o with
    | none => exact h
    | some q' =>
      unfold AV.demL0
      dsimp only
      split
      · exact h.1
      · rename_i hne
        exact ⟨h.1, h.2.1, fun hn => by obtain ⟨tk, h1, h2⟩ := h.2.2 hn; exact ⟨tk, (ht q' (by simpa using hne)).trans h1, h2⟩⟩
  | sc v' => exact h
  | pr cs => exact h
  | fn k ks cs => exact h
  | nl => exact h
  | un => exact h
  | ag _ => exact h.elim
  | tp _ => exact h.elim
  | pt _ _ => exact h.elim
theorem R1.demL {v : Value} {x : AV} (h : R1 w S τ v x) (ht : ∀ q, Q.contains q = false → τ2 q = τ q) : R1 w S τ2 v (x.demL1 Q) := by
  cases x with
  | un => trivial
  | ag xs => exact ⟨h.choose, h.choose_spec.1, h.choose_spec.2.map _ fun v x g => g.demL ht⟩
  | ls o rows => exact R1_of (RK.demL (τ := τ) (x := .ls o rows) h ht)
  | sc v' => exact h
  | pr cs => exact h
  | fn k ks cs => exact h
  | nl => exact h
  | tp _ => exact h.elim
  | pt _ _ => exact h.elim
theorem RT.demL {v : Value} {x : AV} (h : RT w S m τ v x) (ht : ∀ q, Q.contains q = false → τ2 q = τ q) : RT w S m τ2 v (x.demL Q) := by
  cases x with
  | un => trivial
  | ag xs => exact ⟨h.choose, h.choose_spec.1, h.choose_spec.2.map _ fun v x g => g.demL ht⟩
  | tp xs => exact ⟨h.choose, h.choose_spec.1, h.choose_spec.2.map _ fun v x g => g.demL ht⟩
  | ls o rows => exact RK_to (RK.demL (τ := τ) (x := .ls o rows) h ht)
  | sc v' => exact h
  | pr cs => exact h
  | fn k ks cs => exact h
  | nl => exact h
  | pt _ _ => exact h
theorem RK.sub {v : Value} {x : AV} (h : RK w S τ v x) (ht : ∀ q k, τ q = some k → τ2 q = some k) : RK w S τ2 v x := by
  cases x with
  | ls o rows =>
    cases o with
    | none => exact h
    | some q' =>
      exact ⟨h.1, h.2.1, fun hn => by obtain ⟨tk, h1, h2⟩ := h.2.2 hn; exact ⟨tk, ht _ _ h1, h2⟩⟩
  | sc v' => exact h
  | pr cs => exact h
  | fn k ks cs => exact h
  | nl => exact h
  | un => exact h
  | ag _ => exact h.elim
  | tp _ => exact h.elim
  | pt _ _ => exact h.elim
theorem R1.sub {v : Value} {x : AV} (h : R1 w S τ v x) (ht : ∀ q k, τ q = some k → τ2 q = some k) : R1 w S τ2 v x := by
  cases x with
  | un => trivial
  | ag xs => exact ⟨h.choose, h.choose_spec.1, h.choose_spec.2.imp fun v x g => g.sub ht⟩
  | ls o rows => exact R1_of (RK.sub (τ := τ) (x := .ls o rows) h ht)
  | sc v' => exact h
  | pr cs => exact h
  | fn k ks cs => exact h
  | nl => exact h
  | tp _ => exact h.elim
  | pt _ _ => exact h.elim
theorem RT.sub {m2 : Nat → Option Nat} {v : Value} {x : AV} (h : RT w S m τ v x) (hm : ∀ t b, m t = some b → m2 t = some b) (ht : ∀ q k, τ q = some k → τ2 q = some k) : RT w S m2 τ2 v x := by
  cases x with
  | un => trivial
  | ag xs => exact ⟨h.choose, h.choose_spec.1, h.choose_spec.2.imp fun v x g => g.sub ht⟩
  | tp xs => exact ⟨h.choose, h.choose_spec.1, h.choose_spec.2.imp fun v x g => g.sub ht⟩
  | ls o rows => exact RK_to (RK.sub (τ := τ) (x := .ls o rows) h ht)
  | sc v' => exact h
  | pr cs => exact h
  | fn k ks cs => exact h
  | nl => exact h
  | pt t o =>
    obtain ⟨b, h1, h2⟩ := h
    exact ⟨b, hm _ _ h1, h2⟩
end
def vall : List (Nat × List AV) → List (Nat × List AV) → List (Nat × List AV)
  | l, [] => l
  | l, (t, r) :: o => vset (vall l o) t r
theorem vget_all (t : Nat) (l : List (Nat × List AV)) : ∀ o, vget (vall l o) t = (vget o t).orElse fun _ => vget l t
  | [] => rfl
  | (t', r) :: o => by
    simp only [vall, vget]
    by_cases h : t' = t
    · subst h; rw [vget_same, if_pos rfl]; rfl
    · rw [vget_other (fun e => h e.symm), if_neg h, vget_all t l o]
def Ast.called (st : Ast) (Q : List Nat) (objs' : List (Nat × List AV)) : Ast := ⟨st.tmps.map (AV.demL Q), vall (vmap (AV.demL0 Q) st.vars) objs', st.y⟩
theorem cut_in {Q : List Nat} {τ : Nat → Option Tk} {q : Nat} {k : Tk} (h : cut Q τ q = some k) : Q.contains q = true ∧ τ q = some k := by
  unfold cut at h
  split at h
  · exact ⟨by assumption, h⟩
  · cases h
theorem cutm_in {T : List Nat} {m : Nat → Option Nat} {t b : Nat} (h : cutm T m t = some b) : T.contains t = true ∧ m t = some b := by
  unfold cutm at h
  split at h
  · exact ⟨by assumption, h⟩
  · cases h
section
variable {P : Program} {o : Oper} {st : Ast}
theorem CqA.rl {T Q : List Nat} {w : World} {S : Nat → Nat → Prop} {m : Nat → Option Nat} {τ : Nat → Option Tk} {xs ys : List AV} (hc : CqA T Q xs ys) : ∀ {cs : List Value}, RL (RT w S m τ) cs xs → RL (RT w S (cutm T m) (cut Q τ)) cs ys := by
  induction hc with
  | nil => exact fun h => ⟨h.1, fun j v x hv hx => by simp at hx⟩
  | @cons x y xs ys h hs ih =>
    intro cs hl
    cases cs with
    | nil => have := hl.1; simp at this
    | cons c cs => exact RL.cons (h.rt (hl.2 0 c x rfl rfl)) (ih ⟨by have := hl.1; simpa using this, fun j v x hv hx => hl.2 (j + 1) v x (by simpa using hv) (by simpa using hx)⟩)
theorem Rel.called {E : En} {S : Nat → Nat → Prop} {m : Nat → Option Nat} {τ : Nat → Option Tk} {a : Act} {w w' : World} {T Q : List Nat} {objs' : List (Nat × List AV)} {S' : Nat → Nat → Prop} {τ' : Nat → Option Tk} (h : Rel E S m τ st a w)
    (hall : ∀ t, (vget objs' t).isSome = true ↔ T.contains t = true) (hl : Lea ⟨w, S, cutm T m, cut Q τ⟩ objs' S' τ' w') (hq : ∀ q, Q.contains q = false → τ' q = none) :
    Rel E S' m (fun q => if Q.contains q = true then τ' q else τ q) (st.called Q objs') a w' := by
  have h0 := h.bel.size
  have hs1 : w.heap.size ≤ w'.heap.size := hl.bel.size
  have hio : ∀ k, (En.mk w S (cutm T m) (cut Q τ)).io k → (∃ t, T.contains t = true ∧ m t = some k) ∨ ∃ q tk, Q.contains q = true ∧ τ q = some tk ∧ tk.b = k := fun k hk => by
    rcases hk with ⟨t, g⟩ | ⟨q, tk, g, g2⟩
    · exact .inl ⟨t, cutm_in g⟩
    · exact .inr ⟨q, tk, (cut_in g).1, (cut_in g).2, g2⟩
  have hne : ∀ q, Q.contains q = false → (fun q => if Q.contains q = true then τ' q else τ q) q = τ q := fun q hq => if_neg (by rw [hq]; simp)
  have hin : ∀ q k, τ' q = some k → (fun q => if Q.contains q = true then τ' q else τ q) q = some k := fun q k hk => by
    cases hc : Q.contains q with
    | true => exact (if_pos hc).trans hk
    | false => rw [hq q hc] at hk; cases hk
  have hwhere : ∀ q k, τ' q = some k → w.heap.size ≤ k.b ∨ ∃ q' k', Q.contains q' = true ∧ τ q' = some k' ∧ k'.b = k.b := fun q k hk => by
    rcases (hl.tk q k hk).1 with g | ⟨q', k', g1, g2⟩
    · exact .inl g
    · exact .inr ⟨q', k', (cut_in g1).1, (cut_in g1).2, g2⟩
  have hout : ∀ b o, S' b o → S b o ∨ w.heap.size ≤ b ∨ ∃ q k, Q.contains q = true ∧ τ q = some k ∧ k.b = b := fun b o hs => by
    rcases hl.s1 b o hs with g | g | ⟨q, k, g1, g2⟩
    · exact .inl g
    · exact .inr (.inl g)
    · exact .inr (.inr ⟨q, k, (cut_in g1).1, (cut_in g1).2, g2⟩)
  refine ⟨⟨hl.bel.os.trans h.bel.os, hl.bel.tape.trans h.bel.tape, hl.bel.output.trans h.bel.output, Nat.le_trans h0 hs1, fun k hk hno => (hl.bel.block k (by show k < w.heap.size; omega) fun hk2 => ?_).trans (h.bel.block k hk hno)⟩, fun b o g => hl.s0 _ _ (h.s0 _ _ g), fun b o hs => ?_, hl.sc, fun b o g => (hl.sS b o (h.s0 b o g)).trans (h.sS b o g), h.df.mono (fun t D g => .inl g) (fun D g gn => hl.bel.block D (Array.getElem?_eq_some_iff.1 g).1 fun hk => ?_), by simp [Ast.called, h.sz], fun i x hx => ?_, fun t row hr => ?_, h.m0, fun t b hm => ?_, h.mi, fun q k hk => ?_, fun q q' k k' hk hk' hb => ?_, fun t b q k hm hk => ?_⟩
  · rcases hio k hk2 with ⟨t, _, g⟩ | ⟨q, tk, _, g, rfl⟩
    · rcases (h.mB t k g).1 with g2 | g2
      · omega
      · exact hno (.inl ⟨t, g2⟩)
    · rcases (h.tk q tk g).1 with g2 | ⟨q', k', g2, g3⟩
      · omega
      · exact hno (.inr ⟨q', k', g2, g3⟩)
  · rcases hout b o hs with g | g | ⟨q, k, _, g, rfl⟩
    · exact h.s1 b o g
    · exact .inr (.inl (by omega))
    · rcases (h.tk q k g).1 with g2 | g2
      · exact .inr (.inl g2)
      · exact .inr (.inr g2)
  · rcases hio D hk with ⟨t, _, g5⟩ | ⟨q, tk, _, g5, g6⟩
    · exact gn t g5
    · obtain ⟨_, ⟨cur, g7, _⟩, _⟩ := h.tk q tk g5
      rw [g6, g] at g7
      cases g7
  · simp only [Ast.called, List.getElem?_map] at hx
    cases hi : st.tmps[i]? with
    | none => rw [hi] at hx; cases hx
    | some y =>
      rw [hi] at hx
      cases hx
      exact ((h.tm i y hi).mono hl.s0 hl.sS).demL hne
  · simp only [Ast.called, vget_all, vget_map] at hr
    cases hg : vget objs' t with
    | some row' =>
      rw [hg] at hr
      cases hr
      obtain ⟨b, cs, ty, g1, g2, g3⟩ := hl.ob.vr t _ hg
      exact ⟨b, cs, ty, (cutm_in g1).2, g2, g3.imp fun v x g => g.sub hin⟩
    | none =>
      rw [hg] at hr
      have hr : (vget st.vars t).map (·.map (AV.demL0 Q)) = some row := hr
      have htT : T.contains t = false := by
        cases hc : T.contains t with
        | false => rfl
        | true => have := (hall t).2 hc; rw [hg] at this; cases this
      cases hi : vget st.vars t with
      | none => rw [hi] at hr; cases hr
      | some y =>
        rw [hi] at hr
        cases hr
        obtain ⟨b, cs, ty, g1, g2, g3⟩ := h.vr t y hi
        have hb := (h.mB t b g1).2.1
        refine ⟨b, cs, ty, g1, (hl.bel.block b hb fun hk => ?_).trans g2, g3.map _ fun v x g => (g.mono hl.s0 hl.sS).demL hne⟩
        rcases hio b hk with ⟨t', g4, g5⟩ | ⟨q, tk, _, g4, g5⟩
        · rw [h.mi t' t b g5 g1] at g4; rw [htT] at g4; cases g4
        · exact h.mt t b q tk g1 g4 g5.symm
  · obtain ⟨g1, g2, g3⟩ := h.mB t b hm
    refine ⟨g1, by omega, fun o hs => ?_⟩
    rcases hout b o hs with g | g | ⟨q, k, _, g, g4⟩
    · exact g3 o g
    · omega
    · exact h.mt t b q k hm g g4.symm
  · by_cases hc : Q.contains q = true
    · rw [if_pos hc] at hk
      obtain ⟨g1, g2⟩ := hl.tk q k hk
      refine ⟨?_, g2⟩
      rcases hwhere q k hk with g | ⟨q', k', _, g, g3⟩
      · exact .inl (by omega)
      · rcases (h.tk q' k' g).1 with g4 | ⟨q2, k2, g4, g5⟩
        · exact .inl (by omega)
        · exact .inr ⟨q2, k2, g4, by omega⟩
    · rw [if_neg hc] at hk
      obtain ⟨g1, ⟨cur, g2, g3⟩, g4, g5, g6⟩ := h.tk q k hk
      refine ⟨g1, ⟨cur, (hl.bel.block k.b (Array.getElem?_eq_some_iff.1 g2).1 fun hk2 => ?_).trans g2, g3⟩, g4, g5, fun o ho hs => ?_⟩
      · rcases hio k.b hk2 with ⟨t, _, g⟩ | ⟨q', tk, g7, g8, g9⟩
        · exact h.mt t _ q k g hk rfl
        · rw [h.ti q' q tk k g8 hk g9] at g7; exact hc g7
      · rcases hout _ o hs with g | g | ⟨q', tk, g7, g8, g9⟩
        · exact g6 o ho g
        · have := (Array.getElem?_eq_some_iff.1 g2).1; omega
        · rw [h.ti q' q tk k g8 hk g9] at g7; exact hc g7
  · have mixed : ∀ q q' k k', Q.contains q = true → τ' q = some k → ¬ Q.contains q' = true → τ q' = some k' → k.b = k'.b → False := fun q q' k k' c1 e1 c2 e2 hb => by
      rcases hwhere q k e1 with g | ⟨q2, k2, g1, g2, g3⟩
      · obtain ⟨_, ⟨cur, g4, _⟩, _⟩ := h.tk q' k' e2
        have := (Array.getElem?_eq_some_iff.1 g4).1; omega
      · rw [h.ti q2 q' k2 k' g2 e2 (by omega)] at g1; exact c2 g1
    by_cases hc : Q.contains q = true
    · rw [if_pos hc] at hk
      by_cases hc' : Q.contains q' = true
      · rw [if_pos hc'] at hk'
        exact hl.ti q q' k k' hk hk' hb
      · rw [if_neg hc'] at hk'
        exact (mixed q q' k k' hc hk hc' hk' hb).elim
    · rw [if_neg hc] at hk
      by_cases hc' : Q.contains q' = true
      · rw [if_pos hc'] at hk'
        exact (mixed q' q k' k hc' hk' hc hk hb.symm).elim
      · rw [if_neg hc'] at hk'
        exact h.ti q q' k k' hk hk' hb
  · by_cases hc : Q.contains q = true
    · rw [if_pos hc] at hk
      rcases hwhere q k hk with g | ⟨q', k', _, g, g3⟩
      · have := (h.mB t b hm).2.1; omega
      · exact fun e => h.mt t b q' k' hm g (by omega)
    · rw [if_neg hc] at hk
      exact h.mt t b q k hm hk
theorem ok_fcall (F : FuncId) (xs : List Operand) (ts : Array TypeId) (T Q : List Nat) (args : List AV) (objs objs' : List (Nat × List AV)) (r : AV) (ho : o.op = .call { callee := .value (.func F), args := xs.toArray, argTypes := ts }) (hargs : CqA T Q (xs.map st.ev) args)
    (hobj : ∀ t row, vget objs t = some row → T.contains t = true ∧ ∃ row0, vget st.vars t = some row0 ∧ CqL Q row0 row) (hT : T.all (1000 ≤ ·) = true) (hall : ∀ t, (vget objs' t).isSome = true ↔ T.contains t = true)
    (hc : FCalls P F T Q args objs r objs') (he : ∀ vs w, (callFunc F vs).run P w = .ok (.enter F vs) w) : OpOk P o st ((st.called Q objs').putD o.dst r) := by
  refine ⟨putD_y .., fun rr nn E a w K Qx hG ⟨S, m, τ, hr⟩ hk => ?_⟩
  have hrun : (execOp a.eval o).run P w = .ok (.enter F (xs.map a.eval).toArray) w := by
    unfold execOp
    rw [ho]
    simp [resolve, invoke, Act.eval, Deferred.ofValue, he]
  have hl0 : RL (RT w S m τ) (xs.map a.eval) (xs.map st.ev) := ⟨by simp, fun j v x hv hx => by
    rw [List.getElem?_map] at hv hx
    cases hj : xs[j]? with
    | none => rw [hj] at hv; cases hv
    | some y =>
      rw [hj] at hv hx
      cases hv
      cases hx
      exact hr.ev y⟩
  have hent : Ent ⟨w, S, cutm T m, cut Q τ⟩ objs := by
    refine ⟨hr.sc, ⟨fun t row hg => ?_⟩, fun t b hm => ?_, fun t b hm => (hr.mB t b (cutm_in hm).2).2, fun t t' b h1 h2 => hr.mi t t' b (cutm_in h1).2 (cutm_in h2).2, fun q k hk => (hr.tk q k (cut_in hk).2).2, fun q q' k k' h1 h2 => hr.ti q q' k k' (cut_in h1).2 (cut_in h2).2, fun t b q k h1 h2 => hr.mt t b q k (cutm_in h1).2 (cut_in h2).2⟩
    · obtain ⟨hin, row0, g1, g2⟩ := hobj t row hg
      obtain ⟨b, cs, ty, g3, g4, g5⟩ := hr.vr t row0 g1
      exact ⟨b, cs, ty, (if_pos hin).trans g3, g4, g2.rl g5⟩
    · have := List.all_eq_true.1 hT t (by simpa using (cutm_in hm).1)
      simpa using this
  have hGn : ∀ b, Gb b → ¬ (En.mk w S (cutm T m) (cut Q τ)).io b := fun b hb hio => by
    have h1 := (hG.1 b hb).1
    rcases hio with ⟨t, g⟩ | ⟨q, tk, g, g2⟩
    · rcases (hr.mB t b (cutm_in g).2).1 with g3 | g3
      · omega
      · exact hG.2 b hb (.inl ⟨t, g3⟩)
    · rcases (hr.tk q tk (cut_in g).2).1 with g3 | ⟨q', k', g3, g4⟩
      · omega
      · exact hG.2 b hb (.inr ⟨q', k', g3, by omega⟩)
  refine wpIn_ent hrun (hc ⟨w, S, cutm T m, cut Q τ⟩ _ (fun t ht => if_neg (by rw [ht]; simp)) (fun q hq => if_neg (by rw [hq]; simp)) ⟨hG.now hr.bel, hGn⟩ hent (hargs.rl hl0)) ?_
  rintro e w' ⟨v, S', τ', rfl, h1, h2, h3⟩
  have hrel := hr.called hall h2 h3
  refine ⟨v, rfl, ?_⟩
  refine hk _ _ ⟨S', m, _, hrel.put _ (h1.sub (fun t b g => (cutm_in g).2) fun q k hk => ?_)⟩
  cases hcq : Q.contains q with
  | true => exact (if_pos rfl).trans hk
  | false => rw [h3 q hcq] at hk; cases hk
end
end Go.Proofs.YtjghgpmkepfdhaaGreatDoor
namespace Go.Proofs.YtjghgpmkepfdhaaGreatDoor
open Go.RowKit
set_option linter.unusedVariables false
section
variable {P : Program}
def resRun (tmps : Array Value) : ResultVar → Sem Value
  | .tmp t => pure (tmps.getD t undef)
  | .cell t ty => do loadVar ty (← asAddr (tmps.getD t undef))
theorem results_eq (fn : Func) (tmps : Array Value) : results fn tmps = (do let vs ← fn.results.mapM (resRun tmps); pure (if h : vs.size = 1 then vs[0] else .tuple vs)) := by
  unfold results
  congr 2
/-- One result of a function, in a state. -/
def ResP (P : Program) (rv : ResultVar) (st : Ast) (x : AV) : Prop := ∀ (S : Nat → Nat → Prop) m τ E a w, Rel E S m τ st a w →
  ∃ v, (resRun a.tmps rv).run P w = .ok v w ∧ RT w S m τ v x
def ResV (P : Program) (fn : Func) (st : Ast) (r : AV) : Prop := ∀ (S : Nat → Nat → Prop) m τ E a w, Rel E S m τ st a w → ∃ v, (results fn a.tmps).run P w = .ok v w ∧ RT w S m τ v r
theorem resp_tmp {st : Ast} (t : Tmp) : ResP P (.tmp t) st (st.ev (.tmp t)) := fun S m τ E a w hr => ⟨a.eval (.tmp t), rfl, hr.ev (.tmp t)⟩
theorem resp_cell {st : Ast} (t : Tmp) (ty : TypeId) (d : TypeDesc) (i : TypeInfo) (cs : List AV) (hu : P.underlying ty = some d) (hd : d.isRow = true) (hi : P.info? ty = some i) (hx : st.at_ (st.ev (.tmp t)) = some cs) (hl : cs.length = i.size) : ResP P (.cell t ty) st (.ag cs) := fun S m τ E a w hr => by
  have h1 := hr.ev (.tmp t)
  obtain ⟨b, n, vs, g1, g2, g3⟩ := hr.at_ h1 hx
  refine ⟨.agg vs.toArray, ?_, vs, rfl, g2⟩
  have hl := run_loadVar_mid (P := P) w b n ty vs d g3 hu hd (by rw [hi, g2.1, hl]; rfl)
  have g1 : a.tmps.getD t undef = .pointer (some ⟨b, n, none⟩) := g1
  show (do let x ← asAddr (a.tmps.getD t undef); loadVar ty x).run P w = _
  rw [g1]
  simp [asAddr, hl]
theorem resv_none {fn : Func} {st : Ast} (h : fn.results = #[]) : ResV P fn st (.tp []) := fun S m τ E a w hr => ⟨.tuple #[], by simp [results, h], [], rfl, RL.nil⟩
theorem resv_one {fn : Func} {st : Ast} {rv : ResultVar} {x : AV} (h : fn.results = #[rv]) (hx : ResP P rv st x) : ResV P fn st x := fun S m τ E a w hr => by
  obtain ⟨v, h1, h2⟩ := hx S m τ E a w hr
  refine ⟨v, ?_, h2⟩
  rw [results_eq, h]
  simp [h1]
/-- May stand among several results. -/
def AV.part : AV → Bool
  | .tp _ | .pt _ _ => false
  | _ => true
theorem R1_part {w : World} {S : Nat → Nat → Prop} {m : Nat → Option Nat} {τ : Nat → Option Tk} {v : Value} {x : AV} (h : RT w S m τ v x) (hp : x.part = true) : R1 w S τ v x := by
  cases x with
  | un => trivial
  | ag xs => exact h
  | sc _ => exact h
  | pr cs => exact h
  | fn k ks cs => exact h
  | nl => exact h
  | ls _ _ => exact h
  | tp _ => cases hp
  | pt _ _ => cases hp
theorem resv_two {fn : Func} {st : Ast} {rv ru : ResultVar} {x y : AV} (h : fn.results = #[rv, ru]) (hx : ResP P rv st x) (hy : ResP P ru st y) (px : x.part = true) (py : y.part = true) : ResV P fn st (.tp [x, y]) := fun S m τ E a w hr => by
  obtain ⟨v, h1, h2⟩ := hx S m τ E a w hr
  obtain ⟨u, h3, h4⟩ := hy S m τ E a w hr
  refine ⟨.tuple #[v, u], ?_, [v, u], rfl, RL.cons (R1_part h2 px) (RL.cons (R1_part h4 py) RL.nil)⟩
  rw [results_eq, h]
  simp [h1, h3]
theorem resv_three {fn : Func} {st : Ast} {rv ru rs : ResultVar} {x y z : AV} (h : fn.results = #[rv, ru, rs]) (hx : ResP P rv st x) (hy : ResP P ru st y) (hz : ResP P rs st z) (px : x.part = true) (py : y.part = true) (pz : z.part = true) : ResV P fn st (.tp [x, y, z]) := fun S m τ E a w hr => by
  obtain ⟨v, h1, h2⟩ := hx S m τ E a w hr
  obtain ⟨u, h3, h4⟩ := hy S m τ E a w hr
  obtain ⟨t, h5, h6⟩ := hz S m τ E a w hr
  refine ⟨.tuple #[v, u, t], ?_, [v, u, t], rfl, RL.cons (R1_part h2 px) (RL.cons (R1_part h4 py) (RL.cons (R1_part h6 pz) RL.nil))⟩
  rw [results_eq, h]
  simp [h1, h3, h5]
/-- The objects at the end, told with no more lists than Q names. -/
def ObCq (T Q : List Nat) (vars objs' : List (Nat × List AV)) : Prop := ∀ t row, vget objs' t = some row → T.contains t = true ∧ ∃ row0, vget vars t = some row0 ∧ CqL Q row0 row
theorem fcalls_wp {F : FuncId} {fn : Func} {c : Code} (hm : P.follows .mixedOrders = true) (hf : P.funcs[F]? = some fn) (hb : fn.body = some c) {T Q : List Nat} {args : List AV} {objs objs' : List (Nat × List AV)} {r : AV} (hT : ∀ t, T.contains t = true → (vget objs t).isSome = true)
    (s0 : Ast) (h0 : (⟨args ++ List.replicate (fn.ntmps - args.length) .un, objs, y0⟩ : Ast) = s0)
    (h : Wp P false c s0 fun e st' => (e = .ret ∨ e = .normal) ∧ (∃ r0, ResV P fn st' r0 ∧ Cq T Q r0 r) ∧ ObCq T Q st'.vars objs') : FCalls P F T Q args objs r objs' := by
  obtain ⟨e, st', hex, he, ⟨r0, hr0, hcq⟩, hob⟩ := h
  subst h0
  intro E vs hmT hτQ hGE hent hvs
  have hl := hvs.1
  have hrel0 : Rel E E.S E.m E.τ ⟨args ++ List.replicate (fn.ntmps - args.length) .un, objs, y0⟩ { tmps := vs.toArray ++ Array.replicate (fn.ntmps - vs.toArray.size) undef, defers := [] } E.w := by
    refine ⟨⟨rfl, rfl, rfl, Nat.le_refl _, fun _ _ _ => rfl⟩, fun b o h => h, fun b o h => .inl h, hent.sc, fun _ _ _ => rfl, Marks.zero, by simp [hl], fun i x hx => ?_, hent.ob.vr, fun t b h => ⟨h, hent.mN t b h⟩, fun t b h => ⟨.inr h, hent.mB t b h⟩, hent.mi, fun q k h => ⟨.inr ⟨q, k, h, rfl⟩, hent.tk q k h⟩, hent.ti, hent.mt⟩
    rcases Nat.lt_or_ge i args.length with g | g
    · rw [List.getElem?_append_left g] at hx
      have hv : vs[i]? = some vs[i] := List.getElem?_eq_getElem (by omega)
      have := hvs.2 i _ x hv hx
      have e1 : (vs.toArray ++ Array.replicate (fn.ntmps - vs.toArray.size) undef).getD i undef = vs[i] := by
        rw [Array.getD_eq_getD_getElem?, Array.getElem?_append_left (by simp; omega)]
        simp [hv]
      rw [e1]
      exact this
    · rw [List.getElem?_append_right g, List.getElem?_replicate] at hx
      split at hx
      · cases hx; trivial
      · cases hx
  refine (callsIn_wide (n := 0)).1 (callsIn_of_wp_marks hf hb trivial ?_ rfl)
  refine (hex.both hm _ (YC.one E hGE) none 0 (fun h => by cases h) _ E.w _ ⟨E, ⟨rfl, rfl⟩, E.S, E.m, E.τ, hrel0⟩ fun a' w' hs' => ?_).1
  obtain ⟨E', ⟨h0e, _⟩, S', m, τ, hrel⟩ := hs'
  rw [h0e] at hrel
  obtain ⟨Ds, d1, d2, d3, _⟩ := hrel.df
  have hp : LeavesInM Fence.wide 0 P fn a'.tmps (fun e w' => ∃ v' S' τ', e = .returned v' ∧ RT w' S' E.m τ' v' r ∧ Lea E objs' S' τ' w' ∧ ∀ q, Q.contains q = false → τ' q = none) a'.defers .returning w' := by
    refine Rel.leaves Ds hrel d1 d2 d3 fun w' hrel => ?_
    obtain ⟨v, h1, h2⟩ := hr0 S' m τ _ _ w' hrel
    have hmm : cutm T m = E.m := by
      funext t
      cases ht : T.contains t with
      | false => exact (if_neg (by rw [ht]; simp)).trans (hmT t ht).symm
      | true =>
        refine (if_pos ht).trans ?_
        cases hv : vget objs t with
        | none => have := hT t ht; rw [hv] at this; cases this
        | some row =>
          obtain ⟨b, _, _, g1, _⟩ := hent.ob.vr t row hv
          rw [g1, (hrel.m0 t b g1).1]
    have hlea : Lea E objs' S' (cut Q τ) w' := by
      refine ⟨hrel.bel, hrel.s0, hrel.s1, hrel.sc, hrel.sS, ⟨fun t row hg => ?_⟩, fun t b hm => (hrel.mB t b (hrel.m0 t b hm).1).2.2, fun q k hk => hrel.tk q k (cut_in hk).2, fun q q' k k' h1 h2 => hrel.ti q q' k k' (cut_in h1).2 (cut_in h2).2, fun t b q k h1 h2 => hrel.mt t b q k (hrel.m0 t b h1).1 (cut_in h2).2⟩
      obtain ⟨hin, row0, g1, g2⟩ := hob t row hg
      obtain ⟨b, cs, ty, g3, g4, g5⟩ := hrel.vr t row0 g1
      refine ⟨b, cs, ty, ?_, g4, g2.rl g5⟩
      rw [← hmm]
      exact (if_pos hin).trans g3
    have hrt : RT w' S' E.m (cut Q τ) v r := by rw [← hmm]; exact hcq.rt h2
    exact ⟨v, h1, v, S', cut Q τ, rfl, hrt, hlea, fun q hq => if_neg (by rw [hq]; simp)⟩
  rcases he with rfl | rfl
  · exact hp
  · exact hp
end
end Go.Proofs.YtjghgpmkepfdhaaGreatDoor
namespace Go.Proofs.YtjghgpmkepfdhaaGreatDoor
open Go.RowKit
set_option linter.unusedVariables false
section
variable {P : Program} {st : Ast} {o : Oper}
theorem g_beq (t u : TypeId) (x y : Operand) (s r : Bool) (hu : P.underlying t = some .bool) (ho : o.op = .binOp .eql t x y u) (hx : st.ev x = .sc (.bool s)) (hy : st.ev y = .sc (.bool r)) : ValOk P o st (.sc (.bool (decide (s = r)))) := by
  have := val_booleq (P := P) false t u x y s r hu ho hx hy
  have e : (false ^^ (s == r)) = decide (s = r) := by cases s <;> cases r <;> rfl
  rwa [e] at this
theorem g_bne (t u : TypeId) (x y : Operand) (s r : Bool) (hu : P.underlying t = some .bool) (ho : o.op = .binOp .neq t x y u) (hx : st.ev x = .sc (.bool s)) (hy : st.ev y = .sc (.bool r)) : ValOk P o st (.sc (.bool (!decide (s = r)))) := by
  have := val_booleq (P := P) true t u x y s r hu ho hx hy
  have e : (true ^^ (s == r)) = !decide (s = r) := by cases s <;> cases r <;> rfl
  rwa [e] at this
/-- Two structs held against one another. -/
theorem g_seq (neg : Bool) (t u : TypeId) (x y : Operand) (vx vy : Value) (cx cy : Array Value) (b : Bool) (ho : o.op = .binOp (if neg then .neq else .eql) t x y u) (hx : (st.ev x).val? = some vx) (hy : (st.ev y).val? = some vy) (ex : vx = .agg cx) (ey : vy = .agg cy) (hg : P.eqGuardType P.depth t = false)
    (he : ∀ w, (Op.equalIn 10000 t (.agg cx) (.agg cy)).run P w = .ok b w) : ValOk P o st (.sc (.bool (neg ^^ b))) := by
  subst ex
  subst ey
  refine val_sca _ rfl fun ρ hρ w => ?_
  have h1 := hρ x (by rw [ho]; simp [Op.operands]) _ hx
  have h2 := hρ y (by rw [ho]; simp [Op.operands]) _ hy
  have hgu : ∀ op : BinOp, (eqGuard op t x y (.agg cx) (.agg cy)).run P w = .ok () w := fun op => by
    unfold eqGuard
    cases op <;> simp [hg]
  unfold execOp
  rw [ho]
  cases neg <;> simp [h1, h2, hgu, run_eql_struct, run_neq_struct, he]
theorem g_call (F : FuncId) (xs : List Operand) (ts : Array TypeId) (as0 args : List AV) (r : AV) (ho : o.op = .call { callee := .value (.func F), args := xs.toArray, argTypes := ts }) (hargs : xs.map (fun x => (st.ev x).strip) = as0) (hco : CqA [] [] as0 args) (hc : PCalls P F args r) (he : ∀ vs w, (callFunc F vs).run P w = .ok (.enter F vs) w) : ValOk P o st r := by
  intro st' hev hvars
  refine ⟨putD_y .., fun rr nn E a w K Q hG ⟨S, m, τ, hr⟩ hk => ?_⟩
  have hrun : (execOp a.eval o).run P w = .ok (.enter F (xs.map a.eval).toArray) w := by
    unfold execOp
    rw [ho]
    simp [resolve, invoke, Act.eval, Deferred.ofValue, he]
  have hl : RL (RV w S) (xs.map a.eval) as0 := by
    rw [← hargs]
    refine ⟨by simp, fun j v x hv hx => ?_⟩
    rw [List.getElem?_map] at hv hx
    cases hj : xs[j]? with
    | none => rw [hj] at hv; cases hv
    | some y =>
      rw [hj] at hv hx
      cases hv
      cases hx
      show RV w S (a.eval y) (st.ev y).strip
      rw [← hev y (by rw [ho]; simp [Op.operands, Call.operands]; exact .inr (List.mem_of_getElem? hj))]
      exact (hr.ev y).closed
  have hl2 : RL (RV w S) (xs.map a.eval) args := (hco.rl hl).imp fun v x g => g.sub (fun t b h => (cutm_in h).2) (fun q k h => (cut_in h).2)
  refine wpIn_ent hrun (hc w S _ (hG.now hr.bel) hr.sc hl2) ?_
  rintro e w' ⟨v, S', rfl, h1, h2, h3, h4, h5⟩
  exact ⟨v, rfl, hk _ _ ⟨S', m, τ, (hr.grow h2 h3 h4 h5).put _ h1.open⟩⟩
/-- A list, written out. -/
theorem g_bsn (t e : TypeId) (len n : Nat) (ps : List (Nat × Operand)) (ie : TypeInfo) (z : Value) (l : List (Nat × List AV)) (zr ys : List AV) (rows R : List (List AV)) (ho : o.op = .buildSlice t len ps.toArray) (hu : P.underlying t = some (.slice e)) (hi : P.info? e = some ie) (hs : ie.size = n) (hz : ie.zero = some z)
    (hsm : ¬ len * n > 2 ^ 24) (hpos : ¬ len * n = 0) (h1 : ((Array.range (len * n)).map (z.cells[· % z.cells.size]!)).all (·.oneCell') = true) (hzr : ((Array.range (len * n)).map (z.cells[· % z.cells.size]!)).toList.map cAV0 = zr) (hl : st.parts ps = some l)
    (hf : fillA (fun i => some (i * n, n)) zr l = some ys) (hr : rows.flatten = ys.map AV.strip0) (hk : rows.all (fun r => r.length == n) = true) (hn : rows.length = len) (hR : rows = R) : ValOk P o st (.ls none R) := by
  subst hs
  subst hR
  subst hzr
  exact val_bslice t e len ps ie z l ys rows ho hu hi hz hsm hpos h1 hl hf hr (fun r hr => by simpa using List.all_eq_true.1 hk r hr) hn
/-- The greater of two numbers. -/
theorem g_max (ts : Array TypeId) (x y : Operand) (k : IntKind) (i j z : Int) (ho : o.op = .call { callee := .builtin .max, args := #[x, y], argTypes := ts }) (hx : st.ev x = .sc (.int k i)) (hy : st.ev y = .sc (.int k j)) (hz : (if j > i then j else i) = z) : ValOk P o st (.sc (.int k z)) := by
  subst hz
  refine val_sca _ rfl fun ρ hρ w => ?_
  have h1 := hρ x (by rw [ho]; simp [Op.operands, Call.operands]) (.int k i) (by rw [hx]; rfl)
  have h2 := hρ y (by rw [ho]; simp [Op.operands, Call.operands]) (.int k j) (by rw [hy]; rfl)
  unfold execOp
  rw [ho]
  simp [resolve, invoke, builtin, h1, h2, Builtin.max_, Builtin.max2]
/-- A part of an array that is a value. -/
theorem g_ixr (t e : TypeId) (x y : Operand) (k : IntKind) (i n len : Nat) (d : TypeDesc) (ie : TypeInfo) (cs ys : List AV) (ho : o.op = .index t x y) (ht : P.underlying t = some (.array len e)) (hu : P.underlying e = some d) (hd : d.isRow = true) (hi : P.info? e = some ie) (hs : ie.size = n)
    (hx : st.ev x = .ag cs) (hy : st.ev y = .sc (.int k (i : Int))) (hlt : i < len) (hr : (cs.drop (i * n)).take n = ys) : ValOk P o st (.ag ys) := by
  subst hs
  subst hr
  refine val_pure fun S m τ E st' a w hr he hv => ?_
  have h1 := hr.ev x
  rw [he x (by rw [ho]; simp [Op.operands]), hx] at h1
  have h2 := hr.ev y
  rw [he y (by rw [ho]; simp [Op.operands]), hy] at h2
  have h2 := RT_sc h2
  obtain ⟨vs, g1, g2⟩ := h1
  refine ⟨.agg ((vs.drop (i * ie.size)).take ie.size).toArray, ?_, _, rfl, (g2.drop _).take _⟩
  unfold execOp
  rw [ho]
  cases d <;> first | (simp [g1, h2, Instr.index, run_underlying ht, asIntOf, hlt, part, isAgg, run_underlying hu, sizeOf, typeInfo, hi]; done) | cases hd
theorem g_iac (t e : TypeId) (x y : Operand) (k : IntKind) (i n len v m p : Nat) (ie : TypeInfo) (ho : o.op = .indexAddr t x y) (ht : P.underlying t = some (.array len e)) (hi : P.info? e = some ie) (hs : ie.size = n) (hx : st.ev x = .pt v m) (hy : st.ev y = .sc (.int k (i : Int))) (hlt : i < len) (hp : m + i * n = p) : ValOk P o st (.pt v p) := by
  subst hs
  subst hp
  refine val_pure fun S mm τ E st' a w hr he hv => ?_
  have h1 := hr.ev x
  rw [he x (by rw [ho]; simp [Op.operands]), hx] at h1
  have h2 := hr.ev y
  rw [he y (by rw [ho]; simp [Op.operands]), hy] at h2
  have h2 := RT_sc h2
  obtain ⟨b, g1, g2⟩ := h1
  refine ⟨.pointer (some ⟨b, m + i * ie.size, none⟩), ?_, b, g1, rfl⟩
  unfold execOp
  rw [ho]
  simp [g2, h2, Instr.indexAt, asIntOf, run_underlying ht, Instr.sureAddr, sizeOf, typeInfo, hi, hlt, Addr.add_mid]
theorem g_iacp (t e : TypeId) (x y : Operand) (k : IntKind) (i n len : Nat) (ie : TypeInfo) (cs ys : List AV) (ho : o.op = .indexAddr t x y) (ht : P.underlying t = some (.array len e)) (hi : P.info? e = some ie) (hs : ie.size = n) (hx : st.ev x = .pr cs) (hy : st.ev y = .sc (.int k (i : Int))) (hlt : i < len) (hp : cs.drop (i * n) = ys) : ValOk P o st (.pr ys) := by
  subst hs
  subst hp
  refine val_pure fun S mm τ E st' a w hr he hv => ?_
  have h1 := hr.ev x
  rw [he x (by rw [ho]; simp [Op.operands]), hx] at h1
  have h2 := hr.ev y
  rw [he y (by rw [ho]; simp [Op.operands]), hy] at h2
  have h2 := RT_sc h2
  obtain ⟨b, m, vs, g1, g2, g3⟩ := RC_pr h1
  refine ⟨.pointer (some ⟨b, m + i * ie.size, none⟩), ?_, RC_to (g2.drop (i * ie.size)) fun j u hu => ?_⟩
  · unfold execOp
    rw [ho]
    simp [g1, h2, Instr.indexAt, asIntOf, run_underlying ht, Instr.sureAddr, sizeOf, typeInfo, hi, hlt, Addr.add_mid]
  · rw [List.getElem?_drop] at hu
    rw [Nat.add_assoc]
    exact g3 _ u hu
theorem strip_cq (q : Nat) (rows : List (List AV)) : Cq0 [] ((lstA q rows).strip) (.ls none rows) := by
  exact .ls _
/-- A function that hands back what it does whatever the world, told so. -/
theorem pcalls_plain {F : FuncId} {args : List AV} {vs : List Value} {v : Value} (hv : v.oneCell' = true) (ha : args.map AV.val? = vs.map some) (h : ∀ w, Gw w → Calls P F vs.toArray w fun e w' => e = .returned v ∧ Below w.heap.size w w') : PCalls P F args (.sc v) := by
  intro w S us hGw hS hus
  have he : us = vs := by
    apply List.ext_getElem?
    intro j
    have hlen : us.length = vs.length := by have := hus.1; have := congrArg List.length ha; simp at this; omega
    rcases Nat.lt_or_ge j us.length with hj | hj
    · have h1 : us[j]? = some us[j] := List.getElem?_eq_getElem hj
      have h2 : args[j]? = some (args[j]'(by have := hus.1; omega)) := List.getElem?_eq_getElem _
      have h3 := hus.2 j _ _ h1 h2
      have h4 := congrArg (fun l => l[j]?) ha
      simp only [List.getElem?_map, h2] at h4
      cases h5 : vs[j]? with
      | none => rw [h5] at h4; simp at h4
      | some u =>
        rw [h5] at h4
        simp only [Option.map_some] at h4
        rw [h1, RT_val h3 (Option.some.inj h4)]
    · rw [List.getElem?_eq_none hj, List.getElem?_eq_none (by omega)]
  subst he
  refine (h w hGw).mono ?_
  rintro e w' ⟨rfl, hb⟩
  refine ⟨v, S, rfl, RC.sc v hv, hb, fun b o h => h, fun b o h => .inl h, fun b o hs => ?_⟩
  rw [hb.cell (p := ⟨b, o, none⟩) (cell_lt (hS b o hs))]
  exact hS b o hs
end
end Go.Proofs.YtjghgpmkepfdhaaGreatDoor
namespace Go.Proofs.YtjghgpmkepfdhaaGreatDoor
open Go.RowKit
set_option linter.unusedVariables false

/-- No list is longer than a list can be. -/
inductive Fine : AV → Prop
  | sc (v : Value) : Fine (.sc v)
  | nl : Fine .nl
  | un : Fine .un
  | pt (t o : Nat) : Fine (.pt t o)
  | pr (cs : List AV) (h : ∀ (j : Nat) x, cs[j]? = some x → Fine x) : Fine (.pr cs)
  | fn (k : Fn) (ks cs : List AV) : Fine (.fn k ks cs)
  | ls (o : Option Nat) (rows : List (List AV)) (hl : rows.length ≤ 9223372036854775807) (h : ∀ (i j : Nat) r x, rows[i]? = some r → r[j]? = some x → Fine x) : Fine (.ls o rows)
  | ag (cs : List AV) (h : ∀ (j : Nat) x, cs[j]? = some x → Fine x) : Fine (.ag cs)
  | tp (cs : List AV) : Fine (.tp cs)
theorem RC.fine {w : World} {S : Nat → Nat → Prop} {v : Value} {x : AV} (h : RC w S v x) : Fine x := by
  induction h with
  | sc v h => exact .sc v
  | pr b o n xs f hn h1 h2 ih => exact .pr xs ih
  | fn k vs cs ks xs g f hm h3 h4 hn h1 h2 ih4 ih2 => exact .fn k ks xs
  | nl => exact .nl
  | un v h => exact .un
  | e A c => exact .ls _ _ (by simp) (fun i j r x h => by simp at h)
  | ls b o n c k rows f hn hc hm hk h1 h2 ih => exact .ls _ _ (by unfold maxLen at hm; omega) ih
theorem RK.fine {w : World} {S : Nat → Nat → Prop} {τ : Nat → Option Tk} {v : Value} {x : AV} (h : RK w S τ v x) : Fine x := by
  have hc := h.closed.fine
  cases x with
  | ls o rows => cases hc with | ls _ _ hl h => exact .ls o rows hl h
  | sc _ => exact hc
  | pr _ => exact hc
  | fn _ _ _ => exact hc
  | nl => exact hc
  | un => exact hc
  | ag _ => exact h.elim
  | tp _ => exact h.elim
  | pt _ _ => exact h.elim
theorem RT.fine {w : World} {S : Nat → Nat → Prop} {m : Nat → Option Nat} {τ : Nat → Option Tk} {v : Value} {x : AV} (h : RT w S m τ v x) : Fine x := by
  cases x with
  | un => exact .un
  | ag xs =>
    obtain ⟨cs, _, h2⟩ := h
    exact .ag _ fun j x hx => by
      obtain ⟨u, _, hu⟩ := h2.get hx
      exact hu.fine
  | tp xs => exact .tp xs
  | pt t o => exact .pt t o
  | pr xs => exact RC.fine (x := .pr xs) h
  | sc v' => exact .sc v'
  | fn k ks cs => exact .fn k ks cs
  | nl => exact .nl
  | ls o rows => exact RK.fine (τ := τ) h
theorem Fine.lenm {α : Type} {l : List α} {f : α → List AV} {o : Option Nat} (h : Fine (.ls o (List.map f l))) : l.length ≤ 9223372036854775807 := by
  cases h with | ls _ _ hl _ => simpa using hl
theorem Fine.row {α : Type} {l : List α} {f : α → List AV} {o : Option Nat} {n : Nat} {x : α} {r : List AV} (h : Fine (.ls o (List.map f l))) (hx : l[n]? = some x) (hf : f x = r) : Fine (.ag r) := by
  cases h with
  | ls _ _ _ h => exact .ag _ fun j y hy => h n j r y (by rw [List.getElem?_map, hx, ← hf]; rfl) hy
theorem Fine.atp {cs : List AV} (h : Fine (.pr cs)) (j : Nat) {c : AV} (hc : cs[j]? = some c) : Fine c := by
  cases h with | pr _ h => exact h j c hc
theorem Fine.at {cs : List AV} (h : Fine (.ag cs)) (j : Nat) {c : AV} (hc : cs[j]? = some c) : Fine c := by
  cases h with | ag _ h => exact h j c hc
section
variable {P : Program}
theorem pcalls_fine {F : FuncId} {args : List AV} {r : AV} (h : (∀ (j : Nat) a, args[j]? = some a → Fine a) → PCalls P F args r) : PCalls P F args r := fun w S vs hGw hS hvs =>
  h (fun j a ha => by
    obtain ⟨v, _, hv⟩ := hvs.get ha
    exact RT.fine hv) w S vs hGw hS hvs
theorem fcalls_fine {F : FuncId} {T Q : List Nat} {args : List AV} {objs objs' : List (Nat × List AV)} {r : AV} (h : (∀ (j : Nat) a, args[j]? = some a → Fine a) → (∀ t row, vget objs t = some row → Fine (.ag row)) → FCalls P F T Q args objs r objs') : FCalls P F T Q args objs r objs' := fun E vs h1 h2 hGE hent hvs =>
  h (fun j a ha => by
    obtain ⟨v, _, hv⟩ := hvs.get ha
    exact RT.fine hv) (fun t row ht => by
    obtain ⟨b, cs, ty, _, _, g⟩ := hent.ob.vr t row ht
    exact .ag _ fun j x hx => by
      obtain ⟨u, _, hu⟩ := g.get hx
      exact hu.fine) E vs h1 h2 hGE hent hvs
end
end Go.Proofs.YtjghgpmkepfdhaaGreatDoor
namespace Go.Proofs.YtjghgpmkepfdhaaGreatDoor
open Go.RowKit
set_option linter.unusedVariables false

/-- A variable that changes no more: its address is that of cells that stay. -/
def AV.frz (t : Nat) (row : List AV) : AV → AV
  | .pt t' o => if t' = t then .pr (row.drop o) else .pt t' o
  | x => x
def vdel (t : Nat) : List (Nat × List AV) → List (Nat × List AV)
  | [] => []
  | (t', r) :: l => if t' = t then vdel t l else (t', r) :: vdel t l
theorem vget_del (t s : Nat) : ∀ l, vget (vdel t l) s = if s = t then none else vget l s
  | [] => by simp [vdel, vget]
  | (t', r) :: l => by
    have ih := vget_del t s l
    simp only [vdel, vget]
    by_cases h1 : t' = t
    · rw [if_pos h1, ih]
      by_cases h2 : s = t
      · rw [if_pos h2, if_pos h2]
      · rw [if_neg h2, if_neg h2, if_neg (by omega)]
    · rw [if_neg h1]
      simp only [vget]
      by_cases h2 : t' = s
      · rw [if_pos h2, if_pos h2, if_neg (by omega)]
      · rw [if_neg h2, if_neg h2, ih]
def Ast.frz (st : Ast) (t : Nat) (row : List AV) : Ast := ⟨st.tmps.map (AV.frz t row), vdel t st.vars, st.y⟩
section
variable {E : En} {S : Nat → Nat → Prop} {m : Nat → Option Nat} {τ : Nat → Option Tk} {st : Ast} {a : Act} {w : World}
theorem Rel.frz (h : Rel E S m τ st a w) (t : Nat) (row row' : List AV) (ht : t < 1000) (hv : vget st.vars t = some row) (hrow : row.map AV.strip0 = row') : ∃ S' m', Rel E S' m' τ (st.frz t row') a w := by
  subst hrow
  obtain ⟨b, cs, ty, g1, g2, g3⟩ := h.vr t row hv
  obtain ⟨b1, b2, b3⟩ := h.mB t b g1
  have hcell : ∀ o, o < cs.length → w.cell? ⟨b, o, none⟩ = cs[o]? := fun o ho => by
    rw [cell_of_row w b o _ ty _ g2]
    simp
  have hS : ∀ k o, S k o → S k o ∨ (k = b ∧ o < cs.length) := fun k o h => .inl h
  have g4 : RL (RC w fun k o => S k o ∨ (k = b ∧ o < cs.length)) cs (row.map AV.strip0) := (g3.map AV.strip0 fun v x g => g.closed).imp fun v x g => g.mono hS fun _ _ _ => rfl
  refine ⟨fun k o => S k o ∨ (k = b ∧ o < cs.length), fun t' => if t' = t then none else m t', h.bel, fun k o g => .inl (h.s0 k o g), fun k o g => ?_, fun k o g => ?_, h.sS, h.df.mono (fun s D g => by split at g; (· cases g); exact .inl g) (fun _ _ _ => rfl), by simp [Ast.frz, h.sz], fun i x hx => ?_, fun s r hr => ?_, fun s k hm => ?_, fun s k hm => ?_, fun s s' k h1 h2 => ?_, fun q k hk => ?_, h.ti, fun s k q tk hm hk => ?_⟩
  · rcases g with g | ⟨rfl, _⟩
    · exact h.s1 k o g
    · rcases b1 with g5 | g5
      · exact .inr (.inl g5)
      · have := (h.m0 t _ g5).2; omega
  · rcases g with g | ⟨rfl, g⟩
    · exact h.sc k o g
    · rw [hcell o g, List.getElem?_eq_getElem g]; rfl
  · simp only [Ast.frz, List.getElem?_map] at hx
    cases hi : st.tmps[i]? with
    | none => rw [hi] at hx; cases hx
    | some y =>
      rw [hi] at hx
      cases hx
      have hy := h.tm i y hi
      cases y with
      | pt t' o =>
        obtain ⟨b', k1, k2⟩ := hy
        unfold AV.frz
        dsimp only
        split
        · rename_i e
          subst e
          rw [g1] at k1
          cases k1
          rw [k2]
          refine RC_to (g4.drop o) fun j u hu => ?_
          rw [List.getElem?_drop] at hu
          have hj : o + j < cs.length := (List.getElem?_eq_some_iff.1 hu).1
          exact ⟨.inr ⟨rfl, hj⟩, (hcell _ hj).trans hu⟩
        · rename_i hne
          exact ⟨b', (if_neg hne).trans k1, k2⟩
      | un => trivial
      | ag xs => exact RT.mono (x := .ag xs) hy hS fun _ _ _ => rfl
      | tp xs => exact RT.mono (x := .tp xs) hy hS fun _ _ _ => rfl
      | pr xs => exact RT.mono (m := m) (x := .pr xs) hy hS fun _ _ _ => rfl
      | fn k ks xs => exact RT.mono (m := m) (x := .fn k ks xs) hy hS fun _ _ _ => rfl
      | sc v' => exact RT.mono (m := m) (x := .sc v') hy hS fun _ _ _ => rfl
      | nl => exact RT.mono (m := m) (x := .nl) hy hS fun _ _ _ => rfl
      | ls o rows => exact RT.mono (m := m) (x := .ls o rows) hy hS fun _ _ _ => rfl
  · simp only [Ast.frz, vget_del] at hr
    split at hr
    · cases hr
    · rename_i hne
      obtain ⟨b', cs', ty', k1, k2, k3⟩ := h.vr s r hr
      exact ⟨b', cs', ty', (if_neg hne).trans k1, k2, k3.imp fun v x g => g.mono hS fun _ _ _ => rfl⟩
  · obtain ⟨k1, k2⟩ := h.m0 s k hm
    exact ⟨(if_neg (by omega)).trans k1, k2⟩
  · split at hm
    · cases hm
    · rename_i hne
      obtain ⟨k1, k2, k3⟩ := h.mB s k hm
      refine ⟨k1, k2, fun o g => ?_⟩
      rcases g with g | ⟨rfl, _⟩
      · exact k3 o g
      · exact hne (h.mi s t _ hm g1)
  · split at h1
    · cases h1
    · split at h2
      · cases h2
      · exact h.mi s s' k h1 h2
  · obtain ⟨k1, k2, k3, k4, k5⟩ := h.tk q k hk
    refine ⟨k1, k2, k3, k4, fun o ho g => ?_⟩
    rcases g with g | ⟨g, _⟩
    · exact k5 o ho g
    · exact h.mt t b q k g1 hk g.symm
  · split at hm
    · cases hm
    · exact h.mt s k q tk hm hk
end
section
variable {P : Program} {o : Oper} {st : Ast}
theorem ok_frz {st' : Ast} (t : Nat) (row row' : List AV) (ht : t < 1000) (hv : vget st.vars t = some row) (hrow : row.map AV.strip0 = row') (h : OpOk P o (st.frz t row') st') : OpOk P o st st' := by
  refine ⟨h.1, fun r n E a w K Q hG ⟨S, m, τ, hr⟩ hk => ?_⟩
  obtain ⟨S', m', hr'⟩ := hr.frz t row row' ht hv hrow
  exact h.2 r n E a w K Q hG ⟨S', m', τ, hr'⟩ hk
/-- Values that a function may capture. -/
def AV.capt : AV → Bool
  | .sc _ | .nl | .ls none _ | .pr _ | .fn _ _ _ => true
  | _ => false
theorem RT_capt {w : World} {S : Nat → Nat → Prop} {m : Nat → Option Nat} {τ : Nat → Option Tk} {v : Value} {x : AV} (h : RT w S m τ v x) (hx : x.capt = true) : RC w S v x := by
  cases x with
  | ls q rows => cases q with
    | none => exact h
    | some q => cases hx
  | sc _ => exact h
  | nl => exact h
  | pr _ => exact h
  | fn _ _ _ => exact h
  | un => cases hx
  | ag _ => cases hx
  | tp _ => cases hx
  | pt _ _ => cases hx
theorem RL_capt {w : World} {S : Nat → Nat → Prop} {m : Nat → Option Nat} {τ : Nat → Option Tk} {a : Act} {xs : List Operand} {cs : List AV} (hx : xs.map st.ev = cs) (hc : cs.all AV.capt = true) (h : ∀ y ∈ xs, RT w S m τ (a.eval y) (st.ev y)) : RL (RC w S) (xs.map a.eval) cs := by
  refine ⟨by rw [← hx]; simp, fun j v x hv hxx => ?_⟩
  rw [← hx] at hxx
  rw [List.getElem?_map] at hv hxx
  cases hj : xs[j]? with
  | none => rw [hj] at hv; cases hv
  | some y =>
    rw [hj] at hv hxx
    cases hv
    cases hxx
    exact RT_capt (h y (List.mem_of_getElem? hj)) (List.all_eq_true.1 hc _ (by rw [← hx]; exact List.mem_map.2 ⟨y, List.mem_of_getElem? hj, rfl⟩))
theorem g_mkfn (k : Fn) (ys xs : List Operand) (fs cs : List AV) (ho : o.op = .makeFunc k ys.toArray xs.toArray) (hy : ys.map st.ev = fs) (hfc : fs.all AV.capt = true) (hx : xs.map st.ev = cs) (hc : cs.all AV.capt = true) : ValOk P o st (.fn k fs cs) := by
  refine val_pure fun S m τ E st' a w hr he hv => ⟨.func k (ys.map a.eval).toArray (xs.map a.eval).toArray, ?_, ?_⟩
  · unfold execOp
    rw [ho]
    simp [Instr.makeFunc]
  · refine RC_mkfn (RL_capt (m := m) (τ := τ) hy hfc fun y hm => ?_) (RL_capt (m := m) (τ := τ) hx hc fun y hm => ?_)
    · rw [← he y (by rw [ho]; simp [Op.operands]; exact .inl hm)]
      exact hr.ev y
    · rw [← he y (by rw [ho]; simp [Op.operands]; exact .inr hm)]
      exact hr.ev y
/-- A function value is called. -/
theorem g_vcall (f : Operand) (F : FuncId) (fs cs : List AV) (xs : List Operand) (ts : Array TypeId) (as0 args : List AV) (r : AV) (ho : o.op = .call { callee := .value f, args := xs.toArray, argTypes := ts }) (hf : st.ev f = .fn (.func F) fs cs) (hargs : xs.map (fun x => (st.ev x).strip) = as0) (hco : CqA [] [] as0 args) (hc : PCalls P F (fs ++ args ++ cs) r) (he : ∀ vs w, (callFunc F vs).run P w = .ok (.enter F vs) w) : ValOk P o st r := by
  intro st' hev hvars
  refine ⟨putD_y .., fun rr nn E a w K Q hG ⟨S, m, τ, hr⟩ hk => ?_⟩
  have hff := hr.ev f
  rw [hev f (by rw [ho]; simp [Op.operands, Call.operands]), hf] at hff
  obtain ⟨us0, vs0, hf1, hf0, hf2⟩ := RC_fn hff
  have hrun : (execOp a.eval o).run P w = .ok (.enter F (us0 ++ (xs.map a.eval) ++ vs0).toArray) w := by
    unfold execOp
    rw [ho]
    simp [resolve, invoke, Deferred.ofValue, he, hf1]
  have hl : RL (RV w S) (xs.map a.eval) as0 := by
    rw [← hargs]
    refine ⟨by simp, fun j v x hv hx => ?_⟩
    rw [List.getElem?_map] at hv hx
    cases hj : xs[j]? with
    | none => rw [hj] at hv; cases hv
    | some y =>
      rw [hj] at hv hx
      cases hv
      cases hx
      show RV w S (a.eval y) (st.ev y).strip
      rw [← hev y (by rw [ho]; simp [Op.operands, Call.operands]; exact .inr (List.mem_of_getElem? hj))]
      exact (hr.ev y).closed
  have hl2 : RL (RV w S) (xs.map a.eval) args := (hco.rl hl).imp fun v x g => g.sub (fun t b h => (cutm_in h).2) (fun q k h => (cut_in h).2)
  have hl3 : RL (RV w S) (us0 ++ xs.map a.eval ++ vs0) (fs ++ args ++ cs) := ((hf0.imp fun v x g => RK_to (RK.of g)).app hl2).app (hf2.imp fun v x g => RK_to (RK.of g))
  refine wpIn_ent hrun (hc w S _ (hG.now hr.bel) hr.sc hl3) ?_
  rintro e w' ⟨v, S', rfl, h1, h2, h3, h4, h5⟩
  exact ⟨v, rfl, hk _ _ ⟨S', m, τ, (hr.grow h2 h3 h4 h5).put _ h1.open⟩⟩
end
end Go.Proofs.YtjghgpmkepfdhaaGreatDoor

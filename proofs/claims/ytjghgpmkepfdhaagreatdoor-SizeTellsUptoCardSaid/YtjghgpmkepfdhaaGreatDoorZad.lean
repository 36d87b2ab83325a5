/- The pure walk: the tables that functions read: the words of the language, and the powers of ten. Conditions: none.
The pure walk, second part: the state of a function's slots and variables, and how a world bears it; what a new block, a store, an append turn of it. Conditions: none.
The pure walk, third part: what each operation that hands back a value does to a state. Conditions: none.
The pure walk, fourth part: a new variable, a store, a struct and a list that are written out. Conditions: none.
The pure walk, fifth part: append; calls. Conditions: none.
The pure walk, sixth part: operations one behind the other, in the listed order and in any. Conditions: none. -/
import Derived.Test.YtjghgpmkepfdhaaGreatDoorZac
import Derived.Test.YtjghgpmkepfdhaaGreatDoorZaa
import Derived.OrdersIn
import Derived.RangeFuncSeq
namespace Go.Proofs.YtjghgpmkepfdhaaGreatDoor
set_option linter.unusedVariables false
def powVals : Array Value := (Lib.pow10Tab.map fun z => Value.int .u64 z).toArray
/-- Which blocks are tables, and what they hold. -/
def Gb (b : Nat) : Prop := b = 0 ∨ b = 1
def Gc (b : Nat) (x : Option Obj) : Prop := (b = 0 → ∃ t fr, x = some (.cells wordVals t fr)) ∧ (b = 1 → ∃ t fr, x = some (.cells powVals t fr))
end Go.Proofs.YtjghgpmkepfdhaaGreatDoor
namespace Go.Proofs.YtjghgpmkepfdhaaGreatDoor
open Go.RowKit
set_option linter.unusedVariables false

/-- A loop that is asked for rounds: its number, what it answers to each, and what it is asked with. -/
structure Ys where
  l : Nat
  ans : Nat → Bool
  items : List (List AV)
/-- What rounds were asked for. -/
structure Yst where
  hist : Nat
  yl : Option Ys
def y0 : Yst := ⟨0, none⟩
/-- What a function's slots and variables hold. A variable has the name of the slot in which its address lies. -/
structure Ast where
  tmps : List AV
  vars : List (Nat × List AV)
  y : Yst

def vget : List (Nat × List AV) → Nat → Option (List AV)
  | [], _ => none
  | (t', r) :: l, t => if t' = t then some r else vget l t
def vset : List (Nat × List AV) → Nat → List AV → List (Nat × List AV)
  | [], t, r => [(t, r)]
  | (t', r') :: l, t, r => if t' = t then (t, r) :: l else (t', r') :: vset l t r
theorem vget_same (t : Nat) (r : List AV) : ∀ l, vget (vset l t r) t = some r
  | [] => by simp [vset, vget]
  | (t', r') :: l => by
    unfold vset
    split
    · simp [vget]
    · rename_i h
      rw [vget, if_neg h]
      exact vget_same t r l
theorem vget_other {t s : Nat} (h : s ≠ t) (r : List AV) : ∀ l, vget (vset l t r) s = vget l s
  | [] => by simp [vset, vget, Ne.symm h]
  | (t', r') :: l => by
    unfold vset
    split
    · rename_i h1
      subst h1
      simp [vget, Ne.symm h]
    · simp only [vget]
      split
      · rfl
      · exact vget_other h r l
def vmap (g : AV → AV) : List (Nat × List AV) → List (Nat × List AV)
  | [] => []
  | (t, r) :: l => (t, r.map g) :: vmap g l
theorem vget_map (g : AV → AV) (t : Nat) : ∀ l, vget (vmap g l) t = (vget l t).map (·.map g)
  | [] => rfl
  | (t', r') :: l => by
    simp only [vmap, vget]
    split
    · rfl
    · exact vget_map g t l

def cAV0 : Value → AV
  | .slice none 0 0 => .nl
  | .agg _ | .tuple _ => .un
  | v => .sc v
def cAV (v : Value) : AV := match v with
  | .agg cs => if cs.all (·.oneCell') = true then .ag (cs.toList.map cAV0) else .un
  | v => cAV0 v
def Ast.ev (st : Ast) : Operand → AV
  | .tmp t => (st.tmps[t]?).getD .un
  | .const v => cAV v
  | .global _ => .un
  | .func f => .fn (.func f) [] []
theorem RC_const {w : World} {S : Nat → Nat → Prop} {v : Value} (h : v.oneCell' = true) : RC w S v (cAV0 v) := by
  unfold cAV0
  split
  · exact .nl
  · cases h
  · cases h
  · exact .sc v h
theorem RL_const {w : World} {S : Nat → Nat → Prop} : ∀ (cs : List Value), (∀ v ∈ cs, v.oneCell' = true) → RL (RC w S) cs (cs.map cAV0)
  | [], _ => RL.nil
  | c :: cs, h => RL.cons (RC_const (h c (by simp))) (RL_const cs fun v hv => h v (by simp [hv]))
theorem RK_to {w : World} {S : Nat → Nat → Prop} {m : Nat → Option Nat} {τ : Nat → Option Tk} {v : Value} {x : AV} (h : RK w S τ v x) : RT w S m τ v x := by
  cases x with
  | un => trivial
  | ls o r => exact h
  | sc _ => exact h
  | pr cs => exact h
  | fn k ks cs => exact h
  | nl => exact h
  | ag _ => exact h.elim
  | tp _ => exact h.elim
  | pt _ _ => exact h.elim
theorem RT_const {w : World} {S : Nat → Nat → Prop} {m : Nat → Option Nat} {τ : Nat → Option Tk} (v : Value) : RT w S m τ v (cAV v) := by
  unfold cAV
  split
  · rename_i cs
    split
    · rename_i h
      exact ⟨cs.toList, by simp, (RL_const _ fun v hv => (Array.all_eq_true_iff_forall_mem.1 h) v (by simpa using hv)).imp fun v x g => RK.of g⟩
    · trivial
  · rename_i h
    cases hv : v.oneCell' with
    | true => exact RK_to (RK.of (RC_const hv))
    | false => cases v <;> first | exact True.intro | exact absurd rfl (h _) | cases hv

/-- What stands where a function begins: the world, the cells that stay, the objects that it may change (their blocks, by name), the lists that it may append to. -/
structure En where
  w : World
  S : Nat → Nat → Prop
  m : Nat → Option Nat
  τ : Nat → Option Tk
/-- May a block change? -/
def En.io (E : En) (k : Nat) : Prop := (∃ t, E.m t = some k) ∨ ∃ q tk, E.τ q = some tk ∧ tk.b = k
/-- Nothing else that was there has changed. -/
structure Same (E : En) (w : World) : Prop where
  os : w.os = E.w.os
  tape : w.tape = E.w.tape
  output : w.output = E.w.output
  size : E.w.heap.size ≤ w.heap.size
  block : ∀ k, k < E.w.heap.size → ¬ E.io k → w.heap[k]? = E.w.heap[k]?
/-- The mark that a loop over a function leaves among the calls that are put off. -/
def mark (D : Nat) : Deferred := { target := .collected D, args := #[] }
/-- Nothing but such marks is put off. -/
def Marks (E : En) (y : Yst) (m : Nat → Option Nat) (ds : List Deferred) (w : World) : Prop :=
  ∃ Ds : List Nat, ds = Ds.map mark ∧ Ds.Nodup ∧ (∀ D ∈ Ds, E.w.heap.size ≤ D ∧ w.heap[D]? = some (.deferred (some [])) ∧ ∀ t, m t ≠ some D) ∧ (y.yl ≠ none → Ds = [])
theorem Marks.zero {E : En} {y : Yst} {m : Nat → Option Nat} {w : World} : Marks E y m [] w := ⟨[], rfl, List.nodup_nil, fun D h => by simp at h, fun _ => rfl⟩
theorem Marks.nil {E : En} {y : Yst} {m : Nat → Option Nat} {w : World} {ds : List Deferred} (h : Marks E y m ds w) (hy : y.yl ≠ none) : ds = [] := by
  obtain ⟨Ds, h1, _, _, h2⟩ := h
  rw [h1, h2 hy]; rfl
theorem Marks.mono {E : En} {y : Yst} {m m' : Nat → Option Nat} {w w' : World} {ds : List Deferred} (h : Marks E y m ds w) (hm : ∀ t D, m' t = some D → m t = some D ∨ w.heap.size ≤ D)
    (hw : ∀ D, w.heap[D]? = some (.deferred (some [])) → (∀ t, m t ≠ some D) → w'.heap[D]? = w.heap[D]?) : Marks E y m' ds w' := by
  obtain ⟨Ds, h1, h2, h3, h4⟩ := h
  refine ⟨Ds, h1, h2, fun D hD => ?_, h4⟩
  obtain ⟨g1, g2, g3⟩ := h3 D hD
  refine ⟨g1, (hw D g2 g3).trans g2, fun t ht => ?_⟩
  rcases hm t D ht with g | g
  · exact g3 t g
  · have := (Array.getElem?_eq_some_iff.1 g2).1; omega
/-- A world bears a state: S are the cells that stay, m the variables' blocks, τ the lists that may be appended to. -/
structure Rel (E : En) (S : Nat → Nat → Prop) (m : Nat → Option Nat) (τ : Nat → Option Tk) (st : Ast) (a : Act) (w : World) : Prop where
  bel : Same E w
  s0 : ∀ b o, E.S b o → S b o
  s1 : ∀ b o, S b o → E.S b o ∨ E.w.heap.size ≤ b ∨ ∃ q k, E.τ q = some k ∧ k.b = b
  sc : ∀ b o, S b o → (w.cell? ⟨b, o, none⟩).isSome = true
  sS : ∀ b o, E.S b o → w.cell? ⟨b, o, none⟩ = E.w.cell? ⟨b, o, none⟩
  df : Marks E st.y m a.defers w
  sz : a.tmps.size = st.tmps.length
  tm : ∀ (i : Nat) x, st.tmps[i]? = some x → RT w S m τ (a.tmps.getD i undef) x
  vr : ∀ t row, vget st.vars t = some row → ∃ b, ∃ cs : List Value, ∃ ty, m t = some b ∧ w.heap[b]? = some (.cells cs.toArray ty (0, 0)) ∧ RL (RK w S τ) cs row
  m0 : ∀ t b, E.m t = some b → m t = some b ∧ 1000 ≤ t
  mB : ∀ t b, m t = some b → (E.w.heap.size ≤ b ∨ E.m t = some b) ∧ b < w.heap.size ∧ ∀ o, ¬ S b o
  mi : ∀ t t' b, m t = some b → m t' = some b → t = t'
  tk : ∀ q k, τ q = some k → (E.w.heap.size ≤ k.b ∨ ∃ q' k', E.τ q' = some k' ∧ k'.b = k.b) ∧ (∃ cur, w.heap[k.b]? = some (.cells cur k.e (0, 0)) ∧ cur.size = k.c * k.k) ∧ k.n ≤ k.c ∧ k.c ≤ maxLen ∧ ∀ o, k.n * k.k ≤ o → ¬ S k.b o
  ti : ∀ q q' k k', τ q = some k → τ q' = some k' → k.b = k'.b → q = q'
  mt : ∀ t b q k, m t = some b → τ q = some k → b ≠ k.b
/-- The tables lie where they should. -/
def Gw (w : World) : Prop := ∀ b, Gb b → b < w.heap.size ∧ Gc b w.heap[b]?
def GOk (E : En) : Prop := Gw E.w ∧ ∀ b, Gb b → ¬ E.io b
theorem GOk.now {E : En} {w : World} (h : GOk E) (hs : Same E w) : Gw w := fun b hb => by
  obtain ⟨h1, h2⟩ := h.1 b hb
  have := hs.size
  exact ⟨by omega, by rw [hs.block b h1 (h.2 b hb)]; exact h2⟩
theorem cell_lt {w : World} {b o : Nat} (h : (w.cell? ⟨b, o, none⟩).isSome = true) : b < w.heap.size := by
  unfold World.cell? at h
  split at h
  · rename_i h1
    exact (Array.getElem?_eq_some_iff.1 h1).1
  · cases h
section
variable {E : En} {S : Nat → Nat → Prop} {m : Nat → Option Nat} {τ : Nat → Option Tk} {st : Ast} {a : Act} {w : World}
theorem Rel.ev (h : Rel E S m τ st a w) (x : Operand) : RT w S m τ (a.eval x) (st.ev x) := by
  cases x with
  | tmp t =>
    show RT w S m τ (a.tmps.getD t undef) ((st.tmps[t]?).getD .un)
    cases ht : st.tmps[t]? with
    | none => trivial
    | some x => exact h.tm t x ht
  | const v => exact RT_const v
  | global g => trivial
  | func f => exact RC_mkfn (vs := []) (cs := []) RL.nil RL.nil
/-- New memory, and cells of it that stay. -/
theorem Rel.grow (h : Rel E S m τ st a w) {w' : World} {S' : Nat → Nat → Prop} (hb : Below w.heap.size w w') (h1 : ∀ b o, S b o → S' b o) (h2 : ∀ b o, S' b o → S b o ∨ w.heap.size ≤ b) (h3 : ∀ b o, S' b o → (w'.cell? ⟨b, o, none⟩).isSome = true) : Rel E S' m τ st a w' := by
  have hc : ∀ b o, S b o → w'.cell? ⟨b, o, none⟩ = w.cell? ⟨b, o, none⟩ := fun b o hs => hb.cell (cell_lt (h.sc b o hs))
  have h0 := h.bel.size
  refine ⟨⟨hb.os.trans h.bel.os, hb.tape.trans h.bel.tape, hb.output.trans h.bel.output, Nat.le_trans h0 hb.size, fun k hk hio => (hb.block k (by omega)).trans (h.bel.block k hk hio)⟩, fun b o hs => h1 _ _ (h.s0 _ _ hs), fun b o hs => ?_, h3, fun b o hs => (hc b o (h.s0 b o hs)).trans (h.sS b o hs), h.df.mono (fun t D g => .inl g) (fun D g _ => hb.block D (Array.getElem?_eq_some_iff.1 g).1), h.sz, fun i x hx => (h.tm i x hx).mono h1 hc, fun t row hr => ?_, h.m0, fun t b hm => ?_, h.mi, fun q k hk => ?_, h.ti, h.mt⟩
  · rcases h2 b o hs with g | g
    · exact h.s1 b o g
    · exact .inr (.inl (by omega))
  · obtain ⟨b, cs, ty, g1, g2, g3⟩ := h.vr t row hr
    exact ⟨b, cs, ty, g1, (hb.block b ((h.mB t b g1).2.1)).trans g2, g3.imp fun v x g => g.mono h1 hc⟩
  · obtain ⟨g1, g2, g3⟩ := h.mB t b hm
    refine ⟨g1, Nat.lt_of_lt_of_le g2 hb.size, fun o hs => ?_⟩
    rcases h2 b o hs with g | g
    · exact g3 o g
    · omega
  · obtain ⟨g1, ⟨cur, g2, g3⟩, g4, g5, g6⟩ := h.tk q k hk
    have hlt := (Array.getElem?_eq_some_iff.1 g2).1
    refine ⟨g1, ⟨cur, (hb.block _ hlt).trans g2, g3⟩, g4, g5, fun o ho hs => ?_⟩
    rcases h2 _ o hs with g | g
    · exact g6 o ho g
    · omega
def Ast.putD (st : Ast) (d : Option Tmp) (x : AV) : Ast := match d with
  | some t => { st with tmps := st.tmps.set t x }
  | none => st
theorem Rel.put (h : Rel E S m τ st a w) {v : Value} {x : AV} (d : Option Tmp) (hv : RT w S m τ v x) : Rel E S m τ (st.putD d x) (a.put d v) w := by
  cases d with
  | none => exact h
  | some t =>
    refine ⟨h.bel, h.s0, h.s1, h.sc, h.sS, h.df, by simp [Ast.putD, Act.put, h.sz], fun i y hy => ?_, h.vr, h.m0, h.mB, h.mi, h.tk, h.ti, h.mt⟩
    simp only [Ast.putD, Act.put, Array.getD_eq_getD_getElem?] at hy ⊢
    by_cases hit : t = i
    · subst hit
      have hlt : t < st.tmps.length := by
        have := (List.getElem?_eq_some_iff.1 hy).1
        simpa using this
      rw [List.getElem?_set_self hlt] at hy
      cases hy
      rw [Array.getElem?_setIfInBounds_self_of_lt (by rw [h.sz]; exact hlt)]
      exact hv
    · rw [List.getElem?_set_ne hit] at hy
      rw [Array.getElem?_setIfInBounds_ne hit]
      have := h.tm i y hy
      rwa [Array.getD_eq_getD_getElem?] at this

/-- The address of a variable that is made anew is gone. -/
def AV.kill (t : Nat) : AV → AV
  | .pt t' o => if t' = t then .un else .pt t' o
  | x => x
def Ast.setVar (st : Ast) (t : Nat) (row : List AV) : Ast := { st with vars := vset st.vars t row }
def Ast.kill (st : Ast) (t : Nat) : Ast := { st with tmps := st.tmps.map (AV.kill t) }
theorem RT.kill {v : Value} {x : AV} {t b : Nat} (h : RT w S m τ v x) : RT w S (fun t' => if t' = t then some b else m t') τ v (x.kill t) := by
  cases x with
  | pt t' o =>
    unfold AV.kill
    dsimp only
    split
    · trivial
    · rename_i hne
      obtain ⟨b', g1, g2⟩ := h
      exact ⟨b', (if_neg hne).trans g1, g2⟩
  | un => trivial
  | ag xs => exact h
  | tp xs => exact h
  | sc v' => exact h
  | pr cs => exact h
  | fn k ks cs => exact h
  | nl => exact h
  | ls o rows => exact h
/-- A new variable. -/
theorem Rel.newVar (h : Rel E S m τ st a w) (t : Nat) (ht : t < 1000) (ty : TypeId) {cs : List Value} {row : List AV} (hr : RL (RK w S τ) cs row) :
    Rel E S (fun t' => if t' = t then some w.heap.size else m t') τ ((st.kill t).setVar t row) a (w.alloc (.cells cs.toArray ty)) := by
  have hb : Below w.heap.size w (w.alloc (.cells cs.toArray ty)) := (Below.refl _ w).alloc (Nat.le_refl _) _
  have hc : ∀ b o, S b o → (w.alloc (.cells cs.toArray ty)).cell? ⟨b, o, none⟩ = w.cell? ⟨b, o, none⟩ := fun b o hs => hb.cell (cell_lt (h.sc b o hs))
  have hn : (w.alloc (.cells cs.toArray ty)).heap[w.heap.size]? = some (.cells cs.toArray ty (0, 0)) := by
    show (w.heap.push _)[w.heap.size]? = _
    simp
  have h' := h.grow hb (fun b o hs => hs) (fun b o hs => .inl hs) (fun b o hs => by rw [hc b o hs]; exact h.sc b o hs)
  have h0 := h.bel.size
  refine ⟨h'.bel, h'.s0, h'.s1, h'.sc, h'.sS, h.df.mono (fun s D g => by split at g; (· cases g; exact .inr (Nat.le_refl _)); exact .inl g) (fun D g _ => hb.block D (Array.getElem?_eq_some_iff.1 g).1), by simp [Ast.kill, Ast.setVar, h'.sz], fun i x hx => ?_, fun s row' hs => ?_, fun s b hs => ?_, fun s b hs => ?_, fun s s' b hs hs' => ?_, h'.tk, h'.ti, fun s b q k hs hk => ?_⟩
  · simp only [Ast.kill, Ast.setVar, List.getElem?_map] at hx
    cases hi : st.tmps[i]? with
    | none => rw [hi] at hx; cases hx
    | some y =>
      rw [hi] at hx
      cases hx
      exact (h'.tm i y hi).kill
  · simp only [Ast.kill, Ast.setVar] at hs
    by_cases hst : s = t
    · subst hst
      rw [vget_same] at hs
      cases hs
      exact ⟨w.heap.size, cs, ty, by simp, hn, hr.imp fun v x g => g.mono (fun _ _ g => g) hc⟩
    · rw [vget_other hst] at hs
      obtain ⟨b, cs', ty', g1, g2, g3⟩ := h'.vr s row' hs
      exact ⟨b, cs', ty', by rw [if_neg hst]; exact g1, g2, g3⟩
  · obtain ⟨g1, g2⟩ := h.m0 s b hs
    exact ⟨by rw [if_neg (by omega)]; exact g1, g2⟩
  · split at hs
    · cases hs
      exact ⟨.inl h0, by simp, fun o ho => by have := cell_lt (h.sc _ o ho); omega⟩
    · exact h'.mB s b hs
  · split at hs <;> split at hs'
    · simp_all
    · cases hs
      exact absurd (h.mB s' _ hs').2.1 (by omega)
    · cases hs'
      exact absurd (h.mB s _ hs).2.1 (by omega)
    · exact h.mi s s' b hs hs'
  · split at hs
    · cases hs
      obtain ⟨g1, ⟨cur, g2, g3⟩, g4⟩ := h.tk q k hk
      have := (Array.getElem?_eq_some_iff.1 g2).1
      omega
    · exact h.mt s b q k hs hk
/-- A store into a variable. -/
theorem Rel.setVar (h : Rel E S m τ st a w) (t b : Nat) (ty : TypeId) {cs : List Value} {row : List AV} {w' : World} (hm : m t = some b) (hr : RL (RK w S τ) cs row) (hn : w'.heap[b]? = some (.cells cs.toArray ty (0, 0)))
    (hb : ∀ k, k ≠ b → w'.heap[k]? = w.heap[k]?) (ho : w'.os = w.os ∧ w'.tape = w.tape ∧ w'.output = w.output ∧ w'.heap.size = w.heap.size) : Rel E S m τ (st.setVar t row) a w' := by
  obtain ⟨o1, o2, o3, o4⟩ := ho
  obtain ⟨b1, b2, b3⟩ := h.mB t b hm
  have hc : ∀ k o, S k o → w'.cell? ⟨k, o, none⟩ = w.cell? ⟨k, o, none⟩ := fun k o hs => World.cell?_of_block (a := ⟨k, o, none⟩) (hb k (fun e => by subst e; exact b3 o hs))
  refine ⟨⟨o1.trans h.bel.os, o2.trans h.bel.tape, o3.trans h.bel.output, by have := h.bel.size; omega, fun k hk hio => (hb k (fun e => by subst e; rcases b1 with g | g; (· omega); exact hio (.inl ⟨t, g⟩))).trans (h.bel.block k hk hio)⟩, h.s0, h.s1, fun k o hs => by rw [hc k o hs]; exact h.sc k o hs, fun b o hs => (hc b o (h.s0 b o hs)).trans (h.sS b o hs), h.df.mono (fun t D g => .inl g) (fun D g gn => hb D (fun e => by subst e; exact gn t hm)), h.sz, fun i x hx => (h.tm i x hx).mono (fun _ _ g => g) hc, fun s row' hs => ?_, h.m0, fun s k hs => ?_, h.mi, fun q k hk => ?_, h.ti, h.mt⟩
  · simp only [Ast.setVar] at hs
    by_cases hst : s = t
    · subst hst
      rw [vget_same] at hs
      cases hs
      exact ⟨b, cs, ty, hm, hn, hr.imp fun v x g => g.mono (fun _ _ g => g) hc⟩
    · rw [vget_other hst] at hs
      obtain ⟨k, cs', ty', g1, g2, g3⟩ := h.vr s row' hs
      exact ⟨k, cs', ty', g1, (hb k (fun e => by subst e; exact hst (h.mi s t k g1 hm))).trans g2, g3.imp fun v x g => g.mono (fun _ _ g => g) hc⟩
  · obtain ⟨g1, g2, g3⟩ := h.mB s k hs
    exact ⟨g1, by omega, g3⟩
  · obtain ⟨g1, ⟨cur, g2, g3⟩, g4⟩ := h.tk q k hk
    exact ⟨g1, ⟨cur, (hb _ (fun e => h.mt t b q k hm hk e.symm)).trans g2, g3⟩, g4⟩

/-- A list that was appended to may be appended to no more, where it stood. -/
def AV.dem0 (q : Nat) : AV → AV
  | .ls (some q') rows => if q' = q then .ls none rows else .ls (some q') rows
  | x => x
def AV.dem1 (q : Nat) : AV → AV
  | .ag cs => .ag (cs.map (AV.dem0 q))
  | x => x.dem0 q
def AV.dem (q : Nat) : AV → AV
  | .ag cs => .ag (cs.map (AV.dem0 q))
  | .tp cs => .tp (cs.map (AV.dem1 q))
  | x => x.dem0 q
def Ast.dem (st : Ast) (q : Nat) : Ast := ⟨st.tmps.map (AV.dem q), vmap (AV.dem0 q) st.vars, st.y⟩
theorem RK.dem {v : Value} {x : AV} {q : Nat} {k : Option Tk} (h : RK w S τ v x) : RK w S (fun q' => if q' = q then k else τ q') v (x.dem0 q) := by
  cases x with
  | ls o rows =>
    cases o with
    | none => exact h
    | some q' =>
      unfold AV.dem0
      dsimp only
      split
      · exact h.1
      · rename_i hne
        exact ⟨h.1, h.2.1, fun hn => by obtain ⟨tk, h1, h2⟩ := h.2.2 hn; exact ⟨tk, (if_neg hne).trans h1, h2⟩⟩
  | sc v' => exact h
  | pr cs => exact h
  | fn k ks cs => exact h
  | nl => exact h
  | un => exact h
  | ag _ => exact h.elim
  | tp _ => exact h.elim
  | pt _ _ => exact h.elim
theorem R1.dem {v : Value} {x : AV} {q : Nat} {k : Option Tk} (h : R1 w S τ v x) : R1 w S (fun q' => if q' = q then k else τ q') v (x.dem1 q) := by
  cases x with
  | un => trivial
  | ag xs => exact ⟨h.choose, h.choose_spec.1, h.choose_spec.2.map _ fun v x g => g.dem⟩
  | ls o rows =>
    cases o with
    | none => exact h
    | some q' =>
      unfold AV.dem1 AV.dem0
      dsimp only
      split
      · exact h.1
      · rename_i hne
        exact ⟨h.1, h.2.1, fun hn => by obtain ⟨tk, h1, h2⟩ := h.2.2 hn; exact ⟨tk, (if_neg hne).trans h1, h2⟩⟩
  | sc v' => exact h
  | pr cs => exact h
  | fn k ks cs => exact h
  | nl => exact h
  | tp _ => exact h.elim
  | pt _ _ => exact h.elim
theorem RT.dem {v : Value} {x : AV} {q : Nat} {k : Option Tk} (h : RT w S m τ v x) : RT w S m (fun q' => if q' = q then k else τ q') v (x.dem q) := by
  cases x with
  | un => trivial
  | ag xs => exact ⟨h.choose, h.choose_spec.1, h.choose_spec.2.map _ fun v x g => g.dem⟩
  | tp xs => exact ⟨h.choose, h.choose_spec.1, h.choose_spec.2.map _ fun v x g => g.dem⟩
  | ls o rows =>
    cases o with
    | none => exact h
    | some q' =>
      unfold AV.dem AV.dem0
      dsimp only
      split
      · exact h.1
      · rename_i hne
        exact ⟨h.1, h.2.1, fun hn => by obtain ⟨tk, h1, h2⟩ := h.2.2 hn; exact ⟨tk, (if_neg hne).trans h1, h2⟩⟩
  | sc v' => exact h
  | pr cs => exact h
  | fn k ks cs => exact h
  | nl => exact h
  | pt _ _ => exact h
/-- A list got elements more, in its own block, or in a new one: the token q. -/
theorem Rel.turn (h : Rel E S m τ st a w) (q : Nat) (k : Tk) {S' : Nat → Nat → Prop} {w' : World} (ho : w'.os = w.os ∧ w'.tape = w.tape ∧ w'.output = w.output ∧ w.heap.size ≤ w'.heap.size)
    (hb : ∀ j, j < w.heap.size → j ≠ k.b → w'.heap[j]? = w.heap[j]?) (hk0 : E.w.heap.size ≤ k.b ∨ ∃ q' k', E.τ q' = some k' ∧ k'.b = k.b) (hkm : ∀ t, m t ≠ some k.b) (hkt : ∀ q' k', q' ≠ q → τ q' = some k' → k'.b ≠ k.b) (hkd : ∀ o, w.heap[k.b]? ≠ some (.deferred o))
    (h1 : ∀ b o, S b o → S' b o) (h2 : ∀ b o, S' b o → S b o ∨ b = k.b) (h3 : ∀ b o, S' b o → (w'.cell? ⟨b, o, none⟩).isSome = true) (h4 : ∀ o, S k.b o → w'.cell? ⟨k.b, o, none⟩ = w.cell? ⟨k.b, o, none⟩)
    (hn : ∃ cur, w'.heap[k.b]? = some (.cells cur k.e (0, 0)) ∧ cur.size = k.c * k.k) (hnc : k.n ≤ k.c) (hcm : k.c ≤ maxLen) (hsp : ∀ o, k.n * k.k ≤ o → ¬ S' k.b o) :
    Rel E S' m (fun q' => if q' = q then some k else τ q') (st.dem q) a w' := by
  obtain ⟨o1, o2, o3, o4⟩ := ho
  have hc : ∀ b o, S b o → w'.cell? ⟨b, o, none⟩ = w.cell? ⟨b, o, none⟩ := fun b o hs => by
    by_cases hbk : b = k.b
    · subst hbk
      exact h4 o hs
    · exact World.cell?_of_block (a := ⟨b, o, none⟩) (hb b (cell_lt (h.sc b o hs)) hbk)
  have h0 := h.bel.size
  refine ⟨⟨o1.trans h.bel.os, o2.trans h.bel.tape, o3.trans h.bel.output, Nat.le_trans h0 o4, fun j hj hio => (hb j (by omega) (fun e => by subst e; rcases hk0 with g | ⟨q', k', g1, g2⟩; (· omega); exact hio (.inr ⟨q', k', g1, g2⟩))).trans (h.bel.block j hj hio)⟩, fun b o hs => h1 _ _ (h.s0 _ _ hs), fun b o hs => ?_, h3, fun b o hs => (hc b o (h.s0 b o hs)).trans (h.sS b o hs), h.df.mono (fun t D g => .inl g) (fun D g gn => hb D (Array.getElem?_eq_some_iff.1 g).1 (fun e => by subst e; exact hkd _ g)), by simp [Ast.dem, h.sz], fun i x hx => ?_, fun t row hr => ?_, h.m0, fun t b hm => ?_, h.mi, fun q' k' hk => ?_, fun q1 q2 k1 k2 e1 e2 hbb => ?_, fun t b q' k' hm hk => ?_⟩
  · rcases h2 b o hs with g | g
    · exact h.s1 b o g
    · rcases hk0 with g2 | ⟨q', k', g1, g2⟩
      · exact .inr (.inl (by omega))
      · exact .inr (.inr ⟨q', k', g1, by rw [g2, g]⟩)
  · simp only [Ast.dem, List.getElem?_map] at hx
    cases hi : st.tmps[i]? with
    | none => rw [hi] at hx; cases hx
    | some y =>
      rw [hi] at hx
      cases hx
      exact ((h.tm i y hi).mono h1 hc).dem
  · simp only [Ast.dem, vget_map] at hr
    cases hi : vget st.vars t with
    | none => rw [hi] at hr; cases hr
    | some y =>
      rw [hi] at hr
      cases hr
      obtain ⟨b, cs, ty, g1, g2, g3⟩ := h.vr t y hi
      exact ⟨b, cs, ty, g1, (hb b (h.mB t b g1).2.1 (fun e => hkm t (by rw [g1, e]))).trans g2, g3.map _ fun v x g => (g.mono h1 hc).dem⟩
  · obtain ⟨g1, g2, g3⟩ := h.mB t b hm
    refine ⟨g1, by omega, fun o hs => ?_⟩
    rcases h2 b o hs with g | g
    · exact g3 o g
    · exact hkm t (by rw [hm, g])
  · split at hk
    · cases hk
      exact ⟨hk0, hn, hnc, hcm, hsp⟩
    · rename_i hne
      obtain ⟨g1, ⟨cur, g2, g3⟩, g4, g5, g6⟩ := h.tk q' k' hk
      have hne2 := hkt q' k' hne hk
      refine ⟨g1, ⟨cur, (hb _ (Array.getElem?_eq_some_iff.1 g2).1 hne2).trans g2, g3⟩, g4, g5, fun o ho hs => ?_⟩
      rcases h2 _ o hs with g | g
      · exact g6 o ho g
      · exact hne2 g
  · split at e1 <;> split at e2
    · simp_all
    · cases e1
      exact absurd hbb.symm (hkt q2 k2 (by assumption) e2)
    · cases e2
      exact absurd hbb (hkt q1 k1 (by assumption) e1)
    · exact h.ti q1 q2 k1 k2 e1 e2 hbb
  · split at hk
    · cases hk
      exact fun e => hkm t (by rw [hm, e])
    · exact h.mt t b q' k' hm hk
end
end Go.Proofs.YtjghgpmkepfdhaaGreatDoor
namespace Go.Proofs.YtjghgpmkepfdhaaGreatDoor
open Go.RowKit
set_option linter.unusedVariables false

def St (E : En) (st : Ast) (a : Act) (w : World) : Prop := ∃ S m τ, Rel E S m τ st a w
/-- The wide fence, in a round or in none. -/
abbrev WF (r : Option Nat) : Fence := { Fence.wide with round := r }
theorem callsWF {P : Program} {r : Option Nat} {n : Nat} {f : FuncId} {args : Array Value} {w : World} {R : Ending → World → Prop} (h : Calls P f args w R) : CallsIn (WF r) n P f args w R := (callsIn_wide (n := n)).2 h
theorem semAt_run {P : Program} {r : Option Nat} {o : Oper} {ρ : Operand → Value} {w w' : World} {x : Next} (h : (execOp ρ o).run P w = .ok x w') (hx : ∀ d, x ≠ .defer d) : (o.semAt r ρ).run P w = .ok x w' := by
  by_cases hd : ∃ c, o.op = .defer c
  · obtain ⟨c, hc⟩ := hd
    exfalso
    unfold execOp at h
    rw [hc] at h
    simp only [Sem.run_bind] at h
    cases hq : (resolve ρ c o.type).run P w with
    | ok d w1 =>
      rw [hq] at h
      simp [Result.andThen] at h
      exact hx d h.1.symm
    | halt q w1 =>
      rw [hq] at h
      simp [Result.andThen] at h
  · rw [Oper.semAt_eq r ρ o fun c e => hd ⟨c, e⟩]
    exact h
section
variable {P : Program} {r : Option Nat} {n : Nat} {o : Oper} {a : Act} {w w' : World} {K : Act → World → Prop} {Q : Exit → Act → World → Prop}
theorem wpIn_val {v : Value} (h : (execOp a.eval o).run P w = .ok (.value v) w') (hk : K (a.put o.dst v) w') : o.wpIn (WF r) n P a w K Q := by
  refine ⟨fun _ _ => trivial, ?_⟩
  rw [semAt_run h (fun d e => by cases e)]
  exact hk
theorem wpIn_skp (h : (execOp a.eval o).run P w = .ok .skip w') (hk : K (a.put o.dst undef) w') : o.wpIn (WF r) n P a w K Q := by
  refine ⟨fun _ _ => trivial, ?_⟩
  rw [semAt_run h (fun d e => by cases e)]
  exact hk
theorem wpIn_ent {f : FuncId} {args : Array Value} {R : Ending → World → Prop} (h : (execOp a.eval o).run P w = .ok (.enter f args) w') (hc : Calls P f args w' R) (hr : ∀ e w'', R e w'' → ∃ v, e = .returned v ∧ K (a.put o.dst v) w'') : o.wpIn (WF r) n P a w K Q := by
  refine ⟨fun _ _ => trivial, ?_⟩
  rw [semAt_run h (fun d e => by cases e), Oper.uponIn_enter]
  refine ⟨fun hd => (by cases hd), callsWF (hc.mono fun e w'' he => ?_)⟩
  obtain ⟨v, rfl, hk⟩ := hr e w'' he
  exact hk
end
/-- An operation takes a state to another one. -/
def OpOk (P : Program) (o : Oper) (st st' : Ast) : Prop := st'.y = st.y ∧ ∀ (r : Option Nat) (n : Nat) (E : En) (a : Act) (w : World) (K : Act → World → Prop) (Q : Exit → Act → World → Prop), GOk E →
  St E st a w → (∀ a' w', St E st' a' w' → K a' w') → o.wpIn (WF r) n P a w K Q
theorem putD_y (st : Ast) (d : Option Tmp) (x : AV) : (st.putD d x).y = st.y := by cases d <;> rfl
/-- An operation hands back a value, whatever else the state holds. -/
def ValOk (P : Program) (o : Oper) (st : Ast) (x : AV) : Prop := ∀ st' : Ast, (∀ y, y ∈ o.op.operands → st'.ev y = st.ev y) → st'.vars = st.vars → OpOk P o st' (st'.putD o.dst x)
theorem ValOk.ok {P : Program} {o : Oper} {st : Ast} {x : AV} (h : ValOk P o st x) : OpOk P o st (st.putD o.dst x) := h st (fun _ _ => rfl) rfl
section
variable {P : Program} {o : Oper} {st : Ast}
theorem val_pure {x : AV} (h : ∀ (S : Nat → Nat → Prop) m τ E st' a w, Rel E S m τ st' a w → (∀ y, y ∈ o.op.operands → st'.ev y = st.ev y) → st'.vars = st.vars → ∃ v, (execOp a.eval o).run P w = .ok (.value v) w ∧ RT w S m τ v x) : ValOk P o st x := by
  intro st' he hv
  refine ⟨putD_y .., fun r n E a w K Q hG ⟨S, m, τ, hr⟩ hk => ?_⟩
  obtain ⟨v, h1, h2⟩ := h S m τ E st' a w hr he hv
  exact wpIn_val h1 <| hk _ _ ⟨S, m, τ, hr.put _ h2⟩
theorem val_new {x : AV} (h : ∀ (S : Nat → Nat → Prop) m τ E st' a w, Rel E S m τ st' a w → (∀ y, y ∈ o.op.operands → st'.ev y = st.ev y) → st'.vars = st.vars →
    ∃ v w' S', (execOp a.eval o).run P w = .ok (.value v) w' ∧ Below w.heap.size w w' ∧ (∀ b o, S b o → S' b o) ∧ (∀ b o, S' b o → S b o ∨ w.heap.size ≤ b) ∧ (∀ b o, S' b o → (w'.cell? ⟨b, o, none⟩).isSome = true) ∧ RT w' S' m τ v x) : ValOk P o st x := by
  intro st' he hv
  refine ⟨putD_y .., fun r n E a w K Q hG ⟨S, m, τ, hr⟩ hk => ?_⟩
  obtain ⟨v, w', S', h1, hb, g1, g2, g3, h2⟩ := h S m τ E st' a w hr he hv
  exact wpIn_val h1 <| hk _ _ ⟨S', m, τ, (hr.grow hb g1 g2 g3).put _ h2⟩

theorem val_mv (x : Operand) (ho : o.op = .move x ∨ o.op = .assign x) : ValOk P o st (st.ev x) := by
  refine val_pure fun S m τ E st' a w hr he hv => ⟨a.eval x, ?_, ?_⟩
  · unfold execOp
    rcases ho with ho | ho <;> rw [ho] <;> rfl
  · rw [← he x (by rcases ho with ho | ho <;> rw [ho] <;> simp [Op.operands])]
    exact hr.ev x
theorem RT_sc {w : World} {S : Nat → Nat → Prop} {m : Nat → Option Nat} {τ : Nat → Option Tk} {v u : Value} (h : RT w S m τ v (.sc u)) : v = u := by
  have h : RC w S v (.sc u) := h
  cases h; rfl
theorem val_pick (c x y : Operand) (t : Bool) (ho : o.op = .pick c x y) (hc : st.ev c = .sc (.bool t)) : ValOk P o st (if t then st.ev x else st.ev y) := by
  refine val_pure fun S m τ E st' a w hr he hv => ⟨if t then a.eval x else a.eval y, ?_, ?_⟩
  · have h1 := hr.ev c
    rw [he c (by rw [ho]; simp [Op.operands]), hc] at h1
    unfold execOp
    rw [ho]
    simp [RT_sc h1, asBool]
  · rw [← he x (by rw [ho]; simp [Op.operands]), ← he y (by rw [ho]; simp [Op.operands])]
    cases t
    · exact hr.ev y
    · exact hr.ev x

/-- The value itself, where no memory is behind it. -/
def AV.val0 : AV → Option Value
  | .sc v => some v
  | .nl => some (.slice none 0 0)
  | _ => none
def AV.vals : List AV → Option (List Value)
  | [] => some []
  | x :: xs => match x.val0, AV.vals xs with
    | some v, some vs => some (v :: vs)
    | _, _ => none
def AV.val? : AV → Option Value
  | .ag cs => (AV.vals cs).map fun vs => .agg vs.toArray
  | x => x.val0
theorem RK_val {w : World} {S : Nat → Nat → Prop} {τ : Nat → Option Tk} {v u : Value} {x : AV} (h : RK w S τ v x) (hx : x.val0 = some u) : v = u := by
  cases x with
  | sc v' =>
    cases hx
    have h : RC w S v (.sc u) := h
    cases h; rfl
  | nl =>
    cases hx
    have h : RC w S v .nl := h
    cases h; rfl
  | _ => cases hx
theorem RL_vals {w : World} {S : Nat → Nat → Prop} {τ : Nat → Option Tk} : ∀ {cs us : List Value} {xs : List AV}, RL (RK w S τ) cs xs → AV.vals xs = some us → cs = us
  | [], us, [], h, hx => by cases hx; rfl
  | [], us, x :: xs, h, hx => by have := h.1; simp at this
  | c :: cs, us, [], h, hx => by have := h.1; simp at this
  | c :: cs, us, x :: xs, h, hx => by
    simp only [AV.vals] at hx
    cases h0 : x.val0 with
    | none => rw [h0] at hx; cases hx
    | some v =>
      cases h1 : AV.vals xs with
      | none => rw [h0, h1] at hx; cases hx
      | some vs =>
        rw [h0, h1] at hx
        cases hx
        rw [RK_val (h.2 0 c x rfl rfl) h0, RL_vals (cs := cs) (xs := xs) ⟨by have := h.1; simpa using this, fun j v x hv hx => h.2 (j + 1) v x (by simpa using hv) (by simpa using hx)⟩ h1]
theorem RT_val {w : World} {S : Nat → Nat → Prop} {m : Nat → Option Nat} {τ : Nat → Option Tk} {v u : Value} {x : AV} (h : RT w S m τ v x) (hx : x.val? = some u) : v = u := by
  cases x with
  | ag xs =>
    obtain ⟨cs, rfl, h2⟩ := h
    simp only [AV.val?] at hx
    cases h0 : AV.vals xs with
    | none => rw [h0] at hx; cases hx
    | some us =>
      rw [h0] at hx
      cases hx
      rw [RL_vals h2 h0]
  | sc v' => exact RK_val (τ := τ) (x := .sc v') h hx
  | pr cs => exact RK_val (τ := τ) (x := .pr cs) h hx
  | fn k ks cs => exact RK_val (τ := τ) (x := .fn k ks cs) h hx
  | nl => exact RK_val (τ := τ) (x := .nl) h hx
  | _ => cases hx
/-- An operation on values behind which is no memory. -/
theorem val_sca (v : Value) (h1 : v.oneCell' = true) (h : ∀ ρ : Operand → Value, (∀ y, y ∈ o.op.operands → ∀ u, (st.ev y).val? = some u → ρ y = u) → ∀ w, (execOp ρ o).run P w = .ok (.value v) w) : ValOk P o st (.sc v) :=
  val_pure fun S m τ E st' a w hr he hv => ⟨v, h a.eval (fun y hy u hu => RT_val (hr.ev y) (by rw [he y hy]; exact hu)) w, RC.sc v h1⟩
/-- What an operation on two numbers is. -/
def intRes : BinOp → IntKind → Int → Int → Option Value
  | .add, k, x, y => some (.int k (k.wrap (x + y)))
  | .sub, k, x, y => some (.int k (k.wrap (x - y)))
  | .mul, k, x, y => some (.int k (k.wrap (x * y)))
  | .eql, _, x, y => some (.bool (x == y))
  | .neq, _, x, y => some (.bool (x != y))
  | .lss, _, x, y => some (.bool (x < y))
  | .leq, _, x, y => some (.bool (x ≤ y))
  | .gtr, _, x, y => some (.bool (x > y))
  | .geq, _, x, y => some (.bool (x ≥ y))
  | _, _, _, _ => none
theorem intRes_one {b : BinOp} {k : IntKind} {i j : Int} {r : Value} (h : intRes b k i j = some r) : r.oneCell' = true := by
  unfold intRes at h
  split at h <;> first | (cases h; rfl) | cases h
theorem val_int (b : BinOp) (t u : TypeId) (x y : Operand) (k : IntKind) (i j : Int) (r : Value) (ho : o.op = .binOp b t x y u) (hx : st.ev x = .sc (.int k i)) (hy : st.ev y = .sc (.int k j)) (hr : intRes b k i j = some r) : ValOk P o st (.sc r) := by
  refine val_sca r (intRes_one hr) fun ρ hρ w => ?_
  have h1 := hρ x (by rw [ho]; simp [Op.operands]) (.int k i) (by rw [hx]; rfl)
  have h2 := hρ y (by rw [ho]; simp [Op.operands]) (.int k j) (by rw [hy]; rfl)
  unfold execOp
  rw [ho]
  unfold intRes at hr
  split at hr <;> first | (cases hr; simp [h1, h2, eqGuard, binOp, Op.intArith, Op.intCmp]) | cases hr
/-- Two texts held against one another. -/
theorem val_str (neg : Bool) (t u : TypeId) (x y : Operand) (s r : ByteArray) (ho : o.op = .binOp (if neg then .neq else .eql) t x y u) (hx : st.ev x = .sc (.string s)) (hy : st.ev y = .sc (.string r)) : ValOk P o st (.sc (.bool (neg ^^ (s.toList == r.toList)))) := by
  refine val_sca _ rfl fun ρ hρ w => ?_
  have h1 := hρ x (by rw [ho]; simp [Op.operands]) (.string s) (by rw [hx]; rfl)
  have h2 := hρ y (by rw [ho]; simp [Op.operands]) (.string r) (by rw [hy]; rfl)
  unfold execOp
  rw [ho]
  cases neg <;> simp [h1, h2, eqGuard, binOp, Op.stringOp]
theorem val_booleq (neg : Bool) (t u : TypeId) (x y : Operand) (s r : Bool) (hu : P.underlying t = some .bool) (ho : o.op = .binOp (if neg then .neq else .eql) t x y u) (hx : st.ev x = .sc (.bool s)) (hy : st.ev y = .sc (.bool r)) : ValOk P o st (.sc (.bool (neg ^^ (s == r)))) := by
  refine val_sca _ rfl fun ρ hρ w => ?_
  have h1 := hρ x (by rw [ho]; simp [Op.operands]) (.bool s) (by rw [hx]; rfl)
  have h2 := hρ y (by rw [ho]; simp [Op.operands]) (.bool r) (by rw [hy]; rfl)
  unfold execOp
  rw [ho]
  have e1 : binOp .eql t (.bool s) (.bool r) = (do pure (.bool (← Op.equal t (.bool s) (.bool r)))) := rfl
  have e2 : binOp .neq t (.bool s) (.bool r) = (do pure (.bool (!(← Op.equal t (.bool s) (.bool r))))) := rfl
  cases neg <;> simp [h1, h2, eqGuard, e1, e2, run_equal_bool w t s r hu]
theorem val_not (t : TypeId) (x : Operand) (s : Bool) (ho : o.op = .unOp .not t x) (hx : st.ev x = .sc (.bool s)) : ValOk P o st (.sc (.bool (!s))) := by
  refine val_sca _ rfl fun ρ hρ w => ?_
  have h1 := hρ x (by rw [ho]; simp [Op.operands]) (.bool s) (by rw [hx]; rfl)
  unfold execOp
  rw [ho]
  simp [h1, Op.unary]

theorem RC_ls {w : World} {S : Nat → Nat → Prop} {v : Value} {rows : List (List AV)} (h : RC w S v (.ls none rows)) : ∃ A c, v = .slice A rows.length c := by
  cases h with
  | e A c => exact ⟨A, c, rfl⟩
  | ls b o n c k _ f hn hc hm hk h1 h2 => exact ⟨_, c, by rw [hn]⟩
theorem RT_ls {w : World} {S : Nat → Nat → Prop} {m : Nat → Option Nat} {τ : Nat → Option Tk} {v : Value} {own : Option Nat} {rows : List (List AV)} (h : RT w S m τ v (.ls own rows)) : RC w S v (.ls none rows) := by
  cases own with
  | none => exact h
  | some q =>
    exact h.1
/-- How many elements a list has. -/
def AV.len? : AV → Option Nat
  | .ls _ rows => some rows.length
  | .nl => some 0
  | .sc (.string s) => some s.size
  | _ => none
theorem val_len (t : TypeId) (x : Operand) (n : Nat) (ho : o.op = .call { callee := .builtin .len, args := #[x], argTypes := #[t] }) (ht : (∃ e, P.underlying t = some (.slice e)) ∨ P.underlying t = some .string) (hx : (st.ev x).len? = some n) (hk : ∀ s, st.ev x = .sc (.string s) → P.underlying t = some .string) (hk2 : P.underlying t = some .string → ∃ s, st.ev x = .sc (.string s)) : ValOk P o st (.sc (.int .i64 n)) := by
  refine val_pure fun S m τ E st' a w hr he hv => ⟨.int .i64 n, ?_, RC.sc _ rfl⟩
  have h1 := hr.ev x
  rw [he x (by rw [ho]; simp [Op.operands, Call.operands])] at h1
  unfold execOp
  rw [ho]
  rcases ht with ⟨e, ht⟩ | ht
  · cases hy : st.ev x with
    | ls own rows =>
      rw [hy] at h1 hx
      obtain ⟨A, c, hA⟩ := RC_ls (RT_ls h1)
      cases hx
      simp [resolve, invoke, builtin, Builtin.len_, run_underlying ht, hA, goInt]
    | nl =>
      rw [hy] at h1 hx
      cases hx
      have h1 := RT_val h1 (u := .slice none 0 0) rfl
      simp [resolve, invoke, builtin, Builtin.len_, run_underlying ht, h1, goInt]
    | sc v =>
      rw [hy] at hx
      cases v with
      | string s => have := hk s hy; rw [ht] at this; cases this
      | _ => cases hx
    | _ => rw [hy] at hx; cases hx
  · obtain ⟨s, hs⟩ := hk2 ht
    rw [hs] at h1 hx
    cases hx
    have h1 := RT_sc h1
    simp [resolve, invoke, builtin, Builtin.len_, run_underlying ht, h1, goInt]
theorem val_nilck (x : Operand) (ho : o.op = .nilCheck x) (hx : (∃ t n, st.ev x = .pt t n) ∨ ∃ cs, st.ev x = .pr cs) : ValOk P o st (st.ev x) := by
  refine val_pure fun S m τ E st' a w hr he hv => ⟨a.eval x, ?_, ?_⟩
  · have h1 := hr.ev x
    rw [he x (by rw [ho]; simp [Op.operands])] at h1
    unfold execOp
    rw [ho]
    rcases hx with ⟨t, n, hx⟩ | ⟨cs, hx⟩
    · rw [hx] at h1
      obtain ⟨b, g1, g2⟩ := h1
      simp [g2]
    · rw [hx] at h1
      obtain ⟨b, o', cs', g1, g2⟩ := RC_pr h1
      simp [g1]
  · rw [← he x (by rw [ho]; simp [Op.operands])]
    exact hr.ev x
/-- The address of a field. -/
theorem val_fa (t : TypeId) (x : Operand) (f : Nat) (fs : Array Field) (fl : Field) (i : TypeInfo) (ho : o.op = .fieldAddr t x f) (ht : P.underlying t = some (.struct fs)) (hf : fs[f]? = some fl) (hi : P.info? fl.type = some i) (hz : ¬ i.size = 0) (r : AV)
    (hx : (∃ v n, st.ev x = .pt v n ∧ r = .pt v (n + fl.offset)) ∨ ∃ cs, st.ev x = .pr cs ∧ r = .pr (cs.drop fl.offset)) : ValOk P o st r := by
  refine val_pure fun S m τ E st' a w hr he hv => ?_
  have h1 := hr.ev x
  rw [he x (by rw [ho]; simp [Op.operands])] at h1
  have hrun : ∀ b n, a.eval x = .pointer (some ⟨b, n, none⟩) → (execOp a.eval o).run P w = .ok (.value (.pointer (some ⟨b, n + fl.offset, none⟩))) w := fun b n hp => by
    unfold execOp
    rw [ho]
    simp [hp, Instr.fieldAt, run_underlying ht, hf, Instr.sureAddr, fieldPlace, sizeOf, typeInfo, hi, hz, Addr.add_mid]
  rcases hx with ⟨v, n, hx, rfl⟩ | ⟨cs, hx, rfl⟩
  · rw [hx] at h1
    obtain ⟨b, g1, g2⟩ := h1
    exact ⟨_, hrun b n g2, b, g1, rfl⟩
  · rw [hx] at h1
    obtain ⟨b, n, cs', g1, g2, g3⟩ := RC_pr h1
    refine ⟨_, hrun b n g1, RC_to (g2.drop fl.offset) fun j u hu => ?_⟩
    rw [List.getElem?_drop] at hu
    rw [Nat.add_assoc]
    exact g3 _ u hu
/-- The cells of an element. -/
theorem RC_row {w : World} {S : Nat → Nat → Prop} {A : Option Addr} {n c : Nat} {rows : List (List AV)} {i : Nat} {r : List AV} (h : RC w S (.slice A n c) (.ls none rows)) (hr : rows[i]? = some r) :
    ∃ b o, A = some ⟨b, o, none⟩ ∧ i < n ∧ ∃ cs : List Value, RL (RC w S) cs r ∧ ∀ (j : Nat) u, cs[j]? = some u → S b (o + i * r.length + j) ∧ w.cell? ⟨b, o + i * r.length + j, none⟩ = some u := by
  cases h with
  | e A c => simp at hr
  | ls b o n c k _ f hn hc hm hk h1 h2 =>
    have hi := (List.getElem?_eq_some_iff.1 hr).1
    have hrk := hk i r hr
    refine ⟨b, o, rfl, by omega, (List.range k).map (f i), ⟨by simp [hrk], fun j v x hv hx => ?_⟩, fun j u hu => ?_⟩
    · rw [List.getElem?_map] at hv
      cases hj : (List.range k)[j]? with
      | none => rw [hj] at hv; cases hv
      | some j' =>
        rw [hj] at hv
        cases hv
        have hjk := (List.getElem?_eq_some_iff.1 hj).1
        rw [List.getElem?_range (by simpa using hjk)] at hj
        cases hj
        exact h2 i j r x hr hx
    · rw [List.getElem?_map] at hu
      cases hj : (List.range k)[j]? with
      | none => rw [hj] at hu; cases hu
      | some j' =>
        rw [hj] at hu
        cases hu
        have hjk := (List.getElem?_eq_some_iff.1 hj).1
        have hjk' : j < k := by simpa using hjk
        rw [List.getElem?_range hjk'] at hj
        cases hj
        have := h1 i j (by omega) hjk'
        rw [hrk, Nat.add_assoc]
        exact this
/-- The address of an element. -/
theorem val_ia (t e : TypeId) (x y : Operand) (k : IntKind) (i : Nat) (own : Option Nat) (rows : List (List AV)) (r : List AV) (ie : TypeInfo) (ho : o.op = .indexAddr t x y) (ht : P.underlying t = some (.slice e)) (he : P.info? e = some ie)
    (hx : st.ev x = .ls own rows) (hy : st.ev y = .sc (.int k i)) (hr : rows[i]? = some r) (hl : r.length = ie.size) : ValOk P o st (.pr r) := by
  refine val_pure fun S m τ E st' a w hrel hev hv => ?_
  have h1 := hrel.ev x
  rw [hev x (by rw [ho]; simp [Op.operands]), hx] at h1
  have h2 := hrel.ev y
  rw [hev y (by rw [ho]; simp [Op.operands]), hy] at h2
  have h2 := RT_sc h2
  have h1 := RT_ls h1
  obtain ⟨A, c, hA⟩ := RC_ls h1
  rw [hA] at h1
  obtain ⟨b, n, rfl, hi, cs, g2, g3⟩ := RC_row h1 hr
  refine ⟨.pointer (some ⟨b, n + i * ie.size, none⟩), ?_, RC_to g2 fun j u hu => ?_⟩
  · unfold execOp
    rw [ho]
    simp [hA, h2, Instr.indexAt, asIntOf, run_underlying ht, sizeOf, typeInfo, he, hi, Addr.add_mid]
  · rw [← hl]; exact g3 j u hu
/-- What is read at an address: from the cells on. -/
theorem run_load_one {w : World} {b n : Nat} {ty : TypeId} {d : TypeDesc} {v : Value} (hu : P.underlying ty = some d) (hd : d.isRow = false) (hc : w.cell? ⟨b, n, none⟩ = some v) : (Instr.loadAt ty (.pointer (some ⟨b, n, none⟩))).run P w = .ok v w := by
  cases d <;> first | (simp [Instr.loadAt, Instr.sureAddr, loadVar, isAgg, run_underlying hu, hc]; done) | cases hd
/-- The cells at an address, in a state. -/
def Ast.at_ (st : Ast) : AV → Option (List AV)
  | .pt v n => (vget st.vars v).map (·.drop n)
  | .pr cs => some cs
  | _ => none
theorem Rel.at_ {E : En} {S : Nat → Nat → Prop} {m : Nat → Option Nat} {τ : Nat → Option Tk} {a : Act} {w : World} (h : Rel E S m τ st a w) {p : AV} {v : Value} {cs : List AV} (hp : RT w S m τ v p) (hc : st.at_ p = some cs) :
    ∃ b n, ∃ vs : List Value, v = .pointer (some ⟨b, n, none⟩) ∧ RL (RK w S τ) vs cs ∧ w.rangeAt b n vs := by
  cases p with
  | pt t n =>
    obtain ⟨b, g1, g2⟩ := hp
    simp only [Ast.at_] at hc
    cases hg : vget st.vars t with
    | none => rw [hg] at hc; cases hc
    | some row =>
      rw [hg] at hc
      cases hc
      obtain ⟨b', vs, ty, k1, k2, k3⟩ := h.vr t row hg
      rw [g1] at k1
      cases k1
      refine ⟨b, n, vs.drop n, g2, k3.drop n, fun j u hu => ?_⟩
      rw [List.getElem?_drop] at hu
      rw [cell_of_row w b (n + j) _ ty _ k2]
      simpa using hu
  | pr xs =>
    cases hc
    obtain ⟨b, n, vs, g1, g2, g3⟩ := RC_pr hp
    exact ⟨b, n, vs, g1, g2.imp fun v x g => RK.of g, fun j u hu => (g3 j u hu).2⟩
  | _ => cases hc
theorem val_ld (t : TypeId) (x : Operand) (d : TypeDesc) (cs : List AV) (y : AV) (ho : o.op = .load t x) (ht : P.underlying t = some d) (hd : d.isRow = false) (hx : st.at_ (st.ev x) = some cs) (hy : cs[0]? = some y) : ValOk P o st y := by
  refine val_pure fun S m τ E st' a w hr he hv => ?_
  have h1 := hr.ev x
  rw [he x (by rw [ho]; simp [Op.operands])] at h1
  have hx' : st'.at_ (st.ev x) = some cs := by
    rw [← hx]; unfold Ast.at_; rw [hv]
  obtain ⟨b, n, vs, g1, g2, g3⟩ := hr.at_ h1 hx'
  obtain ⟨v, k1, k2⟩ := g2.get hy
  refine ⟨v, ?_, RK_to k2⟩
  unfold execOp
  rw [ho]
  have hc := g3 0 v k1
  have := run_load_one (P := P) ht hd (by simpa using hc)
  simp [g1, this]
theorem val_ldr (t : TypeId) (x : Operand) (d : TypeDesc) (i : TypeInfo) (cs : List AV) (ho : o.op = .load t x) (ht : P.underlying t = some d) (hd : d.isRow = true) (hi : P.info? t = some i) (hx : st.at_ (st.ev x) = some cs) (hl : i.size ≤ cs.length) : ValOk P o st (.ag (cs.take i.size)) := by
  refine val_pure fun S m τ E st' a w hr he hv => ?_
  have h1 := hr.ev x
  rw [he x (by rw [ho]; simp [Op.operands])] at h1
  have hx' : st'.at_ (st.ev x) = some cs := by
    rw [← hx]; unfold Ast.at_; rw [hv]
  obtain ⟨b, n, vs, g1, g2, g3⟩ := hr.at_ h1 hx'
  refine ⟨.agg (vs.take i.size).toArray, ?_, vs.take i.size, rfl, g2.take _⟩
  unfold execOp
  rw [ho]
  have := run_loadAt_mid (P := P) w b n t (vs.take i.size) d (fun j v hj => by
    rw [List.getElem?_take] at hj
    split at hj
    · exact g3 j v hj
    · cases hj) ht hd (by rw [hi]; simp [g2.1, hl])
  simp [g1, this]
/-- A field of a struct. -/
theorem val_fd (t : TypeId) (x : Operand) (f : Nat) (fs : Array Field) (fl : Field) (d : TypeDesc) (cs : List AV) (y : AV) (ho : o.op = .field t x f) (ht : P.underlying t = some (.struct fs)) (hf : fs[f]? = some fl) (hu : P.underlying fl.type = some d) (hd : d.isRow = false)
    (hx : st.ev x = .ag cs) (hy : cs[fl.offset]? = some y) : ValOk P o st y := by
  refine val_pure fun S m τ E st' a w hr he hv => ?_
  have h1 := hr.ev x
  rw [he x (by rw [ho]; simp [Op.operands]), hx] at h1
  obtain ⟨vs, g1, g2⟩ := h1
  obtain ⟨v, k1, k2⟩ := g2.get hy
  refine ⟨v, ?_, RK_to k2⟩
  unfold execOp
  rw [ho]
  have hv' : vs.toArray[fl.offset]? = some v := by simpa using k1
  cases d <;> first | (simp [g1, Instr.field, run_underlying ht, hf, asAgg, part, isAgg, run_underlying hu, k1]; done) | cases hd
theorem val_fdr (t : TypeId) (x : Operand) (f : Nat) (fs : Array Field) (fl : Field) (d : TypeDesc) (i : TypeInfo) (cs : List AV) (ho : o.op = .field t x f) (ht : P.underlying t = some (.struct fs)) (hf : fs[f]? = some fl) (hu : P.underlying fl.type = some d) (hd : d.isRow = true) (hi : P.info? fl.type = some i)
    (hx : st.ev x = .ag cs) : ValOk P o st (.ag ((cs.drop fl.offset).take i.size)) := by
  refine val_pure fun S m τ E st' a w hr he hv => ?_
  have h1 := hr.ev x
  rw [he x (by rw [ho]; simp [Op.operands]), hx] at h1
  obtain ⟨vs, g1, g2⟩ := h1
  refine ⟨.agg ((vs.drop fl.offset).take i.size).toArray, ?_, _, rfl, (g2.drop _).take _⟩
  unfold execOp
  rw [ho]
  have hex : vs.toArray.extract fl.offset (fl.offset + i.size) = ((vs.drop fl.offset).take i.size).toArray := by
    rw [List.extract_toArray]
    simp
  cases d <;> first | (simp [g1, Instr.field, run_underlying ht, hf, asAgg, part, isAgg, run_underlying hu, sizeOf, typeInfo, hi]; done) | cases hd
/-- One of several results. -/
theorem val_ex (x : Operand) (i : Nat) (xs : List AV) (y : AV) (ho : o.op = .extract x i) (hx : st.ev x = .tp xs) (hy : xs[i]? = some y) (hs : y = .un ∨ ∀ z, y ≠ .tp z) : ValOk P o st y := by
  refine val_pure fun S m τ E st' a w hr he hv => ?_
  have h1 := hr.ev x
  rw [he x (by rw [ho]; simp [Op.operands]), hx] at h1
  obtain ⟨vs, g1, g2⟩ := h1
  obtain ⟨v, k1, k2⟩ := g2.get hy
  refine ⟨v, ?_, ?_⟩
  · unfold execOp
    rw [ho]
    simp [g1, Instr.extract, k1]
  · cases y with
    | un => trivial
    | ag ys => exact k2
    | sc _ => exact k2
    | pr cs => exact k2
    | fn k ks cs => exact k2
    | nl => exact k2
    | ls _ _ => exact k2
    | tp _ => exact k2.elim
    | pt _ _ => exact k2.elim
end
end Go.Proofs.YtjghgpmkepfdhaaGreatDoor
namespace Go.Proofs.YtjghgpmkepfdhaaGreatDoor
open Go.RowKit
set_option linter.unusedVariables false

theorem one_cells {v : Value} (h : v.oneCell' = true) : v.cells = #[v] := by cases v <;> first | rfl | cases h
/-- A value's cells. -/
def AV.cells : AV → Option (List AV)
  | .ag cs => some cs
  | .sc v => some [.sc v]
  | .nl => some [.nl]
  | .pr c => some [.pr c]
  | .fn k ks c => some [.fn k ks c]
  | .ls o r => some [.ls o r]
  | _ => none
theorem RT_cells {w : World} {S : Nat → Nat → Prop} {m : Nat → Option Nat} {τ : Nat → Option Tk} {v : Value} {x : AV} {row : List AV} (h : RT w S m τ v x) (hx : x.cells = some row) : ∃ cs : List Value, v.cells = cs.toArray ∧ RL (RK w S τ) cs row := by
  cases x with
  | ag xs =>
    cases hx
    obtain ⟨cs, rfl, h2⟩ := h
    exact ⟨cs, rfl, h2⟩
  | sc u =>
    cases hx
    have h : RK w S τ v (.sc u) := h
    exact ⟨[v], one_cells h.one, RL.cons h RL.nil⟩
  | nl =>
    cases hx
    have h : RK w S τ v .nl := h
    exact ⟨[v], one_cells h.one, RL.cons h RL.nil⟩
  | pr c =>
    cases hx
    have h : RK w S τ v (.pr c) := h
    exact ⟨[v], one_cells h.one, RL.cons h RL.nil⟩
  | fn k ks c =>
    cases hx
    have h : RK w S τ v (.fn k ks c) := h
    exact ⟨[v], one_cells h.one, RL.cons h RL.nil⟩
  | ls q r =>
    cases hx
    have h : RK w S τ v (.ls q r) := h
    exact ⟨[v], one_cells h.one, RL.cons h RL.nil⟩
  | _ => cases hx

theorem heap_cell (W : World) (g i : Nat) (cs : Array Value) (t : TypeId) (v : Value) (h : W.heap[g]? = some (.cells cs t (0, 0))) : (W.setCell ⟨g, i, none⟩ v).heap[g]? = some (.cells (cs.setIfInBounds i v) t (0, 0)) := by
  show (W.heap.modify g _)[g]? = _
  rw [Array.getElem?_modify, if_pos rfl, h]
  rfl
theorem set_cells {t : TypeId} (g : Nat) : ∀ (vs : List Value) (i : Nat) (W : World) (cs : List Value), W.heap[g]? = some (.cells cs.toArray t (0, 0)) → i + vs.length ≤ cs.length →
    (W.setCells g i vs).heap[g]? = some (.cells (cs.take i ++ vs ++ cs.drop (i + vs.length)).toArray t (0, 0))
  | [], i, W, cs, h, hl => by
    simp only [World.setCells, List.length_nil, Nat.add_zero, List.append_nil, List.take_append_drop]
    exact h
  | v :: r, i, W, cs, h, hl => by
    simp only [List.length_cons] at hl
    have h1 : (W.setCell ⟨g, i, none⟩ v).heap[g]? = some (.cells (cs.set i v).toArray t (0, 0)) := by
      have := heap_cell W g i cs.toArray t v h
      simpa using this
    have h2 := set_cells g r (i + 1) _ _ h1 (by simp; omega)
    have h3 : (cs.set i v).take (i + 1) ++ r ++ (cs.set i v).drop (i + 1 + r.length) = cs.take i ++ v :: r ++ cs.drop (i + (v :: r).length) := by
      have hi : i < cs.length := by omega
      rw [List.drop_set_of_lt (by omega), List.take_set, List.take_add_one, List.getElem?_eq_getElem hi]
      have : (List.take i cs ++ (some cs[i]).toList).set i v = List.take i cs ++ [v] := by
        rw [List.set_append_right _ _ (by simp; omega)]
        simp [Nat.min_eq_left (Nat.le_of_lt hi)]
      rw [this]
      simp [Nat.add_assoc, Nat.add_comm 1]
    rw [h3] at h2
    exact h2
theorem set_other {g b : Nat} (hb : b ≠ g) : ∀ (vs : List Value) (i : Nat) (W : World), (W.setCells g i vs).heap[b]? = W.heap[b]?
  | [], i, W => rfl
  | v :: r, i, W => (set_other hb r (i + 1) (W.setCell ⟨g, i, none⟩ v)).trans (Below.heap_setCell _ _ _ _ hb)
theorem set_outer (g : Nat) : ∀ (vs : List Value) (i : Nat) (W : World), (W.setCells g i vs).os = W.os ∧ (W.setCells g i vs).tape = W.tape ∧ (W.setCells g i vs).output = W.output ∧ (W.setCells g i vs).heap.size = W.heap.size
  | [], i, W => ⟨rfl, rfl, rfl, rfl⟩
  | v :: r, i, W => by
    obtain ⟨h1, h2, h3, h4⟩ := set_outer g r (i + 1) (W.setCell ⟨g, i, none⟩ v)
    exact ⟨h1, h2, h3, h4.trans (by simp)⟩
section
variable {P : Program} {o : Oper} {st : Ast}
theorem ok_store (t : TypeId) (x y : Operand) (v n : Nat) (i : TypeInfo) (old new : List AV) (ho : o.op = .store t x y) (hi : P.info? t = some i) (hx : st.ev x = .pt v n) (hv : vget st.vars v = some old) (hy : (st.ev y).cells = some new) (hl : new.length = i.size) (hb : n + new.length ≤ old.length) :
    OpOk P o st ((st.setVar v (old.take n ++ new ++ old.drop (n + new.length))).putD o.dst .un) := by
  refine ⟨putD_y .., fun r n0 E a w K Q hG ⟨S, m, τ, hr⟩ hk => ?_⟩
  have h1 := hr.ev x
  rw [hx] at h1
  obtain ⟨b, g1, g2⟩ := h1
  obtain ⟨b', cs, ty, k1, k2, k3⟩ := hr.vr v old hv
  rw [g1] at k1
  cases k1
  obtain ⟨vs, e1, e2⟩ := RT_cells (hr.ev y) hy
  have hlv : vs.length = new.length := e2.1
  have hlc : cs.length = old.length := k3.1
  have hone := e2.one fun v x g => g.one
  have hcell : ∀ j, j < vs.length → (w.cell? ⟨b, n + 0 + j, none⟩).isSome = true := fun j hj => by
    rw [cell_of_row w b _ _ ty _ k2]
    simp; omega
  have hst := run_storeCells_cells (P := P) b n vs 0 w hcell (fun j hj => frozen_of_row w b _ _ ty k2) hone
  have hrun : (execOp a.eval o).run P w = .ok .skip (w.setCells b n vs) := by
    unfold execOp
    rw [ho]
    have hsz : vs.length = i.size := by omega
    simp [g2, Instr.storeAt, Instr.sureAddr, storeVar, sizeOf, typeInfo, hi, e1, hsz, hst]
  obtain ⟨o1, o2, o3, o4⟩ := set_outer b vs n w
  have hrow : RL (RK w S τ) (cs.take n ++ vs ++ cs.drop (n + vs.length)) (old.take n ++ new ++ old.drop (n + new.length)) := by
    rw [hlv]
    exact ((k3.take n).app e2).app (k3.drop _)
  exact wpIn_skp hrun <| hk _ _ ⟨S, m, τ, (hr.setVar v b ty g1 hrow (set_cells b vs n w cs k2 (by omega)) (fun k hk => set_other hk vs n w) ⟨o1, o2, o3, o4⟩).put _ trivial⟩
theorem ok_new {d : Nat} (hd : o.dst = some d) (hd2 : d < 1000) (t : TypeId) (row : List AV) (h : ∀ (S : Nat → Nat → Prop) m τ E a w, Rel E S m τ st a w → ∃ cs : List Value, (execOp a.eval o).run P w = .ok (.value (.pointer (some ⟨w.heap.size, 0, none⟩))) (w.alloc (.cells cs.toArray t)) ∧ RL (RK w S τ) cs row) :
    OpOk P o st (((st.kill d).setVar d row).putD o.dst (.pt d 0)) := by
  refine ⟨putD_y .., fun r n E a w K Q hG ⟨S, m, τ, hr⟩ hk => ?_⟩
  obtain ⟨cs, h1, h2⟩ := h S m τ E a w hr
  exact wpIn_val h1 <| hk _ _ ⟨S, _, τ, (hr.newVar d hd2 t h2).put _ ⟨w.heap.size, by simp, rfl⟩⟩
theorem ok_alloc {d : Nat} (t : TypeId) (i : TypeInfo) (z : Value) (ho : o.op = .alloc t) (hd : o.dst = some d) (hd2 : d < 1000) (hi : P.info? t = some i) (hz : i.zero = some z) (h1 : z.cells.all (·.oneCell') = true) :
    OpOk P o st (((st.kill d).setVar d (z.cells.toList.map cAV0)).putD o.dst (.pt d 0)) := by
  refine ok_new hd hd2 t _ fun S m τ E a w hr => ⟨z.cells.toList, ?_, (RL_const _ fun v hv => (Array.all_eq_true_iff_forall_mem.1 h1) v (by simpa using hv)).imp fun v x g => RK.of g⟩
  unfold execOp
  rw [ho]
  simp [Instr.alloc, zeroValue, typeInfo, hi, hz, newVar, newRow]
theorem ok_box {d : Nat} (t : TypeId) (x : Operand) (row : List AV) (ho : o.op = .box t x) (hd : o.dst = some d) (hd2 : d < 1000) (hx : (st.ev x).cells = some row) : OpOk P o st (((st.kill d).setVar d row).putD o.dst (.pt d 0)) := by
  refine ok_new hd hd2 t _ fun S m τ E a w hr => ?_
  obtain ⟨cs, e1, e2⟩ := RT_cells (hr.ev x) hx
  refine ⟨cs, ?_, e2⟩
  unfold execOp
  rw [ho]
  simp [Instr.box, newVar, newRow, e1]

/-- Parts laid into cells. -/
def fillA (place : Nat → Option (Nat × Nat)) : List AV → List (Nat × List AV) → Option (List AV)
  | xs, [] => some xs
  | xs, (i, row) :: rest => match place i with
    | none => none
    | some (off, size) => if row.length = size ∧ off + row.length ≤ xs.length then fillA place (xs.take off ++ row ++ xs.drop (off + row.length)) rest else none
/-- The parts themselves. -/
def Ast.parts (st : Ast) : List (Nat × Operand) → Option (List (Nat × List AV))
  | [] => some []
  | (i, x) :: r => match (st.ev x).cells, st.parts r with
    | some row, some l => some ((i, row) :: l)
    | _, _ => none
theorem fold_cells (off : Nat) : ∀ (vs : List Value) (k : Nat) (cs : List Value), off + k + vs.length ≤ cs.length →
    (vs.zipIdx k).foldl (fun (cs : Array Value) (p : Value × Nat) => cs.setIfInBounds (off + p.2) p.1) cs.toArray = (cs.take (off + k) ++ vs ++ cs.drop (off + k + vs.length)).toArray
  | [], k, cs, h => by simp
  | v :: r, k, cs, h => by
    simp only [List.length_cons] at h
    simp only [List.zipIdx_cons, List.foldl_cons, List.setIfInBounds_toArray]
    rw [fold_cells off r (k + 1) (cs.set (off + k) v) (by simp; omega)]
    have hi : off + k < cs.length := by omega
    have h3 : (cs.set (off + k) v).take (off + (k + 1)) ++ r ++ (cs.set (off + k) v).drop (off + (k + 1) + r.length) = cs.take (off + k) ++ v :: r ++ cs.drop (off + k + (v :: r).length) := by
      rw [← Nat.add_assoc off k 1, List.drop_set_of_lt (by omega), List.take_set, List.take_add_one, List.getElem?_eq_getElem hi]
      have : (List.take (off + k) cs ++ (some cs[off + k]).toList).set (off + k) v = List.take (off + k) cs ++ [v] := by
        rw [List.set_append_right _ _ (by simp; omega)]
        simp [Nat.min_eq_left (Nat.le_of_lt hi)]
      rw [this]
      simp [Nat.add_assoc, Nat.add_comm 1]
    rw [h3]
theorem fill_rel {w : World} {S : Nat → Nat → Prop} {m : Nat → Option Nat} {τ : Nat → Option Tk} {a : Act} (hev : ∀ x, RT w S m τ (a.eval x) (st.ev x)) (place : Nat → Option (Nat × Nat)) : ∀ (ps : List (Nat × Operand)) (l : List (Nat × List AV)) (cs : List Value) (xs ys : List AV), st.parts ps = some l → RL (RK w S τ) cs xs → fillA place xs l = some ys →
    ∃ cs' : List Value, Instr.fill place cs.toArray (ps.map fun p => (p.1, a.eval p.2)) = some cs'.toArray ∧ RL (RK w S τ) cs' ys
  | [], l, cs, xs, ys, hp, hc, hf => by
    cases hp
    cases hf
    exact ⟨cs, rfl, hc⟩
  | (i, x) :: ps, l, cs, xs, ys, hp, hc, hf => by
    simp only [Ast.parts] at hp
    cases hx : (st.ev x).cells with
    | none => rw [hx] at hp; cases hp
    | some row =>
      cases hr : st.parts ps with
      | none => rw [hx, hr] at hp; cases hp
      | some l' =>
        rw [hx, hr] at hp
        cases hp
        simp only [fillA] at hf
        cases hpl : place i with
        | none => rw [hpl] at hf; cases hf
        | some p =>
          obtain ⟨off, size⟩ := p
          rw [hpl] at hf
          simp only at hf
          split at hf
          · rename_i hcond
            obtain ⟨h1, h2⟩ := hcond
            obtain ⟨vs, e1, e2⟩ := RT_cells (hev x) hx
            have hlv := e2.1
            have hlc := hc.1
            have hfo := fold_cells off vs 0 cs (by omega)
            simp only [Nat.add_zero] at hfo
            obtain ⟨cs', k1, k2⟩ := fill_rel hev place ps l' (cs.take off ++ vs ++ cs.drop (off + vs.length)) _ ys hr (by rw [hlv]; exact ((hc.take off).app e2).app (hc.drop _)) hf
            refine ⟨cs', ?_, k2⟩
            simp only [List.map_cons, Instr.fill, hpl, e1]
            have hsz : (decide (vs.toArray.size ≠ size) || decide (off + vs.toArray.size > cs.toArray.size)) = false := by simp; omega
            have hz : (vs.toArray.zipIdx.foldl (fun (cs : Array Value) (p : Value × Nat) => cs.setIfInBounds (off + p.2) p.1) cs.toArray) = (cs.take off ++ vs ++ cs.drop (off + vs.length)).toArray := by
              rw [← hfo]
              simp
            rw [hsz]
            rw [← k1, ← hz]
            rfl
          · cases hf
theorem val_build (t : TypeId) (ps : List (Nat × Operand)) (fs : Array Field) (it : TypeInfo) (z : Value) (places : List (Nat × Nat)) (l : List (Nat × List AV)) (ys : List AV) (ho : o.op = .build t ps.toArray) (hi : P.info? t = some it) (hu : P.underlying t = some (.struct fs)) (hz : it.zero = some z) (h1 : z.cells.all (·.oneCell') = true)
    (hp : fs.toList.mapM (fun f => (P.info? f.type).map fun i => (f.offset, i.size)) = some places) (hl : st.parts ps = some l) (hf : fillA (places.toArray[·]?) (z.cells.toList.map cAV0) l = some ys) : ValOk P o st (.ag ys) := by
  refine val_pure fun S m τ E st' a w hr he hv => ?_
  have hev : ∀ p ∈ ps, st'.ev p.2 = st.ev p.2 := fun p hp => he _ (by rw [ho]; simp [Op.operands]; exact ⟨_, hp⟩)
  have hl' : st'.parts ps = some l := by
    rw [← hl]
    clear hl hr he ho
    induction ps with
    | nil => rfl
    | cons p ps ih =>
      obtain ⟨i, x⟩ := p
      simp only [Ast.parts]
      rw [hev (i, x) (by simp), ih fun p hp => hev p (by simp [hp])]
  obtain ⟨cs', k1, k2⟩ := fill_rel hr.ev (places.toArray[·]?) ps l z.cells.toList _ ys hl' ((RL_const _ fun v hv => (Array.all_eq_true_iff_forall_mem.1 h1) v (by simpa using hv)).imp fun v x g => RK.of g) hf
  refine ⟨.agg cs'.toArray, ?_, cs', rfl, k2⟩
  have hb : P.built t (ps.map fun p => (p.1, a.eval p.2)) = some cs'.toArray := by
    unfold Program.built
    rw [hi, hu]
    simp only [hz, hp]
    simpa using k1
  unfold execOp
  rw [ho]
  have := run_build (P := P) w t (ps.map fun p => (p.1, a.eval p.2)).toArray cs'.toArray (by simpa using hb)
  simp only [List.map_toArray]
  simp [this]
theorem flat_get {k : Nat} : ∀ (rows : List (List AV)) (i j : Nat) (r : List AV) (x : AV), (∀ r ∈ rows, r.length = k) → rows[i]? = some r → r[j]? = some x → rows.flatten[i * k + j]? = some x
  | [], i, j, r, x, hk, hr, hx => by simp at hr
  | q :: rows, 0, j, r, x, hk, hr, hx => by
    simp at hr
    subst hr
    simp only [List.flatten_cons, Nat.zero_mul, Nat.zero_add]
    rw [List.getElem?_append_left (List.getElem?_eq_some_iff.1 hx).1]
    exact hx
  | q :: rows, i + 1, j, r, x, hk, hr, hx => by
    have hq := hk q (by simp)
    simp only [List.flatten_cons]
    rw [List.getElem?_append_right (by rw [hq, Nat.add_mul]; omega)]
    have : (i + 1) * k + j - q.length = i * k + j := by rw [hq, Nat.add_mul]; omega
    rw [this]
    exact flat_get rows i j r x (fun r hr => hk r (by simp [hr])) (by simpa using hr) hx
theorem cells_new (w : World) (cs : List Value) (e : TypeId) (j : Nat) : (w.alloc (.cells cs.toArray e)).cell? ⟨w.heap.size, j, none⟩ = cs[j]? := by
  have hn : (w.alloc (.cells cs.toArray e)).heap[w.heap.size]? = some (.cells cs.toArray e (0, 0)) := by
    show (w.heap.push _)[w.heap.size]? = _
    simp
  rw [cell_of_row _ _ _ _ _ _ hn]
  simp
theorem val_bslice (t e : TypeId) (len : Nat) (ps : List (Nat × Operand)) (ie : TypeInfo) (z : Value) (l : List (Nat × List AV)) (ys : List AV) (rows : List (List AV)) (ho : o.op = .buildSlice t len ps.toArray) (hu : P.underlying t = some (.slice e)) (hi : P.info? e = some ie) (hz : ie.zero = some z)
    (hsm : ¬ len * ie.size > 2 ^ 24) (hpos : ¬ len * ie.size = 0) (h1 : ((Array.range (len * ie.size)).map (z.cells[· % z.cells.size]!)).all (·.oneCell') = true) (hl : st.parts ps = some l)
    (hf : fillA (fun i => some (i * ie.size, ie.size)) (((Array.range (len * ie.size)).map (z.cells[· % z.cells.size]!)).toList.map cAV0) l = some ys) (hr : rows.flatten = ys.map AV.strip0) (hk : ∀ r ∈ rows, r.length = ie.size) (hn : rows.length = len) : ValOk P o st (.ls none rows) := by
  refine val_new fun S m τ E st' a w hrel he hv => ?_
  have hev : ∀ p ∈ ps, st'.ev p.2 = st.ev p.2 := fun p hp => he _ (by rw [ho]; simp [Op.operands]; exact ⟨_, hp⟩)
  have hl' : st'.parts ps = some l := by
    rw [← hl]
    clear hl hrel he ho
    induction ps with
    | nil => rfl
    | cons p ps ih =>
      obtain ⟨i, x⟩ := p
      simp only [Ast.parts]
      rw [hev (i, x) (by simp), ih fun p hp => hev p (by simp [hp])]
  obtain ⟨cs', k1, k2⟩ := fill_rel hrel.ev (fun i => some (i * ie.size, ie.size)) ps l _ _ ys hl' ((RL_const _ fun v hv => (Array.all_eq_true_iff_forall_mem.1 h1) v (by simpa using hv)).imp fun v x g => RK.of g) hf
  have hb : Below w.heap.size w (w.alloc (.cells cs'.toArray e)) := (Below.refl _ w).alloc (Nat.le_refl _) _
  have hc : ∀ b o, S b o → (w.alloc (.cells cs'.toArray e)).cell? ⟨b, o, none⟩ = w.cell? ⟨b, o, none⟩ := fun b o hs => hb.cell (cell_lt (hrel.sc b o hs))
  have hlen : ∀ (rows : List (List AV)), (∀ r ∈ rows, r.length = ie.size) → rows.flatten.length = rows.length * ie.size := by
    intro rows
    induction rows with
    | nil => simp
    | cons r rows ih =>
      intro hk
      have := ih fun r hr => hk r (by simp [hr])
      have := hk r (by simp)
      simp only [List.flatten_cons, List.length_append, List.length_cons, Nat.add_mul]
      omega
  have hl2 : cs'.length = len * ie.size := by
    rw [k2.1, ← hn, ← hlen rows hk, hr, List.length_map]
  refine ⟨.slice (some ⟨w.heap.size, 0, none⟩) len len, w.alloc (.cells cs'.toArray e), fun b o => S b o ∨ (b = w.heap.size ∧ o < len * ie.size), ?_, hb, fun b o h => .inl h, fun b o h => ?_, fun b o h => ?_, ?_⟩
  · unfold execOp
    rw [ho]
    have := run_buildSlice (P := P) w t e len (ps.map fun p => (p.1, a.eval p.2)).toArray cs'.toArray ie z hu hi hz hsm hpos (by simpa only [Array.toArray_toList] using k1)
    simp only [List.map_toArray]
    simp [this]
  · rcases h with h | ⟨h, _⟩
    · exact .inl h
    · exact .inr (by omega)
  · rcases h with h | ⟨rfl, h⟩
    · rw [hc b o h]; exact hrel.sc b o h
    · rw [cells_new]
      simp; omega
  · refine RC.ls w.heap.size 0 len len ie.size rows (fun i j => cs'.getD (i * ie.size + j) undef) hn (Nat.le_refl _) ?_ (fun i r hr => hk r (List.mem_of_getElem? hr)) (fun i j hi hj => ?_) (fun i j r x h3 h4 => ?_)
    · have hp : 0 < ie.size := Nat.pos_of_ne_zero fun h => hpos (by rw [h]; simp)
      have : len * 1 ≤ len * ie.size := Nat.mul_le_mul_left _ hp
      unfold maxLen
      omega
    · have hlt : i * ie.size + j < len * ie.size := by
        have : (i + 1) * ie.size ≤ len * ie.size := Nat.mul_le_mul_right _ hi
        rw [Nat.add_mul] at this
        omega
      rw [Nat.zero_add]
      refine ⟨.inr ⟨rfl, hlt⟩, ?_⟩
      rw [cells_new, List.getElem?_eq_getElem (by omega)]
      simp [List.getD, List.getElem?_eq_getElem (show i * ie.size + j < cs'.length by omega)]
    · have h5 := flat_get rows i j r x hk h3 h4
      rw [hr, List.getElem?_map] at h5
      cases h6 : ys[i * ie.size + j]? with
      | none => rw [h6] at h5; cases h5
      | some y =>
        rw [h6] at h5
        cases h5
        obtain ⟨v, k3, k4⟩ := k2.get h6
        have : cs'.getD (i * ie.size + j) undef = v := by simp [List.getD, k3]
        rw [this]
        exact k4.closed.mono (fun b o h => .inl h) hc
end
end Go.Proofs.YtjghgpmkepfdhaaGreatDoor
namespace Go.Proofs.YtjghgpmkepfdhaaGreatDoor
open Go.RowKit
set_option linter.unusedVariables false

def flatF (f : Nat → Nat → Value) (n k : Nat) : List Value := (List.range (n * k)).map fun p => f (p / k) (p % k)
theorem flatF_len (f : Nat → Nat → Value) (n k : Nat) : (flatF f n k).length = n * k := by simp [flatF]
theorem lt_flat {i j n k : Nat} (hi : i < n) (hj : j < k) : i * k + j < n * k := by
  have : (i + 1) * k ≤ n * k := Nat.mul_le_mul_right _ hi
  rw [Nat.add_mul] at this
  omega
theorem flatF_get (f : Nat → Nat → Value) {i j n k : Nat} (hi : i < n) (hj : j < k) : (flatF f n k)[i * k + j]? = some (f i j) := by
  unfold flatF
  rw [List.getElem?_map, List.getElem?_range (lt_flat hi hj)]
  have h1 : (i * k + j) / k = i := by
    rw [Nat.mul_comm, Nat.mul_add_div (by omega), Nat.div_eq_of_lt hj, Nat.add_zero]
  have h2 : (i * k + j) % k = j := by
    rw [Nat.mul_comm, Nat.mul_add_mod, Nat.mod_eq_of_lt hj]
  simp [h1, h2]
theorem flatF_cell {f : Nat → Nat → Value} {n k b o : Nat} {w : World} (h1 : ∀ i j, i < n → j < k → w.cell? ⟨b, o + (i * k + j), none⟩ = some (f i j)) : ∀ (j : Nat) u, (flatF f n k)[j]? = some u → w.cell? ⟨b, o + j, none⟩ = some u := fun j u hu => by
  have hj : j < n * k := by have := (List.getElem?_eq_some_iff.1 hu).1; rwa [flatF_len] at this
  have hk : 0 < k := by
    rcases Nat.eq_zero_or_pos k with h | h
    · subst h; omega
    · exact h
  have h2 := h1 (j / k) (j % k) (Nat.div_lt_of_lt_mul (by rw [Nat.mul_comm]; exact hj)) (Nat.mod_lt _ hk)
  have h3 : j / k * k + j % k = j := by rw [Nat.mul_comm]; exact Nat.div_add_mod j k
  rw [h3] at h2
  have h4 := flatF_get f (n := n) (Nat.div_lt_of_lt_mul (by rw [Nat.mul_comm]; exact hj)) (Nat.mod_lt j hk)
  rw [h3, hu] at h4
  cases h4
  exact h2
section
variable {P : Program} {o : Oper} {st : Ast}
theorem run_room (w : World) (t ty e e' : TypeId) (i : TypeInfo) (ht : P.underlying t = some (.slice e)) (hi : P.info? e = some i)
    (g sLen sCap : Nat) (cur : Array Value) (hg : w.heap[g]? = some (.cells cur e' (0, 0)))
    (a : Addr) (m c : Nat) (news : List Value) (hl : news.length = m * i.size) (hnews : ∀ (j : Nat) u, news[j]? = some u → w.cell? (a.add j) = some u) (h1 : ∀ u ∈ news, u.oneCell' = true)
    (hroom : sLen + m ≤ sCap) (hfit : sLen * i.size + news.length ≤ cur.size) :
    (Builtin.append_ #[t, t] ty #[.slice (some ⟨g, 0, none⟩) sLen sCap, .slice (some a) m c]).run P w =
      .ok (.slice (some ⟨g, 0, none⟩) (sLen + m) sCap) (w.setRow g (cur.toList.take (sLen * i.size) ++ news ++ cur.toList.drop (sLen * i.size + news.length)).toArray) := by
  have hf := run_firstCells_some (P := P) w i.size m a m c news hl hnews
  have hst := run_storeCells_at P g (sLen * i.size) e' news 0 cur w hg (by simpa using hfit) h1
  simp only [Nat.add_zero] at hst
  simp [Builtin.append_, run_underlying ht, sizeOf, typeInfo, hi, Builtin.lenOf, hroom, hf, Addr.add_lit, hst]
/-- A list, grown: what all three ways to append come to. -/
theorem app_core {E : En} {S : Nat → Nat → Prop} {m : Nat → Option Nat} {τ : Nat → Option Tk} {a : Act} {w : World} (hr : Rel E S m τ st a w) (q : Nat) (k : Tk) {w' : World} (ho : w'.os = w.os ∧ w'.tape = w.tape ∧ w'.output = w.output ∧ w.heap.size ≤ w'.heap.size)
    (hb : ∀ j, j < w.heap.size → j ≠ k.b → w'.heap[j]? = w.heap[j]?) (hk0 : E.w.heap.size ≤ k.b ∨ ∃ q' k', E.τ q' = some k' ∧ k'.b = k.b) (hkm : ∀ t, m t ≠ some k.b) (hkt : ∀ q' k', q' ≠ q → τ q' = some k' → k'.b ≠ k.b) (hkd : ∀ o, w.heap[k.b]? ≠ some (.deferred o))
    (R : List (List AV)) (hRne : R ≠ []) (F : Nat → Nat → Value) (hR : R.length = k.n) (hRk : ∀ (i : Nat) r, R[i]? = some r → r.length = k.k)
    (hcell : ∀ i j, i < k.n → j < k.k → w'.cell? ⟨k.b, i * k.k + j, none⟩ = some (F i j)) (hel : ∀ (i j : Nat) r x, R[i]? = some r → r[j]? = some x → RC w S (F i j) x)
    (hold : ∀ o, S k.b o → w'.cell? ⟨k.b, o, none⟩ = w.cell? ⟨k.b, o, none⟩ ∧ o < k.n * k.k)
    (hn : ∃ cur, w'.heap[k.b]? = some (.cells cur k.e (0, 0)) ∧ cur.size = k.c * k.k) (hnc : k.n ≤ k.c) (hcm : k.c ≤ maxLen) :
    ∃ S' τ', Rel E S' m τ' (st.dem q) a w' ∧ RT w' S' m τ' (.slice (some ⟨k.b, 0, none⟩) k.n k.c) (.ls (some q) R) := by
  have hc : ∀ b o, S b o → w'.cell? ⟨b, o, none⟩ = w.cell? ⟨b, o, none⟩ := fun b o hs => by
    by_cases hbk : b = k.b
    · subst hbk
      exact (hold o hs).1
    · exact World.cell?_of_block (a := ⟨b, o, none⟩) (hb b (cell_lt (hr.sc b o hs)) hbk)
  refine ⟨fun b o => S b o ∨ (b = k.b ∧ o < k.n * k.k), _, hr.turn q k ho hb hk0 hkm hkt hkd (fun b o h => .inl h) (fun b o h => h.imp id And.left) (fun b o h => ?_) (fun o h => (hold o h).1) hn hnc hcm (fun o ho h => ?_), ?_, fun e => absurd e hRne, fun _ => ⟨k, by simp, rfl, hR, hRk⟩⟩
  · rcases h with h | ⟨rfl, h⟩
    · rw [hc b o h]; exact hr.sc b o h
    · have hk : 0 < k.k := by
        rcases Nat.eq_zero_or_pos k.k with g | g
        · rw [g] at h; omega
        · exact g
      have h2 := hcell (o / k.k) (o % k.k) (Nat.div_lt_of_lt_mul (by rw [Nat.mul_comm]; exact h)) (Nat.mod_lt _ hk)
      have h3 : o / k.k * k.k + o % k.k = o := by rw [Nat.mul_comm]; exact Nat.div_add_mod o k.k
      rw [h3] at h2
      rw [h2]; rfl
  · rcases h with h | ⟨_, h⟩
    · have := (hold o h).2; omega
    · omega
  · refine RC.ls k.b 0 k.n k.c k.k R F hR hnc hcm hRk (fun i j hi hj => ⟨.inr ⟨rfl, ?_⟩, ?_⟩) (fun i j r x h3 h4 => (hel i j r x h3 h4).mono (fun b o h => .inl h) hc)
    · rw [Nat.zero_add]; exact lt_flat hi hj
    · rw [Nat.zero_add]; exact hcell i j hi hj
theorem RC_out {w : World} {S : Nat → Nat → Prop} {v : Value} {rows : List (List AV)} (h : RC w S v (.ls none rows)) (hne : rows ≠ []) (k : Nat) (hk : ∀ r ∈ rows, r.length = k) : ∃ b o c, ∃ f : Nat → Nat → Value, v = .slice (some ⟨b, o, none⟩) rows.length c ∧
    (∀ i j, i < rows.length → j < k → S b (o + (i * k + j)) ∧ w.cell? ⟨b, o + (i * k + j), none⟩ = some (f i j)) ∧ (∀ (i j : Nat) r x, rows[i]? = some r → r[j]? = some x → RC w S (f i j) x) := by
  cases h with
  | e A c => exact absurd rfl hne
  | ls b o n c k' _ f hn hc hm hk' h1 h2 =>
    have : k' = k := by
      cases rows with
      | nil => exact absurd rfl hne
      | cons r rows => rw [← hk r (by simp), hk' 0 r rfl]
    subst this
    subst hn
    exact ⟨b, o, c, f, rfl, h1, h2⟩
theorem flat_one {w : World} {S : Nat → Nat → Prop} {rows : List (List AV)} {k : Nat} {f : Nat → Nat → Value} (hk : ∀ r ∈ rows, r.length = k) (h2 : ∀ (i j : Nat) r x, rows[i]? = some r → r[j]? = some x → RC w S (f i j) x) : ∀ u ∈ flatF f rows.length k, u.oneCell' = true := fun u hu => by
  obtain ⟨p, hp⟩ := List.mem_iff_getElem?.1 hu
  have hlt : p < rows.length * k := by have := (List.getElem?_eq_some_iff.1 hp).1; rwa [flatF_len] at this
  have hkp : 0 < k := by
    rcases Nat.eq_zero_or_pos k with g | g
    · subst g; omega
    · exact g
  have hi : p / k < rows.length := Nat.div_lt_of_lt_mul (by rw [Nat.mul_comm]; exact hlt)
  have hj : p % k < k := Nat.mod_lt _ hkp
  have h3 : p / k * k + p % k = p := by rw [Nat.mul_comm]; exact Nat.div_add_mod p k
  have h4 := flatF_get f hi hj
  rw [h3, hp] at h4
  cases h4
  have hr : rows[p / k]? = some rows[p / k] := List.getElem?_eq_getElem hi
  have hl := hk _ (List.mem_of_getElem? hr)
  exact (h2 (p / k) (p % k) _ _ hr (List.getElem?_eq_getElem (by rw [hl]; exact hj))).one
/-- Which list a list is that is appended to: its name, and its elements. -/
def AV.onto (d : Nat) : AV → Option (Nat × List (List AV))
  | .nl => some (d, [])
  | .ls (some q) rows => some (q, rows)
  | _ => none
theorem add_z (g j : Nat) : (⟨g, 0, none⟩ : Addr).add j = ⟨g, j, none⟩ := by rw [Addr.add_mid, Nat.zero_add]
theorem ok_app (t e : TypeId) (x y : Operand) (nm q : Nat) (own' : Option Nat) (rows rows' : List (List AV)) (ie : TypeInfo) (z : Value) (ho : o.op = .call { callee := .builtin .append, args := #[x, y], argTypes := #[t, t] }) (ht : P.underlying t = some (.slice e)) (hi : P.info? e = some ie) (hz : ie.zero = some z) (hzs : z.cells.size = ie.size)
    (hpos : 0 < ie.size) (hx : (st.ev x).onto nm = some (q, rows)) (hy : st.ev y = .ls own' rows') (hne : rows' ≠ []) (hk' : ∀ r ∈ rows', r.length = ie.size) (hk : ∀ r ∈ rows, r.length = ie.size) (hbytes : (rows.length + rows'.length) * ie.bytes ≤ 140737488355328) (h63 : rows.length + rows'.length ≤ maxLen) :
    OpOk P o st ((st.dem q).putD o.dst (.ls (some q) (rows ++ rows'))) := by
  refine ⟨putD_y .., fun rr nn E a w K Q hG ⟨S, m, τ, hr⟩ hK => ?_⟩
  have h1 := hr.ev x
  have h2 := RT_ls (hy ▸ hr.ev y)
  obtain ⟨b, n, c, f, hvy, hf1, hf2⟩ := RC_out h2 hne ie.size hk'
  have hnews : ∀ (j : Nat) u, (flatF f rows'.length ie.size)[j]? = some u → w.cell? ((⟨b, n, none⟩ : Addr).add j) = some u := fun j u hu => by
    rw [Addr.add_mid]
    exact flatF_cell (fun i j hi hj => (hf1 i j hi hj).2) j u hu
  have hone := flat_one hk' hf2
  have hlen' : 0 < rows'.length := List.length_pos_iff.2 hne
  have hsmall : rows.length + rows'.length ≤ 9223372036854775807 := by unfold maxLen at h63; omega
  -- what the longer list's cells are
  have key : ∀ (g : Nat) (c' : Nat) (w' : World) (F0 : Nat → Nat → Value) (olds : List Value), olds = flatF F0 rows.length ie.size → (∀ (i j : Nat) r x, rows[i]? = some r → r[j]? = some x → RC w S (F0 i j) x) →
      w'.os = w.os ∧ w'.tape = w.tape ∧ w'.output = w.output ∧ w.heap.size ≤ w'.heap.size → (∀ j, j < w.heap.size → j ≠ g → w'.heap[j]? = w.heap[j]?) → (E.w.heap.size ≤ g ∨ ∃ q' k', E.τ q' = some k' ∧ k'.b = g) → (∀ t, m t ≠ some g) → (∀ q' k', q' ≠ q → τ q' = some k' → k'.b ≠ g) → (∀ o, w.heap[g]? ≠ some (.deferred o)) →
      (∃ cur e', w'.heap[g]? = some (.cells cur e' (0, 0)) ∧ cur.size = c' * ie.size ∧ cur.toList.take ((rows.length + rows'.length) * ie.size) = olds ++ flatF f rows'.length ie.size) → rows.length + rows'.length ≤ c' → c' ≤ maxLen →
      (∀ o, S g o → w'.cell? ⟨g, o, none⟩ = w.cell? ⟨g, o, none⟩ ∧ o < (rows.length + rows'.length) * ie.size) →
      (execOp a.eval o).run P w = .ok (.value (.slice (some ⟨g, 0, none⟩) (rows.length + rows'.length) c')) w' → o.wpIn (WF rr) nn P a w K Q := by
    intro g c' w' F0 olds hol hF0 ho' hb hk0 hkm hkt hkd hcur hnc hcm hold hrun
    obtain ⟨cur, e', hc1, hc2, hc3⟩ := hcur
    obtain ⟨S', τ', k1, k2⟩ := app_core hr q ⟨g, e', rows.length + rows'.length, c', ie.size⟩ ho' hb hk0 hkm hkt hkd (rows ++ rows') (by simp [hne]) (fun i j => if i < rows.length then F0 i j else f (i - rows.length) j) (by simp) (fun i r hi => by
        have := List.mem_of_getElem? hi
        rcases List.mem_append.1 this with g | g
        · exact hk r g
        · exact hk' r g) (fun i j hi hj => by
        have hlt : i * ie.size + j < (rows.length + rows'.length) * ie.size := lt_flat hi hj
        rw [cell_of_row w' g _ cur e' _ hc1, ← Array.getElem?_toList]
        have : cur.toList[i * ie.size + j]? = (cur.toList.take ((rows.length + rows'.length) * ie.size))[i * ie.size + j]? := by rw [List.getElem?_take, if_pos hlt]
        rw [this, hc3, hol]
        dsimp only at hi hj ⊢
        split
        · rename_i hir
          rw [List.getElem?_append_left (by rw [flatF_len]; exact lt_flat hir hj)]
          exact flatF_get F0 hir hj
        · rename_i hir
          have hge : rows.length * ie.size ≤ i * ie.size := Nat.mul_le_mul_right _ (by omega)
          rw [List.getElem?_append_right (by rw [flatF_len]; omega), flatF_len]
          have : i * ie.size + j - rows.length * ie.size = (i - rows.length) * ie.size + j := by rw [Nat.sub_mul]; omega
          rw [this]
          exact flatF_get f (by omega) hj) (fun i j r x h3 h4 => by
        split
        · rename_i hir
          rw [List.getElem?_append_left hir] at h3
          exact hF0 i j r x h3 h4
        · rename_i hir
          rw [List.getElem?_append_right (by omega)] at h3
          exact hf2 _ j r x h3 h4) hold ⟨cur, hc1, hc2⟩ hnc hcm
    exact wpIn_val hrun <| hK _ _ ⟨S', m, τ', k1.put _ k2⟩
  have fresh : ∀ (old : Nat), old < rows.length + rows'.length → ∀ (F0 : Nat → Nat → Value), (∀ (i j : Nat) r x, rows[i]? = some r → r[j]? = some x → RC w S (F0 i j) x) →
      (execOp a.eval o).run P w = .ok (.value (.slice (some ⟨w.heap.size, 0, none⟩) (rows.length + rows'.length) (grownCap w (rows.length + rows'.length) old e))) (w.drew.alloc (.cells ((flatF F0 rows.length ie.size).toArray ++ (flatF f rows'.length ie.size).toArray ++ Builtin.zeroCells z.cells (grownCap w (rows.length + rows'.length) old e - (rows.length + rows'.length))) e)) → o.wpIn (WF rr) nn P a w K Q := by
    intro old hold F0 hF0 hrun
    have hge := grownCap_ge w (rows.length + rows'.length) old e
    have hcm := grownCap_le_maxLen w (rows.length + rows'.length) old e h63
    have h0 := hr.bel.size
    refine key w.heap.size _ (w.drew.alloc (.cells ((flatF F0 rows.length ie.size).toArray ++ (flatF f rows'.length ie.size).toArray ++ Builtin.zeroCells z.cells (grownCap w (rows.length + rows'.length) old e - (rows.length + rows'.length))) e)) F0 _ rfl hF0 ⟨rfl, rfl, rfl, by simp⟩ (fun j hj hne => heap_alloc_old w.drew _ hj) (.inl h0) (fun t ht => absurd (hr.mB t _ ht).2.1 (by omega)) (fun q' k' _ hk' => ?_) (fun o e => by have := (Array.getElem?_eq_some_iff.1 e).1; omega) ⟨_, e, heap_alloc_new w.drew _, ?_, ?_⟩ hge hcm (fun o' ho' => ?_) hrun
    · obtain ⟨_, ⟨cur, g2, _⟩, _⟩ := hr.tk q' k' hk'
      have := (Array.getElem?_eq_some_iff.1 g2).1
      omega
    · simp only [Array.size_append, List.size_toArray, size_zeroCells, hzs, flatF_len, ← Nat.add_mul]
      congr 1
      omega
    · simp only [Array.toList_append, List.append_assoc]
      rw [← List.append_assoc, show (rows.length + rows'.length) * ie.size = (flatF F0 rows.length ie.size ++ flatF f rows'.length ie.size).length by simp [flatF_len, Nat.add_mul]]
      exact List.take_left
    · have := cell_lt (hr.sc _ _ ho'); omega
  have hex : ∀ v, a.eval x = v → (execOp a.eval o).run P w = ((Builtin.append_ #[t, t] o.type #[v, .slice (some ⟨b, n, none⟩) rows'.length c]).run P w).andThen fun v w => .ok (.value v) w := fun v hv => by
    unfold execOp
    rw [ho]
    simp [resolve, invoke, builtin, hv, hvy]
  cases hex1 : st.ev x with
  | nl =>
    rw [hex1] at hx h1
    cases hx
    have hv := RT_val h1 (u := .slice none 0 0) rfl
    have hrun := run_append_nil (P := P) w t o.type e ie z ht hi hz ⟨b, n, none⟩ rows'.length c _ (flatF_len f _ _) hnews hlen' (by simp at hsmall; omega) (by simp at hbytes; omega)
    refine fresh 0 (by simp; exact hlen') (fun _ _ => undef) (fun i j r x h3 => by simp at h3) ?_
    rw [hex _ hv, hrun]
    simp [flatF]
  | ls ow rs =>
    rw [hex1] at hx h1
    cases ow with
    | none => cases hx
    | some q0 =>
      cases rs with
      | nil =>
        cases hx
        have hv := h1.2.1 rfl
        have hrun := run_append_nil (P := P) w t o.type e ie z ht hi hz ⟨b, n, none⟩ rows'.length c _ (flatF_len f _ _) hnews hlen' (by simp at hsmall; omega) (by simp at hbytes; omega)
        refine fresh 0 (by simp; exact hlen') (fun _ _ => undef) (fun i j r x h3 => by simp at h3) ?_
        rw [hex _ hv, hrun]
        simp [flatF]
      | cons r0 rs =>
        cases hx
        obtain ⟨t5, -, h1⟩ := h1
        obtain ⟨tk, t1, t2, t3, t4⟩ := h1 (by simp)
        obtain ⟨b0, n0, c0, F0, hv0, hF1, hF2⟩ := RC_out t5 (by simp) ie.size hk
        rw [t2] at hv0
        injection hv0 with e1 e2 e3
        injection e1 with e1
        injection e1 with e4 e5
        subst e4
        subst e5
        clear e3
        have htk : tk.k = ie.size := by rw [← t4 0 r0 rfl, hk r0 (by simp)]
        obtain ⟨u1, ⟨cur, u2, u3⟩, u4, u5, u6⟩ := hr.tk q tk t1
        rw [htk] at u3 u6
        have hF1' : ∀ i j, i < (r0 :: rs).length → j < ie.size → w.cell? ⟨tk.b, i * ie.size + j, none⟩ = some (F0 i j) := fun i j hi hj => by
          have := (hF1 i j hi hj).2
          rwa [Nat.zero_add] at this
        by_cases hroom : (r0 :: rs).length + rows'.length ≤ tk.c
        · have hfit : (r0 :: rs).length * ie.size + (flatF f rows'.length ie.size).length ≤ cur.size := by
            rw [flatF_len, u3, ← Nat.add_mul]
            exact Nat.mul_le_mul_right _ hroom
          have hrun := run_room (P := P) w t o.type e tk.e ie ht hi tk.b (r0 :: rs).length tk.c cur u2 ⟨b, n, none⟩ rows'.length c _ (flatF_len f _ _) hnews hone hroom hfit
          have htake : cur.toList.take ((r0 :: rs).length * ie.size) = flatF F0 (r0 :: rs).length ie.size := by
            apply List.ext_getElem?
            intro p
            rw [List.getElem?_take]
            split
            · rename_i hp
              have hkp : 0 < ie.size := hpos
              have hpi : p / ie.size < (r0 :: rs).length := Nat.div_lt_of_lt_mul (by rw [Nat.mul_comm]; exact hp)
              have hpj : p % ie.size < ie.size := Nat.mod_lt _ hkp
              have h3 : p / ie.size * ie.size + p % ie.size = p := by rw [Nat.mul_comm]; exact Nat.div_add_mod p ie.size
              have h4 := flatF_get F0 hpi hpj
              have h5 := hF1' _ _ hpi hpj
              rw [h3] at h4 h5
              rw [h4, ← h5, cell_of_row w tk.b p cur tk.e _ u2, Array.getElem?_toList]
            · rename_i hp
              rw [List.getElem?_eq_none (by rw [flatF_len]; omega)]
          refine key tk.b tk.c (w.setRow tk.b (cur.toList.take ((r0 :: rs).length * ie.size) ++ flatF f rows'.length ie.size ++ cur.toList.drop ((r0 :: rs).length * ie.size + (flatF f rows'.length ie.size).length)).toArray) F0 _ rfl hF2 ⟨rfl, rfl, rfl, by simp⟩ (fun j hj hne => setRow_other w tk.b j _ hne) u1 (fun t ht => hr.mt t _ q tk ht t1 rfl) (fun q' k' hne hk' e => hne (hr.ti q' q k' tk hk' t1 e)) (fun o e => by rw [u2] at e; cases e) ⟨_, tk.e, setRow_heap w tk.b cur _ tk.e _ u2, ?_, ?_⟩ hroom u5 (fun o' ho' => ?_) ?_
          · simp only [List.size_toArray, List.length_append, List.length_take, List.length_drop, Array.length_toList]
            omega
          · simp only
            rw [htake, List.append_assoc, ← List.append_assoc]
            rw [show ((r0 :: rs).length + rows'.length) * ie.size = (flatF F0 (r0 :: rs).length ie.size ++ flatF f rows'.length ie.size).length by rw [List.length_append, flatF_len, flatF_len, Nat.add_mul]]
            exact List.take_left
          · have ho2 : o' < (r0 :: rs).length * ie.size := by
              rcases Nat.lt_or_ge o' ((r0 :: rs).length * ie.size) with g | g
              · exact g
              · exact absurd ho' (u6 o' (by rw [← t3]; exact g))
            refine ⟨?_, by rw [Nat.add_mul]; omega⟩
            rw [cell_of_row _ tk.b o' _ tk.e _ (setRow_heap w tk.b cur _ tk.e _ u2), cell_of_row w tk.b o' cur tk.e _ u2]
            rw [List.getElem?_toArray, List.append_assoc, List.getElem?_append_left (by rw [htake, flatF_len]; exact ho2), List.getElem?_take, if_pos ho2, Array.getElem?_toList]
          · rw [hex _ t2, ← t3, hrun]
            rfl
        · have holds : ∀ (j : Nat) u, (flatF F0 (r0 :: rs).length ie.size)[j]? = some u → w.cell? ((⟨tk.b, 0, none⟩ : Addr).add j) = some u := fun j u hu => by
            rw [Addr.add_mid]
            exact flatF_cell (fun i j hi hj => (hF1 i j hi hj).2) j u hu
          have hrun := run_append_grow (P := P) w t o.type e ie z ht hi hz ⟨tk.b, 0, none⟩ (r0 :: rs).length tk.c _ (flatF_len F0 _ _) holds ⟨b, n, none⟩ rows'.length c _ (flatF_len f _ _) hnews (by omega) (by omega) (growslice_fits (by omega) hbytes)
          refine fresh tk.c (by omega) F0 hF2 ?_
          rw [hex _ t2, ← t3, hrun]
          rfl
  | _ => rw [hex1] at hx; cases hx

/-- A function, told without memory: what it hands back for such arguments. -/
def PCalls (P : Program) (F : FuncId) (args : List AV) (r : AV) : Prop := ∀ (w : World) (S : Nat → Nat → Prop) (vs : List Value), Gw w → (∀ b o, S b o → (w.cell? ⟨b, o, none⟩).isSome = true) → RL (RV w S) vs args →
  Calls P F vs.toArray w fun e w' => ∃ v S', e = .returned v ∧ RV w' S' v r ∧ Below w.heap.size w w' ∧ (∀ b o, S b o → S' b o) ∧ (∀ b o, S' b o → S b o ∨ w.heap.size ≤ b) ∧ (∀ b o, S' b o → (w'.cell? ⟨b, o, none⟩).isSome = true)
theorem run_enter {f : FuncId} {fn : Func} {c : Code} (hf : P.funcs[f]? = some fn) (hname : (fn.name == "runtime.NumGoroutine") = false) (hb : fn.body = some c) (args : Array Value) (w : World) : (callFunc f args).run P w = .ok (.enter f args) w := by
  have h1 : fn.name ≠ "runtime.NumGoroutine" := by simpa using hname
  simp [callFunc, hf, h1, hb]
theorem val_call (F : FuncId) (xs : List Operand) (ts : Array TypeId) (args : List AV) (r : AV) (ho : o.op = .call { callee := .value (.func F), args := xs.toArray, argTypes := ts }) (hargs : xs.map (fun x => (st.ev x).strip) = args) (hc : PCalls P F args r) (he : ∀ vs w, (callFunc F vs).run P w = .ok (.enter F vs) w) : ValOk P o st r := by
  intro st' hev hvars
  refine ⟨putD_y .., fun r n E a w K Q hG ⟨S, m, τ, hr⟩ hk => ?_⟩
  have hrun : (execOp a.eval o).run P w = .ok (.enter F (xs.map a.eval).toArray) w := by
    unfold execOp
    rw [ho]
    simp [resolve, invoke, Act.eval, Deferred.ofValue, he]
  have hl : RL (RV w S) (xs.map a.eval) args := by
    rw [← hargs]
    refine ⟨by simp, fun j v x hv hx => ?_⟩
    rw [List.getElem?_map] at hv hx
    cases hj : xs[j]? with
    | none => rw [hj] at hv; cases hv
    | some y =>
      rw [hj] at hv hx
      cases hv
      cases hx
      show RV w S (a.eval y) (st.ev y).strip
      rw [← hev y (by rw [ho]; simp [Op.operands, Call.operands]; exact .inr (List.mem_of_getElem? hj))]
      exact (hr.ev y).closed
  refine wpIn_ent hrun (hc w S _ (hG.now hr.bel) hr.sc hl) ?_
  rintro e w' ⟨v, S', rfl, h1, h2, h3, h4, h5⟩
  refine ⟨v, rfl, ?_⟩
  exact hk _ _ ⟨S', m, τ, (hr.grow h2 h3 h4 h5).put _ h1.open⟩
end
end Go.Proofs.YtjghgpmkepfdhaaGreatDoor
namespace Go.Proofs.YtjghgpmkepfdhaaGreatDoor
open Go.RowKit
set_option linter.unusedVariables false

def Ast.yield (ops : Array Oper) (st : Ast) (j : Nat) : Option Bool := match ((ops[j]?).bind (·.dst)).bind (st.tmps[·]?) with
  | some (.sc (.bool b)) => some b
  | _ => none
/-- Was an operation left out? -/
def Ast.gone (ops : Array Oper) (st : Ast) (j : Nat) : Bool := match ((ops[j]?).bind (·.dst)).bind (st.tmps[·]?) with
  | some (.tp []) => true
  | _ => false
/-- Is an operation wanted? -/
def Wants (ops : Array Oper) (o : Oper) (st : Ast) (b : Bool) : Prop := match o.guard with
  | none => b = true
  | some (j, want) => (∃ c, st.yield ops j = some c ∧ (c == want) = b) ∨ (st.gone ops j = true ∧ b = false)
/-- What is known of the places from which a function's code began, and of the rounds that it may ask for. -/
structure YC (P : Program) (C : En → Yst → Prop) : Prop where
  gl : ∀ (E : En) (y : Yst), C E y → GOk E
  no : ∀ (E : En) (y : Yst), C E y → y.yl ≠ none → E.m = (fun _ => none) ∧ E.τ = (fun _ => none)
  stab : ∀ (E : En) (y : Yst) (w : World) (S : Nat → Nat → Prop), C E y → y.yl ≠ none → Same E w → (∀ b o, E.S b o → S b o) → (∀ b o, S b o → E.S b o ∨ E.w.heap.size ≤ b) → (∀ b o, S b o → (w.cell? ⟨b, o, none⟩).isSome = true) → (∀ b o, E.S b o → w.cell? ⟨b, o, none⟩ = E.w.cell? ⟨b, o, none⟩) → C ⟨w, S, fun _ => none, fun _ => none⟩ y
  yld : ∀ (E : En) (h : Nat) (Y : Ys) (row : List AV) (vs : List Value), C E ⟨h, some Y⟩ → (h = 0 ∨ Y.ans (h - 1) = true) → Y.items[h]? = some row → RL (RV E.w E.S) vs row → (∀ b o, E.S b o → (E.w.cell? ⟨b, o, none⟩).isSome = true) → YieldAt Fence.wide 0 P Y.l vs.toArray E.w fun e w' =>
    e = .returned (.bool (Y.ans h)) ∧ ∃ S' : Nat → Nat → Prop, (∀ b o, E.S b o → S' b o ∧ w'.cell? ⟨b, o, none⟩ = E.w.cell? ⟨b, o, none⟩) ∧ (∀ b o, S' b o → (w'.cell? ⟨b, o, none⟩).isSome = true) ∧ C ⟨w', S', fun _ => none, fun _ => none⟩ ⟨h + 1, some Y⟩
def StA (C : En → Yst → Prop) (st : Ast) (a : Act) (w : World) : Prop := ∃ E, C E st.y ∧ St E st a w
/-- The same, of an operation that may ask for a round. -/
def YOp (P : Program) (o : Oper) (st st' : Ast) : Prop := ∀ (C : En → Yst → Prop), YC P C → ∀ (r : Option Nat) (n : Nat) (a : Act) (w : World) (K : Act → World → Prop) (Q : Exit → Act → World → Prop),
  StA C st a w → (∀ a' w', StA C st' a' w' → K a' w') → o.wpIn (WF r) n P a w K Q
theorem OpOk.y {P : Program} {o : Oper} {st st' : Ast} (h : OpOk P o st st') : YOp P o st st' := fun C hC r n a w K Q ⟨E, hc, hs⟩ hk => h.2 r n E a w K Q (hC.gl E _ hc) hs fun a' w' hs' => hk a' w' ⟨E, by rw [h.1]; exact hc, hs'⟩
/-- Operations, one behind the other. -/
inductive Run (P : Program) (ops : Array Oper) (wr : Nat → Bool) : List Nat → Ast → Ast → Prop
  | nil (st : Ast) : Run P ops wr [] st st
  | val {i : Nat} {l : List Nat} {o : Oper} {x : AV} {st st' : Ast} (ho : ops[i]? = some o) (hw : wr i = false) (hg : Wants ops o st true) (hv : ValOk P o st x) (h : Run P ops wr l (st.putD o.dst x) st') : Run P ops wr (i :: l) st st'
  | no {i : Nat} {l : List Nat} {o : Oper} {st st' : Ast} (ho : ops[i]? = some o) (hw : wr i = false) (hg : Wants ops o st false) (h : Run P ops wr l (st.putD o.dst (.tp [])) st') : Run P ops wr (i :: l) st st'
  | op {i : Nat} {l : List Nat} {o : Oper} {st st1 st' : Ast} (ho : ops[i]? = some o) (hw : wr i = true) (hg : o.guard = none) (hv : OpOk P o st st1) (h : Run P ops wr l st1 st') : Run P ops wr (i :: l) st st'
  | yop {i : Nat} {l : List Nat} {o : Oper} {st st1 st' : Ast} (ho : ops[i]? = some o) (hw : wr i = true) (hg : Wants ops o st true) (hv : YOp P o st st1) (h : Run P ops wr l st1 st') : Run P ops wr (i :: l) st st'
  | yno {i : Nat} {l : List Nat} {o : Oper} {st st' : Ast} (ho : ops[i]? = some o) (hw : wr i = true) (hg : Wants ops o st false) (h : Run P ops wr l (st.putD o.dst (.tp [])) st') : Run P ops wr (i :: l) st st'
section
variable {P : Program} {ops : Array Oper} {wr : Nat → Bool}
theorem yields {E : En} {S : Nat → Nat → Prop} {m : Nat → Option Nat} {τ : Nat → Option Tk} {st : Ast} {a : Act} {w : World} (h : Rel E S m τ st a w) {j : Nat} {c : Bool} (hy : st.yield ops j = some c) : yielded ops a.tmps j = some c := by
  unfold Ast.yield at hy
  unfold yielded
  cases hd : (ops[j]?).bind (·.dst) with
  | none => rw [hd] at hy; cases hy
  | some d =>
    rw [hd] at hy
    simp only [Option.bind_some] at hy ⊢
    cases hx : st.tmps[d]? with
    | none => rw [hx] at hy; cases hy
    | some x =>
      rw [hx] at hy
      have hr := h.tm d x hx
      have hlt : d < a.tmps.size := by rw [h.sz]; exact (List.getElem?_eq_some_iff.1 hx).1
      cases x with
      | sc v =>
        cases v with
        | bool b =>
          cases hy
          have := RT_sc hr
          rw [Array.getD_eq_getD_getElem?, Array.getElem?_eq_getElem hlt] at this
          rw [Array.getElem?_eq_getElem hlt]
          simp at this
          rw [this]
        | _ => cases hy
      | _ => cases hy
theorem gone_y {E : En} {S : Nat → Nat → Prop} {m : Nat → Option Nat} {τ : Nat → Option Tk} {st : Ast} {a : Act} {w : World} (h : Rel E S m τ st a w) {j : Nat} (hy : st.gone ops j = true) : yielded ops a.tmps j = none := by
  unfold Ast.gone at hy
  unfold yielded
  cases hd : (ops[j]?).bind (·.dst) with
  | none => rw [hd] at hy; cases hy
  | some d =>
    rw [hd] at hy
    simp only [Option.bind_some] at hy ⊢
    cases hx : st.tmps[d]? with
    | none => rw [hx] at hy; cases hy
    | some x =>
      rw [hx] at hy
      have hr := h.tm d x hx
      have hlt : d < a.tmps.size := by rw [h.sz]; exact (List.getElem?_eq_some_iff.1 hx).1
      cases x with
      | tp xs =>
        cases xs with
        | nil =>
          obtain ⟨cs, h1, h2⟩ := hr
          have : cs = [] := List.eq_nil_of_length_eq_zero h2.1
          subst this
          rw [Array.getD_eq_getD_getElem?, Array.getElem?_eq_getElem hlt] at h1
          rw [Array.getElem?_eq_getElem hlt]
          simp at h1
          rw [h1]
        | cons _ _ => cases hy
      | _ => cases hy
theorem wants {E : En} {st : Ast} {a : Act} {w : World} (h : St E st a w) {o : Oper} {b : Bool} (hg : Wants ops o st b) : Region.wanted o (yielded ops a.tmps) = b := by
  obtain ⟨S, m, τ, h⟩ := h
  unfold Wants at hg
  unfold Region.wanted
  split at hg
  · rename_i hn; rw [hn]; exact hg.symm
  · rename_i j want hn
    rw [hn]
    simp only
    rcases hg with ⟨c, h1, h2⟩ | ⟨h1, rfl⟩
    · rw [yields h h1, ← h2]
      cases c <;> cases want <;> rfl
    · rw [gone_y h h1]
      cases want <;> rfl
theorem St.un {E : En} {st : Ast} {a : Act} {w : World} (h : St E st a w) (d : Option Tmp) : St E (st.putD d (.tp [])) (a.put d undef) w := by
  obtain ⟨S, m, τ, h⟩ := h
  exact ⟨S, m, τ, h.put d ⟨[], rfl, RL.nil⟩⟩
theorem StA.un {C : En → Yst → Prop} {st : Ast} {a : Act} {w : World} (h : StA C st a w) (d : Option Tmp) : StA C (st.putD d (.tp [])) (a.put d undef) w := by
  obtain ⟨E, hc, hs⟩ := h
  exact ⟨E, by rw [putD_y]; exact hc, hs.un d⟩
theorem StA.wants {C : En → Yst → Prop} {st : Ast} {a : Act} {w : World} (h : StA C st a w) {o : Oper} {b : Bool} (hg : Wants ops o st b) : Region.wanted o (yielded ops a.tmps) = b := by
  obtain ⟨E, hc, hs⟩ := h
  exact Go.Proofs.YtjghgpmkepfdhaaGreatDoor.wants hs hg
/-- One step of a run, whatever comes behind. -/
theorem Run.step {C : En → Yst → Prop} (hC : YC P C) {r : Option Nat} {n : Nat} {i : Nat} {l : List Nat} {st st' : Ast} (h : Run P ops wr (i :: l) st st') {a : Act} {w : World} (hs : StA C st a w) {K : Act → World → Prop} {Q : Exit → Act → World → Prop} (hk : ∀ st1 a' w', StA C st1 a' w' → Run P ops wr l st1 st' → K a' w') : wpOpIn (WF r) n P ops Q i K a w := by
  cases h with
  | val ho hw hg hv h =>
    unfold wpOpIn
    rw [ho]
    simp only
    rw [if_pos (hs.wants hg)]
    exact hv.ok.y C hC r n a w K Q hs fun a' w' hs' => hk _ a' w' hs' h
  | no ho hw hg h =>
    unfold wpOpIn
    rw [ho]
    simp only
    rw [if_neg (by rw [hs.wants hg]; simp)]
    exact ⟨fun _ _ => trivial, hk _ _ _ (hs.un _) h⟩
  | op ho hw hg hv h =>
    unfold wpOpIn
    rw [ho]
    simp only
    rw [if_pos (by unfold Region.wanted; rw [hg])]
    exact hv.y C hC r n a w K Q hs fun a' w' hs' => hk _ a' w' hs' h
  | yop ho hw hg hv h =>
    unfold wpOpIn
    rw [ho]
    simp only
    rw [if_pos (hs.wants hg)]
    exact hv C hC r n a w K Q hs fun a' w' hs' => hk _ a' w' hs' h
  | yno ho hw hg h =>
    unfold wpOpIn
    rw [ho]
    simp only
    rw [if_neg (by rw [hs.wants hg]; simp)]
    exact ⟨fun _ _ => trivial, hk _ _ _ (hs.un _) h⟩
theorem Run.listed {C : En → Yst → Prop} (hC : YC P C) {r : Option Nat} {n : Nat} {Q : Exit → Act → World → Prop} : ∀ (l : List Nat) {st st' : Ast} (h : Run P ops wr l st st') {a : Act} {w : World} (hs : StA C st a w) (hk : ∀ a' w', StA C st' a' w' → Q .normal a' w'), wpOpsIn (WF r) n P ops Q l a w
  | [], st, st', h, a, w, hs, hk => by
    cases h
    exact hk a w hs
  | i :: l, st, st', h, a, w, hs, hk => by
    rw [wpOpsIn_cons]
    exact h.step hC hs fun st1 a' w' hs' h' => Run.listed hC l h' hs' hk

theorem ev_put {st : Ast} {d : Option Tmp} {x : AV} {y : Operand} (h : ∀ t, d = some t → y ≠ .tmp t) : (st.putD d x).ev y = st.ev y := by
  cases d with
  | none => rfl
  | some t =>
    cases y with
    | tmp s =>
      have : t ≠ s := fun e => h t rfl (by rw [e])
      simp only [Ast.putD, Ast.ev]
      rw [List.getElem?_set_ne this]
    | const v => rfl
    | global g => rfl
    | func f => rfl
theorem vars_put {st : Ast} {d : Option Tmp} {x : AV} : (st.putD d x).vars = st.vars := by cases d <;> rfl
theorem put_put {st : Ast} {d d' : Option Tmp} {x x' : AV} (h : ∀ t, d = some t → d' ≠ some t) : (st.putD d x).putD d' x' = (st.putD d' x').putD d x := by
  cases d with
  | none => rfl
  | some t =>
    cases d' with
    | none => rfl
    | some t' =>
      have : t ≠ t' := fun e => h t rfl (by rw [e])
      simp only [Ast.putD]
      rw [List.set_comm _ _ this]
theorem ValOk.congr {o : Oper} {st st2 : Ast} {x : AV} (h : ValOk P o st x) (he : ∀ y, y ∈ o.op.operands → st2.ev y = st.ev y) (hv : st2.vars = st.vars) : ValOk P o st2 x := fun st' h1 h2 => h st' (fun y hy => (h1 y hy).trans (he y hy)) (h2.trans hv)
theorem looks_op {o : Oper} {t : Tmp} (h : t ∉ o.looksAt ops) : ∀ y, y ∈ o.op.operands → y ≠ .tmp t := fun y hy e => by
  subst e
  apply h
  unfold Oper.looksAt
  apply List.mem_append_left
  rw [List.mem_filterMap]
  exact ⟨.tmp t, by simpa using hy, rfl⟩
theorem Wants.congr {o : Oper} {st : Ast} {b : Bool} {d : Option Tmp} {x : AV} (hl : ∀ t, d = some t → t ∉ o.looksAt ops) : Wants ops o (st.putD d x) b ↔ Wants ops o st b := by
  unfold Wants
  split
  · exact Iff.rfl
  · rename_i j want hg
    have : (st.putD d x).yield ops j = st.yield ops j := by
      cases d with
      | none => rfl
      | some t =>
        unfold Ast.yield
        cases hd : (ops[j]?).bind (·.dst) with
        | none => rfl
        | some s =>
          have hne : t ≠ s := fun e => by
            subst e
            apply hl t rfl
            unfold Oper.looksAt
            apply List.mem_append_right
            rw [hg]
            simp [hd]
          simp only [Ast.putD, Option.bind_some]
          rw [List.getElem?_set_ne hne]
    have hg2 : (st.putD d x).gone ops j = st.gone ops j := by
      cases d with
      | none => rfl
      | some t =>
        unfold Ast.gone
        cases hd : (ops[j]?).bind (·.dst) with
        | none => rfl
        | some s =>
          have hne : t ≠ s := fun e => by
            subst e
            apply hl t rfl
            unfold Oper.looksAt
            apply List.mem_append_right
            rw [hg]
            simp [hd]
          simp only [Ast.putD, Option.bind_some]
          rw [List.getElem?_set_ne hne]
    rw [this, hg2]
/-- Two operations that have nothing to do with one another, the other way round. -/
theorem Run.swap {i j : Nat} {l : List Nat} {st st' : Ast} {oi oj : Oper} (h : Run P ops wr (i :: j :: l) st st') (hi : ops[i]? = some oi) (hj : ops[j]? = some oj) (hwi : wr i = false) (hwj : wr j = false) (ha : oi.apart ops oj = true) : Run P ops wr (j :: i :: l) st st' := by
  obtain ⟨h1, h2, h3⟩ := Oper.apart_spec ha
  have back : ∀ (xi : AV) (st : Ast), (∀ y, y ∈ oj.op.operands → (st.putD oi.dst xi).ev y = st.ev y) := fun xi st y hy => ev_put fun t ht => looks_op (h1 t ht) y hy
  have forth : ∀ (xj : AV) (st : Ast), (∀ y, y ∈ oi.op.operands → (st.putD oj.dst xj).ev y = st.ev y) := fun xj st y hy => ev_put fun t ht => looks_op (h3 t ht) y hy
  have key : ∀ (xi : AV), (∀ xj, (Wants ops oi (st.putD oj.dst xj) true ∧ ValOk P oi (st.putD oj.dst xj) xi) ∨ (Wants ops oi (st.putD oj.dst xj) false ∧ xi = .tp [])) → Run P ops wr (j :: l) (st.putD oi.dst xi) st' → Run P ops wr (j :: i :: l) st st' := by
    intro xi hx h
    have close : ∀ xj, Run P ops wr l ((st.putD oi.dst xi).putD oj.dst xj) st' → Run P ops wr (i :: l) (st.putD oj.dst xj) st' := fun xj h => by
      rw [put_put h2] at h
      rcases hx xj with ⟨g1, g2⟩ | ⟨g1, rfl⟩
      · exact .val hi hwi g1 g2 h
      · exact .no hi hwi g1 h
    cases h with
    | val ho hw hg hv h =>
      rw [hj] at ho
      cases ho
      exact .val hj hwj ((Wants.congr h1).1 hg) (hv.congr (fun y hy => (back xi st y hy).symm) vars_put.symm) (close _ h)
    | no ho hw hg h =>
      rw [hj] at ho
      cases ho
      exact .no hj hwj ((Wants.congr h1).1 hg) (close _ h)
    | op ho hw hg hv h => rw [hwj] at hw; cases hw
    | yop ho hw hg hv h => rw [hwj] at hw; cases hw
    | yno ho hw hg h => rw [hwj] at hw; cases hw
  cases h with
  | val ho hw hg hv h =>
    rw [hi] at ho
    cases ho
    exact key _ (fun xj => .inl ⟨(Wants.congr h3).2 hg, hv.congr (forth xj st) vars_put⟩) h
  | no ho hw hg h =>
    rw [hi] at ho
    cases ho
    exact key _ (fun xj => .inr ⟨(Wants.congr h3).2 hg, rfl⟩) h
  | op ho hw hg hv h => rw [hwi] at hw; cases hw
  | yop ho hw hg hv h => rw [hwi] at hw; cases hw
  | yno ho hw hg h => rw [hwi] at hw; cases hw
/-- May two operations stand the other way round? -/
def swapOk (ops : Array Oper) (wr : Nat → Bool) (j i : Nat) : Bool := !wr j && !wr i && match ops[j]?, ops[i]? with
  | some oj, some oi => oj.apart ops oi
  | _, _ => false
theorem Run.inv {i : Nat} {l : List Nat} {st st' : Ast} (h : Run P ops wr (i :: l) st st') : ∃ st1, Run P ops wr l st1 st' ∧ ∀ l' st2, Run P ops wr l' st1 st2 → Run P ops wr (i :: l') st st2 := by
  cases h with
  | val ho hw hg hv h => exact ⟨_, h, fun l' st2 h' => .val ho hw hg hv h'⟩
  | no ho hw hg h => exact ⟨_, h, fun l' st2 h' => .no ho hw hg h'⟩
  | op ho hw hg hv h => exact ⟨_, h, fun l' st2 h' => .op ho hw hg hv h'⟩
  | yop ho hw hg hv h => exact ⟨_, h, fun l' st2 h' => .yop ho hw hg hv h'⟩
  | yno ho hw hg h => exact ⟨_, h, fun l' st2 h' => .yno ho hw hg h'⟩
theorem Run.front {i : Nat} {post : List Nat} : ∀ (pre : List Nat) {st st' : Ast}, Run P ops wr (pre ++ i :: post) st st' → (∀ j, j ∈ pre → swapOk ops wr j i = true) → Run P ops wr (i :: (pre ++ post)) st st'
  | [], st, st', h, hs => h
  | p :: pre, st, st', h, hs => by
    obtain ⟨st1, h1, h2⟩ := Run.inv h
    have h3 := Run.front pre h1 fun j hj => hs j (by simp [hj])
    have h4 := h2 _ _ h3
    have h5 := hs p (by simp)
    unfold swapOk at h5
    simp only [Bool.and_eq_true, Bool.not_eq_true'] at h5
    obtain ⟨⟨g1, g2⟩, g3⟩ := h5
    split at g3
    · rename_i oj oi e1 e2
      exact h4.swap e1 e2 g1 g2 g3
    · cases g3
/-- What stands open. -/
def todo (ops : Array Oper) (listed : Array Bool) : List Nat := (List.range ops.size).filter fun i => !listed.getD i true
/-- Each operation waits for earlier ones alone; and of any two that stand in no order one may stand ahead of the other. -/
def early (ops : Array Oper) : Bool := (List.range ops.size).all fun d => match ops[d]? with | some o => o.after.all fun e => !Region.binds .any e || decide (e.on < d) | none => true
def ancOk (ops : Array Oper) (anc : List (List Nat)) : Bool := (List.range ops.size).all fun i => ((anc[i]?).getD []).all fun b => match ops[i]? with | some o => o.after.any fun e => Region.binds .any e && decide (e.on < i) && (e.on == b || ((anc[e.on]?).getD []).contains b) | none => false
def pairsOk (ops : Array Oper) (wr : Nat → Bool) (anc : List (List Nat)) : Bool := (List.range ops.size).all fun i => (List.range i).all fun j => ((anc[i]?).getD []).contains j || swapOk ops wr j i
theorem ready_opn {listed : Array Bool} {i : Nat} (h : i ∈ Region.ready .any ops listed) : i < ops.size ∧ listed.getD i true = false := by
  unfold Region.ready at h
  obtain ⟨h1, h2⟩ := List.mem_filter.1 h
  refine ⟨List.mem_range.1 h1, ?_⟩
  simp only [Bool.and_eq_true, Bool.not_eq_true'] at h2
  exact h2.1
theorem ready_deps {listed : Array Bool} {i : Nat} (h : i ∈ Region.ready .any ops listed) {o : Oper} (ho : ops[i]? = some o) : ∀ e, e ∈ o.after → Region.binds .any e = true → listed.getD e.on false = true := fun e he hb => by
  unfold Region.ready at h
  obtain ⟨h1, h2⟩ := List.mem_filter.1 h
  simp only [Bool.and_eq_true, ho, Option.map_some, Option.getD_some] at h2
  have h3 := Array.all_eq_true'.1 h2.2 e he
  rw [hb] at h3
  simpa using h3
theorem count_lss {listed : Array Bool} {i : Nat} (h : listed.getD i true = false) : (listed.setIfInBounds i true).toList.count false + 1 = listed.toList.count false := by
  have hi : i < listed.size := by
    rcases Nat.lt_or_ge i listed.size with g | g
    · exact g
    · unfold Array.getD at h
      rw [dif_neg (by omega)] at h
      cases h
  have hb : listed.toList[i]'(by simpa using hi) = false := by
    unfold Array.getD at h
    rw [dif_pos hi] at h
    simpa using h
  have hm : 0 < listed.toList.count false := List.count_pos_iff.2 (by rw [← hb]; exact List.getElem_mem _)
  rw [Array.toList_setIfInBounds, List.count_set (by simpa using hi), hb, show (false == false) = true from rfl, show (true == false) = false from rfl]
  simp only [if_true, Bool.false_eq_true, if_false]
  omega
def DownL (ops : Array Oper) (listed : Array Bool) : Prop := ∀ d o, ops[d]? = some o → listed.getD d false = true → ∀ e, e ∈ o.after → Region.binds .any e = true → listed.getD e.on false = true
theorem anc_listed {anc : List (List Nat)} {listed : Array Bool} (ha : ancOk ops anc = true) (hd : DownL ops listed) : ∀ (i : Nat), i < ops.size → (∀ o, ops[i]? = some o → ∀ e, e ∈ o.after → Region.binds .any e = true → listed.getD e.on false = true) → ∀ b, b ∈ (anc[i]?).getD [] → listed.getD b false = true := by
  intro i
  induction i using Nat.strongRecOn with
  | ind i ih =>
    intro hi hdeps b hb
    have h1 := List.all_eq_true.1 ha i (List.mem_range.2 hi)
    have h2 := List.all_eq_true.1 h1 b hb
    have ho : ops[i]? = some ops[i] := Array.getElem?_eq_getElem hi
    rw [ho] at h2
    simp only at h2
    obtain ⟨e, he, h3⟩ := Array.any_eq_true'.1 h2
    simp only [Bool.and_eq_true, Bool.or_eq_true, decide_eq_true_eq, beq_iff_eq] at h3
    obtain ⟨⟨g1, g2⟩, g3⟩ := h3
    have g4 := hdeps _ ho e he g1
    rcases g3 with rfl | g3
    · exact g4
    · exact ih e.on g2 (by omega) (fun o ho' => hd e.on o ho' g4) b (by simpa using g3)
theorem getD_ft {listed : Array Bool} {i : Nat} (hi : i < listed.size) : listed.getD i true = listed.getD i false := by
  unfold Array.getD
  rw [dif_pos hi, dif_pos hi]
theorem getD_put {listed : Array Bool} {i j : Nat} (b : Bool) (hi : i < listed.size) : (listed.setIfInBounds i true).getD j b = if j = i then true else listed.getD j b := by
  simp only [Array.getD_eq_getD_getElem?]
  split
  · rename_i e; subst e
    rw [Array.getElem?_setIfInBounds_self_of_lt hi]; rfl
  · rename_i e
    rw [Array.getElem?_setIfInBounds_ne (fun h => e h.symm)]
theorem ready_all {listed : Array Bool} (hs : listed.size = ops.size) (he : early ops = true) (h : Region.ready .any ops listed = []) : ∀ d, d < ops.size → listed.getD d false = true := by
  intro d
  induction d using Nat.strongRecOn with
  | ind d ih =>
    intro hd
    have ho : ops[d]? = some ops[d] := Array.getElem?_eq_getElem hd
    have h1 := List.all_eq_true.1 he d (List.mem_range.2 hd)
    rw [ho] at h1
    have h2 : d ∉ Region.ready .any ops listed := by rw [h]; simp
    unfold Region.ready at h2
    rw [List.mem_filter, ho] at h2
    have h3 : (ops[d].after.all fun e => !Region.binds .any e || listed.getD e.on false) = true := by
      rw [Array.all_eq_true']
      intro e hm
      have h4 := Array.all_eq_true'.1 h1 e hm
      cases hbd : Region.binds .any e with
      | false => rfl
      | true =>
        rw [hbd] at h4
        have h6 : e.on < d := by simpa using h4
        have h5 := ih e.on h6 (by omega)
        rw [h5]; simp
    simp only [Option.map_some, Option.getD_some, h3, Bool.and_true, List.mem_range] at h2
    rw [← getD_ft (by omega)]
    cases hg : listed.getD d true with
    | false => exact absurd ⟨hd, by rw [hg]; rfl⟩ h2
    | true => rfl
theorem todo_nil {listed : Array Bool} (hs : listed.size = ops.size) (h : ∀ d, d < ops.size → listed.getD d false = true) : todo ops listed = [] := by
  unfold todo
  rw [List.filter_eq_nil_iff]
  intro i hi
  have hi := List.mem_range.1 hi
  rw [getD_ft (by omega), h i hi]
  simp
theorem todo_set {listed : Array Bool} {i : Nat} (hi : i < listed.size) : todo ops (listed.setIfInBounds i true) = (todo ops listed).filter fun j => decide (j ≠ i) := by
  unfold todo
  rw [List.filter_filter]
  congr 1
  funext j
  rw [getD_put true hi]
  split
  · rename_i e; simp [e]
  · rename_i e; simp [e]
theorem any_run {C : En → Yst → Prop} (hC : YC P C) {r : Option Nat} {n : Nat} {Q : Exit → Act → World → Prop} {anc : List (List Nat)} (he : early ops = true) (hanc : ancOk ops anc = true) (hp : pairsOk ops wr anc = true) {stE : Ast} (hk : ∀ a' w', StA C stE a' w' → Q .normal a' w') :
    ∀ (fuel : Nat) (listed : Array Bool) (st : Ast) (a : Act) (w : World), listed.size = ops.size → listed.toList.count false ≤ fuel → DownL ops listed → StA C st a w → Run P ops wr (todo ops listed) st stE → wpAnyIn (WF r) n P .any ops Q fuel listed a w := by
  have hend : ∀ (listed : Array Bool) (st : Ast) (a : Act) (w : World), listed.size = ops.size → StA C st a w → Run P ops wr (todo ops listed) st stE → Region.ready .any ops listed = [] → Q .normal a w := fun listed st a w hs hst hr h0 => by
    rw [todo_nil hs (ready_all hs he h0)] at hr
    cases hr
    exact hk a w hst
  intro fuel
  induction fuel with
  | zero =>
    intro listed st a w hs hc hd hst hr
    have h0 : Region.ready .any ops listed = [] := by
      cases hrd : Region.ready .any ops listed with
      | nil => rfl
      | cons i l =>
        have := count_lss (ready_opn (ops := ops) (listed := listed) (i := i) (by rw [hrd]; simp)).2
        omega
    exact ⟨h0, hend listed st a w hs hst hr h0⟩
  | succ fuel ih =>
    intro listed st a w hs hc hd hst hr
    refine ⟨hend listed st a w hs hst hr, fun i hi => ?_⟩
    obtain ⟨h1, h2⟩ := ready_opn hi
    have his : i < listed.size := by omega
    have hmem : i ∈ todo ops listed := by
      unfold todo
      rw [List.mem_filter]
      exact ⟨List.mem_range.2 h1, by rw [h2]; rfl⟩
    obtain ⟨pre, post, hpp⟩ := List.append_of_mem hmem
    have hsort : (todo ops listed).Pairwise (· < ·) := List.Pairwise.filter _ List.pairwise_lt_range
    rw [hpp] at hsort
    obtain ⟨s1, s2, s3⟩ := List.pairwise_append.1 hsort
    have hpre : ∀ j, j ∈ pre → j < i := fun j hj => s3 j hj i (by simp)
    have hpost : ∀ j, j ∈ post → i < j := fun j hj => (List.pairwise_cons.1 s2).1 j hj
    have hdeps : ∀ o, ops[i]? = some o → ∀ e, e ∈ o.after → Region.binds .any e = true → listed.getD e.on false = true := fun o ho => ready_deps hi ho
    have hsw : ∀ j, j ∈ pre → swapOk ops wr j i = true := fun j hj => by
      have g1 := List.all_eq_true.1 (List.all_eq_true.1 hp i (List.mem_range.2 h1)) j (List.mem_range.2 (hpre j hj))
      rcases Bool.or_eq_true_iff.1 g1 with g | g
      · have g2 := anc_listed hanc hd i h1 hdeps j (by simpa using g)
        have g3 : j ∈ todo ops listed := by rw [hpp]; simp [hj]
        unfold todo at g3
        have g4 := (List.mem_filter.1 g3).2
        rw [getD_ft (by have := hpre j hj; omega), g2] at g4
        cases g4
      · exact g
    rw [hpp] at hr
    have hf := Run.front pre hr hsw
    refine hf.step hC hst fun st1 a' w' hs' hr' => ih _ st1 a' w' (by simpa using hs) (by have := count_lss h2; omega) (fun d o ho hl e hm hb => ?_) hs' ?_
    · rw [getD_put false his] at hl ⊢
      split
      · rfl
      · split at hl
        · rename_i e1; subst e1
          exact hdeps o ho e hm hb
        · exact hd d o ho hl e hm hb
    · rw [todo_set his, hpp]
      have f1 : pre.filter (fun j => decide (j ≠ i)) = pre := List.filter_eq_self.2 fun j hj => by have := hpre j hj; simp; omega
      have f2 : post.filter (fun j => decide (j ≠ i)) = post := List.filter_eq_self.2 fun j hj => by have := hpost j hj; simp; omega
      rw [List.filter_append, List.filter_cons, f1, f2]
      simpa using hr'
theorem St.drew {E : En} {st : Ast} {a : Act} {w : World} (h : St E st a w) : St E st a w.drew := by
  obtain ⟨S, m, τ, h⟩ := h
  exact ⟨S, m, τ, h.grow (Below.refl _ w).drew (fun b o h => h) (fun b o h => .inl h) (fun b o hs => h.sc b o hs)⟩
theorem StA.drew {C : En → Yst → Prop} {st : Ast} {a : Act} {w : World} (h : StA C st a w) : StA C st a w.drew := by
  obtain ⟨E, hc, hs⟩ := h
  exact ⟨E, hc, hs.drew⟩
theorem Run.drawn {C : En → Yst → Prop} (hC : YC P C) {r : Option Nat} {n : Nat} {Q : Exit → Act → World → Prop} {id : Nat} {anc : List (List Nat)} (hm : P.follows .mixedOrders = true) (he : early ops = true) (hanc : ancOk ops anc = true) (hp : pairsOk ops wr anc = true) {st stE : Ast} (h : Run P ops wr (List.range ops.size) st stE)
    {a : Act} {w : World} (hs : StA C st a w) (hk : ∀ a' w', StA C stE a' w' → Q .normal a' w') : (Code.region id ops true).wpIn (WF r) n P Q a w := by
  refine wpIn_region_any hm (any_run hC he hanc hp hk _ _ st a _ (by simp) (by simp) (fun d o ho hl => ?_) hs.drew ?_)
  · exfalso
    rw [Array.getD_eq_getD_getElem?] at hl
    cases hd : (Array.replicate ops.size false)[d]? with
    | none => rw [hd] at hl; cases hl
    | some b =>
      rw [hd] at hl
      simp [Array.getElem?_replicate] at hd
      simp at hl
      rw [hl] at hd
      exact absurd hd.2 (by simp)
  · have : todo ops (Array.replicate ops.size false) = List.range ops.size := by
      unfold todo
      rw [List.filter_eq_self]
      intro j hj
      have hj := List.mem_range.1 hj
      simp [Array.getD_eq_getD_getElem?, hj]
    rw [this]
    exact h
end
end Go.Proofs.YtjghgpmkepfdhaaGreatDoor

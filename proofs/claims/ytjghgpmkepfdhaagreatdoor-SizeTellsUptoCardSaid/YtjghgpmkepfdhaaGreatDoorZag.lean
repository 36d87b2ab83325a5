/- The pure walk by reflection: regions. Conditions: none.
The pure walk by reflection: the rules by which code is gone through, in short. Conditions: none.
What the document's functions on statements and programs are, plain; what a loop over a list comes to. Conditions: none.
Structs of the program's data held against one another. Conditions: none.
The document's functions on statements and programs, plain. Conditions: none.
How deep, how great, how many holes: the document's functions, plain. Conditions: none.
Lists asked by a function. Conditions: none.
Rounds, counted; what loops have of lists. Conditions: none.
Variables, and counts, held against one another. Conditions: none.
What the lower layers' answers are taken to be, until they stand here themselves; the document's functions that ask them, plain. Conditions: none.
A statement's parts: the document's functions, plain. Conditions: none.
A statement's expressions: the document's function, plain. Conditions: none.
A statement: may it be: the document's functions, plain; its weight. Conditions: none.
Types, variables, methods, classes: may they be: the document's functions, plain. Conditions: none.
Methods, classes, programs: may they be: the document's functions, plain. Conditions: none.
Plain functions: which expressions may be, in the program's own shape, and that it is the document's. Conditions: none.
Plain functions: which statements may be, in the program's own shape, and that it is the document's. Conditions: none.
How great a program is: the sums. Conditions: none. -/
import Derived.Test.YtjghgpmkepfdhaaGreatDoorZaf
import Derived.Test.YtjghgpmkepfdhaaGreatDoorZae
import Derived.Test.YtjghgpmkepfdhaaGreatDoorChecked
import Derived.WalkKit
import Derived.WalkSmall
import Derived.ChangeKeysEq
import Derived.Laws.Rows
namespace Go.Proofs.YtjghgpmkepfdhaaGreatDoor
open Go.RowKit
set_option linter.unusedVariables false

def kn (s : Sg) : Operand → Option Bool
  | .tmp t => match sfind s.t t with
    | some (.k v) => some v
    | _ => none
  | .const (.bool v) => some v
  | _ => none
theorem kn_ok {s : Sg} {st : Ast} (h : Bears s st) {c : Operand} {v : Bool} (hk : kn s c = some v) : st.ev c = .sc (.bool v) := by
  unfold kn at hk
  split at hk
  · rename_i t
    split at hk
    · rename_i v' e1
      cases hk
      have : st.tmps[t]? = _ := (h.cl t _ e1).2
      show (st.tmps[t]?).getD .un = _
      rw [this]; rfl
    · cases hk
  · cases hk; rfl
  · cases hk
section
variable {P : Program}
def pk (s : Sg) (G : Gd) (x y : Operand) (hs : List (Ht P)) (p0 : Prs) : Bool → Rs P
  | true => some ((s.rd G none x).1, hs, p0 ++ (s.rd G none x).2)
  | false => some ((s.rd G none y).1, hs, p0 ++ (s.rd G none y).2)
def evPick (s : Sg) (G : Gd) (c x y : Operand) (hs : List (Ht P)) : Rs P := match kn s c with
  | some v => pk s G x y hs [] v
  | none => match s.rd G none c with
    | (.sc (.bool cb), p0) => match hs with
      | .p (b := b) (v := v) _ :: hs => pk s G x y hs ((bI cb, bI b) :: p0) v
      | hs => match s.rd G (some cb) x, s.rd G (some (!cb)) y with
        | (.sc (.bool p), p1), (.sc (.bool q), p2) => some (.sc (.bool (cond cb p q)), hs, p0 ++ (p1 ++ p2))
        | _, _ => none
    | _ => none
theorem evPick_ok {s : Sg} {G : Gd} {st : Ast} {o : Oper} {c x y : Operand} {z : AV} {hs hs' : List (Ht P)} {p : Prs} (hb : Bears s st) (hg : allT G) (ho : o.op = .pick c x y) (h : evPick s G c x y hs = some (z, hs', p)) (hp : p.ok) : ∃ y, Lw z y ∧ ValOk P o st y := by
  have key : ∀ {v : Bool} {p0 : Prs} {hs1 : List (Ht P)}, st.ev c = .sc (.bool v) → pk s G x y hs1 p0 v = some (z, hs', p) → ∃ y, Lw z y ∧ ValOk P o st y := by
    intro v p0 hs1 hc hk
    have hv := val_pick (P := P) (o := o) c x y v ho hc
    cases v with
    | true =>
      cases hk
      exact ⟨_, hb.rd (Prs.ok_app.1 hp).2 hg (fun b hb => by cases hb), hv⟩
    | false =>
      cases hk
      exact ⟨_, hb.rd (Prs.ok_app.1 hp).2 hg (fun b hb => by cases hb), hv⟩
  unfold evPick at h
  split at h
  · rename_i v e1
    exact key (kn_ok hb e1) h
  · split at h
    · rename_i cb p0 e1
      have hcx : p0.ok → st.ev c = .sc (.bool cb) := fun hp0 => by
        have := hb.rd (y := c) (ex := none) (by rw [e1]; exact hp0) hg (fun b hb => by cases hb)
        rw [e1] at this
        exact this.to (by simp)
      split at h
      · rename_i b v hv hs2
        have hpp : (bI cb, bI b) ∈ p ∧ (∀ e ∈ p0, e ∈ p) := by
          cases v <;> (cases h; exact ⟨by simp, fun e he => by simp [he]⟩)
        have h1 := bI_inj (hp _ hpp.1)
        subst h1
        subst hv
        exact key (hcx fun e he => hp e (hpp.2 e he)) h
      · split at h
        · rename_i pb p1 qb p2 e2 e3
          cases h
          obtain ⟨hp0, hp12⟩ := Prs.ok_app.1 hp
          obtain ⟨hp1, hp2⟩ := Prs.ok_app.1 hp12
          have hc := hcx hp0
          refine ⟨_, .refl _, ?_⟩
          have hv := val_pick (P := P) (o := o) c x y cb ho hc
          cases cb with
          | true =>
            have := hb.rd (y := x) (ex := some true) (by rw [e2]; exact hp1) hg (fun b hb => by cases hb; rfl)
            rw [e2] at this
            have hx := this.to (by simp)
            rw [if_pos rfl, hx] at hv
            exact hv
          | false =>
            have := hb.rd (y := y) (ex := some (!false)) (by rw [e3]; exact hp2) hg (fun b hb => by cases hb; rfl)
            rw [e3] at this
            have hx := this.to (by simp)
            rw [if_neg (by simp), hx] at hv
            exact hv
        · cases h
    · cases h
def rdP (s : Sg) (G : Gd) : List Operand → Prs
  | [] => []
  | y :: l => (s.rd G none y).2 ++ rdP s G l
theorem rdP_ok {s : Sg} {G : Gd} : ∀ {l : List Operand}, (rdP s G l).ok → ∀ y ∈ l, (s.rd G none y).2.ok
  | [], h, y, hy => by cases hy
  | x :: l, h, y, hy => by
    obtain ⟨h1, h2⟩ := Prs.ok_app.1 h
    rcases List.mem_cons.1 hy with rfl | hy
    · exact h1
    · exact rdP_ok h2 y hy
def evOp (P : Program) (s : Sg) (G : Gd) (hs : List (Ht P)) (op : Op) : Rs P := match op with
  | .pick c x y => evPick s G c x y hs
  | op => match evVal P s.a.vars (fun y => (s.rd G none y).1) hs op with
    | some (x, hs, q) => some (x, hs, rdP s G op.operands.toList ++ q)
    | none => none
theorem evOp_ok {s : Sg} {G : Gd} {st : Ast} {o : Oper} {z : AV} {hs hs' : List (Ht P)} {p : Prs} (hb : Bears s st) (hg : allT G) (h : evOp P s G hs o.op = some (z, hs', p)) (hp : p.ok) : ∃ y, Lw z y ∧ ValOk P o st y := by
  unfold evOp at h
  split at h
  · rename_i c x y e1
    exact evPick_ok hb hg e1 h hp
  · split at h
    · rename_i x hs2 q e1
      cases h
      obtain ⟨h1, h2⟩ := Prs.ok_app.1 hp
      rw [← hb.vars] at e1
      exact evVal_ok (fun y hy => hb.rd (rdP_ok h1 y (by simpa using hy)) hg (fun b hb => by cases hb)) e1 h2
    · cases h
def mkSV : Gd → AV → SV
  | [], x => .v x
  | g :: G, x => .g (g :: G) x
theorem mkSV_go {G : Gd} {x y : AV} (hg : allT G) (h : Lw x y) : SVok (mkSV G x) (some y) := by
  have h' : x = .un ∨ some y = some x := h.imp id fun e => by rw [e]
  cases G with
  | nil => exact h'
  | cons g G => exact ⟨fun _ => h', fun hn => absurd hg hn⟩
theorem mkSV_no {G : Gd} {x : AV} (hg : ¬ allT G) : SVok (mkSV G x) (some (.tp [])) := by
  cases G with
  | nil => exact absurd (fun e he => by cases he) hg
  | cons g G => exact ⟨fun h => absurd h hg, fun _ => rfl⟩
abbrev Ss (P : Program) := Option (Sg × List (Ht P) × Prs)
def fin (s : Option Sg) (hs : List (Ht P)) (p : Prs) : Ss P := match s with
  | some s => some (s, hs, p)
  | none => none
theorem fin_ok {s : Option Sg} {hs hs' : List (Ht P)} {p p' : Prs} {s' : Sg} (h : fin s hs p = some (s', hs', p')) : s = some s' ∧ p = p' := by
  unfold fin at h
  split at h
  · cases h; exact ⟨rfl, rfl⟩
  · cases h
def stepV (P : Program) (ops : Array Oper) (o : Oper) (s : Sg) (hs : List (Ht P)) : Ss P := match s.guard ops o.guard hs with
  | some (.no, s, hs, p) => fin (s.put o.dst (.v (.tp []))) hs p
  | some (.go G, s, hs, p) => match evOp P s G hs o.op with
    | some (x, hs, q) => fin (s.put o.dst (mkSV G x)) hs (p ++ q)
    | none => none
  | none => none
/-- Where slots name variables that change no more. -/
def frzS : List AV → Sg → Option Sg
  | [], s => some s
  | .pt t _ :: l, s => match vget s.a.vars t, Nat.blt t 1000 with
    | some row, true => frzS l (s.map (AV.frz t (row.map AV.strip0)) (vdel t s.a.vars))
    | none, _ => frzS l s
    | _, _ => none
  | _ :: l, s => frzS l s
def appE (P : Program) (d : Nat) (t t' : TypeId) (x y : AV) (hs : List (Ht P)) : Option (Nat × List (List AV) × List (Ht P) × Prs) := match x.onto d, y, P.underlying t, hs with
  | some (q, rows), .ls _ rows', some (.slice e), .a (rows := r1) (rows' := r2) (R := R) (n := n) (by_ := b) _ :: hs => match P.info? e with
    | some ie => match ie.zero, Nat.beq t t', Nat.beq n ie.size, Nat.beq b ie.bytes, Nat.blt 0 ie.size with
      | some z, true, true, true, true => match Nat.beq z.cells.size ie.size with
        | true => some (q, R, hs, [(rI rows, rI r1), (rI rows', rI r2)])
        | false => none
      | _, _, _, _, _ => none
    | none => none
  | _, _, _, _ => none
def stE (P : Program) (vars : List (Nat × List AV)) (t : TypeId) (x y : AV) : Option (List (Nat × List AV)) := match x, y.cells, P.info? t with
  | .pt v n, some new, some i => match vget vars v with
    | some old => match Nat.beq new.length i.size, Nat.ble (n + new.length) old.length with
      | true, true => some (vset vars v (old.take n ++ new ++ old.drop (n + new.length)))
      | _, _ => none
    | none => none
  | _, _, _ => none
def Sg.setv (s : Sg) (vars : List (Nat × List AV)) : Sg := ⟨s.t, ⟨s.a.tmps, vars, s.a.y⟩, s.n⟩
def e0 (s : Sg) (y : Operand) : AV := (s.rd [] none y).1
def wrE (P : Program) (o : Oper) (s : Sg) (hs : List (Ht P)) : Ss P := match o.op with
  | .alloc t => match o.dst, zeroRow P t with
    | some d, some row => match Nat.blt d 1000 with
      | true => fin ((s.map (AV.kill d) (vset s.a.vars d row)).put (some d) (.v (.pt d 0))) hs []
      | false => none
    | _, _ => none
  | .box _ x => match o.dst, (e0 s x).cells with
    | some d, some row => match Nat.blt d 1000 with
      | true => fin ((s.map (AV.kill d) (vset s.a.vars d row)).put (some d) (.v (.pt d 0))) hs (rdP s [] [x])
      | false => none
    | _, _ => none
  | .store t x y => match stE P s.a.vars t (e0 s x) (e0 s y) with
    | some vars => fin ((s.setv vars).put o.dst (.v .un)) hs (rdP s [] [x, y])
    | none => none
  | .call ⟨.builtin .append, ⟨[x, y]⟩, ⟨[t, t']⟩⟩ => match o.dst with
    | some d => match appE P d t t' (e0 s x) (e0 s y) hs with
      | some (q, R, hs, p) => fin ((s.map (AV.dem q) (vmap (AV.dem0 q) s.a.vars)).put o.dst (.v (.ls (some q) R))) hs (rdP s [] [x, y] ++ p)
      | none => none
    | none => none
  | .makeFunc k ys xs => match frzS (xs.toList.map (e0 s)) s with
    | some s1 => match evMk k (ys.toList.map (e0 s1)) (xs.toList.map (e0 s1)) with
      | some z => fin (s1.put o.dst (.v z)) hs (rdP s1 [] (ys.toList ++ xs.toList))
      | none => none
    | none => none
  | _ => none
theorem Bears.setv {s : Sg} {st : Ast} (h : Bears s st) (vars : List (Nat × List AV)) : Bears (s.setv vars) ⟨st.tmps, vars, st.y⟩ := ⟨rfl, h.y, h.len, h.len', h.cl, h.base⟩
theorem frzS_ok {o : Oper} : ∀ {l : List AV} {s s' : Sg} {st : Ast}, Bears s st → frzS l s = some s' → ∃ st1, Bears s' st1 ∧ ∀ st', OpOk P o st1 st' → OpOk P o st st'
  | [], s, s', st, hb, h => by cases h; exact ⟨st, hb, fun _ h => h⟩
  | x :: l, s, s', st, hb, h => by
    cases x with
    | pt t n =>
      simp only [frzS] at h
      split at h
      · rename_i row e1 e2
        have hb2 := hb.map (AV.frz t (row.map AV.strip0)) (vdel t s.a.vars) rfl rfl (fun _ => rfl)
        obtain ⟨st1, h1, h2⟩ := frzS_ok (o := o) hb2 h
        refine ⟨st1, h1, fun st' h3 => ?_⟩
        refine ok_frz t row _ (Nat.le_of_ble_eq_true e2) (by rw [hb.vars]; exact e1) rfl ?_
        have e : st.frz t (row.map AV.strip0) = ⟨st.tmps.map (AV.frz t (row.map AV.strip0)), vdel t s.a.vars, st.y⟩ := by unfold Ast.frz; rw [hb.vars]
        rw [e]
        exact h2 st' h3
      · exact frzS_ok hb h
      · cases h
    | _ => exact frzS_ok (o := o) (l := l) hb h
theorem e0_ok {s : Sg} {st : Ast} (hb : Bears s st) {l : List Operand} (hp : (rdP s [] l).ok) : ∀ y ∈ l, Lw (e0 s y) (st.ev y) := fun y hy => hb.rd (rdP_ok hp y hy) (fun e he => by cases he) (fun b hb => by cases hb)
theorem wrE_ok {o : Oper} {s s' : Sg} {st : Ast} {hs hs' : List (Ht P)} {p : Prs} (hb : Bears s st) (h : wrE P o s hs = some (s', hs', p)) (hp : p.ok) : ∃ st', OpOk P o st st' ∧ Bears s' st' := by
  have hnew : ∀ {d : Nat} {row : List AV}, o.dst = some d → ((s.map (AV.kill d) (vset s.a.vars d row)).put (some d) (.v (.pt d 0))) = some s' → Bears s' (((st.kill d).setVar d row).putD o.dst (.pt d 0)) := by
    intro d row hd hs1
    have hb2 := hb.map (AV.kill d) (vset s.a.vars d row) rfl rfl (fun _ => rfl)
    have e : (st.kill d).setVar d row = ⟨st.tmps.map (AV.kill d), vset s.a.vars d row, st.y⟩ := by unfold Ast.kill Ast.setVar; rw [hb.vars]
    rw [e, hd]
    exact hb2.put hs1 (.inr rfl)
  generalize hop : o.op = op at h
  unfold wrE at h
  split at h
  · rename_i op0 t e0'
    rw [hop] at e0'
    split at h
    · rename_i d row hd hz
      split at h
      · rename_i hlt
        obtain ⟨hs1, -⟩ := fin_ok h
        obtain ⟨i, z, h1, h2, h3, rfl⟩ := zeroRow_ok hz
        exact ⟨_, ok_alloc t i z (hop.trans e0') hd (Nat.le_of_ble_eq_true hlt) h1 h2 h3, hnew hd hs1⟩
      · cases h
    · cases h
  · rename_i op0 t x e0'
    rw [hop] at e0'
    split at h
    · rename_i d row hd hz
      split at h
      · rename_i hlt
        obtain ⟨hs1, rfl⟩ := fin_ok h
        have hx := (e0_ok hb hp x (by simp)).to (by intro g; rw [g] at hz; cases hz)
        exact ⟨_, ok_box t x row (hop.trans e0') hd (Nat.le_of_ble_eq_true hlt) (by rw [hx]; exact hz), hnew hd hs1⟩
      · cases h
    · cases h
  · rename_i op0 t x y e0'
    rw [hop] at e0'
    split at h
    · rename_i vars hst
      obtain ⟨hs1, rfl⟩ := fin_ok h
      unfold stE at hst
      split at hst
      · rename_i v n new i h1 h2 h3
        split at hst
        · rename_i old h4
          split at hst
          · rename_i h5 h6
            cases hst
            have hx := (e0_ok hb hp x (by simp)).to (by intro g; rw [g] at h1; cases h1)
            have hy := (e0_ok hb hp y (by simp)).to (by intro g; rw [g] at h2; cases h2)
            refine ⟨_, ok_store t x y v n i old new (hop.trans e0') h3 (hx.trans h1) (by rw [hb.vars]; exact h4) (by rw [hy]; exact h2) (Nat.eq_of_beq_eq_true h5) (Nat.le_of_ble_eq_true h6), ?_⟩
            have e : st.setVar v (old.take n ++ new ++ old.drop (n + new.length)) = ⟨st.tmps, vset s.a.vars v (old.take n ++ new ++ old.drop (n + new.length)), st.y⟩ := by unfold Ast.setVar; rw [hb.vars]
            rw [e]
            exact (hb.setv _).put hs1 (.inl rfl)
          · cases hst
        · cases hst
      · cases hst
    · cases h
  · rename_i op0 x y t t' e0'
    rw [hop] at e0'
    split at h
    · rename_i d hd
      split at h
      · rename_i q R hs2 p2 ha
        obtain ⟨hs1, rfl⟩ := fin_ok h
        obtain ⟨hp1, hp2⟩ := Prs.ok_app.1 hp
        unfold appE at ha
        split at ha
        · rename_i q' rows own rows' e r1 r2 R' n b ok hs3 h1 h2 h3
          split at ha
          · rename_i ie h4
            split at ha
            · rename_i z h5 h6 h7 h8 h9
              split at ha
              · rename_i h10
                cases ha
                obtain ⟨g1, g2⟩ := Prs.ok_cons.1 hp2
                obtain ⟨g2, -⟩ := Prs.ok_cons.1 g2
                have g1 := rI_inj g1
                have g2 := rI_inj g2
                subst g1
                subst g2
                have h6 := Nat.eq_of_beq_eq_true h6
                subst h6
                have h7 := Nat.eq_of_beq_eq_true h7
                subst h7
                have h8 := Nat.eq_of_beq_eq_true h8
                subst h8
                have hx := (e0_ok hb hp1 x (by simp)).to (by intro g; rw [g] at h1; cases h1)
                have hy := (e0_ok hb hp1 y (by simp)).to (by intro g; rw [g] at h2; cases h2)
                have hok := ok_app t e x y d q own rows rows' ie z (hop.trans e0') h3 h4 h5 (Nat.eq_of_beq_eq_true h10) (Nat.le_of_ble_eq_true h9) (by rw [hx]; exact h1) (hy.trans h2) ok.ne ok.k' ok.k ok.bytes ok.max
                rw [ok.eq] at hok
                refine ⟨_, hok, ?_⟩
                have hb2 := hb.map (AV.dem q) (vmap (AV.dem0 q) s.a.vars) rfl rfl (fun _ => rfl)
                have e : st.dem q = ⟨st.tmps.map (AV.dem q), vmap (AV.dem0 q) s.a.vars, st.y⟩ := by unfold Ast.dem; rw [hb.vars]
                rw [e]
                exact hb2.put hs1 (.inr rfl)
              · cases ha
            · cases ha
          · cases ha
        · cases ha
      · cases h
    · cases h
  · rename_i op0 k ys xs e0'
    rw [hop] at e0'
    split at h
    · rename_i s1 hf
      split at h
      · rename_i z hz
        obtain ⟨hs1, rfl⟩ := fin_ok h
        obtain ⟨st1, hb1, hk⟩ := frzS_ok (P := P) (o := o) hb hf
        exact ⟨_, hk _ (evMk_ok (ys := ys.toList) (xs := xs.toList) (by rw [hop, e0']) (e0_ok hb1 hp) hz).ok, hb1.put hs1 (.inr rfl)⟩
      · cases h
    · cases h
  · cases h
def isW : Op → Bool
  | .alloc _ => true
  | .box _ _ => true
  | .store _ _ _ => true
  | .call ⟨.builtin .append, _, _⟩ => true
  | .makeFunc _ _ ⟨_ :: _⟩ => true
  | _ => false
/-- Where all variables change no more. -/
def frzV : List (Nat × List AV) → Sg → Option Sg
  | [], s => some s
  | (t, _) :: l, s => match vget s.a.vars t, Nat.blt t 1000 with
    | some row, true => frzV l (s.map (AV.frz t (row.map AV.strip0)) (vdel t s.a.vars))
    | none, _ => frzV l s
    | _, _ => none
theorem frzV_ok {o : Oper} : ∀ {l : List (Nat × List AV)} {s s' : Sg} {st : Ast}, Bears s st → frzV l s = some s' → ∃ st1, Bears s' st1 ∧ ∀ st', YOp P o st1 st' → YOp P o st st'
  | [], s, s', st, hb, h => by cases h; exact ⟨st, hb, fun _ h => h⟩
  | (t, r) :: l, s, s', st, hb, h => by
    simp only [frzV] at h
    split at h
    · rename_i row e1 e2
      have hb2 := hb.map (AV.frz t (row.map AV.strip0)) (vdel t s.a.vars) rfl rfl (fun _ => rfl)
      obtain ⟨st1, h1, h2⟩ := frzV_ok (o := o) hb2 h
      refine ⟨st1, h1, fun st' h3 => ?_⟩
      refine y_frz t row _ (Nat.le_of_ble_eq_true e2) (by rw [hb.vars]; exact e1) rfl ?_
      have e : st.frz t (row.map AV.strip0) = ⟨st.tmps.map (AV.frz t (row.map AV.strip0)), vdel t s.a.vars, st.y⟩ := by unfold Ast.frz; rw [hb.vars]
      rw [e]
      exact h2 st' h3
    · exact frzV_ok (o := o) (l := l) hb h
    · cases h
def Sg.yld (s : Sg) (y : Yst) : Sg := ⟨smap AV.strip s.t, ⟨s.a.tmps.map AV.strip, [], y⟩, s.n⟩
theorem Bears.yld {s : Sg} {st : Ast} (h : Bears s st) (y : Yst) : Bears (s.yld y) ⟨st.tmps.map AV.strip, [], y⟩ := by
  have h2 := h.map AV.strip [] rfl rfl (fun _ => rfl)
  exact ⟨rfl, rfl, h2.len, h2.len', h2.cl, h2.base⟩
abbrev Yrs := List (Yst × Yst)
abbrev Ts (P : Program) := Option (Sg × List (Ht P) × Prs × Yrs)
/-- An operation that may ask for rounds. -/
def yrE (P : Program) (o : Oper) (s : Sg) (hs : List (Ht P)) : Ts P := match o.op with
  | .call ⟨.value f, xs, _⟩ => match frzV s.a.vars s with
    | some s1 => match hs with
      | .yy (Y := Y) (h := h) (row := row) _ _ :: hs => match e0 s1 f, cqAE (xs.toList.map fun x => (e0 s1 x).strip) row, (s1.yld ⟨h + 1, some Y⟩).put o.dst (.v (.sc (.bool (Y.ans h)))) with
        | .fn (.yield l) [] [], some p, some s2 => some (s2, hs, (nI l, nI Y.l) :: (rdP s1 [] (f :: xs.toList) ++ p), [(s1.a.y, ⟨h, some Y⟩)])
        | _, _, _ => none
      | .yc (F := F) (args := args) (Y := Y) (h := h) (r := r) (h' := h') _ :: hs => match f, enterOk P F, cqAE (xs.toList.map fun x => (e0 s1 x).strip) args, (s1.yld ⟨h', some Y⟩).put o.dst (.v r) with
        | .func F', true, some p, some s2 => some (s2, hs, (nI F', nI F) :: (rdP s1 [] xs.toList ++ p), [(s1.a.y, ⟨h, some Y⟩)])
        | _, _, _, _ => none
      | _ => none
    | none => none
  | _ => none
theorem yrE_ok {o : Oper} {s s' : Sg} {st : Ast} {hs hs' : List (Ht P)} {p : Prs} {y : Yrs} (hb : Bears s st) (h : yrE P o s hs = some (s', hs', p, y)) (hp : p.ok) (hy : ∀ e ∈ y, e.1 = e.2) : ∃ st', YOp P o st st' ∧ Bears s' st' := by
  generalize hop : o.op = op at h
  unfold yrE at h
  split at h
  · rename_i op0 f xs ts e1
    rw [hop] at e1
    split at h
    · rename_i s1 hf
      obtain ⟨st1, hb1, hk⟩ := frzV_ok (P := P) (o := o) hb hf
      split at h
      · rename_i Y hh row hl hg hs2
        split at h
        · rename_i l p2 s2 g1 g2 g3
          cases h
          obtain ⟨hp1, hp2⟩ := Prs.ok_cons.1 hp
          obtain ⟨hp2, hp3⟩ := Prs.ok_app.1 hp2
          have hp1 := nI_inj hp1
          subst hp1
          have h0 := e0_ok hb1 hp2
          have hyy : st1.y = ⟨hh, some Y⟩ := hb1.y.trans (hy _ (List.mem_cons_self ..))
          have hff := (h0 f (by simp)).to (by rw [g1]; simp)
          refine ⟨_, hk _ (y_yield f xs.toList ts Y hh _ row (by rw [hop, e1]) (hff.trans g1) hyy hl hg rfl (cqAE_ok (fun x hx => h0 x (by simp; exact .inr (by simpa using hx))) g2 hp3)), ?_⟩
          exact (hb1.yld _).put g3 (.inr rfl)
        · cases h
      · rename_i F args Y hh r hh' hc hs2
        split at h
        · rename_i F' p2 s2 g1 g2 g3
          cases h
          obtain ⟨hp1, hp2⟩ := Prs.ok_cons.1 hp
          obtain ⟨hp2, hp3⟩ := Prs.ok_app.1 hp2
          have hp1 := nI_inj hp1
          subst hp1
          have h0 := e0_ok hb1 hp2
          have hyy : st1.y = ⟨hh, some Y⟩ := hb1.y.trans (hy _ (List.mem_cons_self ..))
          refine ⟨_, hk _ (y_call F' xs.toList ts _ args r Y hh hh' (by rw [hop, e1]) hyy rfl (cqAE_ok (fun x hx => h0 x hx) g2 hp3) hc (enterOk_ok g1)), ?_⟩
          exact (hb1.yld _).put g3 (.inr rfl)
        · cases h
      · cases h
    · cases h
  · cases h
def hasN (i : Nat) : List Nat → Bool
  | [] => false
  | j :: l => match Nat.beq i j with
    | true => true
    | false => hasN i l
def wrS (ops : Array Oper) (ys : List Nat) (i : Nat) : Bool := match ops[i]? with
  | some o => match hasN i ys with
    | true => true
    | false => isW o.op
  | none => false
def stepW (P : Program) (ops : Array Oper) (o : Oper) (s : Sg) (hs : List (Ht P)) : Ss P := match s.guard ops o.guard hs with
  | some (.no, s, hs, p) => fin (s.put o.dst (.v (.tp []))) hs p
  | some (.go [], s, hs, p) => match wrE P o s hs with
    | some (s, hs, q) => some (s, hs, p ++ q)
    | none => none
  | _ => none
def stepY (P : Program) (ops : Array Oper) (o : Oper) (s : Sg) (hs : List (Ht P)) : Ts P := match s.guard ops o.guard hs with
  | some (.no, s, hs, p) => match s.put o.dst (.v (.tp [])) with
    | some s => some (s, hs, p, [])
    | none => none
  | some (.go [], s, hs, p) => match yrE P o s hs with
    | some (s, hs, q, y) => some (s, hs, p ++ q, y)
    | none => none
  | _ => none
def toT : Ss P → Ts P
  | some (s, hs, p) => some (s, hs, p, [])
  | none => none
theorem toT_ok {x : Ss P} {s : Sg} {hs : List (Ht P)} {p : Prs} {y : Yrs} (h : toT x = some (s, hs, p, y)) : x = some (s, hs, p) := by
  unfold toT at h
  split at h
  · cases h; rfl
  · cases h
def stepE (P : Program) (ops : Array Oper) (ys : List Nat) (i : Nat) (s : Sg) (hs : List (Ht P)) : Ts P := match ops[i]? with
  | some o => match hasN i ys with
    | true => stepY P ops o s hs
    | false => match isW o.op with
      | true => toT (stepW P ops o s hs)
      | false => toT (stepV P ops o s hs)
  | none => none
theorem stepE_ok {ops : Array Oper} {ys : List Nat} {i : Nat} {s s' : Sg} {st : Ast} {hs hs' : List (Ht P)} {p : Prs} {y : Yrs} (hb : Bears s st) (h : stepE P ops ys i s hs = some (s', hs', p, y)) (hp : p.ok) (hy : ∀ e ∈ y, e.1 = e.2) : ∃ st1, Bears s' st1 ∧ ∀ l st2, Run P ops (wrS ops ys) l st1 st2 → Run P ops (wrS ops ys) (i :: l) st st2 := by
  unfold stepE at h
  split at h
  · rename_i o ho
    split at h
    · rename_i hin
      have hwr : wrS ops ys i = true := by unfold wrS; rw [ho]; simp only [hin]
      unfold stepY at h
      split at h
      · rename_i s1 hs1 p1 hg
        split at h
        · rename_i s2 h1
          cases h
          obtain ⟨hb1, hgr⟩ := guard_ok hb hg hp
          exact ⟨_, hb1.put h1 (.inr rfl), fun l st2 hr => .yno ho hwr hgr hr⟩
        · cases h
      · rename_i s1 hs1 p1 hg
        split at h
        · rename_i s2 hs2 q y2 hyr
          cases h
          obtain ⟨hp1, hp2⟩ := Prs.ok_app.1 hp
          obtain ⟨hb1, hgr⟩ := guard_ok hb hg hp1
          obtain ⟨st', hop, hb2⟩ := yrE_ok hb1 hyr hp2 hy
          exact ⟨st', hb2, fun l st2 hr => .yop ho hwr (hgr.1 fun e he => by cases he) hop hr⟩
        · cases h
      · cases h
    · rename_i hin
      have hwr : wrS ops ys i = isW o.op := by unfold wrS; rw [ho]; simp only [hin]
      split at h
      · rename_i hw
        have h := toT_ok h
        rw [hw] at hwr
        unfold stepW at h
        split at h
        · rename_i s1 hs1 p1 hg
          obtain ⟨h1, rfl⟩ := fin_ok h
          obtain ⟨hb1, hgr⟩ := guard_ok hb hg hp
          exact ⟨_, hb1.put h1 (.inr rfl), fun l st2 hr => .yno ho hwr hgr hr⟩
        · rename_i s1 hs1 p1 hg
          split at h
          · rename_i s2 hs2 q hwre
            cases h
            obtain ⟨hp1, hp2⟩ := Prs.ok_app.1 hp
            obtain ⟨hb1, hgr⟩ := guard_ok hb hg hp1
            obtain ⟨st', hop, hb2⟩ := wrE_ok hb1 hwre hp2
            exact ⟨st', hb2, fun l st2 hr => .yop ho hwr (hgr.1 fun e he => by cases he) hop.y hr⟩
          · cases h
        · cases h
      · rename_i hw
        have h := toT_ok h
        rw [hw] at hwr
        unfold stepV at h
        split at h
        · rename_i s1 hs1 p1 hg
          obtain ⟨h1, rfl⟩ := fin_ok h
          obtain ⟨hb1, hgr⟩ := guard_ok hb hg hp
          exact ⟨_, hb1.put h1 (.inr rfl), fun l st2 hr => .no ho hwr hgr hr⟩
        · rename_i G s1 hs1 p1 hg
          split at h
          · rename_i x hs2 q hop
            obtain ⟨h1, rfl⟩ := fin_ok h
            obtain ⟨hp1, hp2⟩ := Prs.ok_app.1 hp
            obtain ⟨hb1, hgr⟩ := guard_ok hb hg hp1
            by_cases hG : allT G
            · obtain ⟨y, hy, hv⟩ := evOp_ok hb1 hG hop hp2
              exact ⟨_, hb1.put h1 (mkSV_go hG hy), fun l st2 hr => .val ho hwr (hgr.1 hG) hv hr⟩
            · exact ⟨_, hb1.put h1 (mkSV_no hG), fun l st2 hr => .no ho hwr (hgr.2 hG) hr⟩
          · cases h
        · cases h
  · cases h
def evOps (P : Program) (ops : Array Oper) (ys : List Nat) : List Nat → Sg → List (Ht P) → Ts P
  | [], s, hs => some (s, hs, [], [])
  | i :: l, s, hs => match stepE P ops ys i s hs with
    | some (s, hs, p, y) => match evOps P ops ys l s hs with
      | some (s, hs, q, z) => some (s, hs, p ++ q, y ++ z)
      | none => none
    | none => none
theorem evOps_ok {ops : Array Oper} {ys : List Nat} : ∀ {l : List Nat} {s s' : Sg} {st : Ast} {hs hs' : List (Ht P)} {p : Prs} {y : Yrs}, Bears s st → evOps P ops ys l s hs = some (s', hs', p, y) → p.ok → (∀ e ∈ y, e.1 = e.2) → ∃ st', Run P ops (wrS ops ys) l st st' ∧ Bears s' st'
  | [], s, s', st, hs, hs', p, y, hb, h, hp, hy => by cases h; exact ⟨st, .nil st, hb⟩
  | i :: l, s, s', st, hs, hs', p, y, hb, h, hp, hy => by
    simp only [evOps] at h
    split at h
    · rename_i s1 hs1 p1 y1 e1
      split at h
      · rename_i s2 hs2 p2 y2 e2
        cases h
        obtain ⟨hp1, hp2⟩ := Prs.ok_app.1 hp
        obtain ⟨st1, hb1, hk⟩ := stepE_ok hb e1 hp1 (fun e he => hy e (List.mem_append_left _ he))
        obtain ⟨st', hr, hb2⟩ := evOps_ok hb1 e2 hp2 (fun e he => hy e (List.mem_append_right _ he))
        exact ⟨st', hk l st' hr, hb2⟩
      · cases h
    · cases h
def orB : List Bool → List Bool → List Bool
  | [], l => l
  | a :: x, [] => a :: x
  | false :: x, false :: y => false :: orB x y
  | true :: x, _ :: y => true :: orB x y
  | false :: x, true :: y => true :: orB x y
def oneB : Nat → List Bool
  | 0 => [true]
  | n + 1 => false :: oneB n
def idxB : List Bool → Nat → List Nat
  | [], _ => []
  | true :: l, n => n :: idxB l (n + 1)
  | false :: l, n => idxB l (n + 1)
def edgB (A : List (List Bool)) : List Edge → List Bool
  | [] => []
  | e :: l => match Region.binds .any e with
    | true => orB (orB (oneB e.on) ((A[e.on]?).getD [])) (edgB A l)
    | false => edgB A l
def ancB : List Oper → List (List Bool) → List (List Bool)
  | [], A => A
  | o :: l, A => ancB l (A ++ [edgB A o.after.toList])
/-- For each operation, those that it waits for, and those that they wait for. -/
def ancs (ops : Array Oper) : List (List Nat) := (ancB ops.toList []).map fun l => idxB l 0
def drawOk (ops : Array Oper) (ys : List Nat) : Bool := early ops && (ancOk ops (ancs ops) && pairsOk ops (wrS ops ys) (ancs ops))
def rgAll (P : Program) (ops : Array Oper) (ys : List Nat) (st : Ast) (hs : List (Ht P)) : Option (Ast × Prs × Yrs) := match evOps P ops ys (List.range ops.size) ⟨[], st, st.tmps.length⟩ hs with
  | some (s, [], p, y) => some (s.out, p, y)
  | _ => none
def rgOk (P : Program) (ops : Array Oper) (ys : List Nat) (draw : Bool) (st : Ast) (hs : List (Ht P)) : Bool := (rgAll P ops ys st hs).isSome && (!draw || drawOk ops ys)
def rgL (P : Program) (ops : Array Oper) (ys : List Nat) (st : Ast) (hs : List (Ht P)) : List AV × List Yst := match rgAll P ops ys st hs with
  | some (_, p, y) => (p.map (·.1), y.map (·.1))
  | none => ([], [])
def rgR (P : Program) (ops : Array Oper) (ys : List Nat) (st : Ast) (hs : List (Ht P)) : List AV × List Yst := match rgAll P ops ys st hs with
  | some (_, p, y) => (p.map (·.2), y.map (·.2))
  | none => ([], [])
def rgSt (P : Program) (ops : Array Oper) (ys : List Nat) (st : Ast) (hs : List (Ht P)) : Ast := match rgAll P ops ys st hs with
  | some (s, _) => s
  | none => st
theorem yrs_of : ∀ {y : Yrs}, y.map (·.1) = y.map (·.2) → ∀ e ∈ y, e.1 = e.2
  | [], h, e, he => by cases he
  | (a, b) :: l, h, e, he => by
    simp only [List.map_cons, List.cons.injEq] at h
    rcases List.mem_cons.1 he with rfl | he
    · exact h.1
    · exact yrs_of h.2 e he
theorem prs_of : ∀ {p : Prs}, p.map (·.1) = p.map (·.2) → p.ok
  | [], h => fun e he => by cases he
  | (x, y) :: l, h => by
    simp only [List.map_cons, List.cons.injEq] at h
    exact Prs.ok_cons.2 ⟨h.1, prs_of h.2⟩
/-- A region; ys: the operations that may ask for rounds. -/
theorem Wp.rgY {T : Bool} {Q : Exit → Ast → Prop} {st : Ast} {id : Nat} {ops : Array Oper} {draw : Bool} (ys : List Nat) (hs : List (Ht P)) (hq : Q .normal (rgSt P ops ys st hs)) (ho : rgOk P ops ys draw st hs = true := by kernel_rfl) (he : rgL P ops ys st hs = rgR P ops ys st hs := by kernel_rfl) : Wp P T (.region id ops draw) st Q := by
  unfold rgOk at ho
  unfold rgL rgR at he
  unfold rgSt at hq
  unfold rgAll at ho he hq
  simp only [Bool.and_eq_true, Bool.or_eq_true, Bool.not_eq_true'] at ho
  obtain ⟨h1, h2⟩ := ho
  split at h1
  · rename_i s p y e1
    simp only [e1, Prod.mk.injEq] at he hq
    obtain ⟨st1, hr, hb⟩ := evOps_ok (.init st) e1 (prs_of he.1) (yrs_of he.2)
    refine ⟨.normal, _, .weakR ?_ hb.out, hq⟩
    cases draw with
    | false => exact .reg (wrS ops ys) hr
    | true =>
      rcases h2 with h2 | h2
      · cases h2
      · unfold drawOk at h2
        simp only [Bool.and_eq_true] at h2
        exact .draw (wrS ops ys) (ancs ops) h2.1 h2.2.1 h2.2.2 hr
  · cases h1
theorem Wp.rg {T : Bool} {Q : Exit → Ast → Prop} {st : Ast} {id : Nat} {ops : Array Oper} {draw : Bool} (hs : List (Ht P)) (hq : Q .normal (rgSt P ops [] st hs)) (ho : rgOk P ops [] draw st hs = true := by kernel_rfl) (he : rgL P ops [] st hs = rgR P ops [] st hs := by kernel_rfl) : Wp P T (.region id ops draw) st Q := Wp.rgY [] hs hq ho he
end
end Go.Proofs.YtjghgpmkepfdhaaGreatDoor
namespace Go.Proofs.YtjghgpmkepfdhaaGreatDoor
open Go.RowKit
set_option linter.unusedVariables false
section
variable {P : Program} {T : Bool} {Q : Exit → Ast → Prop} {st : Ast}
theorem Wp.srY {id : Nat} {ops : Array Oper} {draw : Bool} {y : Code} (ys : List Nat) (hs : List (Ht P)) (hq : Wp P T y (rgSt P ops ys st hs) Q) (ho : rgOk P ops ys draw st hs = true := by kernel_rfl) (he : rgL P ops ys st hs = rgR P ops ys st hs := by kernel_rfl) : Wp P T (.seq (.region id ops draw) y) st Q :=
  Wp.seq (Wp.rgY ys hs hq ho he)
theorem Wp.sr {id : Nat} {ops : Array Oper} {draw : Bool} {y : Code} (hs : List (Ht P)) (hq : Wp P T y (rgSt P ops [] st hs) Q) (ho : rgOk P ops [] draw st hs = true := by kernel_rfl) (he : rgL P ops [] st hs = rgR P ops [] st hs := by kernel_rfl) : Wp P T (.seq (.region id ops draw) y) st Q :=
  Wp.seq (Wp.rgY [] hs hq ho he)
/-- One slot bears what another one should. -/
def le1E (x : Option AV) (y : AV) : Option Prs := match y with
  | .un => some []
  | .ls (some q) rows => match x with
    | some .nl => some [(rI [], rI rows)]
    | some x => some [(x, .ls (some q) rows)]
    | none => none
  | y => match x with
    | some x => some [(x, y)]
    | none => none
theorem le1E_ok {x : Option AV} {y : AV} {p : Prs} (h : le1E x y = some p) (hp : p.ok) : y = .un ∨ x = some y ∨ (x = some .nl ∧ ∃ q, y = .ls (some q) []) := by
  unfold le1E at h
  split at h
  · exact .inl rfl
  · split at h
    · cases h
      have := rI_inj (Prs.ok_cons.1 hp).1
      subst this
      exact .inr (.inr ⟨rfl, _, rfl⟩)
    · cases h
      exact .inr (.inl (by rw [(Prs.ok_cons.1 hp).1]))
    · cases h
  · split at h
    · cases h
      exact .inr (.inl (by rw [(Prs.ok_cons.1 hp).1]))
    · cases h
def leTE : List AV → List AV → Option Prs
  | [], [] => some []
  | x :: xs, y :: ys => match le1E (some x) y, leTE xs ys with
    | some p, some q => some (p ++ q)
    | _, _ => none
  | _, _ => none
theorem leTE_ok : ∀ {xs ys : List AV} {p : Prs}, leTE xs ys = some p → p.ok → xs.length = ys.length ∧ ∀ (i : Nat) y, ys[i]? = some y → y = .un ∨ xs[i]? = some y ∨ (xs[i]? = some .nl ∧ ∃ q, y = .ls (some q) [])
  | [], [], p, h, hp => ⟨rfl, fun i y hy => by simp at hy⟩
  | x :: xs, y :: ys, p, h, hp => by
    simp only [leTE] at h
    split at h
    · rename_i p1 p2 e1 e2
      cases h
      obtain ⟨h1, h2⟩ := Prs.ok_app.1 hp
      obtain ⟨g1, g2⟩ := leTE_ok e2 h2
      refine ⟨by simp [g1], fun i z hz => ?_⟩
      cases i with
      | zero =>
        simp at hz
        subst hz
        have := le1E_ok e1 h1
        simpa using this
      | succ i => simpa using g2 i z (by simpa using hz)
    · cases h
  | [], _ :: _, p, h, hp => by cases h
  | _ :: _, [], p, h, hp => by cases h
def leVE (vars : List (Nat × List AV)) : List (Nat × List AV) → Option Prs
  | [] => some []
  | (t, r) :: l => match vget vars t, leVE vars l with
    | some r', some p => some ((.ag r', .ag r) :: p)
    | _, _ => none
theorem leVE_ok {vars : List (Nat × List AV)} : ∀ {l : List (Nat × List AV)} {p : Prs}, leVE vars l = some p → p.ok → ∀ t r, vget l t = some r → vget vars t = some r
  | [], p, h, hp, t, r, hg => by cases hg
  | (t', r') :: l, p, h, hp, t, r, hg => by
    simp only [leVE] at h
    split at h
    · rename_i r2 p2 e1 e2
      cases h
      obtain ⟨h1, h2⟩ := Prs.ok_cons.1 hp
      injection h1 with h1
      simp only [vget] at hg
      split at hg
      · rename_i ht
        subst ht
        cases hg
        rw [e1, h1]
      · exact leVE_ok e2 h2 t r hg
    · cases h
def leE (st st' : Ast) : Option Prs := match leTE st.tmps st'.tmps, leVE st.vars st'.vars with
  | some p, some q => some (p ++ q)
  | _, _ => none
def leL (st st' : Ast) : Option (List AV) := (leE st st').map fun p => p.map (·.1)
def leR (st st' : Ast) : Option (List AV) := (leE st st').map fun p => p.map (·.2)
structure LeP (st st' : Ast) : Prop where
  ok : (leE st st').isSome = true
  eq : leL st st' = leR st st'
  y : st'.y = st.y
theorem LeP.rf {st st' : Ast} (ok : (leE st st').isSome = true := by kernel_rfl) (eq : leL st st' = leR st st' := by kernel_rfl) (y : st'.y = st.y := by kernel_rfl) : LeP st st' := ⟨ok, eq, y⟩
theorem LeP.le {st st' : Ast} (h : LeP st st') : st.le st' := by
  obtain ⟨h1, h2, h3⟩ := h
  unfold leL leR at h2
  cases hp : leE st st' with
  | none => rw [hp] at h1; cases h1
  | some p =>
    rw [hp] at h2
    simp only [Option.map_some, Option.some.injEq] at h2
    have hp2 := prs_of h2
    unfold leE at hp
    split at hp
    · rename_i p1 p2 e1 e2
      cases hp
      obtain ⟨g1, g2⟩ := Prs.ok_app.1 hp2
      obtain ⟨k1, k2⟩ := leTE_ok e1 g1
      exact ⟨k1, k2, leVE_ok e2 g2, h3⟩
    · cases hp
/-- A loop, by what holds at the beginning of each round. -/
theorem Wp.lp {α : Type} {c : Code} (stOf : α → Ast) (inv : α → Prop) (μ : α → Nat) (a0 : α) (hi : inv a0)
    (hs : ∀ a, inv a → Wp P T c (stOf a) fun e st1 => match e with
      | .normal => ∃ a', LeP st1 (stOf a') ∧ inv a' ∧ μ a' < μ a
      | e => Exit.open e = true ∧ Q e st1) (h0 : LeP st (stOf a0) := by exact LeP.rf) : Wp P T (.loop c) st Q := by
  have key : ∀ n a, μ a = n → inv a → Wp P T (.loop c) (stOf a) Q := by
    intro n
    induction n using Nat.strongRecOn with
    | ind n ih =>
      intro a hn ha
      obtain ⟨e, st1, h1, h2⟩ := hs a ha
      cases e with
      | normal =>
        obtain ⟨a', g1, g2, g3⟩ := h2
        obtain ⟨e2, st2, h3, h4⟩ := ih (μ a') (by omega) a' rfl g2
        exact ⟨_, _, .again h1 (.weak g1.le h3), h4⟩
      | exit id => exact ⟨_, _, .out h1 h2.1, h2.2⟩
      | ret => exact ⟨_, _, .out h1 h2.1, h2.2⟩
      | goto l => exact ⟨_, _, .out h1 h2.1, h2.2⟩
      | panic c => exact ⟨_, _, .out h1 h2.1, h2.2⟩
      | outgrown => exact ⟨_, _, .out h1 h2.1, h2.2⟩
  obtain ⟨e, st1, h1, h2⟩ := key _ a0 rfl hi
  exact ⟨_, _, .weak h0.le h1, h2⟩
/-- A state told anew. -/
theorem Wp.to {c : Code} (st' : Ast) (h : Wp P T c st' Q) (hl : LeP st st' := by exact LeP.rf) : Wp P T c st Q := by
  obtain ⟨e, st1, h1, h2⟩ := h
  exact ⟨_, _, .weak hl.le h1, h2⟩
/-- A test, by the bool's own two ways. -/
theorem Wp.cd {c : Operand} {x y : Code} (B : Bool) (ht : B = true → Wp P T x st Q) (hf : B = false → Wp P T y st Q) (hc : st.ev c = .sc (.bool B) := by kernel_rfl) : Wp P T (.cond c x y) st Q := Wp.cond B hc ht hf
theorem Wp.ct {c : Operand} {x y : Code} {B : Bool} (hb : B = true) (h : Wp P T x st Q) (hc : st.ev c = .sc (.bool B) := by kernel_rfl) : Wp P T (.cond c x y) st Q := Wp.cond B hc (fun _ => h) fun g => by rw [hb] at g; cases g
theorem Wp.cf {c : Operand} {x y : Code} {B : Bool} (hb : B = false) (h : Wp P T y st Q) (hc : st.ev c = .sc (.bool B) := by kernel_rfl) : Wp P T (.cond c x y) st Q := Wp.cond B hc (fun g => by rw [hb] at g; cases g) fun _ => h
theorem pcalls_rf {F : FuncId} {fn : Func} {c : Code} (hm : P.follows .mixedOrders = true) (hf : P.funcs[F]? = some fn) (hb : fn.body = some c) {args : List AV} {r : AV}
    (h : Wp P true c ⟨args ++ List.replicate (fn.ntmps - args.length) .un, [], y0⟩ fun e st' => (e = .ret ∨ e = .normal) ∧ ResOk P fn st' r) : PCalls P F args r := pcalls_wp hm hf hb _ rfl h
/-- A result. -/
def rv1E (P : Program) (st : Ast) : ResultVar → Option AV
  | .tmp t => some (st.ev (.tmp t))
  | .cell t ty => match st.at_ (st.ev (.tmp t)), P.underlying ty, P.info? ty with
    | some cs, some d, some i => match d.isRow with
      | true => match Nat.beq cs.length i.size with
        | true => some (.ag cs)
        | false => none
      | false => match cs with
        | c :: _ => match c with
          | .ag _ => none
          | .tp _ => none
          | .pt _ _ => none
          | .un => none
          | c => some c
        | [] => none
    | _, _, _ => none
theorem rv1E_ok {rv : ResultVar} {x : AV} (h : rv1E P st rv = some x) : ResP P rv st x := by
  unfold rv1E at h
  split at h
  · cases h; exact resp_tmp _
  · rename_i t ty
    split at h
    · rename_i cs d i e1 e2 e3
      split at h
      · rename_i hd
        split at h
        · rename_i hl
          cases h
          exact resp_cell t ty d i cs e2 hd e3 e1 (Nat.eq_of_beq_eq_true hl)
        · cases h
      · rename_i hd
        split at h
        · rename_i c cs'
          have hx : c = x ∧ ∀ {w : World} {S : Nat → Nat → Prop} {m : Nat → Option Nat} {τ : Nat → Option Tk} {v : Value}, RK w S τ v c → RT w S m τ v c := by
            cases c <;> first | (cases h; done) | (cases h; exact ⟨rfl, fun g => RK_to g⟩)
          obtain ⟨rfl, hrt⟩ := hx
          intro S m τ E a w hr
          have h1 := hr.ev (.tmp t)
          obtain ⟨b, n, vs, g1, g2, g3⟩ := hr.at_ h1 e1
          obtain ⟨v, k1, k2⟩ := g2.get (j := 0) (x := c) rfl
          refine ⟨v, ?_, hrt k2⟩
          have hcl := g3 0 v k1
          have hl : (loadVar ty ⟨b, n, none⟩).run P w = .ok v w := by
            have := run_load_one (P := P) e2 hd (by simpa using hcl)
            simpa [Instr.loadAt, Instr.sureAddr] using this
          have g1 : a.tmps.getD t undef = .pointer (some ⟨b, n, none⟩) := g1
          show (do let x ← asAddr (a.tmps.getD t undef); loadVar ty x).run P w = _
          rw [g1]
          simp [asAddr, hl]
        · cases h
    · cases h
def resE (P : Program) (fn : Func) (st : Ast) : Option AV := match fn.results with
  | ⟨[]⟩ => some (.tp [])
  | ⟨[a]⟩ => match rv1E P st a with
    | some x => some x.strip
    | none => none
  | ⟨[a, b]⟩ => match rv1E P st a, rv1E P st b with
    | some x, some y => match x.part && y.part with
      | true => some (.tp [x.strip1, y.strip1])
      | false => none
    | _, _ => none
  | ⟨[a, b, c]⟩ => match rv1E P st a, rv1E P st b, rv1E P st c with
    | some x, some y, some z => match x.part && (y.part && z.part) with
      | true => some (.tp [x.strip1, y.strip1, z.strip1])
      | false => none
    | _, _, _ => none
  | _ => none
theorem resE_ok {fn : Func} {x : AV} (h : resE P fn st = some x) : ResOk P fn st x := by
  unfold resE at h
  split at h
  · rename_i e
    cases h
    exact res_none e
  · rename_i a e
    split at h
    · rename_i x e1
      cases h
      intro S m τ E ac w hr
      obtain ⟨v, h1, h2⟩ := resv_one (P := P) e (rv1E_ok e1) S m τ E ac w hr
      exact ⟨v, h1, h2.closed⟩
    · cases h
  · rename_i a b e
    split at h
    · rename_i x y e1 e2
      split at h
      · rename_i hp
        simp only [Bool.and_eq_true] at hp
        cases h
        intro S m τ E ac w hr
        obtain ⟨v, h1, h2⟩ := resv_two (P := P) e (rv1E_ok e1) (rv1E_ok e2) hp.1 hp.2 S m τ E ac w hr
        exact ⟨v, h1, h2.closed⟩
      · cases h
    · cases h
  · rename_i a b c e
    split at h
    · rename_i x y z e1 e2 e3
      split at h
      · rename_i hp
        simp only [Bool.and_eq_true] at hp
        cases h
        intro S m τ E ac w hr
        obtain ⟨v, h1, h2⟩ := resv_three (P := P) e (rv1E_ok e1) (rv1E_ok e2) (rv1E_ok e3) hp.1 hp.2.1 hp.2.2 S m τ E ac w hr
        exact ⟨v, h1, h2.closed⟩
      · cases h
    · cases h
  · cases h
def co0E (x y : AV) : Prs := match x, y with
  | .nl, .ls none rows => [(rI [], rI rows)]
  | x, y => [(x, y)]
theorem co0E_ok {x y : AV} (h : (co0E x y).ok) : Co0 x y := by
  unfold co0E at h
  split at h
  · have := rI_inj (Prs.ok_cons.1 h).1
    subst this
    exact .nl
  · have := (Prs.ok_cons.1 h).1
    subst this
    exact .refl _
def coLE : List AV → List AV → Option Prs
  | [], [] => some []
  | x :: xs, y :: ys => match coLE xs ys with
    | some p => some (co0E x y ++ p)
    | none => none
  | _, _ => none
theorem coLE_ok : ∀ {xs ys : List AV} {p : Prs}, coLE xs ys = some p → p.ok → Co (.ag xs) (.ag ys)
  | [], [], p, h, hp => .of (.refl _)
  | x :: xs, y :: ys, p, h, hp => by
    simp only [coLE] at h
    split at h
    · rename_i p2 e2
      cases h
      obtain ⟨h1, h2⟩ := Prs.ok_app.1 hp
      exact .cons (co0E_ok h1) (coLE_ok e2 h2)
    · cases h
  | [], _ :: _, p, h, hp => by cases h
  | _ :: _, [], p, h, hp => by cases h
def coE (x y : AV) : Option Prs := match y with
  | .un => some []
  | .ag ys => match x with
    | .ag xs => coLE xs ys
    | _ => none
  | y => some (co0E x y)
theorem coE_ok {x y : AV} {p : Prs} (h : coE x y = some p) (hp : p.ok) : Co x y := by
  unfold coE at h
  split at h
  · exact .un _
  · split at h
    · exact coLE_ok h hp
    · cases h
  · cases h
    exact .of (co0E_ok hp)
def rsE (P : Program) (fn : Func) (st : Ast) (y : AV) : Option Prs := match resE P fn st with
  | some x => coE x y
  | none => none
def rsL (P : Program) (fn : Func) (st : Ast) (y : AV) : Option (List AV) := (rsE P fn st y).map fun p => p.map (·.1)
def rsR (P : Program) (fn : Func) (st : Ast) (y : AV) : Option (List AV) := (rsE P fn st y).map fun p => p.map (·.2)
theorem ResOk.rf {fn : Func} {r : AV} (x : AV) (hr : r = x) (ho : (rsE P fn st x).isSome = true := by kernel_rfl) (he : rsL P fn st x = rsR P fn st x := by kernel_rfl) : ResOk P fn st r := by
  subst hr
  unfold rsL rsR at he
  cases hp : rsE P fn st r with
  | none => rw [hp] at ho; cases ho
  | some p =>
    rw [hp] at he
    simp only [Option.map_some, Option.some.injEq] at he
    have hp2 := prs_of he
    unfold rsE at hp
    split at hp
    · rename_i x0 e1
      exact (resE_ok e1).co (coE_ok hp hp2)
    · cases hp
/-- The end of a function, by ret, or behind all. -/
theorem fin_r {fn : Func} {r : AV} (x : AV) (hr : r = x) (ho : (rsE P fn st x).isSome = true := by kernel_rfl) (he : rsL P fn st x = rsR P fn st x := by kernel_rfl) : (Exit.ret = .ret ∨ Exit.ret = .normal) ∧ ResOk P fn st r := ⟨.inl rfl, .rf x hr ho he⟩
theorem fin_n {fn : Func} {r : AV} (x : AV) (hr : r = x) (ho : (rsE P fn st x).isSome = true := by kernel_rfl) (he : rsL P fn st x = rsR P fn st x := by kernel_rfl) : (Exit.normal = .ret ∨ Exit.normal = .normal) ∧ ResOk P fn st r := ⟨.inr rfl, .rf x hr ho he⟩
theorem y_end {a b : Nat} {Y : Ys} (h : a = b) (hs : st.y = ⟨b, some Y⟩) : st.y = ⟨a, some Y⟩ := by rw [hs, h]
theorem yy_end {a b : Nat} {Y : Ys} (h : a = b) (hs : st.y = ⟨a, some Y⟩) : (⟨b, some Y⟩ : Yst) = st.y := by rw [hs, h]
theorem gT : true = true := rfl
theorem gF : false = false := rfl
theorem lenm {α : Type} (f : α → List AV) (l : List α) : (List.map f l).length = l.length := List.length_map ..
theorem app1 {α : Type} (f : α → List AV) (l : List α) (x : α) {r : List AV} {n by_ : Nat} (hr : f x = r) (hk : ∀ y, (f y).length = n) (hb : (l.length + 1) * by_ ≤ 140737488355328) (hm : l.length + 1 ≤ 9223372036854775807) : AppOk (l.map f) [r] ((l ++ [x]).map f) n by_ := by
  subst hr
  exact ⟨by simp, by simp, fun r hr => by simp at hr; subst hr; exact hk x, fun r hr => by
    obtain ⟨y, _, rfl⟩ := List.mem_map.1 hr
    exact hk y, by simpa using hb, by simp [maxLen]; omega⟩
end
end Go.Proofs.YtjghgpmkepfdhaaGreatDoor
namespace Go.Proofs.YtjghgpmkepfdhaaGreatDoor
namespace Pn
set_option linter.unusedVariables false

theorem all_false {α : Type} {l : List α} {n : Nat} {x : α} {C : α → Bool} (h : l[n]? = some x) (hc : C x = false) : l.all C = false := by
  rw [Bool.eq_false_iff]
  intro ha
  have := List.all_eq_true.1 ha x (List.mem_of_getElem? h)
  rw [hc] at this; cases this
theorem take_next {α : Type} {l : List α} {n : Nat} {x : α} (h : l[n]? = some x) : l.take (n + 1) = l.take n ++ [x] := by
  rw [List.take_add_one, h]; rfl
theorem all_next {α : Type} {l : List α} {n : Nat} {x : α} {C : α → Bool} (h : l[n]? = some x) (ht : (l.take n).all C = true) (hc : C x = true) : (l.take (n + 1)).all C = true := by
  rw [take_next h, List.all_append, ht]; simp [hc]
theorem all_end {α : Type} {l : List α} {n : Nat} {C : α → Bool} (ht : (l.take n).all C = true) (hn : ¬ ((n : Int) < (l.length : Int))) : l.all C = true := by
  rwa [List.take_of_length_le (by omega)] at ht
theorem len_lt {α : Type} {l : List α} {n : Nat} {x : α} (h : l[n]? = some x) : n < l.length := (List.getElem?_eq_some_iff.1 h).1
/-- Two lists, one by one. -/
def all2 {α : Type} (R : α → α → Bool) : List α → List α → Bool
  | [], [] => true
  | x :: l, y :: r => R x y && all2 R l r
  | _, _ => false
theorem all2_len {α : Type} {R : α → α → Bool} : ∀ {l r : List α}, l.length ≠ r.length → all2 R l r = false
  | [], [], h => absurd rfl h
  | [], _ :: _, _ => rfl
  | _ :: _, [], _ => rfl
  | x :: l, y :: r, h => by simp only [all2, all2_len (l := l) (r := r) (by simpa using h), Bool.and_false]
theorem all2_false {α : Type} {R : α → α → Bool} : ∀ {l r : List α} {n : Nat} {x y : α}, l[n]? = some x → r[n]? = some y → R x y = false → all2 R l r = false
  | x :: l, y :: r, 0, a, b, h, g, hr => by
    simp at h g; subst h; subst g
    simp [all2, hr]
  | x :: l, y :: r, n + 1, a, b, h, g, hr => by
    simp only [all2, all2_false (l := l) (r := r) (n := n) (by simpa using h) (by simpa using g) hr, Bool.and_false]
  | [], _, n, a, b, h, g, hr => by simp at h
  | _ :: _, [], n, a, b, h, g, hr => by simp at g
theorem all2_next {α : Type} {R : α → α → Bool} : ∀ {l r : List α} {n : Nat} {x y : α}, l[n]? = some x → r[n]? = some y → all2 R (l.take n) (r.take n) = true → R x y = true → all2 R (l.take (n + 1)) (r.take (n + 1)) = true
  | x :: l, y :: r, 0, a, b, h, g, ht, hr => by
    simp at h g; subst h; subst g
    simp [all2, hr]
  | x :: l, y :: r, n + 1, a, b, h, g, ht, hr => by
    simp only [List.take_succ_cons, all2, Bool.and_eq_true] at ht ⊢
    exact ⟨ht.1, all2_next (by simpa using h) (by simpa using g) ht.2 hr⟩
  | [], _, n, a, b, h, g, ht, hr => by simp at h
  | _ :: _, [], n, a, b, h, g, ht, hr => by simp at g
theorem all2_end {α : Type} {R : α → α → Bool} {l r : List α} {n : Nat} (ht : all2 R (l.take n) (r.take n) = true) (hn : ¬ ((n : Int) < (l.length : Int))) (hl : l.length = r.length) : all2 R l r = true := by
  rwa [List.take_of_length_le (by omega), List.take_of_length_le (by omega)] at ht
end Pn
end Go.Proofs.YtjghgpmkepfdhaaGreatDoor
namespace Go.Proofs.YtjghgpmkepfdhaaGreatDoor
open Go.RowKit
set_option linter.unusedVariables false

theorem eqOw0 (d : Nat) (a b c e : Int) (W : World) : (Op.equalIn (d + 2) 46 (.agg #[.int .i64 a, .int .i64 b]) (.agg #[.int .i64 c, .int .i64 e])).run Tryz.prog W = .ok (a == c && b == e) W := by
  simp [go_sem]
  by_cases h : a = c <;> by_cases g : b = e <;> simp [h, g]
theorem eqOw (a b : Pn.Ow) (W : World) : (Op.equalIn 10000 46 (.agg #[.int .i64 a.kind, .int .i64 a.n]) (.agg #[.int .i64 b.kind, .int .i64 b.n])).run Tryz.prog W = .ok (decide (a = b)) W := by
  rw [show (10000 : Nat) = 9998 + 2 from rfl, eqOw0]
  congr 1
  cases a; cases b
  simp only [Pn.Ow.mk.injEq]
  rw [Bool.eq_iff_iff]
  simp
theorem infoOw : ∃ i, Tryz.prog.info? 46 = some i := Option.isSome_iff_exists.1 (show (Tryz.prog.info? 46).isSome = true by kernel_rfl)
theorem cellsOw : Tryz.prog.cellsOf 46 = 2 := by kernel_rfl
theorem eqOwn4 (a0 a1 a2 a3 a4 a5 a6 a7 b0 b1 b2 b3 b4 b5 b6 b7 : Int) (W : World) :
    (Op.equalIn 9999 47 (.agg #[.int .i64 a0, .int .i64 a1, .int .i64 a2, .int .i64 a3, .int .i64 a4, .int .i64 a5, .int .i64 a6, .int .i64 a7]) (.agg #[.int .i64 b0, .int .i64 b1, .int .i64 b2, .int .i64 b3, .int .i64 b4, .int .i64 b5, .int .i64 b6, .int .i64 b7])).run Tryz.prog W
      = .ok ((a0 == b0 && a1 == b1) && (a2 == b2 && a3 == b3) && (a4 == b4 && a5 == b5) && (a6 == b6 && a7 == b7)) W := by
  obtain ⟨i, hi⟩ := infoOw
  rw [show (9999 : Nat) = 9998 + 1 from rfl, run_equalIn_array W 9998 _ _ Tryz.underlying47 hi, cellsOw, show List.range 4 = [0, 1, 2, 3] from rfl]
  simp [Op.eqItems, go_sem]
  repeat' split
  all_goals simp_all
theorem eqTy (t u : Pn.Ty) (W : World) :
    (Op.equalIn 10000 49 (.agg #[.int .i64 t.kind, .string t.cls, .int .i64 t.n, .int .i64 t.o0.kind, .int .i64 t.o0.n, .int .i64 t.o1.kind, .int .i64 t.o1.n, .int .i64 t.o2.kind, .int .i64 t.o2.n, .int .i64 t.o3.kind, .int .i64 t.o3.n])
      (.agg #[.int .i64 u.kind, .string u.cls, .int .i64 u.n, .int .i64 u.o0.kind, .int .i64 u.o0.n, .int .i64 u.o1.kind, .int .i64 u.o1.n, .int .i64 u.o2.kind, .int .i64 u.o2.n, .int .i64 u.o3.kind, .int .i64 u.o3.n])).run Tryz.prog W = .ok (decide (t = u)) W := by
  simp [go_sem, eqOwn4]
  by_cases h1 : t.kind = u.kind
  · by_cases h2 : t.cls = u.cls
    · by_cases h3 : t.n = u.n
      · have key : ((t.o0.kind == u.o0.kind && t.o0.n == u.o0.n) && (t.o1.kind == u.o1.kind && t.o1.n == u.o1.n) && (t.o2.kind == u.o2.kind && t.o2.n == u.o2.n) && (t.o3.kind == u.o3.kind && t.o3.n == u.o3.n)) = decide (t = u) := by
          rw [Bool.eq_iff_iff]
          cases t with | mk a b c d e f g => cases u with | mk a' b' c' d' e' f' g' =>
          cases d; cases e; cases f; cases g; cases d'; cases e'; cases f'; cases g'
          simp at h1 h2 h3
          simp [h1, h2, h3]
          exact ⟨fun ⟨⟨⟨⟨q0, q1⟩, q2, q3⟩, q4, q5⟩, q6, q7⟩ => ⟨⟨q0, q1⟩, ⟨q2, q3⟩, ⟨q4, q5⟩, q6, q7⟩, fun ⟨⟨q0, q1⟩, ⟨q2, q3⟩, ⟨q4, q5⟩, q6, q7⟩ => ⟨⟨⟨⟨q0, q1⟩, q2, q3⟩, q4, q5⟩, q6, q7⟩⟩
        simp only [h1, h2, h3, key]
        by_cases hh : t = u <;> simp [hh]
      · have : ¬ t = u := fun e => h3 (by rw [e])
        simp [h1, h2, h3, this]
    · have : ¬ t = u := fun e => h2 (by rw [e])
      have h2' : (t.cls.toList == u.cls.toList) = false := by rw [bytes_eq]; simpa using h2
      have h2n : ¬ t.cls.toList = u.cls.toList := by simpa using h2'
      simp [h1, h2n, this]
  · have : ¬ t = u := fun e => h1 (by rw [e])
    simp [h1, this]
end Go.Proofs.YtjghgpmkepfdhaaGreatDoor
namespace Go.Proofs.YtjghgpmkepfdhaaGreatDoor
open Go.RowKit
set_option linter.unusedVariables false
theorem mixed : Tryz.prog.follows .mixedOrders = true := by kernel_rfl
namespace Pn
def eqVr (atp : Bool) (x y : Vr) : Bool := decide (x.name = y.name) && decide (x.type = y.type) && (!atp || decide (x.pos = y.pos))
mutual
def sameX : Xp → Xp → Bool
  | .mk k n s l, y => decide (k = y.kind) && decide (n = y.num) && decide (s = y.name) && sameXs l y.kids
def sameXs : List Xp → List Xp → Bool
  | [], [] => true
  | x :: l, y :: r => sameX x y && sameXs l r
  | _, _ => false
end
theorem sameXs_eq : ∀ l r, sameXs l r = all2 sameX l r
  | [], [] => by simp [sameXs, all2]
  | x :: l, y :: r => by simp [sameXs, all2, sameXs_eq l r]
  | [], _ :: _ => by simp [sameXs, all2]
  | _ :: _, [] => by simp [sameXs, all2]
theorem sameX_eq (x y : Xp) : sameX x y = (decide (x.kind = y.kind) && decide (x.num = y.num) && decide (x.name = y.name) && all2 sameX x.kids y.kids) := by
  cases x; rw [sameX, sameXs_eq]; rfl
mutual
def atsS : Sm → Sm → Bool
  | .mk _ _ _ _ _ _ _ b c p, y => decide (p = y.pos) && atsL b y.body && atsL c y.els
def atsL : List Sm → List Sm → Bool
  | [], [] => true
  | x :: l, y :: r => atsS x y && atsL l r
  | _, _ => false
end
theorem atsL_eq : ∀ l r, atsL l r = all2 atsS l r
  | [], [] => by simp [atsL, all2]
  | x :: l, y :: r => by simp [atsL, all2, atsL_eq l r]
  | [], _ :: _ => by simp [atsL, all2]
  | _ :: _, [] => by simp [atsL, all2]
theorem atsS_eq (x y : Sm) : atsS x y = (decide (x.pos = y.pos) && atsL x.body y.body && atsL x.els y.els) := by
  cases x; rw [atsS]; rfl
mutual
def sameS : Sm → Sm → Bool
  | .mk k x y n t e a b c _, z => decide (k = z.kind) && decide (x = z.x) && decide (y = z.y) && decide (n = z.name) && decide (t = z.type) && sameX e z.e && all2 sameX a z.args && sameSs b z.body && sameSs c z.els
def sameSs : List Sm → List Sm → Bool
  | [], [] => true
  | x :: l, y :: r => sameS x y && sameSs l r
  | _, _ => false
end
theorem sameSs_eq : ∀ l r, sameSs l r = all2 sameS l r
  | [], [] => by simp [sameSs, all2]
  | x :: l, y :: r => by simp [sameSs, all2, sameSs_eq l r]
  | [], _ :: _ => by simp [sameSs, all2]
  | _ :: _, [] => by simp [sameSs, all2]
theorem sameS_eq (x z : Sm) : sameS x z = (decide (x.kind = z.kind) && decide (x.x = z.x) && decide (x.y = z.y) && decide (x.name = z.name) && decide (x.type = z.type) && sameX x.e z.e && all2 sameX x.args z.args && all2 sameS x.body z.body && all2 sameS x.els z.els) := by
  cases x; rw [sameS, sameSs_eq, sameSs_eq]; rfl
def likeM (atp : Bool) (a b : Me) : Bool := decide (a.name = b.name) && decide (a.pure = b.pure) && decide (a.ret = b.ret) && (!atp || (decide (a.pos = b.pos) && atsL a.body b.body)) &&
  all2 (fun x y => eqVr atp x y) a.params b.params && all2 (fun x y => eqVr atp x y) a.locals b.locals && all2 sameS a.body b.body
def oneC (atp : Bool) (a b : Cl) : Bool := decide (a.name = b.name) && decide (a.super = b.super) && (!atp || decide (a.pos = b.pos)) && all2 (fun x y => decide (x = y)) a.params b.params && all2 (fun x y => decide (x = y)) a.above b.above &&
  all2 (fun x y => likeM atp x y) a.methods b.methods && all2 (fun x y => eqVr atp x y) a.fields b.fields
theorem oneC_eq (atp : Bool) (a b : Cl) : oneC atp a b = (decide (a.name = b.name) && decide (a.super = b.super) && (!atp || decide (a.pos = b.pos)) && all2 (fun x y => decide (x = y)) a.params b.params && all2 (fun x y => decide (x = y)) a.above b.above &&
  all2 (fun x y => likeM atp x y) a.methods b.methods && all2 (fun x y => eqVr atp x y) a.fields b.fields) := rfl
theorem cntSs_app : ∀ l r, cntSs (l ++ r) = cntSs l + cntSs r
  | [], r => by simp [cntSs]
  | x :: l, r => by simp [cntSs, cntSs_app l r]; omega
theorem sum_le {α : Type} {c : List α → Nat} (h : ∀ l r, c (l ++ r) = c l + c r) (l : List α) (n : Nat) : c (l.take n) ≤ c l := by
  have := h (l.take n) (l.drop n)
  rw [List.take_append_drop] at this
  omega
theorem cntSs_next {l : List Sm} {n : Nat} {x : Sm} (h : l[n]? = some x) : cntSs (l.take (n + 1)) = cntSs (l.take n) + cntS x := by
  rw [take_next h, cntSs_app]; simp [cntSs]
def cntMs : List Me → Nat
  | [] => 0
  | m :: l => cntSs m.body + cntMs l
theorem cntMs_app : ∀ l r, cntMs (l ++ r) = cntMs l + cntMs r
  | [], r => by simp [cntMs]
  | x :: l, r => by simp [cntMs, cntMs_app l r]; omega
theorem cntMs_next {l : List Me} {n : Nat} {x : Me} (h : l[n]? = some x) : cntMs (l.take (n + 1)) = cntMs (l.take n) + cntSs x.body := by
  rw [take_next h, cntMs_app]; simp [cntMs]
mutual
def deepX : Xp → Nat
  | .mk _ _ _ l => deepXs l + 1
def deepXs : List Xp → Nat
  | [] => 0
  | x :: l => max (deepX x) (deepXs l)
end
theorem deepX_eq (x : Xp) : deepX x = deepXs x.kids + 1 := by cases x; simp [deepX, Xp.kids]
theorem deepXs_app : ∀ l r, deepXs (l ++ r) = max (deepXs l) (deepXs r)
  | [], r => by simp [deepXs]
  | x :: l, r => by simp only [List.cons_append, deepXs, deepXs_app l r]; omega
theorem deepXs_next {l : List Xp} {n : Nat} {x : Xp} (h : l[n]? = some x) : deepXs (l.take (n + 1)) = max (deepXs (l.take n)) (deepX x) := by
  rw [take_next h, deepXs_app]; simp [deepXs]
theorem cntXs_app : ∀ l r, cntXs (l ++ r) = cntXs l + cntXs r
  | [], r => by simp [cntXs]
  | x :: l, r => by simp [cntXs, cntXs_app l r]; omega
mutual
theorem deepX_le : ∀ x, deepX x ≤ cntX x
  | .mk _ _ _ l => by have := deepXs_le l; simp only [deepX, cntX]; omega
theorem deepXs_le : ∀ l, deepXs l ≤ cntXs l
  | [] => by simp [deepXs]
  | x :: l => by have := deepX_le x; have := deepXs_le l; simp only [deepXs, cntXs]; omega
end
def kidsN (k : Int) : Int := if (k ≥ 6 ∧ k ≤ 11) ∨ k = 14 then 2 else if k = 12 ∨ k = 13 then 1 else 0
end Pn
end Go.Proofs.YtjghgpmkepfdhaaGreatDoor
namespace Go.Proofs.YtjghgpmkepfdhaaGreatDoor
open Go.RowKit
set_option linter.unusedVariables false
namespace Pn
mutual
def deepS : Sm → Nat
  | .mk _ _ _ _ _ _ _ b c _ => max (deepSs b) (deepSs c) + 1
def deepSs : List Sm → Nat
  | [] => 0
  | x :: l => max (deepS x) (deepSs l)
end
theorem deepS_eq (x : Sm) : deepS x = max (deepSs x.body) (deepSs x.els) + 1 := by cases x; simp [deepS, Sm.body, Sm.els]
theorem deepSs_app : ∀ l r, deepSs (l ++ r) = max (deepSs l) (deepSs r)
  | [], r => by simp [deepSs]
  | x :: l, r => by simp only [List.cons_append, deepSs, deepSs_app l r]; omega
theorem deepSs_next {l : List Sm} {n : Nat} {x : Sm} (h : l[n]? = some x) : deepSs (l.take (n + 1)) = max (deepSs (l.take n)) (deepS x) := by
  rw [take_next h, deepSs_app]; simp [deepSs]
mutual
theorem deepS_le : ∀ x, deepS x ≤ cntS x
  | .mk _ _ _ _ _ _ _ b c _ => by have := deepSs_le b; have := deepSs_le c; simp only [deepS, cntS]; omega
theorem deepSs_le : ∀ l, deepSs l ≤ cntSs l
  | [] => by simp [deepSs]
  | x :: l => by have := deepS_le x; have := deepSs_le l; simp only [deepSs, cntSs]; omega
end
mutual
def kidsB : Xp → Int → Bool
  | .mk _ _ _ l, n => decide (n < 0) || decide ((l.length : Int) > 4) || !kidsBs l (n - 1)
def kidsBs : List Xp → Int → Bool
  | [], _ => true
  | x :: l, n => !kidsB x n && kidsBs l n
end
theorem kidsBs_eq (n : Int) : ∀ l, kidsBs l n = l.all fun y => !kidsB y n
  | [] => by simp [kidsBs]
  | x :: l => by rw [kidsBs, kidsBs_eq n l]; rfl
theorem kidsB_eq (x : Xp) (n : Int) : kidsB x n = (decide (n < 0) || decide ((x.kids.length : Int) > 4) || !x.kids.all fun y => !kidsB y (n - 1)) := by
  cases x; rw [kidsB, kidsBs_eq]; rfl
mutual
def muchB : Sm → Int → Bool
  | .mk _ _ _ _ _ e a b c _, n => decide (n < 0) || decide ((b.length : Int) > 500) || decide ((c.length : Int) > 500) || decide ((a.length : Int) > 20) || kidsB e 25 || !(a.all fun y => !kidsB y 25) || !muchBs b (n - 1) || !muchBs c (n - 1)
def muchBs : List Sm → Int → Bool
  | [], _ => true
  | x :: l, n => !muchB x n && muchBs l n
end
theorem muchBs_eq (n : Int) : ∀ l, muchBs l n = l.all fun y => !muchB y n
  | [] => by simp [muchBs]
  | x :: l => by rw [muchBs, muchBs_eq n l]; rfl
theorem muchB_eq (x : Sm) (n : Int) : muchB x n = (decide (n < 0) || decide ((x.body.length : Int) > 500) || decide ((x.els.length : Int) > 500) || decide ((x.args.length : Int) > 20) || kidsB x.e 25 || !(x.args.all fun y => !kidsB y 25) || !(x.body.all fun y => !muchB y (n - 1)) || !(x.els.all fun y => !muchB y (n - 1))) := by
  cases x; rw [muchB, muchBs_eq, muchBs_eq]; rfl
def holeT (t : Ty) : Nat := if t.kind = 2 ∧ t.o0.kind = 7 then 1 else 0
def holesV : List Vr → Nat
  | [] => 0
  | v :: l => holeT v.type + holesV l
theorem holesV_app : ∀ l r, holesV (l ++ r) = holesV l + holesV r
  | [], r => by simp [holesV]
  | x :: l, r => by simp [holesV, holesV_app l r]; omega
theorem holesV_next {l : List Vr} {n : Nat} {x : Vr} (h : l[n]? = some x) : holesV (l.take (n + 1)) = holesV (l.take n) + holeT x.type := by
  rw [take_next h, holesV_app]; simp [holesV]
theorem holesV_le : ∀ l, holesV l ≤ l.length
  | [] => by simp [holesV]
  | x :: l => by have := holesV_le l; simp only [holesV, holeT, List.length_cons]; split <;> omega
mutual
def innerS : Sm → Nat
  | .mk _ _ _ _ t _ _ b c _ => holeT t + innerL b + innerL c
def innerL : List Sm → Nat
  | [] => 0
  | x :: l => innerS x + innerL l
end
theorem innerS_eq (x : Sm) : innerS x = holeT x.type + innerL x.body + innerL x.els := by cases x; simp [innerS, Sm.body, Sm.els, Sm.type]
theorem innerL_app : ∀ l r, innerL (l ++ r) = innerL l + innerL r
  | [], r => by simp [innerL]
  | x :: l, r => by simp [innerL, innerL_app l r]; omega
theorem innerL_next {l : List Sm} {n : Nat} {x : Sm} (h : l[n]? = some x) : innerL (l.take (n + 1)) = innerL (l.take n) + innerS x := by
  rw [take_next h, innerL_app]; simp [innerL]
mutual
theorem innerS_le : ∀ x, innerS x ≤ cntS x
  | .mk _ _ _ _ t _ _ b c _ => by have := innerL_le b; have := innerL_le c; simp only [innerS, cntS, holeT]; split <;> omega
theorem innerL_le : ∀ l, innerL l ≤ cntSs l
  | [] => by simp [innerL]
  | x :: l => by have := innerS_le x; have := innerL_le l; simp only [innerL, cntSs]; omega
end
def uniqV : List Vr → Nat
  | [] => 0
  | v :: l => (if v.type.o0.kind = 6 then 1 else 0) + uniqV l
theorem uniqV_app : ∀ l r, uniqV (l ++ r) = uniqV l + uniqV r
  | [], r => by simp [uniqV]
  | x :: l, r => by simp [uniqV, uniqV_app l r]; omega
theorem uniqV_next {l : List Vr} {n : Nat} {x : Vr} (h : l[n]? = some x) : uniqV (l.take (n + 1)) = uniqV (l.take n) + (if x.type.o0.kind = 6 then 1 else 0) := by
  rw [take_next h, uniqV_app]; simp [uniqV]
theorem uniqV_le : ∀ l, uniqV l ≤ l.length
  | [] => by simp [uniqV]
  | x :: l => by have := uniqV_le l; simp only [uniqV, List.length_cons]; split <;> omega
end Pn
end Go.Proofs.YtjghgpmkepfdhaaGreatDoor
namespace Go.Proofs.YtjghgpmkepfdhaaGreatDoor
open Go.RowKit
set_option linter.unusedVariables false
namespace Pn
/-- The first element that a function takes, by number; -1 where there is none. -/
def idx {α : Type} (C : α → Bool) : List α → Int
  | [] => -1
  | x :: l => if C x then 0 else if idx C l < 0 then -1 else idx C l + 1
theorem idx_ge0 {α : Type} (C : α → Bool) : ∀ l : List α, -1 ≤ idx C l
  | [] => by simp [idx]
  | x :: l => by
    have := idx_ge0 C l
    simp only [idx]
    split
    · omega
    · split <;> omega
theorem idx_ge {α : Type} (C : α → Bool) : ∀ l : List α, decide ((idx C l : Int) ≥ 0) = l.any C
  | [] => by simp [idx]
  | x :: l => by
    have h := idx_ge C l
    rw [List.any_cons, ← h]
    simp only [idx]
    by_cases hc : C x = true
    · simp [hc]
    · have hc : C x = false := by simpa using hc
      simp only [hc, Bool.false_eq_true, if_false, Bool.false_or]
      by_cases hn : idx C l < 0
      · rw [if_pos hn]; simp; omega
      · rw [if_neg hn]; simp; omega
theorem idx_miss {α : Type} {C : α → Bool} : ∀ {l : List α}, l.any C = false → idx C l = -1
  | [], h => rfl
  | x :: l, h => by
    rw [List.any_cons, Bool.or_eq_false_iff] at h
    simp only [idx, h.1, idx_miss h.2]
    simp
theorem idx_hit {α : Type} {C : α → Bool} : ∀ {l : List α} {j : Nat} {x : α}, (l.take j).any C = false → l[j]? = some x → C x = true → idx C l = (j : Int)
  | [], j, x, h, hx, hc => by simp at hx
  | y :: l, 0, x, h, hx, hc => by
    simp at hx
    subst hx
    simp [idx, hc]
  | y :: l, j + 1, x, h, hx, hc => by
    rw [List.take_succ_cons, List.any_cons, Bool.or_eq_false_iff] at h
    have h2 := idx_hit (l := l) h.2 (by simpa using hx) hc
    simp only [idx, h.1, h2]
    simp
    omega
theorem any_next {α : Type} {C : α → Bool} {l : List α} {j : Nat} {x : α} (hx : l[j]? = some x) (h : (l.take j).any C = false) (hc : C x = false) : (l.take (j + 1)).any C = false := by
  rw [take_next hx, List.any_append, h]
  simp [hc]
theorem any_end {α : Type} {C : α → Bool} {l : List α} {j : Nat} (h : (l.take j).any C = false) (hj : ¬ ((j : Nat) : Int) < ((l.length : Nat) : Int)) : l.any C = false := by
  rwa [List.take_of_length_le (by omega)] at h
theorem any_not {α : Type} (C : α → Bool) : ∀ l : List α, l.all C = (!(l.any fun x => !(C x)))
  | [] => rfl
  | x :: l => by rw [List.all_cons, List.any_cons, any_not C l]; cases C x <;> simp
end Pn
end Go.Proofs.YtjghgpmkepfdhaaGreatDoor
namespace Go.Proofs.YtjghgpmkepfdhaaGreatDoor
open Go.RowKit
set_option linter.unusedVariables false
namespace Pn
theorem live_ran {ans : Nat → Bool} (n : Nat) : liveB ans (ran ans 0 n).1 = (ran ans 0 n).2 := by
  cases h : ran ans 0 n with
  | mk j b =>
    have key : ∀ n j b, ran ans 0 n = (j, b) → liveB ans j = b := by
      intro n
      induction n with
      | zero => intro j b h; unfold ran at h; cases h; rfl
      | succ n ih =>
        intro j b h
        unfold ran at h
        cases hr : ran ans 0 n with
        | mk q c =>
          rw [hr] at h
          cases c with
          | true => cases h; exact live_app
          | false => cases h; exact ih _ _ hr
    exact key n j b h
theorem ran_succ (ans : Nat → Bool) (k n : Nat) : ran ans k (n + 1) = match ran ans k n with
    | (j, true) => (j + 1, ans j)
    | p => p := rfl
theorem ran_all {ans : Nat → Bool} : ∀ n, (ran ans 0 n).2 = (List.range n).all ans
  | 0 => rfl
  | n + 1 => by
    rw [List.range_succ, List.all_append, ← ran_all n, ran_succ]
    cases hr : ran ans 0 n with
    | mk q c =>
      cases c with
      | true =>
        have := (ran_le (ans := ans) (k := 0) n).2 (by rw [hr])
        rw [hr] at this
        simp only at this
        simp [this]
      | false => simp
/-- What a loop over a list, or over two, answers to its rounds. -/
def ans1 {α : Type} (C : α → Bool) (l : List α) (q : Nat) : Bool := match l[q]? with
  | some x => C x
  | none => true
theorem ans1_at {α : Type} {C : α → Bool} {l : List α} {q : Nat} {x : α} (h : l[q]? = some x) : ans1 C l q = C x := by unfold ans1; rw [h]
def ans2 {α : Type} (R : α → α → Bool) (a b : List α) (q : Nat) : Bool := match a[q]?, b[q]? with
  | some x, some y => R x y
  | _, _ => true
theorem ans2_at {α : Type} {R : α → α → Bool} {a b : List α} {q : Nat} {x y : α} (h : a[q]? = some x) (g : b[q]? = some y) : ans2 R a b q = R x y := by unfold ans2; rw [h, g]
theorem range_all {α : Type} {C : α → Bool} : ∀ l : List α, (List.range l.length).all (ans1 C l) = l.all C
  | [] => rfl
  | x :: l => by
    rw [List.length_cons, List.range_succ_eq_map, List.all_cons, List.all_cons, ← range_all l, List.all_map]
    rfl
theorem range_all2 {α : Type} {R : α → α → Bool} : ∀ a b : List α, a.length = b.length → (List.range a.length).all (ans2 R a b) = all2 R a b
  | [], [], _ => rfl
  | x :: a, y :: b, h => by
    rw [List.length_cons, List.range_succ_eq_map, List.all_cons, List.all_map]
    have := range_all2 (R := R) a b (by simpa using h)
    simp only [all2, ← this]
    rfl
  | [], _ :: _, h => by simp at h
  | _ :: _, [], h => by simp at h
/-- The types that a loop over a program's types has. -/
def tyV (l : List Vr) : List Ty := l.map (·.type)
theorem tyV_len (l : List Vr) : (tyV l).length = l.length := by simp [tyV]
mutual
def tyS : Sm → List Ty
  | .mk _ _ _ _ t _ _ b c _ => t :: (tyL b ++ tyL c)
def tyL : List Sm → List Ty
  | [] => []
  | x :: l => tyS x ++ tyL l
end
theorem tyS_eq (x : Sm) : tyS x = x.type :: (tyL x.body ++ tyL x.els) := by cases x; rw [tyS]; rfl
theorem tyL_app : ∀ a b, tyL (a ++ b) = tyL a ++ tyL b
  | [], b => by simp [tyL]
  | x :: a, b => by simp [tyL, tyL_app a b]
def tyM (m : Me) : List Ty := m.ret :: (tyV m.params ++ (tyV m.locals ++ tyL m.body))
def tyMs : List Me → List Ty
  | [] => []
  | m :: l => tyM m ++ tyMs l
theorem tyMs_app : ∀ a b, tyMs (a ++ b) = tyMs a ++ tyMs b
  | [], b => by simp [tyMs]
  | x :: a, b => by simp [tyMs, tyMs_app a b]
def tyC (c : Cl) : List Ty := tyV c.fields ++ tyMs c.methods
def tyP : List Cl → List Ty
  | [] => []
  | c :: l => tyC c ++ tyP l
theorem tyP_app : ∀ a b, tyP (a ++ b) = tyP a ++ tyP b
  | [], b => by simp [tyP]
  | x :: a, b => by simp [tyP, tyP_app a b]
theorem ty_split {α : Type} {f : List α → List Ty} {g : α → List Ty} (h1 : ∀ a b, f (a ++ b) = f a ++ f b) (h2 : ∀ x l, f (x :: l) = g x ++ f l) {l : List α} {j : Nat} {x : α} (hx : l[j]? = some x) : f l = f (l.take j) ++ (g x ++ f (l.drop (j + 1))) := by
  have hlt : j < l.length := (List.getElem?_eq_some_iff.1 hx).1
  have e : l.drop j = x :: l.drop (j + 1) := by
    rw [List.drop_eq_getElem_cons hlt]
    congr 1
    exact (List.getElem?_eq_some_iff.1 hx).2
  conv => lhs; rw [← List.take_append_drop j l]
  rw [h1, e, h2]
theorem ty_next {α : Type} {f : List α → List Ty} {g : α → List Ty} (h0 : f [] = []) (h1 : ∀ a b, f (a ++ b) = f a ++ f b) (h2 : ∀ x l, f (x :: l) = g x ++ f l) {l : List α} {j : Nat} {x : α} (hx : l[j]? = some x) : (f (l.take (j + 1))).length = (f (l.take j)).length + (g x).length := by
  rw [take_next hx, h1, h2, h0]; simp
/-- From round h on a loop is asked with these types. -/
def At (Y : Ys) (h : Nat) (T : List Ty) : Prop := ∀ (i : Nat) t, T[i]? = some t → Y.items[h + i]? = some [.ag (encTy t)]
theorem At.left {Y : Ys} {h : Nat} {A B : List Ty} (ha : At Y h (A ++ B)) : At Y h A := fun i t hi => ha i t (by rw [List.getElem?_append_left (List.getElem?_eq_some_iff.1 hi).1]; exact hi)
theorem At.right {Y : Ys} {h : Nat} {A B : List Ty} (ha : At Y h (A ++ B)) {k : Nat} (hk : k = h + A.length) : At Y k B := fun i t hi => by
  have := ha (A.length + i) t (by rw [List.getElem?_append_right (by omega)]; rw [show A.length + i - A.length = i by omega]; exact hi)
  rw [show k + i = h + (A.length + i) by omega]
  exact this
theorem At.head {Y : Ys} {h : Nat} {t : Ty} {T : List Ty} (ha : At Y h (t :: T)) : Y.items[h]? = some [.ag (encTy t)] := ha 0 t rfl
theorem At.tail {Y : Ys} {h : Nat} {t : Ty} {T : List Ty} (ha : At Y h (t :: T)) {k : Nat} (hk : k = h + 1) : At Y k T := fun i t' hi => by
  have := ha (i + 1) t' hi
  rw [show k + i = h + (i + 1) by omega]
  exact this
theorem At.eq {Y : Ys} {h k : Nat} {T U : List Ty} (ha : At Y h T) (hk : k = h) (hT : T = U) : At Y k U := by subst hk; subst hT; exact ha
theorem ran_app2 {ans : Nat → Bool} {k a : Nat} (h : ran ans k a = (k + a, true)) : ∀ {n : Nat}, (ran ans (k + a) n).2 = true → ran ans k (a + n) = (k + (a + n), true)
  | 0, _ => h
  | n + 1, hn => by
    rw [ran_succ] at hn
    have e : ran ans k (a + (n + 1)) = match ran ans k (a + n) with
      | (j, true) => (j + 1, ans j)
      | p => p := rfl
    cases hr : ran ans (k + a) n with
    | mk q b =>
      rw [hr] at hn
      cases b with
      | true =>
        have h2 := ran_app2 h (n := n) (by rw [hr])
        have h3 := (ran_le (ans := ans) (k := k + a) n).2 (by rw [hr])
        rw [hr] at h3
        simp only at h3 hn
        rw [e, h2]
        simp only
        rw [show k + (a + n) = q by omega, hn]
        congr 1
        omega
      | false => cases hn
theorem ran_fail {ans : Nat → Bool} {k a : Nat} (h : ran ans k a = (k + a, true)) : ∀ {n N : Nat}, (ran ans (k + a) n).2 = false → a + n ≤ N → ran ans k N = ran ans (k + a) n := by
  intro n N hn hN
  have key : ∀ n, (ran ans (k + a) n).2 = false → ran ans k (a + n) = ran ans (k + a) n := by
    intro n
    induction n with
    | zero => intro h; cases h
    | succ n ih =>
      intro hn
      have e : ran ans k (a + (n + 1)) = match ran ans k (a + n) with
        | (j, true) => (j + 1, ans j)
        | p => p := rfl
      rw [e, ran_succ]
      cases hr : (ran ans (k + a) n).2 with
      | true =>
        have h2 := ran_app2 h (n := n) hr
        have h3 := (ran_le (ans := ans) (k := k + a) n).2 hr
        have h4 : ran ans (k + a) n = (k + (a + n), true) := Prod.ext (by rw [h3]; omega) hr
        rw [h2, h4]
      | false => rw [ih hr]
  have h1 := key n hn
  have h2 := ran_more (j := a + n) (by rw [h1]; exact hn) (N - (a + n))
  rw [show a + n + (N - (a + n)) = N by omega] at h2
  rw [h2, h1]
theorem ran_live2 {ans : Nat → Bool} {H n K : Nat} (hl : H = 0 ∨ ans (H - 1) = true) (h : (ran ans H n).2 = true) (e : K = H + n) : K = 0 ∨ ans (K - 1) = true := by
  subst e
  have := ran_live hl (j := n) (Prod.ext ((ran_le n).2 h) h)
  exact this
theorem _root_.Go.Proofs.YtjghgpmkepfdhaaGreatDoor.YCalls.to {P : Program} {F : FuncId} {args : List AV} {Y : Ys} {H n K : Nat} {r : AV} (h : YCalls P F args Y H r (ran Y.ans H n).1) (hn : (ran Y.ans H n).2 = true) (e : K = H + n) : YCalls P F args Y H r K := by
  rw [e, ← (ran_le n).2 hn]; exact h
/-- An expression's Kids, as a loop over them has them. -/
def kidI (l : List Xp) : List (List AV) := l.mapIdx fun i k => [.sc (.int .i64 (i : Int)), .ag (encX k)]
theorem kidI_at {l : List Xp} {j : Nat} {k : Xp} (h : l[j]? = some k) : (kidI l)[j]? = some [.sc (.int .i64 (j : Int)), .ag [.sc (.int .i64 k.kind), .sc (.int .i64 k.num), .sc (.string k.name), .ls none (k.kids.map encX)]] := by
  unfold kidI
  rw [List.getElem?_mapIdx, h, ← encX_eq k]
  rfl
theorem kidI_out {l : List Xp} {j : Nat} {r : List AV} (h : (kidI l)[j]? = some r) : ∃ k, l[j]? = some k ∧ r = [.sc (.int .i64 (j : Int)), .ag [.sc (.int .i64 k.kind), .sc (.int .i64 k.num), .sc (.string k.name), .ls none (k.kids.map encX)]] := by
  obtain ⟨k, h1, h2⟩ := mapIdx_out h
  exact ⟨k, h1, by rw [h2, encX_eq k]⟩
theorem kidI_len {l : List Xp} {r : List AV} (h : r ∈ kidI l) : r.length = 2 := by
  obtain ⟨j, hj⟩ := List.mem_iff_getElem?.1 h
  obtain ⟨k, _, rfl⟩ := kidI_out hj
  rfl
end Pn
theorem res_cell1 {P : Program} {fn : Func} {st : Ast} (t : Tmp) (ty : TypeId) (d : TypeDesc) (cs : List AV) (c : AV) (h : fn.results = #[.cell t ty]) (hu : P.underlying ty = some d) (hd : d.isRow = false) (hx : st.at_ (st.ev (.tmp t)) = some cs) (hc : cs[0]? = some c) (r : AV) (hrr : c.strip0 = r) : ResOk P fn st r := fun S m τ E a w hr => by
  subst hrr
  have h1 := hr.ev (.tmp t)
  obtain ⟨b, n, vs, g1, g2, g3⟩ := hr.at_ h1 hx
  obtain ⟨v, k1, k2⟩ := g2.get hc
  refine ⟨v, ?_, RK_to (RK.of k2.closed)⟩
  have hcl := g3 0 v k1
  have hl : (loadVar ty ⟨b, n, none⟩).run P w = .ok v w := by
    have := run_load_one (P := P) hu hd (by simpa using hcl)
    simpa [Instr.loadAt, Instr.sureAddr] using this
  have g1 : a.tmps.getD t undef = .pointer (some ⟨b, n, none⟩) := g1
  simp [results, h, asAddr]
  rw [Array.getD_eq_getD_getElem?] at g1
  simp [g1, hl]
end Go.Proofs.YtjghgpmkepfdhaaGreatDoor
namespace Go.Proofs.YtjghgpmkepfdhaaGreatDoor
open Go.RowKit
set_option linter.unusedVariables false

theorem eqOwn4b (a0 a1 a2 a3 a4 a5 a6 a7 b0 b1 b2 b3 b4 b5 b6 b7 : Int) (W : World) :
    (Op.equalIn 9998 47 (.agg #[.int .i64 a0, .int .i64 a1, .int .i64 a2, .int .i64 a3, .int .i64 a4, .int .i64 a5, .int .i64 a6, .int .i64 a7]) (.agg #[.int .i64 b0, .int .i64 b1, .int .i64 b2, .int .i64 b3, .int .i64 b4, .int .i64 b5, .int .i64 b6, .int .i64 b7])).run Tryz.prog W
      = .ok ((a0 == b0 && a1 == b1) && (a2 == b2 && a3 == b3) && (a4 == b4 && a5 == b5) && (a6 == b6 && a7 == b7)) W := by
  obtain ⟨i, hi⟩ := infoOw
  rw [show (9998 : Nat) = 9997 + 1 from rfl, run_equalIn_array W 9997 _ _ Tryz.underlying47 hi, cellsOw, show List.range 4 = [0, 1, 2, 3] from rfl]
  simp [Op.eqItems, go_sem]
  repeat' split
  all_goals simp_all
theorem eqTyb (t u : Pn.Ty) (W : World) :
    (Op.equalIn 9999 49 (.agg #[.int .i64 t.kind, .string t.cls, .int .i64 t.n, .int .i64 t.o0.kind, .int .i64 t.o0.n, .int .i64 t.o1.kind, .int .i64 t.o1.n, .int .i64 t.o2.kind, .int .i64 t.o2.n, .int .i64 t.o3.kind, .int .i64 t.o3.n])
      (.agg #[.int .i64 u.kind, .string u.cls, .int .i64 u.n, .int .i64 u.o0.kind, .int .i64 u.o0.n, .int .i64 u.o1.kind, .int .i64 u.o1.n, .int .i64 u.o2.kind, .int .i64 u.o2.n, .int .i64 u.o3.kind, .int .i64 u.o3.n])).run Tryz.prog W = .ok (decide (t = u)) W := by
  simp [go_sem, eqOwn4b]
  by_cases h1 : t.kind = u.kind
  · by_cases h2 : t.cls = u.cls
    · by_cases h3 : t.n = u.n
      · have key : ((t.o0.kind == u.o0.kind && t.o0.n == u.o0.n) && (t.o1.kind == u.o1.kind && t.o1.n == u.o1.n) && (t.o2.kind == u.o2.kind && t.o2.n == u.o2.n) && (t.o3.kind == u.o3.kind && t.o3.n == u.o3.n)) = decide (t = u) := by
          rw [Bool.eq_iff_iff]
          cases t with | mk a b c d e f g => cases u with | mk a' b' c' d' e' f' g' =>
          cases d; cases e; cases f; cases g; cases d'; cases e'; cases f'; cases g'
          simp at h1 h2 h3
          simp [h1, h2, h3]
          exact ⟨fun ⟨⟨⟨⟨q0, q1⟩, q2, q3⟩, q4, q5⟩, q6, q7⟩ => ⟨⟨q0, q1⟩, ⟨q2, q3⟩, ⟨q4, q5⟩, q6, q7⟩, fun ⟨⟨q0, q1⟩, ⟨q2, q3⟩, ⟨q4, q5⟩, q6, q7⟩ => ⟨⟨⟨⟨q0, q1⟩, q2, q3⟩, q4, q5⟩, q6, q7⟩⟩
        simp only [h1, h2, h3, key]
        by_cases hh : t = u <;> simp [hh]
      · have : ¬ t = u := fun e => h3 (by rw [e])
        simp [h1, h2, h3, this]
    · have : ¬ t = u := fun e => h2 (by rw [e])
      have h2' : (t.cls.toList == u.cls.toList) = false := by rw [bytes_eq]; simpa using h2
      have h2n : ¬ t.cls.toList = u.cls.toList := by simpa using h2'
      simp [h1, h2n, this]
  · have : ¬ t = u := fun e => h1 (by rw [e])
    simp [h1, this]
theorem eqVar (x y : ByteArray × Pn.Ty × Int) (W : World) : (Op.equalIn 10000 62 (.agg #[.string x.1, .int .i64 x.2.1.kind, .string x.2.1.cls, .int .i64 x.2.1.n, .int .i64 x.2.1.o0.kind, .int .i64 x.2.1.o0.n, .int .i64 x.2.1.o1.kind, .int .i64 x.2.1.o1.n, .int .i64 x.2.1.o2.kind, .int .i64 x.2.1.o2.n, .int .i64 x.2.1.o3.kind, .int .i64 x.2.1.o3.n, .int .i64 x.2.2]) (.agg #[.string y.1, .int .i64 y.2.1.kind, .string y.2.1.cls, .int .i64 y.2.1.n, .int .i64 y.2.1.o0.kind, .int .i64 y.2.1.o0.n, .int .i64 y.2.1.o1.kind, .int .i64 y.2.1.o1.n, .int .i64 y.2.1.o2.kind, .int .i64 y.2.1.o2.n, .int .i64 y.2.1.o3.kind, .int .i64 y.2.1.o3.n, .int .i64 y.2.2])).run Tryz.prog W = .ok (decide (x = y)) W := by
  simp [go_sem, eqTyb]
  obtain ⟨a, t, p⟩ := x
  obtain ⟨b, u, q⟩ := y
  by_cases h1 : a = b
  · by_cases h2 : t = u
    · by_cases h3 : p = q
      · simp [h1, h2, h3]
      · simp [h1, h2, h3]
    · simp [h1, h2]
  · have h1' : (a.toList == b.toList) = false := by rw [bytes_eq]; simpa using h1
    have h1n : ¬ a.toList = b.toList := by simpa using h1'
    simp [h1, h1n]
end Go.Proofs.YtjghgpmkepfdhaaGreatDoor
namespace Go.Proofs.YtjghgpmkepfdhaaGreatDoor
open Go.RowKit
set_option linter.unusedVariables false
structure Low where
  nm : ByteArray → Bool
  rt : Pn.Ty → Int → Bool
  ro : Pn.Ow → Int → Bool
  hnm : ∀ s, PCalls Tryz.prog 56 [.sc (.string s)] (.sc (.bool (nm s)))
  hrt : ∀ (t : Pn.Ty) (n : Int), PCalls Tryz.prog 128 [.ag (Pn.encTy t), .sc (.int .i64 n)] (.sc (.bool (rt t n)))
  hro : ∀ (o : Pn.Ow) (n : Int), PCalls Tryz.prog 57 [.ag (Pn.encOw o), .sc (.int .i64 n)] (.sc (.bool (ro o n)))
namespace Pn
def headX (nm : ByteArray → Bool) (x : Xp) : Bool := decide (x.kind ≥ 1) && decide (x.kind ≤ 14) && decide ((x.kids.length : Int) = kidsN x.kind) && (decide (x.kind = 1) || decide (x.num = 0)) && (decide (x.kind = 2) || decide (x.name = ⟨#[]⟩)) && decide (x.num ≥ 0) && decide (x.num ≤ 999999999) && (!decide (x.kind = 2) || nm x.name)
def kidX (k : Int) (y : Xp) : Bool := (!decide (k = 13) || decide (y.kind = 2) || decide (y.kind = 3)) && (!decide (k = 14) || decide (y.kind = 2) || decide (y.kind = 3) || decide (y.kind = 4))
mutual
def formX (nm : ByteArray → Bool) : Xp → Bool
  | .mk k n s l => headX nm (.mk k n s l) && formXs nm k l
def formXs (nm : ByteArray → Bool) (k : Int) : List Xp → Bool
  | [] => true
  | y :: l => (formX nm y && kidX k y) && formXs nm k l
end
theorem formXs_eq (nm : ByteArray → Bool) (k : Int) : ∀ l, formXs nm k l = l.all fun y => formX nm y && kidX k y
  | [] => by simp [formXs]
  | y :: l => by rw [formXs, formXs_eq nm k l]; rfl
theorem formX_eq (nm : ByteArray → Bool) (x : Xp) : formX nm x = (headX nm x && x.kids.all fun y => formX nm y && kidX x.kind y) := by
  cases x; rw [formX, formXs_eq]; rfl
def rightX (nm : ByteArray → Bool) (x : Xp) : Bool := formX nm x && decide (deepX x ≤ 20)
end Pn
end Go.Proofs.YtjghgpmkepfdhaaGreatDoor
namespace Go.Proofs.YtjghgpmkepfdhaaGreatDoor
open Go.RowKit
set_option linter.unusedVariables false
namespace Pn
def namesS (nm : ByteArray → Bool) (rt : Ty → Int → Bool) (x : Sm) (p : Int) : Bool :=
  (nm x.x || (decide (x.kind = 4) && decide (x.x = ⟨#[]⟩)) || decide (x.kind = 3) || decide (x.kind = 8) || decide (x.kind ≥ 9)) &&
  (nm x.y || ((decide (x.kind = 2) || decide (x.kind = 3) || decide (x.kind = 4)) && decide (x.y = ⟨#[116, 104, 105, 115]⟩)) || decide (x.kind = 1) || decide (x.kind = 5) || decide (x.kind = 6) || decide (x.kind ≥ 9)) &&
  (nm x.name || (!decide (x.kind = 2) && !decide (x.kind = 3) && !decide (x.kind = 4))) &&
  ((decide (x.type.kind = 2) && rt x.type p) || (!decide (x.kind = 5) && !decide (x.kind = 6)))
def noT : Ty := ⟨0, ⟨#[]⟩, 0, ⟨0, 0⟩, ⟨0, 0⟩, ⟨0, 0⟩, ⟨0, 0⟩⟩
def noX : Xp := .mk 0 0 ⟨#[]⟩ []
def blX (k : Int) : Bool := decide (k = 1) || decide (k = 2) || decide (k = 4) || decide (k = 5) || decide (k = 6) || decide (k = 7)
def blY (k : Int) : Bool := decide (k = 2) || decide (k = 3) || decide (k = 4) || decide (k = 7) || decide (k = 8)
def blN (k : Int) : Bool := decide (k = 2) || decide (k = 3) || decide (k = 4)
def blT (k : Int) : Bool := decide (k = 5) || decide (k = 6)
def blE (k : Int) : Bool := decide (k = 1) || decide (k = 3) || decide (k = 6) || decide (k = 9) || decide (k = 10) || decide (k = 11)
/-- A statement without what its kind has. -/
def blankS (x : Sm) : Sm :=
  .mk x.kind (if blX x.kind then ⟨#[]⟩ else x.x) (if blY x.kind then ⟨#[]⟩ else x.y) (if blN x.kind then ⟨#[]⟩ else x.name) (if blT x.kind then noT else x.type) (if blE x.kind then noX else x.e)
    (if decide (x.kind = 4) then [] else x.args) (if decide (x.kind = 9) || decide (x.kind = 10) then [] else x.body) (if decide (x.kind = 9) then [] else x.els) x.pos
theorem bl_kind (x : Sm) : (blankS x).kind = x.kind := rfl
theorem bl_x (x : Sm) : (blankS x).x = if blX x.kind then ⟨#[]⟩ else x.x := rfl
theorem bl_y (x : Sm) : (blankS x).y = if blY x.kind then ⟨#[]⟩ else x.y := rfl
theorem bl_name (x : Sm) : (blankS x).name = if blN x.kind then ⟨#[]⟩ else x.name := rfl
theorem bl_type (x : Sm) : (blankS x).type = if blT x.kind then noT else x.type := rfl
theorem bl_e (x : Sm) : (blankS x).e = if blE x.kind then noX else x.e := rfl
theorem bl_args (x : Sm) : (blankS x).args = if decide (x.kind = 4) then [] else x.args := rfl
theorem bl_body (x : Sm) : (blankS x).body = if decide (x.kind = 9) || decide (x.kind = 10) then [] else x.body := rfl
theorem bl_els (x : Sm) : (blankS x).els = if decide (x.kind = 9) then [] else x.els := rfl
theorem bl_pos (x : Sm) : (blankS x).pos = x.pos := rfl
def onlyS (x : Sm) : Bool := decide (x.kind ≥ 1) && decide (x.kind ≤ 11) && decide ((blankS x).x = ⟨#[]⟩) && decide ((blankS x).y = ⟨#[]⟩) && decide ((blankS x).name = ⟨#[]⟩) && decide ((blankS x).type = noT) && sameX (blankS x).e noX && decide ((blankS x).args.length + (blankS x).body.length + (blankS x).els.length = 0)
end Pn
end Go.Proofs.YtjghgpmkepfdhaaGreatDoor
namespace Go.Proofs.YtjghgpmkepfdhaaGreatDoor
open Go.RowKit
set_option linter.unusedVariables false
namespace Pn
def tellsS (nm : ByteArray → Bool) (x : Sm) : Bool :=
  (!(((!(((((decide (x.kind = 2) || decide (x.kind = 4)) || decide (x.kind = 5)) || decide (x.kind = 7)) || decide (x.kind = 8)) || (decide (x.kind = 11) && sameX x.e noX)) && !rightX nm x.e) || (((decide (x.kind = 6) && !decide (x.e.kind = 2)) && !decide (x.e.kind = 3)) && !decide (x.e.kind = 4))) || decide ((x.args.length : Int) > 5))) && x.args.all fun y => rightX nm y
theorem bl_la (x : Sm) : (blankS x).args.length ≤ x.args.length := by rw [bl_args]; split <;> simp
theorem bl_lb (x : Sm) : (blankS x).body.length ≤ x.body.length := by rw [bl_body]; split <;> simp
theorem bl_lc (x : Sm) : (blankS x).els.length ≤ x.els.length := by rw [bl_els]; split <;> simp
end Pn
end Go.Proofs.YtjghgpmkepfdhaaGreatDoor
namespace Go.Proofs.YtjghgpmkepfdhaaGreatDoor
open Go.RowKit
set_option linter.unusedVariables false
namespace Pn
mutual
/-- How much there is in a statement. -/
def wS : Sm → Nat
  | .mk _ _ _ _ _ e a b c _ => cntX e + cntXs a + a.length + wSs b + wSs c + 1
def wSs : List Sm → Nat
  | [] => 0
  | x :: l => wS x + wSs l
end
theorem wS_eq (x : Sm) : wS x = cntX x.e + cntXs x.args + x.args.length + wSs x.body + wSs x.els + 1 := by cases x; simp [wS, Sm.e, Sm.args, Sm.body, Sm.els]
theorem wS_in : ∀ {l : List Sm} {x : Sm}, x ∈ l → wS x ≤ wSs l
  | y :: l, x, h => by
    rcases List.mem_cons.1 h with rfl | h
    · simp only [wSs]; omega
    · have := wS_in h; simp only [wSs]; omega
theorem wS_pos (x : Sm) : 1 ≤ wS x := by rw [wS_eq]; omega
theorem wSs_len : ∀ l, l.length ≤ wSs l
  | [] => by simp [wSs]
  | x :: l => by have := wSs_len l; have := wS_pos x; simp only [wSs, List.length_cons]; omega
mutual
theorem cntS_w : ∀ x, cntS x ≤ wS x
  | .mk _ _ _ _ _ e a b c _ => by have := cntSs_w b; have := cntSs_w c; simp only [cntS, wS]; omega
theorem cntSs_w : ∀ l, cntSs l ≤ wSs l
  | [] => by simp [cntSs]
  | x :: l => by have := cntS_w x; have := cntSs_w l; simp only [cntSs, wSs]; omega
end
mutual
def formS (nm : ByteArray → Bool) (rt : Ty → Int → Bool) (p : Int) : Sm → Bool
  | .mk k x y n t e a b c q => onlyS (.mk k x y n t e a b c q) && namesS nm rt (.mk k x y n t e a b c q) p && tellsS nm (.mk k x y n t e a b c q) && formSs nm rt p b && formSs nm rt p c
def formSs (nm : ByteArray → Bool) (rt : Ty → Int → Bool) (p : Int) : List Sm → Bool
  | [] => true
  | y :: l => formS nm rt p y && formSs nm rt p l
end
theorem formSs_eq (nm : ByteArray → Bool) (rt : Ty → Int → Bool) (p : Int) : ∀ l, formSs nm rt p l = l.all fun y => formS nm rt p y
  | [] => by simp [formSs]
  | y :: l => by rw [formSs, formSs_eq nm rt p l]; rfl
theorem formS_eq (nm : ByteArray → Bool) (rt : Ty → Int → Bool) (p : Int) (x : Sm) : formS nm rt p x = (onlyS x && namesS nm rt x p && tellsS nm x && (x.body.all fun y => formS nm rt p y) && x.els.all fun y => formS nm rt p y) := by
  cases x; rw [formS, formSs_eq, formSs_eq]; rfl
def rightS (nm : ByteArray → Bool) (rt : Ty → Int → Bool) (p : Int) (x : Sm) : Bool := formS nm rt p x && decide (deepS x ≤ 20)
end Pn
end Go.Proofs.YtjghgpmkepfdhaaGreatDoor
namespace Go.Proofs.YtjghgpmkepfdhaaGreatDoor
open Go.RowKit
set_option linter.unusedVariables false
namespace Pn
def writT (rt : Ty → Int → Bool) (t : Ty) (p : Int) : Bool := (((rt t p && !decide (t.o1.kind = 7)) && !decide (t.o2.kind = 7)) && !decide (t.o3.kind = 7)) && (!decide (t.o0.kind = 7) || decide (t.o0.n = 0))
def varB (nm : ByteArray → Bool) (rt : Ty → Int → Bool) (p : Int) (v : Vr) : Bool := nm v.name && !decide (v.type.kind = 0) && writT rt v.type p
def varsB (nm : ByteArray → Bool) (rt : Ty → Int → Bool) (l : List Vr) (n p : Int) : Bool := (l.all fun v => varB nm rt p v) && decide ((l.length : Int) ≤ n)
mutual
def openS (rt : Ty → Int → Bool) (p : Int) : Sm → Bool
  | .mk _ _ _ _ t _ _ b c _ => (!decide (t.kind = 2) || writT rt t p) && openL rt p b && openL rt p c
def openL (rt : Ty → Int → Bool) (p : Int) : List Sm → Bool
  | [] => true
  | x :: l => openS rt p x && openL rt p l
end
theorem openL_eq (rt : Ty → Int → Bool) (p : Int) : ∀ l, openL rt p l = l.all fun x => openS rt p x
  | [] => by simp [openL]
  | x :: l => by rw [openL, openL_eq rt p l]; rfl
theorem openS_eq (rt : Ty → Int → Bool) (p : Int) (x : Sm) : openS rt p x = ((!decide (x.type.kind = 2) || writT rt x.type p) && openL rt p x.body && openL rt p x.els) := by
  cases x; rw [openS]; rfl
end Pn
end Go.Proofs.YtjghgpmkepfdhaaGreatDoor
namespace Go.Proofs.YtjghgpmkepfdhaaGreatDoor
open Go.RowKit
set_option linter.unusedVariables false
namespace Pn
def methB (nm : ByteArray → Bool) (rt : Ty → Int → Bool) (p : Int) (m : Me) : Bool :=
  (m.body.all fun x => rightS nm rt p x) && ((((nm m.name && writT rt m.ret p) && varsB nm rt m.params 5 p) && varsB nm rt m.locals 12 p) && openL rt p m.body)
def aboveB (ro : Ow → Int → Bool) (n : Int) (o : Ow) : Bool := ro o n && (decide (o.kind = 2) || decide (o.kind = 3) || decide (o.kind = 4))
def classB (nm : ByteArray → Bool) (rt : Ty → Int → Bool) (ro : Ow → Int → Bool) (c : Cl) : Bool :=
  (c.params.all fun s => nm s) && (c.above.all fun o => aboveB ro (c.params.length : Int) o) && (c.methods.all fun m => methB nm rt (c.params.length : Int) m) &&
  ((((nm c.name && decide ((c.params.length : Int) ≤ 3)) && ((decide (c.super = ⟨#[]⟩) && decide ((c.above.length : Int) = 0)) || (nm c.super && decide ((c.above.length : Int) ≤ 3)))) && varsB nm rt c.fields 12 (c.params.length : Int)) && decide ((c.methods.length : Int) ≤ 12))
def wMs : List Me → Nat
  | [] => 0
  | m :: l => wSs m.body + wMs l
theorem wMs_in : ∀ {l : List Me} {x : Me}, x ∈ l → wSs x.body ≤ wMs l
  | y :: l, x, h => by
    rcases List.mem_cons.1 h with rfl | h
    · simp only [wMs]; omega
    · have := wMs_in h; simp only [wMs]; omega
theorem cntMs_w : ∀ l, cntMs l ≤ wMs l
  | [] => by simp [cntMs]
  | x :: l => by have := cntSs_w x.body; have := cntMs_w l; simp only [cntMs, wMs]; omega
def wPs : List Cl → Nat
  | [] => 0
  | c :: l => wMs c.methods + wPs l
theorem wPs_in : ∀ {l : List Cl} {x : Cl}, x ∈ l → wMs x.methods ≤ wPs l
  | y :: l, x, h => by
    rcases List.mem_cons.1 h with rfl | h
    · simp only [wPs]; omega
    · have := wPs_in h; simp only [wPs]; omega
def cntPs : List Cl → Nat
  | [] => 0
  | c :: l => cntMs c.methods + cntPs l
theorem cntPs_app : ∀ l r, cntPs (l ++ r) = cntPs l + cntPs r
  | [], r => by simp [cntPs]
  | x :: l, r => by simp [cntPs, cntPs_app l r]; omega
theorem cntPs_next {l : List Cl} {n : Nat} {x : Cl} (h : l[n]? = some x) : cntPs (l.take (n + 1)) = cntPs (l.take n) + cntMs x.methods := by
  rw [take_next h, cntPs_app]; simp [cntPs]
theorem cntPs_w : ∀ l, cntPs l ≤ wPs l
  | [] => by simp [cntPs]
  | x :: l => by have := cntMs_w x.methods; have := cntPs_w l; simp only [cntPs, wPs]; omega
def rightP (nm : ByteArray → Bool) (rt : Ty → Int → Bool) (ro : Ow → Int → Bool) (p : List Cl) : Bool :=
  (p.all fun c => !decide ((p.length : Int) > 20) && classB nm rt ro c) && decide ((cntPs p : Int) ≤ 400)
end Pn
end Go.Proofs.YtjghgpmkepfdhaaGreatDoor
namespace Go.Proofs.YtjghgpmkepfdhaaGreatDoor
open Go.RowKit
set_option linter.unusedVariables false
namespace Pn
def isK (k : Int) : Bool := decide (1 ≤ k) && decide (k ≤ 14)
def holdB (k y : Int) : Bool := if k = 13 then decide (y = 2) || decide (y = 3) else if k = 14 then decide (y = 2) || decide (y = 3) || decide (y = 4) else true
theorem holdB_kid (k : Int) (y : Xp) : holdB k y.kind = kidX k y := by
  unfold holdB kidX
  by_cases h : k = 13
  · subst h; simp
  · by_cases g : k = 14
    · subst g; simp
    · simp [h, g]
def selfB (nm : ByteArray → Bool) (x : Xp) : Bool :=
  if x.kind = 1 then decide (0 ≤ x.num ∧ x.num ≤ 999999999) && decide (x.name = ⟨#[]⟩)
  else if x.kind = 2 then decide (x.num = 0) && nm x.name
  else decide (x.num = 0) && decide (x.name = ⟨#[]⟩)
theorem headX_self (nm : ByteArray → Bool) (x : Xp) : headX nm x = (isK x.kind && decide ((x.kids.length : Int) = kidsN x.kind) && selfB nm x) := by
  unfold headX isK selfB
  obtain ⟨e, he⟩ : ∃ e : Bool, e = decide ((x.kids.length : Int) = kidsN x.kind) := ⟨_, rfl⟩
  obtain ⟨c, hc⟩ : ∃ c : Bool, c = decide (x.name = ⟨#[]⟩) := ⟨_, rfl⟩
  obtain ⟨m, hm⟩ : ∃ m : Bool, m = nm x.name := ⟨_, rfl⟩
  rw [← he, ← hc, ← hm]
  clear he hc hm
  obtain ⟨k, hk⟩ : ∃ k : Int, k = x.kind := ⟨_, rfl⟩
  obtain ⟨n, hn⟩ : ∃ n : Int, n = x.num := ⟨_, rfl⟩
  rw [← hk, ← hn]
  clear hk hn
  rw [Bool.eq_iff_iff]
  cases e <;> cases c <;> cases m <;> (by_cases h : k = 1) <;> (by_cases g : k = 2) <;> simp [h, g] <;> omega
mutual
def rightD (nm : ByteArray → Bool) : Xp → Int → Bool
  | .mk k n s l, d => (isK k && decide (1 ≤ d) && decide ((l.length : Int) = kidsN k) && selfB nm (.mk k n s l)) && rightDs nm k l (d - 1)
def rightDs (nm : ByteArray → Bool) (k : Int) : List Xp → Int → Bool
  | [], _ => true
  | y :: l, d => (holdB k y.kind && rightD nm y d) && rightDs nm k l d
end
theorem rightDs_eq (nm : ByteArray → Bool) (k : Int) : ∀ l d, rightDs nm k l d = l.all fun y => holdB k y.kind && rightD nm y d
  | [], _ => by simp [rightDs]
  | y :: l, d => by rw [rightDs, rightDs_eq nm k l d]; rfl
theorem rightD_eq (nm : ByteArray → Bool) (x : Xp) (d : Int) : rightD nm x d = ((isK x.kind && decide (1 ≤ d) && decide ((x.kids.length : Int) = kidsN x.kind) && selfB nm x) && x.kids.all fun y => holdB x.kind y.kind && rightD nm y (d - 1)) := by
  cases x; rw [rightD, rightDs_eq]; rfl
theorem deepXs_iff {l : List Xp} {d : Int} (hd : 0 ≤ d) : (deepXs l : Int) ≤ d ↔ ∀ y ∈ l, (deepX y : Int) ≤ d := by
  induction l with
  | nil => simp [deepXs, hd]
  | cons y l ih =>
    rw [deepXs]
    constructor
    · intro h z hz
      rcases List.mem_cons.1 hz with rfl | hz
      · omega
      · exact ih.1 (by omega) z hz
    · intro h
      have h1 := h y (by simp)
      have h2 := ih.2 fun z hz => h z (by simp [hz])
      omega
theorem rightD_form (nm : ByteArray → Bool) (x : Xp) (d : Int) : rightD nm x d = (formX nm x && decide ((deepX x : Int) ≤ d)) := by
  have key : ∀ n x d, cntX x ≤ n → rightD nm x d = (formX nm x && decide ((deepX x : Int) ≤ d)) := by
    intro n
    induction n with
    | zero => intro x d h; rw [cntX_eq] at h; omega
    | succ n ih =>
      intro x d h
      have ih' : ∀ y ∈ x.kids, rightD nm y (d - 1) = (formX nm y && decide ((deepX y : Int) ≤ d - 1)) := by
        intro y hy
        obtain ⟨j, hj⟩ := List.mem_iff_getElem?.1 hy
        have h1 := cntX_kid hy
        rw [cntX_eq] at h
        exact ih y (d - 1) (by omega)
      rw [rightD_eq, formX_eq, headX_self, deepX_eq]
      rw [Bool.eq_iff_iff]
      simp only [Bool.and_eq_true, decide_eq_true_eq, List.all_eq_true]
      constructor
      · rintro ⟨⟨⟨⟨h1, h2⟩, h3⟩, h4⟩, h5⟩
        refine ⟨⟨⟨⟨h1, h3⟩, h4⟩, fun y hy => ?_⟩, ?_⟩
        · have := h5 y hy
          rw [ih' y hy, Bool.and_eq_true] at this
          exact ⟨this.2.1, by rw [← holdB_kid]; exact this.1⟩
        · have := (deepXs_iff (l := x.kids) (d := d - 1) (by omega)).2 fun y hy => by
            have := (h5 y hy).2
            rw [ih' y hy, Bool.and_eq_true, decide_eq_true_eq] at this
            exact this.2
          omega
      · rintro ⟨⟨⟨⟨h1, h3⟩, h4⟩, h5⟩, h6⟩
        have hd : 0 ≤ d - 1 := by omega
        refine ⟨⟨⟨⟨h1, by omega⟩, h3⟩, h4⟩, fun y hy => ⟨by rw [holdB_kid]; exact (h5 y hy).2, ?_⟩⟩
        rw [ih' y hy, Bool.and_eq_true, decide_eq_true_eq]
        exact ⟨(h5 y hy).1, (deepXs_iff hd).1 (by omega) y hy⟩
  exact key _ x d (Nat.le_refl _)
theorem rightD_right (nm : ByteArray → Bool) (x : Xp) : rightD nm x 20 = rightX nm x := by
  rw [rightD_form, rightX, show decide ((deepX x : Int) ≤ 20) = decide (deepX x ≤ 20) from decide_eq_decide.2 (by omega)]
mutual
def fitX : Xp → Bool
  | .mk k n s l => decide (-9223372036854775808 ≤ n ∧ n ≤ 9223372036854775807) && fitXs l
def fitXs : List Xp → Bool
  | [] => true
  | y :: l => fitX y && fitXs l
end
theorem fitXs_eq : ∀ l, fitXs l = l.all fitX
  | [] => by simp [fitXs]
  | y :: l => by rw [fitXs, fitXs_eq l]; rfl
theorem fitX_num {x : Xp} (h : fitX x = true) : -9223372036854775808 ≤ x.num ∧ x.num ≤ 9223372036854775807 := by
  cases x; rw [fitX] at h; simp at h; exact h.1
theorem fitX_kid {x y : Xp} (h : fitX x = true) (hy : y ∈ x.kids) : fitX y = true := by
  cases x; rw [fitX, fitXs_eq] at h; simp at h; exact h.2 y hy
end Pn
end Go.Proofs.YtjghgpmkepfdhaaGreatDoor
namespace Go.Proofs.YtjghgpmkepfdhaaGreatDoor
open Go.RowKit
set_option linter.unusedVariables false
set_option linter.unusedSimpArgs false
namespace Pn
def memB (nm : ByteArray → Bool) (x : Sm) : Bool := (decide (x.y = ⟨#[116, 104, 105, 115]⟩) || nm x.y) && nm x.name
def objB (rt : Ty → Int → Bool) (t : Ty) (p : Int) : Bool := decide (t.kind = 2) && rt t p
def castB (k : Int) : Bool := decide (k = 2) || decide (k = 3) || decide (k = 4)
def noneB (e : Xp) : Bool := sameX e noX
def argsB (nm : ByteArray → Bool) (l : List Xp) : Bool := (l.all fun y => rightX nm y) && decide ((l.length : Int) ≤ 5)
def nothB (x : Sm) : Bool := decide (x.x = ⟨#[]⟩) && decide (x.y = ⟨#[]⟩) && decide (x.name = ⟨#[]⟩) && decide (x.type = noT) && noneB x.e && decide ((x.args.length : Int) = 0) && decide ((x.body.length : Int) = 0) && decide ((x.els.length : Int) = 0)
def partsB (nm : ByteArray → Bool) (rt : Ty → Int → Bool) (x : Sm) (p : Int) : Bool :=
  if x.kind = 1 then nm x.x && rightX nm x.e
  else if x.kind = 2 then nm x.x && memB nm x
  else if x.kind = 3 then memB nm x && rightX nm x.e
  else if x.kind = 4 then (decide (x.x = ⟨#[]⟩) || nm x.x) && memB nm x && argsB nm x.args
  else if x.kind = 5 then nm x.x && objB rt x.type p
  else if x.kind = 6 then nm x.x && objB rt x.type p && castB x.e.kind && rightX nm x.e
  else if x.kind = 7 then nm x.x && nm x.y
  else if x.kind = 8 then nm x.y
  else if x.kind = 9 then rightX nm x.e
  else if x.kind = 10 then rightX nm x.e
  else if x.kind = 11 then noneB x.e || rightX nm x.e
  else false
theorem only_noth (x : Sm) : onlyS x = (decide (1 ≤ x.kind ∧ x.kind ≤ 11) && nothB (blankS x)) := by
  unfold onlyS nothB noneB
  rw [Bool.eq_iff_iff]
  simp only [Bool.and_eq_true, decide_eq_true_eq, Int.natCast_eq_zero, ge_iff_le, Nat.add_eq_zero_iff]
  grind
theorem noth_args {x : Sm} (h : nothB (blankS x) = true) (hk : ¬ x.kind = 4) : x.args = [] := by
  unfold nothB at h
  simp only [Bool.and_eq_true, decide_eq_true_eq, Int.natCast_eq_zero, bl_args] at h
  have h1 := h.1.1.2
  rw [if_neg hk] at h1
  exact List.length_eq_zero_iff.1 h1
theorem parts_eq (nm : ByteArray → Bool) (rt : Ty → Int → Bool) (x : Sm) (p : Int) : (partsB nm rt x p && nothB (blankS x)) = (onlyS x && namesS nm rt x p && tellsS nm x) := by
  rw [only_noth]
  by_cases hn : nothB (blankS x) = true
  · rw [hn, Bool.and_true, Bool.and_true]
    by_cases hk : 1 ≤ x.kind ∧ x.kind ≤ 11
    · rw [decide_eq_true hk, Bool.true_and]
      have ha := noth_args hn
      unfold partsB namesS tellsS memB objB castB noneB argsB
      have hc : x.kind = 1 ∨ x.kind = 2 ∨ x.kind = 3 ∨ x.kind = 4 ∨ x.kind = 5 ∨ x.kind = 6 ∨ x.kind = 7 ∨ x.kind = 8 ∨ x.kind = 9 ∨ x.kind = 10 ∨ x.kind = 11 := by omega
      clear hk hn
      rcases hc with h | h | h | h | h | h | h | h | h | h | h
      case inr.inr.inr.inl =>
        rw [Bool.eq_iff_iff]
        simp [h]
        grind
      all_goals
        have ha := ha (by omega)
        rw [Bool.eq_iff_iff]
        simp [h, ha]
        try grind
    · rw [decide_eq_false hk, Bool.false_and, Bool.false_and]
      unfold partsB
      rw [if_neg (by omega), if_neg (by omega), if_neg (by omega), if_neg (by omega), if_neg (by omega), if_neg (by omega), if_neg (by omega), if_neg (by omega), if_neg (by omega), if_neg (by omega), if_neg (by omega)]
  · have : nothB (blankS x) = false := by simpa using hn
    rw [this]; simp
mutual
def rightSD (nm : ByteArray → Bool) (rt : Ty → Int → Bool) (p : Int) : Sm → Int → Bool
  | .mk k x y n t e a b c q, d => decide (d > 0) && partsB nm rt (.mk k x y n t e a b c q) p && nothB (blankS (.mk k x y n t e a b c q)) && rightSDs nm rt p b (d - 1) && rightSDs nm rt p c (d - 1)
def rightSDs (nm : ByteArray → Bool) (rt : Ty → Int → Bool) (p : Int) : List Sm → Int → Bool
  | [], _ => true
  | y :: l, d => rightSD nm rt p y d && rightSDs nm rt p l d
end
theorem rightSDs_eq (nm : ByteArray → Bool) (rt : Ty → Int → Bool) (p : Int) : ∀ l d, rightSDs nm rt p l d = l.all fun y => rightSD nm rt p y d
  | [], _ => by simp [rightSDs]
  | y :: l, d => by rw [rightSDs, rightSDs_eq nm rt p l d]; rfl
theorem rightSD_eq (nm : ByteArray → Bool) (rt : Ty → Int → Bool) (p : Int) (x : Sm) (d : Int) : rightSD nm rt p x d = (decide (d > 0) && partsB nm rt x p && nothB (blankS x) && (x.body.all fun y => rightSD nm rt p y (d - 1)) && x.els.all fun y => rightSD nm rt p y (d - 1)) := by
  cases x; rw [rightSD, rightSDs_eq, rightSDs_eq]; rfl
theorem deepSs_iff {l : List Sm} {d : Int} (hd : 0 ≤ d) : (deepSs l : Int) ≤ d ↔ ∀ y ∈ l, (deepS y : Int) ≤ d := by
  induction l with
  | nil => simp [deepSs, hd]
  | cons y l ih =>
    rw [deepSs]
    constructor
    · intro h z hz
      rcases List.mem_cons.1 hz with rfl | hz
      · omega
      · exact ih.1 (by omega) z hz
    · intro h
      have h1 := h y (by simp)
      have h2 := ih.2 fun z hz => h z (by simp [hz])
      omega
theorem rightSD_form (nm : ByteArray → Bool) (rt : Ty → Int → Bool) (p : Int) (x : Sm) (d : Int) : rightSD nm rt p x d = (formS nm rt p x && decide ((deepS x : Int) ≤ d)) := by
  have key : ∀ n x d, cntS x ≤ n → rightSD nm rt p x d = (formS nm rt p x && decide ((deepS x : Int) ≤ d)) := by
    intro n
    induction n with
    | zero => intro x d h; rw [cntS_eq] at h; omega
    | succ n ih =>
      intro x d h
      rw [cntS_eq] at h
      have ihb : ∀ y ∈ x.body, rightSD nm rt p y (d - 1) = (formS nm rt p y && decide ((deepS y : Int) ≤ d - 1)) := by
        intro y hy
        have h1 := cntS_in hy
        exact ih y (d - 1) (by omega)
      have ihc : ∀ y ∈ x.els, rightSD nm rt p y (d - 1) = (formS nm rt p y && decide ((deepS y : Int) ≤ d - 1)) := by
        intro y hy
        have h1 := cntS_in hy
        exact ih y (d - 1) (by omega)
      rw [rightSD_eq, formS_eq, ← parts_eq, deepS_eq]
      rw [Bool.eq_iff_iff]
      simp only [Bool.and_eq_true, decide_eq_true_eq, List.all_eq_true]
      constructor
      · rintro ⟨⟨⟨⟨h1, h2⟩, h3⟩, h4⟩, h5⟩
        have k4 : ∀ y ∈ x.body, formS nm rt p y = true ∧ (deepS y : Int) ≤ d - 1 := fun y hy => by
          have := h4 y hy
          rw [ihb y hy, Bool.and_eq_true, decide_eq_true_eq] at this
          exact this
        have k5 : ∀ y ∈ x.els, formS nm rt p y = true ∧ (deepS y : Int) ≤ d - 1 := fun y hy => by
          have := h5 y hy
          rw [ihc y hy, Bool.and_eq_true, decide_eq_true_eq] at this
          exact this
        have m4 := (deepSs_iff (l := x.body) (d := d - 1) (by omega)).2 fun y hy => (k4 y hy).2
        have m5 := (deepSs_iff (l := x.els) (d := d - 1) (by omega)).2 fun y hy => (k5 y hy).2
        exact ⟨⟨⟨⟨h2, h3⟩, fun y hy => (k4 y hy).1⟩, fun y hy => (k5 y hy).1⟩, by omega⟩
      · rintro ⟨⟨⟨⟨h2, h3⟩, h4⟩, h5⟩, h6⟩
        have hd : 0 ≤ d - 1 := by omega
        refine ⟨⟨⟨⟨by omega, h2⟩, h3⟩, fun y hy => ?_⟩, fun y hy => ?_⟩
        · rw [ihb y hy, Bool.and_eq_true, decide_eq_true_eq]
          exact ⟨h4 y hy, (deepSs_iff hd).1 (by omega) y hy⟩
        · rw [ihc y hy, Bool.and_eq_true, decide_eq_true_eq]
          exact ⟨h5 y hy, (deepSs_iff hd).1 (by omega) y hy⟩
  exact key _ x d (Nat.le_refl _)
theorem rightSD_right (nm : ByteArray → Bool) (rt : Ty → Int → Bool) (p : Int) (x : Sm) : rightSD nm rt p x 20 = rightS nm rt p x := by
  rw [rightSD_form, rightS, show decide ((deepS x : Int) ≤ 20) = decide (deepS x ≤ 20) from decide_eq_decide.2 (by omega)]
mutual
def fitS : Sm → Bool
  | .mk _ _ _ _ _ e a b c _ => fitX e && (a.all fitX) && fitSs b && fitSs c
def fitSs : List Sm → Bool
  | [] => true
  | y :: l => fitS y && fitSs l
end
theorem fitSs_in : ∀ {l : List Sm} {x : Sm}, fitSs l = true → x ∈ l → fitS x = true
  | y :: l, x, h, hx => by
    rw [fitSs, Bool.and_eq_true] at h
    rcases List.mem_cons.1 hx with rfl | hx
    · exact h.1
    · exact fitSs_in h.2 hx
theorem fitS_eq (x : Sm) : fitS x = (fitX x.e && (x.args.all fitX) && fitSs x.body && fitSs x.els) := by cases x; rw [fitS]; rfl
theorem fitS_e {x : Sm} (h : fitS x = true) : fitX x.e = true := by rw [fitS_eq] at h; simp at h; exact h.1.1.1
theorem fitS_args {x : Sm} (h : fitS x = true) : ∀ y ∈ x.args, fitX y = true := by rw [fitS_eq] at h; simp at h; exact h.1.1.2
theorem fitS_body {x : Sm} (h : fitS x = true) : fitSs x.body = true := by rw [fitS_eq] at h; simp at h; exact h.1.2
theorem fitS_els {x : Sm} (h : fitS x = true) : fitSs x.els = true := by rw [fitS_eq] at h; simp at h; exact h.2
end Pn
end Go.Proofs.YtjghgpmkepfdhaaGreatDoor
namespace Go.Proofs.YtjghgpmkepfdhaaGreatDoor
open Go.RowKit
set_option linter.unusedVariables false
namespace Pn
def fldP : List Cl → Nat
  | [] => 0
  | c :: l => c.fields.length + fldP l
theorem fldP_app : ∀ l r, fldP (l ++ r) = fldP l + fldP r
  | [], r => by simp [fldP]
  | x :: l, r => by simp [fldP, fldP_app l r]; omega
theorem fldP_next {l : List Cl} {n : Nat} {x : Cl} (h : l[n]? = some x) : fldP (l.take (n + 1)) = fldP (l.take n) + x.fields.length := by
  rw [take_next h, fldP_app]; simp [fldP]
def mthP : List Cl → Nat
  | [] => 0
  | c :: l => c.methods.length + mthP l
theorem mthP_app : ∀ l r, mthP (l ++ r) = mthP l + mthP r
  | [], r => by simp [mthP]
  | x :: l, r => by simp [mthP, mthP_app l r]; omega
theorem mthP_next {l : List Cl} {n : Nat} {x : Cl} (h : l[n]? = some x) : mthP (l.take (n + 1)) = mthP (l.take n) + x.methods.length := by
  rw [take_next h, mthP_app]; simp [mthP]
def vrMs : List Me → Nat
  | [] => 0
  | m :: l => (m.params.length + m.locals.length) + vrMs l
theorem vrMs_app : ∀ l r, vrMs (l ++ r) = vrMs l + vrMs r
  | [], r => by simp [vrMs]
  | x :: l, r => by simp [vrMs, vrMs_app l r]; omega
theorem vrMs_next {l : List Me} {n : Nat} {x : Me} (h : l[n]? = some x) : vrMs (l.take (n + 1)) = vrMs (l.take n) + (x.params.length + x.locals.length) := by
  rw [take_next h, vrMs_app]; simp [vrMs]
def vrP : List Cl → Nat
  | [] => 0
  | c :: l => vrMs c.methods + vrP l
theorem vrP_app : ∀ l r, vrP (l ++ r) = vrP l + vrP r
  | [], r => by simp [vrP]
  | x :: l, r => by simp [vrP, vrP_app l r]; omega
theorem vrP_next {l : List Cl} {n : Nat} {x : Cl} (h : l[n]? = some x) : vrP (l.take (n + 1)) = vrP (l.take n) + vrMs x.methods := by
  rw [take_next h, vrP_app]; simp [vrP]
def dpMs : List Me → Nat
  | [] => 0
  | m :: l => max (deepSs m.body) (dpMs l)
theorem dpMs_app : ∀ l r, dpMs (l ++ r) = max (dpMs l) (dpMs r)
  | [], r => by simp [dpMs]
  | x :: l, r => by simp only [List.cons_append, dpMs, dpMs_app l r]; omega
theorem dpMs_next {l : List Me} {n : Nat} {x : Me} (h : l[n]? = some x) : dpMs (l.take (n + 1)) = max (dpMs (l.take n)) (deepSs x.body) := by
  rw [take_next h, dpMs_app]; simp [dpMs]
theorem dpMs_le : ∀ l, dpMs l ≤ cntMs l
  | [] => by simp [dpMs]
  | x :: l => by have := dpMs_le l; have := deepSs_le x.body; simp only [dpMs, cntMs]; omega
def dpP : List Cl → Nat
  | [] => 0
  | c :: l => max (dpMs c.methods) (dpP l)
theorem dpP_app : ∀ l r, dpP (l ++ r) = max (dpP l) (dpP r)
  | [], r => by simp [dpP]
  | x :: l, r => by simp only [List.cons_append, dpP, dpP_app l r]; omega
theorem dpP_next {l : List Cl} {n : Nat} {x : Cl} (h : l[n]? = some x) : dpP (l.take (n + 1)) = max (dpP (l.take n)) (dpMs x.methods) := by
  rw [take_next h, dpP_app]; simp [dpP]
theorem dpP_le : ∀ l, dpP l ≤ cntPs l
  | [] => by simp [dpP]
  | x :: l => by have := dpP_le l; have := dpMs_le x.methods; simp only [dpP, cntPs]; omega
mutual
theorem tyS_len : ∀ x, (tyS x).length = cntS x
  | .mk _ _ _ _ t _ _ b c _ => by
    have h1 := tyL_len b
    have h2 := tyL_len c
    rw [tyS, cntS_eq]
    simp only [List.length_cons, List.length_append, Sm.body, Sm.els, h1, h2]
    all_goals omega
theorem tyL_len : ∀ l, (tyL l).length = cntSs l
  | [] => by simp [tyL, cntSs]
  | x :: l => by
    have h1 := tyS_len x
    have h2 := tyL_len l
    simp [tyL, cntSs, h1, h2]
end
theorem tyMs_len : ∀ l, (tyMs l).length = l.length + vrMs l + cntMs l
  | [] => by simp [tyMs, vrMs, cntMs]
  | m :: l => by
    have h1 := tyMs_len l
    have h2 := tyL_len m.body
    have h3 := tyV_len m.params
    have h4 := tyV_len m.locals
    simp only [tyMs, tyM, vrMs, cntMs, List.length_append, List.length_cons, h1, h2, h3, h4]
    omega
theorem tyP_len : ∀ l, (tyP l).length = fldP l + mthP l + vrP l + cntPs l
  | [] => by simp [tyP, fldP, mthP, vrP, cntPs]
  | c :: l => by
    have h1 := tyP_len l
    have h2 := tyMs_len c.methods
    have h3 := tyV_len c.fields
    simp only [tyP, tyC, fldP, mthP, vrP, cntPs, List.length_append, h1, h2, h3]
    omega
/-- How many types have a hole ahead. -/
def holesL : List Ty → Nat
  | [] => 0
  | t :: l => holeT t + holesL l
theorem holesL_app : ∀ l r, holesL (l ++ r) = holesL l + holesL r
  | [], r => by simp [holesL]
  | x :: l, r => by simp [holesL, holesL_app l r]; omega
theorem holesL_next {l : List Ty} {n : Nat} {x : Ty} (h : l[n]? = some x) : holesL (l.take (n + 1)) = holesL (l.take n) + holeT x := by
  rw [take_next h, holesL_app]; simp [holesL]
theorem holesL_le : ∀ l, holesL l ≤ l.length
  | [] => by simp [holesL]
  | x :: l => by
    have h1 := holesL_le l
    have h2 : holeT x ≤ 1 := by unfold holeT; split <;> omega
    simp only [holesL, List.length_cons]
    omega
def tyI (l : List Ty) : List (List AV) := l.map fun t => [.ag (encTy t)]
theorem tyI_at (l : Nat) (ans : Nat → Bool) (T : List Ty) : At ⟨l, ans, tyI T⟩ 0 T := fun i t h => by
  show (tyI T)[0 + i]? = _
  rw [Nat.zero_add, tyI, List.getElem?_map, h]
  rfl
theorem tyI_out {T : List Ty} {j : Nat} {r : List AV} (h : (tyI T)[j]? = some r) : ∃ t, T[j]? = some t ∧ r = [.ag (encTy t)] := map_out h
theorem tyI_len {T : List Ty} {r : List AV} (h : r ∈ tyI T) : r.length = 1 := by
  obtain ⟨j, hj⟩ := List.mem_iff_getElem?.1 h
  obtain ⟨k, _, rfl⟩ := tyI_out hj
  rfl
theorem ran_true (n : Nat) : ran (fun _ => true) 0 n = (n, true) := by
  induction n with
  | zero => rfl
  | succ n ih => rw [ran_succ, ih]
/-- Is a type open at most at its owner? -/
def openT (t : Ty) : Bool := (!decide (t.o0.kind = 7) || decide (t.o0.n = 0)) && !decide (t.o1.kind = 7) && !decide (t.o2.kind = 7) && !decide (t.o3.kind = 7)
end Pn
end Go.Proofs.YtjghgpmkepfdhaaGreatDoor

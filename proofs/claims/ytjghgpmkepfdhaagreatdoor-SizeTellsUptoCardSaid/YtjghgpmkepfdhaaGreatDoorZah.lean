/- Plain functions: which programs may be, in the program's own shape, and that it is the document's. Conditions: none.
Plain functions: how great a program is, as the document counts; whether it is too great to be looked at. Conditions: none. -/
import Derived.Test.YtjghgpmkepfdhaaGreatDoorZag
namespace Go.Proofs.YtjghgpmkepfdhaaGreatDoor
open Go.RowKit
set_option linter.unusedVariables false
set_option linter.unusedSimpArgs false
theorem eqCnt (x y : Int × Int × Int × Int × Int × Int × Int) (W : World) :
    (Op.equalIn 10000 26 (.agg #[.int .i64 x.1, .int .i64 x.2.1, .int .i64 x.2.2.1, .int .i64 x.2.2.2.1, .int .i64 x.2.2.2.2.1, .int .i64 x.2.2.2.2.2.1, .int .i64 x.2.2.2.2.2.2])
      (.agg #[.int .i64 y.1, .int .i64 y.2.1, .int .i64 y.2.2.1, .int .i64 y.2.2.2.1, .int .i64 y.2.2.2.2.1, .int .i64 y.2.2.2.2.2.1, .int .i64 y.2.2.2.2.2.2])).run Tryz.prog W = .ok (decide (x = y)) W := by
  obtain ⟨a, b, c, d, e, f, g⟩ := x
  obtain ⟨a', b', c', d', e', f', g'⟩ := y
  have key : ((a == a' && (b == b' && (c == c' && (d == d' && (e == e' && (f == f' && g == g')))))) : Bool) = decide ((a, b, c, d, e, f, g) = (a', b', c', d', e', f', g')) := by
    rw [Bool.eq_iff_iff]; simp
  simp [go_sem]
  by_cases h1 : a = a' <;> by_cases h2 : b = b' <;> by_cases h3 : c = c' <;> by_cases h4 : d = d' <;> by_cases h5 : e = e' <;> by_cases h6 : f = f' <;> by_cases h7 : g = g' <;> simp [h1, h2, h3, h4, h5, h6, h7]
namespace Pn
def owG (ro : Ow → Int → Bool) (n : Int) (o : Ow) : Bool := (decide (o.kind = 2) || decide (o.kind = 3) || decide (o.kind = 4)) && ro o n
def aboveG (nm : ByteArray → Bool) (ro : Ow → Int → Bool) (n : Int) (s : ByteArray) (l : List Ow) : Bool :=
  if s = ⟨#[]⟩ then decide ((l.length : Int) = 0) else nm s && decide ((l.length : Int) ≤ 3) && l.all (fun o => owG ro n o)
def varG (nm : ByteArray → Bool) (rt : Ty → Int → Bool) (n : Int) (v : Vr) : Bool := nm v.name && (!decide (v.type.kind = 0)) && rt v.type n
def methG (nm : ByteArray → Bool) (rt : Ty → Int → Bool) (n : Int) (m : Me) : Bool :=
  nm m.name && rt m.ret n && m.params.all (fun v => varG nm rt n v) && m.locals.all (fun v => varG nm rt n v) && m.body.all (fun x => rightS nm rt n x)
def classG (nm : ByteArray → Bool) (rt : Ty → Int → Bool) (ro : Ow → Int → Bool) (c : Cl) : Bool :=
  nm c.name && decide ((c.params.length : Int) ≤ 3) && c.params.all (fun s => nm s) && aboveG nm ro (c.params.length : Int) c.super c.above && c.fields.all (fun v => varG nm rt (c.params.length : Int) v) && c.methods.all (fun m => methG nm rt (c.params.length : Int) m)
def fldO : List Cl → Nat
  | [] => 0
  | c :: l => (c.fields.length - 12) + fldO l
theorem fldO_app : ∀ l r, fldO (l ++ r) = fldO l + fldO r
  | [], r => by simp [fldO]
  | x :: l, r => by simp [fldO, fldO_app l r]; omega
theorem fldO_next {l : List Cl} {n : Nat} {x : Cl} (h : l[n]? = some x) : fldO (l.take (n + 1)) = fldO (l.take n) + (x.fields.length - 12) := by
  rw [take_next h, fldO_app]; simp [fldO]
theorem fldO_le : ∀ l, fldO l ≤ fldP l
  | [] => by simp [fldO]
  | x :: l => by have := fldO_le l; simp only [fldO, fldP]; omega
theorem fldO_zero : ∀ l, fldO l = 0 ↔ ∀ c ∈ l, c.fields.length ≤ 12
  | [] => by simp [fldO]
  | x :: l => by have := fldO_zero l; rw [fldO, List.forall_mem_cons, ← this]; omega
def mthO : List Cl → Nat
  | [] => 0
  | c :: l => (c.methods.length - 12) + mthO l
theorem mthO_app : ∀ l r, mthO (l ++ r) = mthO l + mthO r
  | [], r => by simp [mthO]
  | x :: l, r => by simp [mthO, mthO_app l r]; omega
theorem mthO_next {l : List Cl} {n : Nat} {x : Cl} (h : l[n]? = some x) : mthO (l.take (n + 1)) = mthO (l.take n) + (x.methods.length - 12) := by
  rw [take_next h, mthO_app]; simp [mthO]
theorem mthO_le : ∀ l, mthO l ≤ mthP l
  | [] => by simp [mthO]
  | x :: l => by have := mthO_le l; simp only [mthO, mthP]; omega
theorem mthO_zero : ∀ l, mthO l = 0 ↔ ∀ c ∈ l, c.methods.length ≤ 12
  | [] => by simp [mthO]
  | x :: l => by have := mthO_zero l; rw [mthO, List.forall_mem_cons, ← this]; omega
def vrMO : List Me → Nat
  | [] => 0
  | m :: l => ((m.params.length - 5) + (m.locals.length - 12)) + vrMO l
theorem vrMO_app : ∀ l r, vrMO (l ++ r) = vrMO l + vrMO r
  | [], r => by simp [vrMO]
  | x :: l, r => by simp [vrMO, vrMO_app l r]; omega
theorem vrMO_next {l : List Me} {n : Nat} {x : Me} (h : l[n]? = some x) : vrMO (l.take (n + 1)) = vrMO (l.take n) + ((x.params.length - 5) + (x.locals.length - 12)) := by
  rw [take_next h, vrMO_app]; simp [vrMO]
theorem vrMO_le : ∀ l, vrMO l ≤ vrMs l
  | [] => by simp [vrMO]
  | x :: l => by have := vrMO_le l; simp only [vrMO, vrMs]; omega
theorem vrMO_zero : ∀ l, vrMO l = 0 ↔ ∀ m ∈ l, m.params.length ≤ 5 ∧ m.locals.length ≤ 12
  | [] => by simp [vrMO]
  | x :: l => by have := vrMO_zero l; rw [vrMO, List.forall_mem_cons, ← this]; omega
def vrO : List Cl → Nat
  | [] => 0
  | c :: l => vrMO c.methods + vrO l
theorem vrO_app : ∀ l r, vrO (l ++ r) = vrO l + vrO r
  | [], r => by simp [vrO]
  | x :: l, r => by simp [vrO, vrO_app l r]; omega
theorem vrO_next {l : List Cl} {n : Nat} {x : Cl} (h : l[n]? = some x) : vrO (l.take (n + 1)) = vrO (l.take n) + vrMO x.methods := by
  rw [take_next h, vrO_app]; simp [vrO]
theorem vrO_le : ∀ l, vrO l ≤ vrP l
  | [] => by simp [vrO]
  | x :: l => by have := vrO_le l; have := vrMO_le x.methods; simp only [vrO, vrP]; omega
theorem vrO_zero : ∀ l, vrO l = 0 ↔ ∀ c ∈ l, ∀ m ∈ c.methods, m.params.length ≤ 5 ∧ m.locals.length ≤ 12
  | [] => by simp [vrO]
  | x :: l => by have := vrO_zero l; have h2 := vrMO_zero x.methods; rw [vrO, List.forall_mem_cons, ← this, ← h2]; omega
def muchG (p : List Cl) : Bool := decide ((((p.length - 20 : Nat) : Int), ((fldO p : Nat) : Int), ((mthO p : Nat) : Int), ((vrO p : Nat) : Int), ((cntPs p - 400 : Nat) : Int), (0 : Int), (0 : Int)) = ((0 : Int), (0 : Int), (0 : Int), (0 : Int), (0 : Int), (0 : Int), (0 : Int)))
theorem muchG_iff (p : List Cl) : muchG p = true ↔ p.length ≤ 20 ∧ (∀ c ∈ p, c.fields.length ≤ 12) ∧ (∀ c ∈ p, c.methods.length ≤ 12) ∧ (∀ c ∈ p, ∀ m ∈ c.methods, m.params.length ≤ 5 ∧ m.locals.length ≤ 12) ∧ cntPs p ≤ 400 := by
  rw [← fldO_zero, ← mthO_zero, ← vrO_zero]
  unfold muchG
  simp only [decide_eq_true_eq, Prod.mk.injEq, and_true, true_and]
  omega
def rightG (nm : ByteArray → Bool) (rt : Ty → Int → Bool) (ro : Ow → Int → Bool) (p : List Cl) : Bool := p.all (fun c => classG nm rt ro c) && muchG p && (tyP p).all openT
theorem writT_open (rt : Ty → Int → Bool) (t : Ty) (n : Int) : writT rt t n = (rt t n && openT t) := by
  unfold writT openT
  cases rt t n <;> cases decide (t.o1.kind = 7) <;> cases decide (t.o2.kind = 7) <;> cases decide (t.o3.kind = 7) <;> simp
theorem type_of_form {nm : ByteArray → Bool} {rt : Ty → Int → Bool} {n : Int} {x : Sm} (h : formS nm rt n x = true) : (!decide (x.type.kind = 2) || writT rt x.type n) = openT x.type := by
  rw [formS_eq] at h
  simp only [Bool.and_eq_true] at h
  obtain ⟨⟨⟨⟨h1, h2⟩, _⟩, _⟩, _⟩ := h
  rw [only_noth] at h1
  simp only [Bool.and_eq_true] at h1
  have h3 := h1.2
  unfold nothB at h3
  simp only [Bool.and_eq_true, decide_eq_true_eq] at h3
  have h4 : (blankS x).type = noT := h3.1.1.1.1.2
  rw [bl_type] at h4
  unfold namesS at h2
  simp only [Bool.and_eq_true] at h2
  have h5 := h2.2
  by_cases hk : x.kind = 5 ∨ x.kind = 6
  · have h6 : x.type.kind = 2 ∧ rt x.type n = true := by
      rcases hk with hk | hk <;> (rw [hk] at h5; simp at h5; exact h5)
    rw [writT_open, h6.2]
    simp [h6.1]
  · have h6 : x.type = noT := by
      rw [if_neg] at h4
      · exact h4
      · unfold blT; simp; exact ⟨fun e => hk (.inl e), fun e => hk (.inr e)⟩
    rw [h6]
    have e1 : noT.kind = 0 := rfl
    have e2 : openT noT = true := by rfl
    rw [e2, e1]
    simp
theorem openL_types {nm : ByteArray → Bool} {rt : Ty → Int → Bool} {n : Int} {l : List Sm} (h : ∀ x ∈ l, formS nm rt n x = true) : openL rt n l = (tyL l).all openT := by
  have key : ∀ k (l : List Sm), cntSs l ≤ k → (∀ x ∈ l, formS nm rt n x = true) → openL rt n l = (tyL l).all openT := by
    intro k
    induction k with
    | zero =>
      intro l hl h
      cases l with
      | nil => simp [openL, tyL]
      | cons x l =>
        exfalso
        rw [cntSs, cntS_eq] at hl
        omega
    | succ k ih =>
      intro l
      induction l with
      | nil => intro _ _; simp [openL, tyL]
      | cons x l ihl =>
        intro hl h
        rw [cntSs, cntS_eq] at hl
        have hf := h x (by simp)
        rw [openL, tyL, List.all_append, ihl (by omega) (fun y hy => h y (by simp [hy])), openS_eq, type_of_form hf, tyS_eq]
        rw [formS_eq] at hf
        simp only [Bool.and_eq_true, List.all_eq_true] at hf
        rw [ih x.body (by omega) hf.1.2, ih x.els (by omega) hf.2]
        rw [List.all_cons, List.all_append]
        simp only [Bool.and_assoc]
  exact key _ l (Nat.le_refl _) h
theorem tyV_all (l : List Vr) : (tyV l).all openT = true ↔ ∀ v ∈ l, openT v.type = true := by
  unfold tyV; rw [List.all_map, List.all_eq_true]; exact Iff.rfl
def methO (m : Me) : Prop := openT m.ret = true ∧ (∀ v ∈ m.params, openT v.type = true) ∧ (∀ v ∈ m.locals, openT v.type = true) ∧ (tyL m.body).all openT = true
theorem tyMs_all : ∀ l : List Me, (tyMs l).all openT = true ↔ ∀ m ∈ l, methO m
  | [] => by simp [tyMs]
  | m :: l => by
    rw [tyMs, tyM, List.all_append, List.all_cons, List.all_append, List.all_append, List.forall_mem_cons, ← tyMs_all l]
    unfold methO
    rw [← tyV_all, ← tyV_all]
    simp only [Bool.and_eq_true]
theorem tyP_all : ∀ p : List Cl, (tyP p).all openT = true ↔ ∀ c ∈ p, (∀ v ∈ c.fields, openT v.type = true) ∧ ∀ m ∈ c.methods, methO m
  | [] => by simp [tyP]
  | c :: l => by
    rw [tyP, tyC, List.all_append, List.all_append, List.forall_mem_cons, ← tyP_all l, ← tyV_all, ← tyMs_all]
    simp only [Bool.and_eq_true]
theorem varB_G (nm : ByteArray → Bool) (rt : Ty → Int → Bool) (n : Int) (v : Vr) : varB nm rt n v = true ↔ varG nm rt n v = true ∧ openT v.type = true := by
  unfold varB varG
  rw [writT_open]
  simp only [Bool.and_eq_true, and_assoc]
theorem varsB_G (nm : ByteArray → Bool) (rt : Ty → Int → Bool) (n : Int) (l : List Vr) (k : Nat) : varsB nm rt l k n = true ↔ (∀ v ∈ l, varG nm rt n v = true) ∧ (∀ v ∈ l, openT v.type = true) ∧ l.length ≤ k := by
  unfold varsB
  simp only [Bool.and_eq_true, List.all_eq_true, decide_eq_true_eq, varB_G]
  constructor
  · rintro ⟨h, g⟩; exact ⟨fun v hv => (h v hv).1, fun v hv => (h v hv).2, by omega⟩
  · rintro ⟨h, g, k⟩; exact ⟨fun v hv => ⟨h v hv, g v hv⟩, by omega⟩
theorem methB_G (nm : ByteArray → Bool) (rt : Ty → Int → Bool) (n : Int) (m : Me) : methB nm rt n m = true ↔ methG nm rt n m = true ∧ methO m ∧ m.params.length ≤ 5 ∧ m.locals.length ≤ 12 := by
  have e5 := varsB_G nm rt n m.params 5
  have e12 := varsB_G nm rt n m.locals 12
  unfold methB methG methO
  rw [writT_open]
  simp only [Bool.and_eq_true, List.all_eq_true]
  rw [show (varsB nm rt m.params 5 n = true) = _ from propext e5, show (varsB nm rt m.locals 12 n = true) = _ from propext e12]
  have hb : (∀ x ∈ m.body, rightS nm rt n x = true) → (openL rt n m.body = true ↔ ∀ x ∈ tyL m.body, openT x = true) := by
    intro h
    rw [openL_types (nm := nm) (fun x hx => by have := h x hx; unfold rightS at this; rw [Bool.and_eq_true] at this; exact this.1), List.all_eq_true]
  constructor
  · rintro ⟨h1, ⟨⟨⟨h2, h3, h4⟩, h5, h6, h7⟩, h8, h9, h10⟩, h11⟩
    exact ⟨⟨⟨⟨⟨h2, h3⟩, h5⟩, h8⟩, h1⟩, ⟨h4, h6, h9, (hb h1).1 h11⟩, h7, h10⟩
  · rintro ⟨⟨⟨⟨⟨h2, h3⟩, h5⟩, h8⟩, h1⟩, ⟨h4, h6, h9, h11⟩, h7, h10⟩
    exact ⟨h1, ⟨⟨⟨h2, h3, h4⟩, h5, h6, h7⟩, h8, h9, h10⟩, (hb h1).2 h11⟩
theorem aboveG_iff {nm : ByteArray → Bool} (hnm : nm ⟨#[]⟩ = false) (ro : Ow → Int → Bool) (n : Int) (s : ByteArray) (l : List Ow) : aboveG nm ro n s l = true ↔ (∀ o ∈ l, aboveB ro n o = true) ∧ ((s = ⟨#[]⟩ ∧ (l.length : Int) = 0) ∨ (nm s = true ∧ (l.length : Int) ≤ 3)) := by
  have e : ∀ o, owG ro n o = aboveB ro n o := fun o => by unfold owG aboveB; rw [Bool.and_comm]
  unfold aboveG
  by_cases hs : s = ⟨#[]⟩
  · subst hs
    rw [if_pos rfl, hnm]
    simp only [decide_eq_true_eq, true_and, Bool.false_eq_true, false_and, or_false]
    constructor
    · intro h
      refine ⟨fun o ho => ?_, h⟩
      have : 0 < l.length := List.length_pos_of_mem ho
      omega
    · exact fun h => h.2
  · rw [if_neg hs]
    simp only [hs, false_and, false_or, Bool.and_eq_true, decide_eq_true_eq, List.all_eq_true, e]
    constructor
    · rintro ⟨⟨h1, h2⟩, h3⟩; exact ⟨h3, h1, h2⟩
    · rintro ⟨h3, h1, h2⟩; exact ⟨⟨h1, h2⟩, h3⟩
theorem classB_G {nm : ByteArray → Bool} (hnm : nm ⟨#[]⟩ = false) (rt : Ty → Int → Bool) (ro : Ow → Int → Bool) (c : Cl) : classB nm rt ro c = true ↔ classG nm rt ro c = true ∧ ((∀ v ∈ c.fields, openT v.type = true) ∧ ∀ m ∈ c.methods, methO m) ∧ c.fields.length ≤ 12 ∧ c.methods.length ≤ 12 ∧ ∀ m ∈ c.methods, m.params.length ≤ 5 ∧ m.locals.length ≤ 12 := by
  have e12 := varsB_G nm rt (c.params.length : Int) c.fields 12
  have ea := aboveG_iff hnm ro (c.params.length : Int) c.super c.above
  unfold classB classG
  simp only [Bool.and_eq_true, List.all_eq_true, Bool.or_eq_true, decide_eq_true_eq]
  rw [show (varsB nm rt c.fields 12 (c.params.length : Int) = true) = _ from propext e12, show (aboveG nm ro (c.params.length : Int) c.super c.above = true) = _ from propext ea]
  constructor
  · rintro ⟨⟨⟨h1, h2⟩, h3⟩, ⟨⟨⟨h4, h5⟩, h6⟩, h7, h8, h9⟩, h10⟩
    exact ⟨⟨⟨⟨⟨⟨h4, h5⟩, h1⟩, h2, h6⟩, h7⟩, fun m hm => ((methB_G nm rt _ m).1 (h3 m hm)).1⟩, ⟨h8, fun m hm => ((methB_G nm rt _ m).1 (h3 m hm)).2.1⟩, h9, by omega, fun m hm => ((methB_G nm rt _ m).1 (h3 m hm)).2.2⟩
  · rintro ⟨⟨⟨⟨⟨⟨h4, h5⟩, h1⟩, h2, h6⟩, h7⟩, h3⟩, ⟨h8, g3⟩, h9, h10, k3⟩
    exact ⟨⟨⟨h1, h2⟩, fun m hm => (methB_G nm rt _ m).2 ⟨h3 m hm, g3 m hm, k3 m hm⟩⟩, ⟨⟨⟨h4, h5⟩, h6⟩, h7, h8, h9⟩, by omega⟩
/-- The program's answer is the document's. -/
theorem rightG_eq {nm : ByteArray → Bool} (hnm : nm ⟨#[]⟩ = false) (rt : Ty → Int → Bool) (ro : Ow → Int → Bool) (p : List Cl) : rightG nm rt ro p = rightP nm rt ro p := by
  rw [Bool.eq_iff_iff]
  unfold rightG rightP
  rw [Bool.and_eq_true, Bool.and_eq_true, muchG_iff, tyP_all]
  simp only [Bool.and_eq_true, List.all_eq_true, decide_eq_true_eq, Bool.not_eq_true', decide_eq_false_iff_not, classB_G hnm]
  constructor
  · rintro ⟨⟨h1, h2, h3, h4, h5, h6⟩, h7⟩
    exact ⟨fun c hc => ⟨by omega, h1 c hc, h7 c hc, h3 c hc, h4 c hc, h5 c hc⟩, by omega⟩
  · rintro ⟨h1, h2⟩
    refine ⟨⟨fun c hc => (h1 c hc).2.1, ?_, fun c hc => (h1 c hc).2.2.2.1, fun c hc => (h1 c hc).2.2.2.2.1, fun c hc => (h1 c hc).2.2.2.2.2, by omega⟩, fun c hc => (h1 c hc).2.2.1⟩
    cases p with
    | nil => simp
    | cons c l => have := (h1 c (by simp)).1; omega
end Pn
end Go.Proofs.YtjghgpmkepfdhaaGreatDoor
namespace Go.Proofs.YtjghgpmkepfdhaaGreatDoor
open Go.RowKit
set_option linter.unusedVariables false
namespace Pn
def hlM (m : Me) : Nat := holeT m.ret + holesV m.params + holesV m.locals + innerL m.body
def hlMs : List Me → Nat
  | [] => 0
  | m :: l => hlM m + hlMs l
theorem hlMs_app : ∀ l r, hlMs (l ++ r) = hlMs l + hlMs r
  | [], r => by simp [hlMs]
  | x :: l, r => by simp [hlMs, hlMs_app l r]; omega
theorem hlMs_next {l : List Me} {n : Nat} {x : Me} (h : l[n]? = some x) : hlMs (l.take (n + 1)) = hlMs (l.take n) + hlM x := by
  rw [take_next h, hlMs_app]; simp [hlMs]
def hlP : List Cl → Nat
  | [] => 0
  | c :: l => (holesV c.fields + hlMs c.methods) + hlP l
theorem hlP_app : ∀ l r, hlP (l ++ r) = hlP l + hlP r
  | [], r => by simp [hlP]
  | x :: l, r => by simp [hlP, hlP_app l r]; omega
theorem hlP_next {l : List Cl} {n : Nat} {x : Cl} (h : l[n]? = some x) : hlP (l.take (n + 1)) = hlP (l.take n) + (holesV x.fields + hlMs x.methods) := by
  rw [take_next h, hlP_app]; simp [hlP]
theorem holesL_V : ∀ l, holesL (tyV l) = holesV l
  | [] => by simp [tyV, holesL, holesV]
  | v :: l => by have := holesL_V l; simp only [tyV] at this ⊢; simp [holesL, holesV, this]
mutual
theorem holesL_S : ∀ x, holesL (tyS x) = innerS x
  | .mk _ _ _ _ t _ _ b c _ => by
    have h1 := holesL_L b
    have h2 := holesL_L c
    rw [tyS, innerS, holesL, holesL_app, h1, h2]
    omega
theorem holesL_L : ∀ l, holesL (tyL l) = innerL l
  | [] => by simp [tyL, holesL, innerL]
  | x :: l => by
    have h1 := holesL_S x
    have h2 := holesL_L l
    rw [tyL, holesL_app, h1, h2, innerL]
end
theorem holesL_Ms : ∀ l, holesL (tyMs l) = hlMs l
  | [] => by simp [tyMs, holesL, hlMs]
  | m :: l => by
    have h := holesL_Ms l
    rw [tyMs, holesL_app, h, hlMs, tyM, holesL, holesL_app, holesL_app, holesL_V, holesL_V, holesL_L, hlM]
    omega
theorem holesL_P : ∀ p, holesL (tyP p) = hlP p
  | [] => by simp [tyP, holesL, hlP]
  | c :: l => by
    have h := holesL_P l
    rw [tyP, holesL_app, h, hlP, tyC, holesL_app, holesL_V, holesL_Ms]
theorem hlP_le (p : List Cl) : hlP p ≤ (tyP p).length := by rw [← holesL_P]; exact holesL_le _
theorem drop_next {α : Type} {l : List α} {j : Nat} {x : α} (h : l[j]? = some x) : l.drop j = x :: l.drop (j + 1) := by
  obtain ⟨hlt, he⟩ := List.getElem?_eq_some_iff.1 h
  rw [List.drop_eq_getElem_cons hlt, he]
/-- Statements looked at one by one; none: too great. -/
def hvB (n : Nat) : List Sm → Option Nat
  | [] => some n
  | s :: l => if (n : Int) > 500 then none else if muchB s 25 = true then none else hvB (n + cntS s) l
def hvM (n : Nat) : List Me → Option Nat
  | [] => some n
  | m :: l => if (m.params.length : Int) > 40 then none else if (m.locals.length : Int) > 40 then none else if (m.body.length : Int) > 500 then none else if ((uniqV m.params + uniqV m.locals : Nat) : Int) > 8 then none
    else match hvB n m.body with
      | some k => hvM k l
      | none => none
def hvC (L : Nat) (n : Nat) : List Cl → Option Nat
  | [] => some n
  | c :: l => if (L : Int) > 30 then none else if (c.params.length : Int) > 20 then none else if (c.above.length : Int) > 20 then none else if (c.fields.length : Int) > 40 then none else if (c.methods.length : Int) > 40 then none
    else match hvM n c.methods with
      | some k => hvC L k l
      | none => none
def heavyP (p : List Cl) : Bool := match hvC p.length 0 p with
  | some n => decide ((n : Int) > 500)
  | none => true
theorem heavyP_none {p : List Cl} (h : hvC p.length 0 p = none) : heavyP p = true := by unfold heavyP; rw [h]
theorem heavyP_some {p : List Cl} {n : Nat} (h : hvC p.length 0 p = some n) : heavyP p = decide ((n : Int) > 500) := by unfold heavyP; rw [h]
theorem hvB_some {n : Nat} {s : Sm} {l : List Sm} (h1 : ¬ (n : Int) > 500) (h2 : ¬ muchB s 25 = true) : hvB n (s :: l) = hvB (n + cntS s) l := by
  rw [hvB, if_neg h1, if_neg h2]
theorem hvB_g {n : Nat} {s : Sm} {l : List Sm} (h : (n : Int) > 500 ∨ muchB s 25 = true) : hvB n (s :: l) = none := by
  rw [hvB]
  by_cases h1 : (n : Int) > 500
  · rw [if_pos h1]
  · rw [if_neg h1, if_pos (h.resolve_left h1)]
theorem hvB_gt {n q : Nat} {l : List Sm} (h : (n : Int) > 500) (hq : q < l.length) : hvB n (l.drop q) = none := by
  rw [List.drop_eq_getElem_cons hq]; exact hvB_g (.inl h)
theorem hvM_g {n : Nat} {m : Me} {l : List Me} (h : (m.params.length : Int) > 40 ∨ (m.locals.length : Int) > 40 ∨ (m.body.length : Int) > 500 ∨ ((uniqV m.params + uniqV m.locals : Nat) : Int) > 8) : hvM n (m :: l) = none := by
  rw [hvM]
  split
  · rfl
  · split
    · rfl
    · split
      · rfl
      · rw [if_pos (by omega)]
theorem hvM_none {n : Nat} {m : Me} {l : List Me} (h : hvB n m.body = none) : hvM n (m :: l) = none := by
  rw [hvM, h]
  split
  · rfl
  · split
    · rfl
    · split
      · rfl
      · split <;> rfl
theorem hvM_some {n k : Nat} {m : Me} {l : List Me} (h : ¬ ((m.params.length : Int) > 40 ∨ (m.locals.length : Int) > 40 ∨ (m.body.length : Int) > 500 ∨ ((uniqV m.params + uniqV m.locals : Nat) : Int) > 8)) (hm : hvB n m.body = some k) : hvM n (m :: l) = hvM k l := by
  rw [hvM, if_neg (by omega), if_neg (by omega), if_neg (by omega), if_neg (by omega), hm]
theorem hvC_g {L n : Nat} {c : Cl} {l : List Cl} (h : (L : Int) > 30 ∨ (c.params.length : Int) > 20 ∨ (c.above.length : Int) > 20 ∨ (c.fields.length : Int) > 40 ∨ (c.methods.length : Int) > 40) : hvC L n (c :: l) = none := by
  rw [hvC]
  split
  · rfl
  · split
    · rfl
    · split
      · rfl
      · split
        · rfl
        · rw [if_pos (by omega)]
theorem hvC_none {L n : Nat} {c : Cl} {l : List Cl} (h : hvM n c.methods = none) : hvC L n (c :: l) = none := by
  rw [hvC, h]
  split
  · rfl
  · split
    · rfl
    · split
      · rfl
      · split
        · rfl
        · split <;> rfl
theorem hvC_some {L n k : Nat} {c : Cl} {l : List Cl} (h : ¬ ((L : Int) > 30 ∨ (c.params.length : Int) > 20 ∨ (c.above.length : Int) > 20 ∨ (c.fields.length : Int) > 40 ∨ (c.methods.length : Int) > 40)) (hm : hvM n c.methods = some k) : hvC L n (c :: l) = hvC L k l := by
  rw [hvC, if_neg (by omega), if_neg (by omega), if_neg (by omega), if_neg (by omega), if_neg (by omega), hm]
theorem drop_end {α : Type} {l : List α} {j : Nat} (h : ¬ j < l.length) : l.drop j = [] := List.drop_eq_nil_of_le (by omega)
end Pn
end Go.Proofs.YtjghgpmkepfdhaaGreatDoor

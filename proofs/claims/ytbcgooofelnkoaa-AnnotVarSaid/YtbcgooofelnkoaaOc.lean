/- Plain facts on types that are read; a copy of owners into a type. Conditions: at most 1000 parameters, and at most 1000000 tokens. -/
import Derived.Test.YtbcgooofelnkoaaFi
namespace Go.Proofs.Ytbcgooofelnkoaa
open Go.RowKit
set_option linter.unusedVariables false

/-- An object's type. -/
def tyOf (s : ByteArray) (o : Ow) (y : List Ow) : Ty := ⟨2, s, (y.length : Int), o, y.getD 0 ⟨0, 0⟩, y.getD 1 ⟨0, 0⟩, y.getD 2 ⟨0, 0⟩⟩
def withOw (s : ByteArray) (o : Ow) : Rz (List Ow) → Rz Ty
  | .err e p => .err e p
  | .ok y a => .ok (tyOf s o y) a
/-- What is read as an object's type. -/
def objectP (l : List Gt) (ps : List ByteArray) (a : Int) (f : Bool) : Rz Ty := match firstP l ps a f with
  | .err e p => .err e p
  | .ok o a1 => if (tokI l a1).kind = 1 then (if (tokI l (a1 + 1)).is sLt = true then withOw (tokI l a1).text o (ownersP l ps (a1 + 1))
    else .ok (tyOf (tokI l a1).text o []) (a1 + 1)) else .err 3 (tokI l a1).pos
def wVoid : ByteArray := ⟨#[118, 111, 105, 100]⟩
def wInt : ByteArray := ⟨#[105, 110, 116]⟩
def tyInt : Ty := ⟨1, ⟨#[]⟩, 0, ⟨0, 0⟩, ⟨0, 0⟩, ⟨0, 0⟩, ⟨0, 0⟩⟩
/-- What is read as a type. -/
def kindP (l : List Gt) (ps : List ByteArray) (a : Int) (f : Bool) : Rz Ty :=
  if (tokI l a).is wVoid = true then .ok ty0 (a + 1) else if (tokI l a).is wInt = true then .ok tyInt (a + 1) else objectP l ps a f
theorem ownersGo_len {l : List Gt} {ps : List ByteArray} : ∀ (n : Nat) (a a' : Int) (acc y : List Ow), ownersGo l ps n a acc = .ok y a' → acc.length < y.length ∧ y.length ≤ acc.length + n
  | 0, a, a', acc, y, h => by
    unfold ownersGo at h
    split at h <;> cases h
  | n + 1, a, a', acc, y, h => by
    unfold ownersGo at h
    split at h
    · cases h
    · split at h
      · have := ownersGo_len n _ _ _ _ h
        simp at this
        omega
      · split at h
        · cases h
          simp
        · cases h
theorem ownersP_len {l : List Gt} {ps : List ByteArray} {a a' : Int} {y : List Ow} (h : ownersP l ps a = .ok y a') : 1 ≤ y.length ∧ y.length ≤ 3 := by
  unfold ownersP at h
  split at h
  · have := ownersGo_len _ _ _ _ _ h
    simp at this
    omega
  · cases h
theorem list3 {y : List Ow} (h : 1 ≤ y.length ∧ y.length ≤ 3) : (∃ p, y = [p]) ∨ (∃ p q, y = [p, q]) ∨ ∃ p q r, y = [p, q, r] := by
  match y, h with
  | [p], _ => exact .inl ⟨p, rfl⟩
  | [p, q], _ => exact .inr (.inl ⟨p, q, rfl⟩)
  | [p, q, r], _ => exact .inr (.inr ⟨p, q, r, rfl⟩)
  | [], h => simp at h
  | _ :: _ :: _ :: _ :: _, h => simp at h

/-- A copy of elements of any size. -/
theorem run_copy_wide {P : Program} (w : World) (dT sT ty elem : TypeId) (b o dLen dCap : Nat) (a : Addr) (sLen sCap n sz : Nat) (cs : List Value)
    (hu : P.underlying dT = some (.slice elem)) (hs : (P.info? elem).map (·.size) = some sz) (hn : n = Nat.min sLen dLen) (hcl : cs.length = n * sz)
    (hsrc : ∀ j v, cs[j]? = some v → w.cell? (a.add j) = some v) (ht : w.there b o cs.length) (h1 : ∀ v ∈ cs, v.oneCell' = true) :
    (Builtin.copy_ #[dT, sT] ty #[.slice (some ⟨b, o, none⟩) dLen dCap, .slice (some a) sLen sCap]).run P w = .ok (goInt n) (w.setCells b o cs) := by
  have hl := run_loadCells_list (P := P) w a cs hsrc
  have hst := run_storeCells_cells (P := P) b o cs 0 w (fun j hj => by simpa using (ht j hj).1) (fun j hj => by simpa using (ht j hj).2) h1
  cases hq : P.info? elem with
  | none => simp [hq] at hs
  | some i =>
    have hi : i.size = sz := by simpa [hq] using hs
    rw [hcl] at hl
    simp only [Nat.add_zero] at hst
    simp [Builtin.copy_, run_underlying hu, Builtin.lenOf, Builtin.firstCells, sizeOf, typeInfo, hq, hi, ← hn, hl, hst]
theorem wpList_copy_wide {P : Program} {w : World} {ops : Array Oper} {rest : List Oper} {o : Oper} {a : Act} {Q : Exit → Act → World → Prop} (hgd : o.guard = none) (d s : Operand) (dT sT : TypeId)
    (ho : o.op = .call { callee := .builtin .copy, args := #[d, s], argTypes := #[dT, sT] }) (elem : TypeId) (hu : P.underlying dT = some (.slice elem)) (sz : Nat) (hsz : (P.info? elem).map (·.size) = some sz)
    (b off dLen dCap : Nat) (ad : Addr) (sLen sCap n : Nat) (hd : a.eval d = .slice (some ⟨b, off, none⟩) dLen dCap) (hs : a.eval s = .slice (some ad) sLen sCap) (cs : List Value) (hn : n = Nat.min sLen dLen) (hcl : cs.length = n * sz)
    (hsrc : ∀ j v, cs[j]? = some v → w.cell? (ad.add j) = some v) (ht : w.there b off cs.length) (h1 : ∀ v ∈ cs, v.oneCell' = true)
    (h : wpList P ops Q rest (a.put o.dst (goInt n)) (w.setCells b off cs)) : wpList P ops Q (o :: rest) a w := by
  refine wpList_plain hgd fun _ hK => ?_
  have hrun := run_copy_wide (P := P) w dT sT o.type elem b off dLen dCap ad sLen sCap n sz cs hu hsz hn hcl hsrc ht h1
  unfold Oper.wp
  simp [execOp, ho, resolve, invoke, builtin, hd, hs, hrun, Result.andThen]
  exact hK _ _ h
theorem set_mid {t : TypeId} {W : World} {g : Nat} (pre old post vs : List Value) (h : W.heap[g]? = some (.cells (pre ++ (old ++ post)).toArray t (0, 0))) (hl : old.length = vs.length) : (W.setCells g pre.length vs).heap[g]? = some (.cells (pre ++ (vs ++ post)).toArray t (0, 0)) := by
  have key : ∀ (vs : List Value) (i : Nat) (W : World) (pre old : List Value), W.heap[g]? = some (.cells (pre ++ (old ++ post)).toArray t (0, 0)) → pre.length = i → old.length = vs.length → (W.setCells g i vs).heap[g]? = some (.cells (pre ++ (vs ++ post)).toArray t (0, 0)) := by
    intro vs
    induction vs with
    | nil =>
      intro i W pre old h hp ho
      have : old = [] := List.eq_nil_of_length_eq_zero ho
      subst this
      exact h
    | cons v r ih =>
      intro i W pre old h hp ho
      obtain ⟨x, q, rfl⟩ : ∃ x q, old = x :: q := by
        cases old with
        | nil => simp at ho
        | cons x q => exact ⟨x, q, rfl⟩
      have h1 := heap_setCell_same W g i _ t v h
      have h2 : (pre ++ (x :: q ++ post)).toArray.setIfInBounds i v = ((pre ++ [v]) ++ (q ++ post)).toArray := by
        rw [List.setIfInBounds_toArray, List.set_append_right _ _ (by omega), ← hp, Nat.sub_self]
        simp
      rw [h2] at h1
      have h3 := ih (i + 1) (W.setCell ⟨g, i, none⟩ v) (pre ++ [v]) q h1 (by simp; omega) (by simpa using ho)
      have h4 : (pre ++ [v]) ++ (r ++ post) = pre ++ (v :: r ++ post) := by simp
      rw [h4] at h3
      exact h3
  exact key vs _ W pre old h rfl hl
theorem one11 (t : Ty) : t.cellL.toArray.all (·.oneCell') = true := by
  apply all_oneCell_toArray
  intro v hv
  unfold Ty.cellL at hv
  simp only [List.mem_cons, List.not_mem_nil, or_false] at hv
  rcases hv with rfl | rfl | rfl | rfl | rfl | rfl | rfl | rfl | rfl | rfl | rfl <;> rfl
abbrev tyV (t : Ty) : Value := .agg t.cellL.toArray
abbrev tyZ : Value := .agg ty0.cellL.toArray
end Go.Proofs.Ytbcgooofelnkoaa

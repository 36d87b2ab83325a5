/- What is read as owners between two signs, by the program. Conditions: at most 1000 parameters. -/
import Derived.Test.YtbcgooofelnkoaaAq
import Derived.OwnWalk
import Derived.Laws.AppendOwn
import Derived.Laws.OwnMore
namespace Go.Proofs.Ytbcgooofelnkoaa
open Go.RowKit
set_option linter.unusedVariables false

def sComma : ByteArray := ⟨#[44]⟩
def sGt : ByteArray := ⟨#[62]⟩
/-- What is read as owners from the one at a place on, where some were read, and so many more may be. -/
def ownersGo (l : List Gt) (ps : List ByteArray) : Nat → Int → List Ow → Rz (List Ow)
  | 0, a, acc => match ownP l ps a with
    | .err e p => .err e p
    | .ok _ _ => .err 10 (tokI l a).pos
  | n + 1, a, acc => match ownP l ps a with
    | .err e p => .err e p
    | .ok o _ => if (tokI l (a + 1)).is sComma = true then ownersGo l ps n (a + 2) (acc ++ [o]) else if (tokI l (a + 1)).is sGt = true then .ok (acc ++ [o]) (a + 2) else .err 3 (tokI l (a + 1)).pos
/-- What is read as owners. -/
def ownersP (l : List Gt) (ps : List ByteArray) (a : Int) : Rz (List Ow) := if (tokI l a).is sLt = true then ownersGo l ps 3 (a + 1) [] else .err 3 (tokI l a).pos
theorem go_err {l : List Gt} {ps : List ByteArray} {n : Nat} {a e p : Int} {acc : List Ow} (h : ownP l ps a = .err e p) : ownersGo l ps n a acc = .err e p := by
  cases n <;> (unfold ownersGo; rw [h])
theorem go_full {l : List Gt} {ps : List ByteArray} {a a' : Int} {o : Ow} {acc : List Ow} (h : ownP l ps a = .ok o a') : ownersGo l ps 0 a acc = .err 10 (tokI l a).pos := by
  unfold ownersGo; rw [h]
theorem go_more {l : List Gt} {ps : List ByteArray} {n : Nat} {a a' : Int} {o : Ow} {acc : List Ow} (h : ownP l ps a = .ok o a') :
    ownersGo l ps (n + 1) a acc = if (tokI l (a + 1)).is sComma = true then ownersGo l ps n (a + 2) (acc ++ [o]) else if (tokI l (a + 1)).is sGt = true then .ok (acc ++ [o]) (a + 2) else .err 3 (tokI l (a + 1)).pos := by
  rw [ownersGo, h]

/-- The cells of owners, one behind the other. -/
def ocells (l : List Ow) : List Value := l.flatMap fun o => [.int .i64 o.kind, .int .i64 o.n]
theorem ocells_len (l : List Ow) : (ocells l).length = l.length * 2 := by
  induction l with
  | nil => rfl
  | cons a r ih => unfold ocells at ih ⊢; rw [List.flatMap_cons, List.length_append, ih]; simp; omega
theorem ocells_snoc (l : List Ow) (o : Ow) : ocells (l ++ [o]) = ocells l ++ [.int .i64 o.kind, .int .i64 o.n] := by
  unfold ocells; rw [List.flatMap_append]; simp
theorem own_info : (Try.prog.info? 33).map (fun i => (i.zero, i.size, i.bytes)) = some (some (.agg #[.int .i64 0, .int .i64 0]), 2, 16) := by kernel_rfl
theorem new2 (W : World) (x y : Value) (t : TypeId) (g : Nat) (hg : g = W.heap.size) : ∀ (j : Nat) (u : Value), [x, y][j]? = some u → (W.alloc (.cells #[x, y] t)).cell? ((⟨g, 0, none⟩ : Addr).add j) = some u := by
  intro j u h
  subst hg
  have hn : (W.alloc (.cells #[x, y] t)).heap[W.heap.size]? = some (.cells #[x, y] t (0, 0)) := heap_new W _
  have ha : (⟨W.heap.size, 0, none⟩ : Addr).add j = ⟨W.heap.size, j, none⟩ := by unfold Addr.add; split <;> simp_all
  rw [ha, cell_of_row _ _ j _ t (0, 0) hn]
  rw [← h]; simp
theorem ones2 (x y : Int) : ∀ u ∈ [Value.int .i64 x, Value.int .i64 y], u.oneCell' = true := by
  intro u hu
  simp at hu
  rcases hu with rfl | rfl <;> rfl
/-- A list in memory of its own stays where a block that is not its own changes. -/
theorem own_apart {base : Nat} {e : TypeId} {size n : Nat} {v : Value} {xs : List Value} {w w' : World} {r : Nat} (h : w.ownsRow base e size v n xs) (hg : w.grownBy w' (some r)) (hr : r < base) : w'.ownsRow base e size v n xs :=
  h.kept hg (by
    cases hv : v.ownBlock with
    | none => exact .inl rfl
    | some q =>
      refine .inr (fun e => ?_)
      have := (h.lt q hv).1
      cases e
      omega)
theorem own_slice {base : Nat} {e : TypeId} {size n : Nat} {v : Value} {xs : List Value} {w : World} (h : w.ownsRow base e size v n xs) : ∃ A c, v = .slice A n c := by
  rcases h.2 with ⟨rfl, rfl⟩ | ⟨g, cap, cur, rfl, _⟩
  · exact ⟨none, 0, rfl⟩
  · exact ⟨_, cap, rfl⟩
theorem own_base {base base' : Nat} {e : TypeId} {size n : Nat} {v : Value} {xs : List Value} {w : World} (h : w.ownsRow base e size v n xs) (hb : base' ≤ base) : w.ownsRow base' e size v n xs := by
  refine ⟨h.1, ?_⟩
  rcases h.2 with h | ⟨g, cap, cur, rfl, hb', rest⟩
  · exact .inl h
  · exact .inr ⟨g, cap, cur, rfl, by omega, rest⟩

section
variable (R B : Nat) (l : List Gt) (A : Option Addr) (c : Nat) (PA : Option Addr) (ps : List ByteArray) (pc : Nat)
/-- What a function of the reader with one result in memory has there. -/
structure Fr1 (w : World) (T1 : TypeId) (ys : List Value) (a : Int) (W : World) : Prop where
  b1 : W.heap[w.heap.size]? = some (.cells ys.toArray T1 (0, 0))
  an : An R B l A c PA ps pc a W
  gb : w.grownBy W (some R)
  hR : R < w.heap.size
/-- What is handed back of owners. -/
def OwsP (r : Rz (List Ow)) (w : World) (x : Ending) (w' : World) : Prop :=
  w.grownBy w' (some R) ∧ match r with
  | .ok y a => ∃ v, x = .returned (.tuple #[v, fV 0 0]) ∧ An R B l A c PA ps pc a w' ∧ w'.ownsRow w.heap.size 33 2 v y.length (ocells y)
  | .err e p => x = .returned (.tuple #[.slice none 0 0, fV e p]) ∧ e ≠ 0 ∧ ∃ a, An R B l A c PA ps pc a w'
/-- The loop. -/
def OwsAt (w : World) (res : Rz (List Ow)) (g : Nat) (v m : Value) (wr : World) : Prop :=
  ∃ acc a, m = .bool (decide (0 < g)) ∧ Fr1 R B l A c PA ps pc w 28 [.int .i64 0, .int .i64 0] a wr ∧ wr.ownsRow (w.heap.size + 1) 33 2 v acc.length (ocells acc) ∧
    ((g = 0 ∧ acc.length ≤ 3 ∧ res = if (tokI l a).is sGt = true then .ok acc (a + 1) else .err 3 (tokI l a).pos) ∨ ∃ n, g = n + 1 ∧ acc.length + n = 3 ∧ ownersGo l ps n a acc = res)
end
section
variable {R B : Nat} {l : List Gt} {A : Option Addr} {c : Nat} {PA : Option Addr} {ps : List ByteArray} {pc : Nat} {w W W' : World} {T1 : TypeId} {ys : List Value} {a a' : Int}
theorem Fr1.step (h : Fr1 R B l A c PA ps pc w T1 ys a W) (hb : Below W.heap.size W W') : Fr1 R B l A c PA ps pc w T1 ys a W' :=
  ⟨(hb.block _ (heap_lt h.b1)).trans h.b1, h.an.below hb, h.gb.andThen (gb_below hb none) (fun j e => by cases e), h.hR⟩
theorem Fr1.turn (h : Fr1 R B l A c PA ps pc w T1 ys a W) (ha : An R B l A c PA ps pc a' W') (hg : W.grownBy W' (some R)) : Fr1 R B l A c PA ps pc w T1 ys a' W' := by
  have hR := h.hR
  exact ⟨(hg.block _ (heap_lt h.b1) (fun e => by cases e; omega)).trans h.b1, ha, h.gb.andThen hg (fun j e => .inr e), hR⟩
theorem Fr1.new (h : An R B l A c PA ps pc a w) (T1 : TypeId) (ys : List Value) : Fr1 R B l A c PA ps pc w T1 ys a (w.alloc (.cells ys.toArray T1)) :=
  ⟨heap_new w _, h.below (boxed w _), gb_below (boxed w _) _, heap_lt h.cu.row⟩
theorem Fr1.put (h : Fr1 R B l A c PA ps pc w T1 ys a W) (vs : List Value) (hl : ys.length = vs.length) : Fr1 R B l A c PA ps pc w T1 vs a (W.setCells w.heap.size 0 vs) := by
  have hR := h.hR
  have hg := setCells_gb w.heap.size vs 0 W
  exact ⟨set_all h.b1 vs hl,
    ⟨⟨(setCells_other _ _ (by omega) _ _ _).trans h.an.cu.row, h.an.cu.toks.below (gb_past hg (by have := h.an.cu.hB; omega) (by have := h.an.cu.hB; have := heap_lt h.b1; omega)), h.an.cu.hB, h.an.cu.len, h.an.cu.cap, h.an.cu.low, h.an.cu.high⟩, h.an.par.below (gb_past hg (by have := h.an.cu.hB; omega) (by have := h.an.cu.hB; have := heap_lt h.b1; omega))⟩,
    h.gb.andThen hg (fun j e => by cases e; exact .inl (Nat.le_refl _)), hR⟩
/-- A list of its own grows: all else stays. -/
theorem Fr1.grow (h : Fr1 R B l A c PA ps pc w T1 ys a W) {v : Value} {e : TypeId} {size n : Nat} {xs : List Value} (ho : W.ownsRow (w.heap.size + 1) e size v n xs) (hg : W.grownBy W' v.ownBlock) : Fr1 R B l A c PA ps pc w T1 ys a W' := by
  have hR := h.hR
  have hne : ∀ k, k < w.heap.size + 1 → some k ≠ v.ownBlock := fun k hk e => by have := (ho.lt k e.symm).1; omega
  have hbel : Below B W W' := (Below.refl B W).grown hg (by have := h.an.cu.hB; have := heap_lt h.b1; omega) (fun k e => by have := (ho.lt k e).1; have := h.an.cu.hB; omega)
  exact ⟨(hg.block _ (heap_lt h.b1) (hne _ (by omega))).trans h.b1,
    ⟨⟨(hg.block _ (heap_lt h.an.cu.row) (hne _ (by omega))).trans h.an.cu.row, h.an.cu.toks.below hbel, h.an.cu.hB, h.an.cu.len, h.an.cu.cap, h.an.cu.low, h.an.cu.high⟩, h.an.par.below hbel⟩,
    h.gb.andThen hg (fun j e => by have := (ho.lt j e).1; exact .inl (by omega)), hR⟩
end
theorem owsP_ok {R B : Nat} {l : List Gt} {A : Option Addr} {c : Nat} {PA : Option Addr} {ps : List ByteArray} {pc : Nat} {r : Rz (List Ow)} {w w' : World} {x : Ending} {y : List Ow} {a : Int} (h : OwsP R B l A c PA ps pc r w x w') (hr : r = .ok y a) :
    ∃ v, x = .returned (.tuple #[v, fV 0 0]) ∧ An R B l A c PA ps pc a w' ∧ w'.ownsRow w.heap.size 33 2 v y.length (ocells y) ∧ w.grownBy w' (some R) := by
  subst hr
  obtain ⟨hg, v, hx, ha, ho⟩ := h
  exact ⟨v, hx, ha, ho, hg⟩
theorem owsP_err {R B : Nat} {l : List Gt} {A : Option Addr} {c : Nat} {PA : Option Addr} {ps : List ByteArray} {pc : Nat} {r : Rz (List Ow)} {w w' : World} {x : Ending} {e p : Int} (h : OwsP R B l A c PA ps pc r w x w') (hr : r = .err e p) :
    x = .returned (.tuple #[.slice none 0 0, fV e p]) ∧ e ≠ 0 ∧ ∃ a, An R B l A c PA ps pc a w' ∧ w.grownBy w' (some R) := by
  subst hr
  obtain ⟨hg, hx, he, a, ha⟩ := h
  exact ⟨hx, he, a, ha, hg⟩
theorem results_tc {P : Program} {fn : Func} {p q : Tmp} {ty' : TypeId} (h : fn.results = #[.tmp p, .cell q ty']) (tmps : Array Value) (w : World) (g' : Nat) (t' : TypeId) (v : Value) (cs' : Array Value) (d' : TypeDesc)
    (hp : tmps.getD p undef = v) (hq : tmps.getD q undef = .pointer (some ⟨g', 0, none⟩)) (hg' : w.heap[g']? = some (.cells cs' t' (0, 0)))
    (hu' : P.underlying ty' = some d') (hd' : (match d' with | .struct _ | .array _ _ => true | _ => false) = true) (hi' : (P.info? ty').map (·.size) = some cs'.size) :
    (results fn tmps).run P w = .ok (.tuple #[v, .agg cs']) w := by
  have hp' : tmps[p]?.getD undef = v := by simpa using hp
  have hq' : tmps[q]?.getD undef = .pointer (some ⟨g', 0, none⟩) := by simpa using hq
  simp [results, h, hp', hq', asAddr, run_loadVar_row w g' t' ty' cs' (0, 0) d' hg' hu' hd' hi']
end Go.Proofs.Ytbcgooofelnkoaa

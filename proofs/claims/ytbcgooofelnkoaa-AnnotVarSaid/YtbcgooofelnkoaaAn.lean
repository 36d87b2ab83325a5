/- The reader of types in memory, what its functions hand back; what is read as an owner. Conditions: none. -/
import Derived.Test.YtbcgooofelnkoaaAh
namespace Go.Proofs.Ytbcgooofelnkoaa
open Go.RowKit
set_option linter.unusedVariables false

/-- What was read, and the place behind it; or what is wrong, and where. -/
inductive Rz (α : Type) where
  | ok (x : α) (a : Int)
  | err (e p : Int)

/-- What is read as an owner that may stand behind a class, too. -/
def ownP (l : List Gt) (ps : List ByteArray) (a : Int) : Rz Ow :=
  if (tokI l a).kind = 1 then (if findP (tokI l a).text ps = 0 then .err 4 (tokI l a).pos else .ok ⟨3, (findP (tokI l a).text ps : Nat)⟩ (a + 1))
  else if wordK (tokI l a) = 0 then .err 3 (tokI l a).pos else .ok ⟨wordK (tokI l a), 0⟩ (a + 1)
theorem wordK_is {t : Gt} (h : ¬ wordK t = 0) : ¬ t.kind = 0 := by
  intro h0
  apply h
  unfold wordK Gt.is
  simp [h0]
theorem ownP_in {l : List Gt} {ps : List ByteArray} {a a' : Int} {o : Ow} (h : ownP l ps a = .ok o a') : (0 ≤ a ∧ a < l.length) ∧ a' = a + 1 := by
  unfold ownP at h
  by_cases h1 : (tokI l a).kind = 1
  · rw [if_pos h1] at h
    split at h
    · cases h
    · cases h
      exact ⟨tokI_in (by omega), rfl⟩
  · rw [if_neg h1] at h
    split at h
    · cases h
    · rename_i h2
      cases h
      exact ⟨tokI_in (wordK_is h2), rfl⟩

/-- The reader in a block of its own, its tokens, and the names of the parameters. -/
structure An (R B : Nat) (l : List Gt) (A : Option Addr) (c : Nat) (PA : Option Addr) (ps : List ByteArray) (pc : Nat) (a : Int) (w : World) : Prop where
  cu : Cu R B l A c #[.slice PA ps.length pc] 62 a w
  par : RS w B PA ps
theorem An.below {R B : Nat} {l : List Gt} {A : Option Addr} {c : Nat} {PA : Option Addr} {ps : List ByteArray} {pc : Nat} {a : Int} {w w' : World} (h : An R B l A c PA ps pc a w) (hb : Below w.heap.size w w') : An R B l A c PA ps pc a w' :=
  ⟨h.cu.below hb, h.par.below (hb.mono (Nat.le_trans h.cu.hB (Nat.le_of_lt (heap_lt h.cu.row))))⟩
theorem An.turn {R B : Nat} {l : List Gt} {A : Option Addr} {c : Nat} {PA : Option Addr} {ps : List ByteArray} {pc : Nat} {a a' : Int} {w w' : World} (h : An R B l A c PA ps pc a w) (hc : Cu R B l A c #[.slice PA ps.length pc] 62 a' w') (hg : w.grownBy w' (some R)) : An R B l A c PA ps pc a' w' :=
  ⟨hc, h.par.below (gb_past hg h.cu.hB (Nat.le_trans h.cu.hB (Nat.le_of_lt (heap_lt h.cu.row))))⟩
theorem An.cells {R B : Nat} {l : List Gt} {A : Option Addr} {c : Nat} {PA : Option Addr} {ps : List ByteArray} {pc : Nat} {a : Int} {w : World} (h : An R B l A c PA ps pc a w) :
    w.cell? ⟨R, 0, none⟩ = some (.slice A l.length c) ∧ w.cell? ⟨R, 1, none⟩ = some (.int .i64 a) ∧ w.cell? ⟨R, 2, none⟩ = some (.slice PA ps.length pc) :=
  ⟨h.cu.cells.1, h.cu.cells.2, cell_of_row w _ 2 _ _ (0, 0) h.cu.row⟩

section
variable (R B : Nat) (l : List Gt) (A : Option Addr) (c : Nat) (PA : Option Addr) (ps : List ByteArray) (pc : Nat)

/-- What a function of the reader has in memory: two results, the reader; nothing else that was there has changed. -/
structure Fr (w : World) (T0 T1 : TypeId) (xs ys : List Value) (a : Int) (W : World) : Prop where
  b0 : W.heap[w.heap.size]? = some (.cells xs.toArray T0 (0, 0))
  b1 : W.heap[w.heap.size + 1]? = some (.cells ys.toArray T1 (0, 0))
  an : An R B l A c PA ps pc a W
  gb : w.grownBy W (some R)
  hR : R < w.heap.size
end
section
variable {R B : Nat} {l : List Gt} {A : Option Addr} {c : Nat} {PA : Option Addr} {ps : List ByteArray} {pc : Nat} {w W W' : World} {T0 T1 : TypeId} {xs ys : List Value} {a a' : Int}
theorem Fr.step (h : Fr R B l A c PA ps pc w T0 T1 xs ys a W) (hb : Below W.heap.size W W') : Fr R B l A c PA ps pc w T0 T1 xs ys a W' :=
  ⟨(hb.block _ (heap_lt h.b0)).trans h.b0, (hb.block _ (heap_lt h.b1)).trans h.b1, h.an.below hb, h.gb.andThen (gb_below hb none) (fun j e => by cases e), h.hR⟩
theorem Fr.turn (h : Fr R B l A c PA ps pc w T0 T1 xs ys a W) (ha : An R B l A c PA ps pc a' W') (hg : W.grownBy W' (some R)) : Fr R B l A c PA ps pc w T0 T1 xs ys a' W' := by
  have hR := h.hR
  exact ⟨(hg.block _ (heap_lt h.b0) (fun e => by cases e; omega)).trans h.b0, (hg.block _ (heap_lt h.b1) (fun e => by cases e; omega)).trans h.b1, ha, h.gb.andThen hg (fun j e => .inr e), hR⟩
theorem Fr.new (h : An R B l A c PA ps pc a w) (T0 T1 : TypeId) (xs ys : List Value) : Fr R B l A c PA ps pc w T0 T1 xs ys a ((w.alloc (.cells xs.toArray T0)).alloc (.cells ys.toArray T1)) := by
  obtain ⟨h0, h1, h2, h3⟩ := two2 (Below.refl ((w.alloc (.cells xs.toArray T0)).alloc (.cells ys.toArray T1)).heap.size _)
  exact ⟨h0, h1, h.below h2, gb_below h2 _, heap_lt h.cu.row⟩
theorem Fr.put0 (h : Fr R B l A c PA ps pc w T0 T1 xs ys a W) (vs : List Value) (hl : xs.length = vs.length) : Fr R B l A c PA ps pc w T0 T1 vs ys a (W.setCells w.heap.size 0 vs) := by
  have hR := h.hR
  have hg := setCells_gb w.heap.size vs 0 W
  exact ⟨set_all h.b0 vs hl, (setCells_other _ _ (by omega) _ _ _).trans h.b1,
    ⟨⟨(setCells_other _ _ (by omega) _ _ _).trans h.an.cu.row, h.an.cu.toks.below (gb_past hg (by have := h.an.cu.hB; omega) (by have := h.an.cu.hB; have := heap_lt h.b0; omega)), h.an.cu.hB, h.an.cu.len, h.an.cu.cap, h.an.cu.low, h.an.cu.high⟩, h.an.par.below (gb_past hg (by have := h.an.cu.hB; omega) (by have := h.an.cu.hB; have := heap_lt h.b0; omega))⟩,
    h.gb.andThen hg (fun j e => by cases e; exact .inl (Nat.le_refl _)), hR⟩
theorem Fr.put1 (h : Fr R B l A c PA ps pc w T0 T1 xs ys a W) (vs : List Value) (hl : ys.length = vs.length) : Fr R B l A c PA ps pc w T0 T1 xs vs a (W.setCells (w.heap.size + 1) 0 vs) := by
  have hR := h.hR
  have hg := setCells_gb (w.heap.size + 1) vs 0 W
  exact ⟨(setCells_other _ _ (by omega) _ _ _).trans h.b0, set_all h.b1 vs hl,
    ⟨⟨(setCells_other _ _ (by omega) _ _ _).trans h.an.cu.row, h.an.cu.toks.below (gb_past hg (by have := h.an.cu.hB; omega) (by have := h.an.cu.hB; have := heap_lt h.b0; omega)), h.an.cu.hB, h.an.cu.len, h.an.cu.cap, h.an.cu.low, h.an.cu.high⟩, h.an.par.below (gb_past hg (by have := h.an.cu.hB; omega) (by have := h.an.cu.hB; have := heap_lt h.b0; omega))⟩,
    h.gb.andThen hg (fun j e => by cases e; exact .inl (by omega)), hR⟩
/-- A block of its own, behind the results, has changed. -/
theorem Fr.aside (h : Fr R B l A c PA ps pc w T0 T1 xs ys a W) (g : Nat) (hg : w.heap.size + 2 ≤ g) (vs : List Value) (i : Nat) : Fr R B l A c PA ps pc w T0 T1 xs ys a (W.setCells g i vs) := by
  have hR := h.hR
  have hl := heap_lt h.b0
  have hgb := setCells_gb g vs i W
  have hbel : Below B W (W.setCells g i vs) := gb_past hgb (by have := h.an.cu.hB; omega) (by have := h.an.cu.hB; omega)
  exact ⟨(setCells_other _ _ (by omega) _ _ _).trans h.b0, (setCells_other _ _ (by omega) _ _ _).trans h.b1,
    ⟨⟨(setCells_other _ _ (by omega) _ _ _).trans h.an.cu.row, h.an.cu.toks.below hbel, h.an.cu.hB, h.an.cu.len, h.an.cu.cap, h.an.cu.low, h.an.cu.high⟩, h.an.par.below hbel⟩,
    h.gb.andThen hgb (fun j e => by cases e; exact .inl (by omega)), hR⟩
theorem Fr.lt (h : Fr R B l A c PA ps pc w T0 T1 xs ys a W) : w.heap.size + 1 < W.heap.size := heap_lt h.b1
end
section
variable (R B : Nat) (l : List Gt) (A : Option Addr) (c : Nat) (PA : Option Addr) (ps : List ByteArray) (pc : Nat)
/-- A step of the reader: what it hands back, where it stands. -/
def RzP {α : Type} (z : Value) (val : α → Value) (r : Rz α) (w : World) (x : Ending) (w' : World) : Prop :=
  w.grownBy w' (some R) ∧ match r with
  | .ok y a => x = .returned (.tuple #[val y, fV 0 0]) ∧ An R B l A c PA ps pc a w'
  | .err e p => x = .returned (.tuple #[z, fV e p]) ∧ e ≠ 0 ∧ ∃ a, An R B l A c PA ps pc a w'
end
theorem rzP_ok {R B : Nat} {l : List Gt} {A : Option Addr} {c : Nat} {PA : Option Addr} {ps : List ByteArray} {pc : Nat} {α : Type} {z : Value} {val : α → Value} {r : Rz α} {w w' : World} {x : Ending} {y : α} {a : Int} (h : RzP R B l A c PA ps pc z val r w x w') (hr : r = .ok y a) : x = .returned (.tuple #[val y, fV 0 0]) ∧ An R B l A c PA ps pc a w' ∧ w.grownBy w' (some R) := by
  subst hr; exact ⟨h.2.1, h.2.2, h.1⟩
theorem rzP_err {R B : Nat} {l : List Gt} {A : Option Addr} {c : Nat} {PA : Option Addr} {ps : List ByteArray} {pc : Nat} {α : Type} {z : Value} {val : α → Value} {r : Rz α} {w w' : World} {x : Ending} {e p : Int} (h : RzP R B l A c PA ps pc z val r w x w') (hr : r = .err e p) : x = .returned (.tuple #[z, fV e p]) ∧ e ≠ 0 ∧ ∃ a, An R B l A c PA ps pc a w' ∧ w.grownBy w' (some R) := by
  subst hr
  obtain ⟨hg, hx, he, a, ha⟩ := h
  exact ⟨hx, he, a, ha, hg⟩
theorem results_two {P : Program} {fn : Func} {p q : Tmp} {ty ty' : TypeId} (h : fn.results = #[.cell p ty, .cell q ty']) (tmps : Array Value) (w : World) (g g' : Nat) (t t' : TypeId) (cs cs' : Array Value) (d d' : TypeDesc)
    (hp : tmps.getD p undef = .pointer (some ⟨g, 0, none⟩)) (hq : tmps.getD q undef = .pointer (some ⟨g', 0, none⟩)) (hg : w.heap[g]? = some (.cells cs t (0, 0))) (hg' : w.heap[g']? = some (.cells cs' t' (0, 0)))
    (hu : P.underlying ty = some d) (hd : (match d with | .struct _ | .array _ _ => true | _ => false) = true) (hi : (P.info? ty).map (·.size) = some cs.size)
    (hu' : P.underlying ty' = some d') (hd' : (match d' with | .struct _ | .array _ _ => true | _ => false) = true) (hi' : (P.info? ty').map (·.size) = some cs'.size) :
    (results fn tmps).run P w = .ok (.tuple #[.agg cs, .agg cs']) w := by
  have hp' : tmps[p]?.getD undef = .pointer (some ⟨g, 0, none⟩) := by simpa using hp
  have hq' : tmps[q]?.getD undef = .pointer (some ⟨g', 0, none⟩) := by simpa using hq
  simp [results, h, hp', hq', asAddr, run_loadVar_row w g t ty cs (0, 0) d hg hu hd hi, run_loadVar_row w g' t' ty' cs' (0, 0) d' hg' hu' hd' hi']
theorem one2 (x y : Int) : (#[.int .i64 x, .int .i64 y] : Array Value).all (·.oneCell') = true := by
  apply all_oneCell_toArray
  intro v hv
  simp only [List.mem_cons, List.not_mem_nil, or_false] at hv
  rcases hv with rfl | rfl <;> rfl
theorem find_ps_b (s : ByteArray) (A : Option Addr) (c : Nat) (ps : List ByteArray) (w : World) (hr : RS w w.heap.size A ps) (hl : ps.length ≤ 1000) (hc : ps.length ≤ c) :
    Calls Try.prog 50 #[.string s, .slice A ps.length c] w fun e w' => e = .returned (.int .i64 (findP s ps : Nat)) ∧ Below w.heap.size w w' :=
  (find_ps s A c ps w hr hl hc).mono fun e w' ⟨h1, h2⟩ => ⟨h1, by rw [← h2]; exact Below.refl _ _⟩
abbrev owV (o : Ow) : Value := .agg #[.int .i64 o.kind, .int .i64 o.n]
abbrev owZ : Value := .agg #[.int .i64 0, .int .i64 0]
end Go.Proofs.Ytbcgooofelnkoaa

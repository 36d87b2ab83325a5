/- A region that draws its order, walked once in the order of the text, over a class of worlds: its callees may make memory, where the class stays. Conditions: none. -/
import Derived.Test.YtbcgooofelnkoaaAo
import Derived.BigQuiet
namespace Go.Proofs.Ytbcgooofelnkoaa
open Go.RowKit

/-- A world of a class. -/
structure InC (Cl : World → Prop) where
  w : World
  ok : Cl w

theorem region_class {P : Program} {id : Nat} {Q : Exit → Act → World → Prop} {a : Act} {w : World} {l : List Oper} {Cl : World → Prop} (hm : P.follows .mixedOrders = true) (hB : Region.lexB .any l.toArray = true) (hC : Cl w.drew)
    (h : wpQuiet P l.toArray (fun w' => ∃ n : InC Cl, w' = n.w) (fun a' => ∀ w', (∃ n : InC Cl, w' = n.w) → Q .normal a' w') l a) : (Code.region id l.toArray true).wp P Q a w :=
  wp_region_quiet (C := fun w' => ∃ n : InC Cl, w' = n.w) hm hB ⟨⟨_, hC⟩, rfl⟩ (by simpa using h)

/-- A callee's contract, met in a world of the class. -/
theorem cls_call {Cl : World → Prop} (hst : ∀ W W', Cl W → Below W.heap.size W W' → Cl W') {P : Program} {f : FuncId} {args : Array Value} {v : Value} (n : InC Cl)
    (h : Calls P f args n.w fun e w' => e = .returned v ∧ Below n.w.heap.size n.w w') : Calls P f args n.w fun e w'' => e = .returned v ∧ ∃ m : InC Cl, w'' = m.w :=
  h.mono fun _ w' ⟨he, hb⟩ => ⟨he, ⟨w', hst _ _ n.ok hb⟩, rfl⟩
theorem cls_same {Cl : World → Prop} {P : Program} {f : FuncId} {args : Array Value} {v : Value} (n : InC Cl)
    (h : Calls P f args n.w fun e w' => e = .returned v ∧ w' = n.w) : Calls P f args n.w fun e w'' => e = .returned v ∧ ∃ m : InC Cl, w'' = m.w :=
  h.mono fun _ _ ⟨he, hb⟩ => ⟨he, n, hb⟩
theorem drew_below (w : World) : Below w.heap.size w w.drew := (Below.refl _ _).drew
/-! ### The class of worlds behind one -/
instance behind_some (W : World) : Nonempty (InC (Below W.heap.size W)) := ⟨⟨W, Below.refl _ _⟩⟩
theorem cell_lt {W : World} {b o : Nat} {v : Value} (h : W.cell? ⟨b, o, none⟩ = some v) : b < W.heap.size := by
  rcases Nat.lt_or_ge b W.heap.size with g | g
  · exact g
  · exfalso
    have hn : W.heap[b]? = none := Array.getElem?_eq_none g
    simp [World.cell?, hn] at h
theorem cls_cell {W : World} {b o : Nat} {v : Value} (h : W.cell? ⟨b, o, none⟩ = some v) (p : InC (Below W.heap.size W)) : p.w.cell? ⟨b, o, none⟩ = some v :=
  (p.ok.cell (p := ⟨b, o, none⟩) (cell_lt h)).trans h
theorem cls_below {W : World} {P : Program} {f : FuncId} {args : Array Value} {v : Value} (p : InC (Below W.heap.size W))
    (h : Calls P f args p.w fun e w' => e = .returned v ∧ Below p.w.heap.size p.w w') : Calls P f args p.w fun e w'' => e = .returned v ∧ ∃ m : InC (Below W.heap.size W), w'' = m.w :=
  cls_call (fun _ _ h hb => h.trans (hb.mono h.size)) p h
end Go.Proofs.Ytbcgooofelnkoaa

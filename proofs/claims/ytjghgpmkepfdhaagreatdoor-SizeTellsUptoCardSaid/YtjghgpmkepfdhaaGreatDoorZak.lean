/- What an owner becomes, put for a list, as the program tells it. Conditions: a list has at most 1000 owners. -/
import Derived.Test.YtjghgpmkepfdhaaGreatDoorZac
import Derived.Test.YtjghgpmkepfdhaaGreatDoorZaj
import Derived.WalkKit
import Derived.WalkSmall
import Derived.BigQuiet
import Derived.Deep.QuietTactic
import Derived.Deep.RegionWith
import Derived.LoopTactic
import Derived.Lib.Hide
import Derived.IntWalk
import Derived.Laws.Rows
import Derived.OwnWalk
import Derived.Laws.AppendOwn
import Derived.Laws.OwnMore
namespace Go.Proofs.YtjghgpmkepfdhaaGreatDoor
open Go.RowKit
set_option linter.unusedVariables false

theorem heap_lt {w : World} {g : Nat} {o : Obj} (h : w.heap[g]? = some o) : g < w.heap.size := by
  rcases Nat.lt_or_ge g w.heap.size with h' | h'
  · exact h'
  · rw [Array.getElem?_eq_none h'] at h; cases h
theorem below_drewN {B : Nat} {a w : World} (h : Below B a w) (n : Nat) : Below B a (w.drewN n) := ⟨h.os, h.tape, h.output, h.size, h.block⟩

/-- A slice that reads as a list of owners. -/
def RO (w : World) (B : Nat) (A : Option Addr) (l : List Ow) : Prop :=
  0 < l.length → ∃ b o, A = some ⟨b, o, none⟩ ∧ b < B ∧ ∀ i, (h : i < l.length) → w.cell? ⟨b, o + i * 2, none⟩ = some (.int .i64 l[i].kind) ∧ w.cell? ⟨b, o + i * 2 + 1, none⟩ = some (.int .i64 l[i].n)
theorem RO.below {w w' : World} {B : Nat} {A : Option Addr} {l : List Ow} (h : RO w B A l) (hb : Below B w w') : RO w' B A l := by
  intro hl
  obtain ⟨b, o, e, hB, hc⟩ := h hl
  exact ⟨b, o, e, hB, fun i hi => ⟨(hb.cell (p := ⟨b, _, none⟩) hB).trans (hc i hi).1, (hb.cell (p := ⟨b, _, none⟩) hB).trans (hc i hi).2⟩⟩
theorem RO.more {w : World} {B B' : Nat} {A : Option Addr} {l : List Ow} (h : RO w B A l) (hB : B ≤ B') : RO w B' A l := by
  intro hl
  obtain ⟨b, o, e, hb, hc⟩ := h hl
  exact ⟨b, o, e, by omega, hc⟩
theorem RO.at_ {w : World} {B : Nat} {A : Option Addr} {l : List Ow} (h : RO w B A l) {k : Nat} (hk : k < l.length) : ∃ b o, A = some ⟨b, o, none⟩ ∧ b < B ∧ w.cell? ⟨b, o + k * 2, none⟩ = some (.int .i64 l[k].kind) ∧ w.cell? ⟨b, o + k * 2 + 1, none⟩ = some (.int .i64 l[k].n) := by
  obtain ⟨b, o, e, hB, hc⟩ := h (by omega)
  exact ⟨b, o, e, hB, hc k hk⟩

def Ow.val (o : Ow) : Value := .agg #[.int .i64 o.kind, .int .i64 o.n]

/-- What comes back: an owner, nothing that was there has changed. -/
def Back (o : Ow) (w : World) (e : Ending) (w' : World) : Prop := e = .returned (.agg #[.int .i64 o.kind, .int .i64 o.n]) ∧ Below w.heap.size w w'
theorem back_of {o : Ow} {k n : Int} {w w' : World} (h : o = ⟨k, n⟩) (hb : Below w.heap.size w w') : Back o w (.returned (.agg #[.int .i64 k, .int .i64 n])) w' := by
  subst h; exact ⟨rfl, hb⟩
theorem put_low {z : Int} {l : List Ow} (h : z < 0) : Ow.put ⟨3, z⟩ l = ⟨8, 0⟩ := (Ow.put_three rfl).trans (Ow.at_out (.inl h))
theorem put_high {z : Int} {l : List Ow} (h : (l.length : Int) ≤ z) : Ow.put ⟨3, z⟩ l = ⟨8, 0⟩ := (Ow.put_three rfl).trans (Ow.at_out (.inr h))
theorem put_mid {k : Nat} {l : List Ow} (h : k < l.length) : Ow.put ⟨3, (k : Int)⟩ l = ⟨l[k].kind, l[k].n⟩ := (Ow.put_three rfl).trans (Ow.at_in k rfl h)
theorem put_first {n : Int} {l : List Ow} (h : 0 < l.length) : Ow.put ⟨2, n⟩ l = ⟨l[0].kind, l[0].n⟩ := (Ow.put_two rfl).trans (Ow.at_in 0 rfl h)
theorem put_none {n : Int} {l : List Ow} (h : l.length = 0) : Ow.put ⟨2, n⟩ l = ⟨8, 0⟩ := (Ow.put_two rfl).trans (Ow.at_out (.inr (by omega)))
theorem put_same {k n : Int} {l : List Ow} (h2 : ¬ k = 2) (h3 : ¬ k = 3) : Ow.put ⟨k, n⟩ l = ⟨k, n⟩ := Ow.put_other h2 h3
theorem below2 (w : World) (A B : Obj) : Below w.heap.size w ((w.alloc A).alloc B) := ((Below.refl _ w).alloc (Nat.le_refl _) A).alloc (by simp) B

end Go.Proofs.YtjghgpmkepfdhaaGreatDoor

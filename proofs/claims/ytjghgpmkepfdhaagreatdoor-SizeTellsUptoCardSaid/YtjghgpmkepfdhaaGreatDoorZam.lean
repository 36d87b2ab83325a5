/- Whether an owner may be, and its text, as the program and the document's answer tell it. Conditions: none. -/
import Derived.Test.YtjghgpmkepfdhaaGreatDoorZal
namespace Go.Proofs.YtjghgpmkepfdhaaGreatDoor
open Go.RowKit
set_option linter.unusedVariables false

theorem beq_no {a b : Int} (h : ¬ a = b) : (a == b) = false := by simpa using h

set_option maxHeartbeats 1000000 in
theorem oright_any (o : Ow) (p : Int) (w : World) : Calls Tryz.prog 119 #[.agg #[.int .i64 o.kind, .int .i64 o.n], .int .i64 p] w fun e w' => e = .returned (.bool (o.right p)) ∧ Below w.heap.size w w' := by
  obtain ⟨k, n⟩ := o
  rcases (show k = 1 ∨ k = 2 ∨ k = 3 ∨ k = 4 ∨ k = 5 ∨ k = 6 ∨ k = 7 ∨ (¬ k = 1 ∧ ¬ k = 2 ∧ ¬ k = 3 ∧ ¬ k = 4 ∧ ¬ k = 5 ∧ ¬ k = 6 ∧ ¬ k = 7) by omega) with rfl | rfl | rfl | rfl | rfl | rfl | rfl | ⟨h1, h2, h3, h4, h5, h6, h7⟩
  case inr.inr.inr.inr.inr.inr.inr =>
    have HV : Hid (Ow.right ⟨k, n⟩ p = false) := Lib.hid (by unfold Ow.right; simp [h1, h2, h3, h4, h5, h6, h7])
    have e1 := beq_no h1
    have e2 := beq_no h2
    have e3 := beq_no h3
    have e4 := beq_no h4
    have e5 := beq_no h5
    have e6 := beq_no h6
    have e7 := beq_no h7
    go_enter Tryz.func119, Tryz.ntmps119
    go_wp2
    go_ret
    exact ⟨by rw [HV.out]; rfl, below1 w _⟩
  all_goals
    go_enter Tryz.func119, Tryz.ntmps119
    go_wp2
    all_goals
      go_ret
      exact ⟨ret_b (by simp [Ow.right] <;> omega), below1 w _⟩

set_option maxHeartbeats 1000000 in
theorem refORight_any (o : Ow) (p : Int) (w : World) : Calls Tryz.prog 57 #[.agg #[.int .i64 o.kind, .int .i64 o.n], .int .i64 p] w fun e w' => e = .returned (.bool (o.right p)) ∧ Below w.heap.size w w' := by
  obtain ⟨k, n⟩ := o
  rcases (show k = 1 ∨ k = 2 ∨ k = 3 ∨ k = 4 ∨ k = 5 ∨ k = 6 ∨ k = 7 ∨ (¬ k = 1 ∧ ¬ k = 2 ∧ ¬ k = 3 ∧ ¬ k = 4 ∧ ¬ k = 5 ∧ ¬ k = 6 ∧ ¬ k = 7) by omega) with rfl | rfl | rfl | rfl | rfl | rfl | rfl | ⟨h1, h2, h3, h4, h5, h6, h7⟩
  case inr.inr.inr.inr.inr.inr.inr =>
    have HV : Hid (Ow.right ⟨k, n⟩ p = false) := Lib.hid (by unfold Ow.right; simp [h1, h2, h3, h4, h5, h6, h7])
    have e1 := beq_no h1
    have e2 := beq_no h2
    have e3 := beq_no h3
    have e4 := beq_no h4
    have e5 := beq_no h5
    have e6 := beq_no h6
    have e7 := beq_no h7
    go_enter Tryz.func57, Tryz.ntmps57
    go_wp2
    all_goals
      go_ret
      exact ⟨by rw [HV.out]; rfl, below1 w _⟩
  all_goals
    go_enter Tryz.func57, Tryz.ntmps57
    go_wp2
    all_goals
      go_ret
      exact ⟨ret_b (by simp [Ow.right] <;> omega), below1 w _⟩

theorem oright_kn (k n p : Int) (w : World) : Calls Tryz.prog 119 #[.agg #[.int .i64 k, .int .i64 n], .int .i64 p] w fun e w' => e = .returned (.bool (Ow.right ⟨k, n⟩ p)) ∧ Below w.heap.size w w' := oright_any ⟨k, n⟩ p w
theorem refORight_kn (k n p : Int) (w : World) : Calls Tryz.prog 57 #[.agg #[.int .i64 k, .int .i64 n], .int .i64 p] w fun e w' => e = .returned (.bool (Ow.right ⟨k, n⟩ p)) ∧ Below w.heap.size w w' := refORight_any ⟨k, n⟩ p w

/-- A slice that reads as a list of texts. -/
def RS (w : World) (B : Nat) (A : Option Addr) (l : List ByteArray) : Prop :=
  0 < l.length → ∃ b o, A = some ⟨b, o, none⟩ ∧ b < B ∧ ∀ i, (h : i < l.length) → w.cell? ⟨b, o + i, none⟩ = some (.string l[i])
theorem RS.below {w w' : World} {B : Nat} {A : Option Addr} {l : List ByteArray} (h : RS w B A l) (hb : Below B w w') : RS w' B A l := by
  intro hl
  obtain ⟨b, o, e, hB, hc⟩ := h hl
  exact ⟨b, o, e, hB, fun i hi => (hb.cell (p := ⟨b, _, none⟩) hB).trans (hc i hi)⟩
theorem RS.more {w : World} {B B' : Nat} {A : Option Addr} {l : List ByteArray} (h : RS w B A l) (hB : B ≤ B') : RS w B' A l := by
  intro hl
  obtain ⟨b, o, e, hb, hc⟩ := h hl
  exact ⟨b, o, e, by omega, hc⟩
theorem RS.at_ {w : World} {B : Nat} {A : Option Addr} {l : List ByteArray} (h : RS w B A l) {k : Nat} (hk : k < l.length) : ∃ b o, A = some ⟨b, o, none⟩ ∧ b < B ∧ w.cell? ⟨b, o + k, none⟩ = some (.string l[k]) := by
  obtain ⟨b, o, e, hB, hc⟩ := h (by omega)
  exact ⟨b, o, e, hB, hc k hk⟩

theorem ret_s {a b : ByteArray} (h : a = b) : Ending.returned (.string a) = .returned (.string b) := by rw [h]
theorem right_par {n p : Int} (h : Ow.right ⟨3, n⟩ p = true) : 1 ≤ n ∧ n ≤ p := by unfold Ow.right at h; simpa using h
theorem right_hole {n p : Int} (h : Ow.right ⟨7, n⟩ p = true) : 0 ≤ n := by unfold Ow.right at h; simpa using h
theorem right_kind {k n p : Int} (h : Ow.right ⟨k, n⟩ p = true) : 1 ≤ k ∧ k ≤ 7 := by
  unfold Ow.right at h
  simp only at h
  split at h
  · omega
  · split at h
    · omega
    · have := of_decide_eq_true h; omega

/-- The copy of an owner in a block of the call's own stays. -/
theorem box2 {w w1 : World} {a b : Value} {t : TypeId} (h : Below (w.alloc (.cells #[a, b] t)).heap.size (w.alloc (.cells #[a, b] t)) w1) :
    Below w.heap.size w w1 ∧ w1.cell? ⟨w.heap.size, 0, none⟩ = some a ∧ w1.cell? ⟨w.heap.size, 1, none⟩ = some b ∧ w.heap.size < w1.heap.size := by
  have hs : w.heap.size < (w.alloc (.cells #[a, b] t)).heap.size := by simp
  have hn := (h.block _ hs).trans (heap_new w (.cells #[a, b] t))
  exact ⟨(below1 w _).trans (h.mono (by omega)), cell_of_row w1 _ 0 _ t (0, 0) hn, cell_of_row w1 _ 1 _ t (0, 0) hn, by have := h.size; omega⟩

end Go.Proofs.YtjghgpmkepfdhaaGreatDoor

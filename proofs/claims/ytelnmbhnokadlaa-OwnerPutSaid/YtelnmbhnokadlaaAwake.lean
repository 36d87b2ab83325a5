/- The chapter's example is as it says. Conditions: none. -/
import Derived.Test.YtelnmbhnokadlaaAll
namespace Go.Proofs.Ytelnmbhnokadlaa
open Go.RowKit
set_option linter.unusedVariables false

theorem keep2 {W0 W : World} {g : Nat} {a b : Value} {t : TypeId} (h : W0.heap[g]? = some (.cells #[a, b] t (0, 0))) (X : Below W0.heap.size W0 W) :
    W.cell? ⟨g, 0, none⟩ = some a ∧ W.cell? ⟨g, 1, none⟩ = some b ∧ g < W.heap.size := by
  have hh := (X.block g (heap_lt h)).trans h
  exact ⟨cell_of_row W _ 0 _ t (0, 0) hh, cell_of_row W _ 1 _ t (0, 0) hh, heap_lt hh⟩
/-- The list of the example lies in memory. -/
def ExIn (w : World) (g : Nat) : Prop := ∃ t, w.heap[g]? = some (.cells #[.int .i64 1, .int .i64 0, .int .i64 4, .int .i64 0] t (0, 0))
theorem ExIn.below {w w' : World} {g : Nat} (h : ExIn w g) (hb : Below w.heap.size w w') : ExIn w' g := by
  obtain ⟨t, h⟩ := h
  exact ⟨t, (hb.block g (heap_lt h)).trans h⟩
theorem put_ex2 (w : World) (g : Nat) (h : ExIn w g) : Calls Try.prog 6 #[.agg #[.int .i64 3, .int .i64 1], .slice (some ⟨g, 0, none⟩) 2 2] w fun e w' => e = .returned (.agg #[.int .i64 4, .int .i64 0]) ∧ Below w.heap.size w w' := by
  obtain ⟨t, hh⟩ := h
  exact put_any ⟨3, 1⟩ (some ⟨g, 0, none⟩) 2 [⟨1, 0⟩, ⟨4, 0⟩] w (fun _ => ⟨g, 0, rfl, heap_lt hh, fun i hi => by
    match i, hi with
    | 0, _ => exact ⟨cell_of_row w _ 0 _ t (0, 0) hh, cell_of_row w _ 1 _ t (0, 0) hh⟩
    | 1, _ => exact ⟨cell_of_row w _ 2 _ t (0, 0) hh, cell_of_row w _ 3 _ t (0, 0) hh⟩⟩) (by decide) (by decide)
theorem put_ex1 (w : World) (g : Nat) (h : ExIn w g) : Calls Try.prog 6 #[.agg #[.int .i64 3, .int .i64 1], .slice (some ⟨g, 0, none⟩) 1 2] w fun e w' => e = .returned (.agg #[.int .i64 8, .int .i64 0]) ∧ Below w.heap.size w w' := by
  obtain ⟨t, hh⟩ := h
  exact put_any ⟨3, 1⟩ (some ⟨g, 0, none⟩) 2 [⟨1, 0⟩] w (fun _ => ⟨g, 0, rfl, heap_lt hh, fun i hi => by
    match i, hi with
    | 0, _ => exact ⟨cell_of_row w _ 0 _ t (0, 0) hh, cell_of_row w _ 1 _ t (0, 0) hh⟩⟩) (by decide) (by decide)

set_option maxHeartbeats 4000000 in
theorem awake_any (w : World) : Calls Try.prog 5 #[] w fun e w' => e = .returned (.bool true) ∧ Below w.heap.size w w' := by
  have hz0 : (w.alloc (.cells #[.int .i64 3, .int .i64 1] 23)).heap.size = w.heap.size + 1 := by simp
  have HZ0 := Lib.hid hz0
  clear hz0
  go_enter Try.func5, Try.ntmps5
  go_wp2_with fail
  obtain ⟨W0, hW0⟩ : ∃ W0, W0 = (w.alloc (.cells #[.int .i64 3, .int .i64 1] 23)).alloc (.cells #[.int .i64 1, .int .i64 0, .int .i64 4, .int .i64 0] 23) := ⟨_, rfl⟩
  have hb0 : Below w.heap.size w W0 := by rw [hW0]; exact below2 w _ _
  have hk0 : W0.heap[w.heap.size]? = some (.cells #[.int .i64 3, .int .i64 1] 23 (0, 0)) := by
    rw [hW0]
    exact (Below.heap_alloc _ _ _ (by simp)).trans (heap_new w _)
  have hx0 : ExIn W0 (w.heap.size + 1) := ⟨23, by
    rw [hW0]
    have := heap_new (w.alloc (.cells #[.int .i64 3, .int .i64 1] 23)) (.cells #[.int .i64 1, .int .i64 0, .int .i64 4, .int .i64 0] 23)
    rw [HZ0.out] at this
    exact this⟩
  rw [← hW0]
  have HB0 := Lib.hid hb0
  have HK0 := Lib.hid hk0
  have HX0 := Lib.hid hx0
  have X : Below W0.heap.size W0 W0.drew := (Below.refl _ _).drew
  obtain ⟨f0, f1, f2⟩ := keep2 hk0 (Below.refl _ _)
  have hsz : w.heap.size + 1 < W0.heap.size := by rw [hW0]; simp
  clear hW0 hb0 hk0 hx0
  go_region_with (first
    | (go_at_call 6; (with_reducible refine (put_ex2 _ (w.heap.size + 1) (HX0.out.below X)).mono ?_); rintro e wa ⟨rfl, hba⟩; have X := X.trans (hba.mono X.size); obtain ⟨f0, f1, f2⟩ := keep2 HK0.out X)
    | (go_at_call 6; (with_reducible refine (put_ex1 _ (w.heap.size + 1) (HX0.out.below X)).mono ?_); rintro e wa ⟨rfl, hba⟩; have X := X.trans (hba.mono X.size); obtain ⟨f0, f1, f2⟩ := keep2 HK0.out X)
    | (go_at_call 12; (with_reducible refine (text_ex _ _ (by simp [go_sem]) (by simp)).mono ?_); rintro e wa ⟨rfl, hba⟩; have X := (X.alloc X.size _).trans (hba.mono (by have := X.size; simp; omega)); obtain ⟨f0, f1, f2⟩ := keep2 HK0.out X))
  all_goals
    go_wp2
    go_ret
    exact ⟨rfl, HB0.out.trans (X.mono HB0.out.size)⟩
end Go.Proofs.Ytelnmbhnokadlaa

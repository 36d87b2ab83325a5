/- Whether two types are equal, owner by owner. Conditions: none. -/
import Derived.ChangeKeysEq
import Derived.Test.YtjghgpmkepfdhaaGreatDoorZap
namespace Go.Proofs.YtjghgpmkepfdhaaGreatDoor
open Go.RowKit
set_option linter.unusedVariables false

theorem eq23 (a b c d : Int) (W : World) : (Op.equalIn 9998 46 (.agg #[.int .i64 a, .int .i64 b]) (.agg #[.int .i64 c, .int .i64 d])).run Tryz.prog W = .ok (a == c && b == d) W := by
  simp [go_sem]
  by_cases h : a = c <;> by_cases g : b = d <;> simp [h, g]
theorem info23 : ∃ i, Tryz.prog.info? 46 = some i := Option.isSome_iff_exists.1 (show (Tryz.prog.info? 46).isSome = true by kernel_rfl)
theorem cells23 : Tryz.prog.cellsOf 46 = 2 := by kernel_rfl
theorem eq24 (a0 a1 a2 a3 a4 a5 a6 a7 b0 b1 b2 b3 b4 b5 b6 b7 : Int) (W : World) :
    (Op.equalIn 9999 47 (.agg #[.int .i64 a0, .int .i64 a1, .int .i64 a2, .int .i64 a3, .int .i64 a4, .int .i64 a5, .int .i64 a6, .int .i64 a7]) (.agg #[.int .i64 b0, .int .i64 b1, .int .i64 b2, .int .i64 b3, .int .i64 b4, .int .i64 b5, .int .i64 b6, .int .i64 b7])).run Tryz.prog W
      = .ok ((a0 == b0 && a1 == b1) && (a2 == b2 && a3 == b3) && (a4 == b4 && a5 == b5) && (a6 == b6 && a7 == b7)) W := by
  obtain ⟨i, hi⟩ := info23
  rw [show (9999 : Nat) = 9998 + 1 from rfl, run_equalIn_array W 9998 _ _ Tryz.underlying47 hi, cells23, show List.range 4 = [0, 1, 2, 3] from rfl]
  simp [Op.eqItems, go_sem]
  repeat' split
  all_goals simp_all

/-- Whether all owners are the same. -/
def Ty.sameO (t u : Ty) : Bool := (t.o0.kind == u.o0.kind && t.o0.n == u.o0.n) && (t.o1.kind == u.o1.kind && t.o1.n == u.o1.n) && (t.o2.kind == u.o2.kind && t.o2.n == u.o2.n) && (t.o3.kind == u.o3.kind && t.o3.n == u.o3.n)
theorem eqO (t u : Ty) {b : Bool} (h : t.sameO u = b) : ∀ W : World,
    (Op.equalIn 9999 47 (.agg #[.int .i64 t.o0.kind, .int .i64 t.o0.n, .int .i64 t.o1.kind, .int .i64 t.o1.n, .int .i64 t.o2.kind, .int .i64 t.o2.n, .int .i64 t.o3.kind, .int .i64 t.o3.n])
      (.agg #[.int .i64 u.o0.kind, .int .i64 u.o0.n, .int .i64 u.o1.kind, .int .i64 u.o1.n, .int .i64 u.o2.kind, .int .i64 u.o2.n, .int .i64 u.o3.kind, .int .i64 u.o3.n])).run Tryz.prog W = .ok b W := by
  intro W
  rw [eq24, ← h]; rfl
theorem eqZ (t : Ty) {b : Bool} (h : t.sameO ⟨0, ⟨#[]⟩, 0, ⟨0, 0⟩, ⟨0, 0⟩, ⟨0, 0⟩, ⟨0, 0⟩⟩ = b) : ∀ W : World,
    (Op.equalIn 9999 47 (.agg #[.int .i64 t.o0.kind, .int .i64 t.o0.n, .int .i64 t.o1.kind, .int .i64 t.o1.n, .int .i64 t.o2.kind, .int .i64 t.o2.n, .int .i64 t.o3.kind, .int .i64 t.o3.n])
      (.agg #[.int .i64 0, .int .i64 0, .int .i64 0, .int .i64 0, .int .i64 0, .int .i64 0, .int .i64 0, .int .i64 0])).run Tryz.prog W = .ok b W := by
  intro W
  rw [eq24, ← h]; rfl
theorem bare_of (t : Ty) : t.bare = (decide (t.cls = ⟨#[]⟩) && decide (t.n = 0) && t.sameO ⟨0, ⟨#[]⟩, 0, ⟨0, 0⟩, ⟨0, 0⟩, ⟨0, 0⟩, ⟨0, 0⟩⟩) := by
  unfold Ty.bare Ty.sameO Ty.isZero
  rw [Bool.eq_iff_iff]
  simp only [Bool.and_eq_true, decide_eq_true_eq, beq_iff_eq]
  constructor
  · rintro ⟨⟨⟨⟨⟨h1, h2⟩, h3⟩, h4⟩, h5⟩, h6⟩; exact ⟨⟨h1, h2⟩, ⟨⟨h3, h4⟩, h5⟩, h6⟩
  · rintro ⟨⟨h1, h2⟩, ⟨⟨h3, h4⟩, h5⟩, h6⟩; exact ⟨⟨⟨⟨⟨h1, h2⟩, h3⟩, h4⟩, h5⟩, h6⟩
theorem empty_of {b : ByteArray} (h : b.toList = []) : b = ⟨#[]⟩ := by
  rw [ByteArray.toList_eq] at h
  cases b with | mk b => exact congrArg ByteArray.mk (Array.toList_inj.1 h)
theorem nonempty_of {b : ByteArray} (h : ¬ b.toList = []) : ¬ b = ⟨#[]⟩ := by
  rintro rfl
  rw [ByteArray.toList_eq] at h
  exact h rfl
end Go.Proofs.YtjghgpmkepfdhaaGreatDoor

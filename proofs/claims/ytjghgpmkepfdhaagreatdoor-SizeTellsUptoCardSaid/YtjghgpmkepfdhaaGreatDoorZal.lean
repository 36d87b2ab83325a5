/- A type in memory; the owners that stand in it, cut out; whether it is unique. Conditions: none. -/
import Derived.Test.YtjghgpmkepfdhaaGreatDoorZak
namespace Go.Proofs.YtjghgpmkepfdhaaGreatDoor
open Go.RowKit
set_option linter.unusedVariables false

/-- The cells of a type. -/
def Ty.cells (t : Ty) : Array Value := #[.int .i64 t.kind, .string t.cls, .int .i64 t.n, .int .i64 t.o0.kind, .int .i64 t.o0.n, .int .i64 t.o1.kind, .int .i64 t.o1.n, .int .i64 t.o2.kind, .int .i64 t.o2.n, .int .i64 t.o3.kind, .int .i64 t.o3.n]
/-- A type lies in a block. -/
def TyIn (w : World) (g : Nat) (t : Ty) : Prop := w.heap[g]? = some (.cells t.cells 49 (0, 0))
theorem TyIn.below {w w' : World} {g : Nat} {t : Ty} (h : TyIn w g t) (hb : Below w.heap.size w w') : TyIn w' g t := (hb.block g (heap_lt h)).trans h
theorem TyIn.lt {w : World} {g : Nat} {t : Ty} (h : TyIn w g t) : g < w.heap.size := heap_lt h
theorem TyIn.new (w : World) (t : Ty) : TyIn (w.alloc (.cells t.cells 49)) w.heap.size t := heap_new w _
theorem TyIn.cell {w : World} {g : Nat} {t : Ty} (h : TyIn w g t) (i : Nat) : w.cell? ⟨g, i, none⟩ = t.cells[i]? := cell_of_row w g i t.cells 49 (0, 0) h

/-- What is cut out of a type. -/
def cutV (g : Nat) (t : Ty) : Value := if t.kind = 2 then .slice (some ⟨g, 3, none⟩) (t.cnt + 1) (t.cnt + 1) else .slice none 0 0

theorem cut_obj {g : Nat} {t : Ty} (h : t.kind = 2) (k : Nat) (hk : t.cnt = k) : cutV g t = .slice (some ⟨g, 3, none⟩) (k + 1) (k + 1) := by
  subst hk; unfold cutV; rw [if_pos h]
theorem cut_none {g : Nat} {t : Ty} (h : ¬ t.kind = 2) : cutV g t = .slice none 0 0 := by unfold cutV; rw [if_neg h]
theorem Ty.cnt_low {t : Ty} (h : t.n < 0) : t.cnt = 0 := by unfold Ty.cnt; rw [if_pos h]
theorem Ty.cnt_high {t : Ty} (h : 3 < t.n) : t.cnt = 3 := by unfold Ty.cnt; rw [if_neg (by omega), if_pos h]
theorem Ty.cnt_mid {t : Ty} (h0 : 0 ≤ t.n) (h3 : t.n ≤ 3) : (t.cnt : Int) = t.n := by unfold Ty.cnt; rw [if_neg (by omega), if_neg (by omega)]; omega
theorem Ty.cnt_of {t : Ty} {k : Nat} (h : t.n = (k : Int)) (h3 : k ≤ 3) : t.cnt = k := by have := Ty.cnt_mid (t := t) (by omega) (by omega); omega

set_option maxHeartbeats 1000000 in
theorem cut_any (g : Nat) (t : Ty) (w : World) (h : TyIn w g t) :
    Calls Tryz.prog 143 #[.pointer (some ⟨g, 0, none⟩)] w fun e w' => e = .returned (cutV g t) ∧ w = w' := by
  have c0 : w.cell? ⟨g, 0, none⟩ = some (.int .i64 t.kind) := h.cell 0
  have c2 : w.cell? ⟨g, 2, none⟩ = some (.int .i64 t.n) := h.cell 2
  by_cases h2 : t.kind = 2
  · have hk := h.lt
    rw [h2] at c0
    rcases (show t.n < 0 ∨ 3 < t.n ∨ t.n = 0 ∨ t.n = 1 ∨ t.n = 2 ∨ t.n = 3 by omega) with hn | hn | hn | hn | hn | hn
    · have HV := Lib.hid (cut_obj (g := g) h2 0 (Ty.cnt_low hn))
      go_enter Tryz.func143, Tryz.ntmps143
      go_wp2
      go_ret
      exact ⟨by rw [HV.out]; rfl, rfl⟩
    · have HV := Lib.hid (cut_obj (g := g) h2 3 (Ty.cnt_high hn))
      have hm : (if t.n < 0 then (0 : Int) else t.n) = t.n := if_neg (by omega)
      go_enter Tryz.func143, Tryz.ntmps143
      go_wp2
      go_ret
      exact ⟨by rw [HV.out]; rfl, rfl⟩
    · have HV := Lib.hid (cut_obj (g := g) h2 0 (Ty.cnt_of (k := 0) hn (by decide)))
      rw [hn] at c2
      go_enter Tryz.func143, Tryz.ntmps143
      go_wp2
      go_ret
      exact ⟨by rw [HV.out]; rfl, rfl⟩
    · have HV := Lib.hid (cut_obj (g := g) h2 1 (Ty.cnt_of (k := 1) hn (by decide)))
      rw [hn] at c2
      go_enter Tryz.func143, Tryz.ntmps143
      go_wp2
      go_ret
      exact ⟨by rw [HV.out]; rfl, rfl⟩
    · have HV := Lib.hid (cut_obj (g := g) h2 2 (Ty.cnt_of (k := 2) hn (by decide)))
      rw [hn] at c2
      go_enter Tryz.func143, Tryz.ntmps143
      go_wp2
      go_ret
      exact ⟨by rw [HV.out]; rfl, rfl⟩
    · have HV := Lib.hid (cut_obj (g := g) h2 3 (Ty.cnt_of (k := 3) hn (by decide)))
      rw [hn] at c2
      go_enter Tryz.func143, Tryz.ntmps143
      go_wp2
      go_ret
      exact ⟨by rw [HV.out]; rfl, rfl⟩
  · have HV := Lib.hid (cut_none (g := g) h2)
    have e2 : (t.kind != 2) = true := by simpa using h2
    go_enter Tryz.func143, Tryz.ntmps143
    go_wp2
    go_ret
    exact ⟨by rw [HV.out]; rfl, rfl⟩

theorem uniq_yes {t : Ty} (h : t.kind = 2) : t.uniq = (t.o0.kind == 6) := by unfold Ty.uniq; rw [decide_eq_true h, Bool.true_and]; rfl
theorem uniq_no {t : Ty} (h : ¬ t.kind = 2) : t.uniq = false := by unfold Ty.uniq; rw [decide_eq_false h]; rfl
theorem below1 (w : World) (A : Obj) : Below w.heap.size w (w.alloc A) := (Below.refl _ w).alloc (Nat.le_refl _) A
theorem ret_i {a b : Int} (h : a = b) : Ending.returned (.int .i64 a) = .returned (.int .i64 b) := by rw [h]
end Go.Proofs.YtjghgpmkepfdhaaGreatDoor

/- What the program and the document's answer say of a byte: letter, digit, blank, and what it means that the table of words lies in memory. Conditions: none. -/
import Derived.Test.YtbcgooofelnkoaaChecked
import Derived.Test.YtbcgooofelnkoaaWd
import Derived.WalkKit
import Derived.WalkSmall
import Derived.BigQuiet
import Derived.Deep.QuietTactic
import Derived.LoopTactic
import Derived.Lib.Hide
import Derived.IntWalk
import Derived.Laws.Rows
import Derived.Lib.LaidTab
namespace Go.Proofs.Ytbcgooofelnkoaa
open Go.RowKit

theorem ret_b {a b : Bool} (h : a = true ↔ b = true) : Ending.returned (.bool a) = .returned (.bool b) := by rw [Bool.eq_iff_iff.2 h]

theorem refLetter_any (x : Int) (w : World) : Calls Try.prog 35 #[.int .u8 x] w fun e w' => e = .returned (.bool (Wd.isLetter x)) ∧ w = w' := by
  go_enter Try.func35, Try.ntmps35
  go_wp2
  all_goals
    go_ret
    exact ⟨ret_b (by simp [Wd.isLetter]; omega), rfl⟩
theorem refDigit_any (x : Int) (w : World) : Calls Try.prog 36 #[.int .u8 x] w fun e w' => e = .returned (.bool (Wd.isDigit x)) ∧ w = w' := by
  go_enter Try.func36, Try.ntmps36
  go_wp2
  all_goals
    go_ret
    exact ⟨ret_b (by simp [Wd.isDigit]; omega), rfl⟩
theorem refBlank_any (x : Int) (w : World) : Calls Try.prog 34 #[.int .u8 x] w fun e w' => e = .returned (.bool (Wd.isBlank x)) ∧ w = w' := by
  go_enter Try.func34, Try.ntmps34
  go_wp2
  all_goals
    go_ret
    exact ⟨ret_b (by simp [Wd.isBlank] <;> omega), rfl⟩

theorem heap_new (w : World) (o : Obj) : (w.alloc o).heap[w.heap.size]? = some o := by
  show (w.heap.push o)[w.heap.size]? = some o
  simp

theorem str_yes {a b : ByteArray} (h : (a.toList == b.toList) = true) : a = b := by
  rw [ByteArray.toList_eq, ByteArray.toList_eq, beq_iff_eq] at h
  cases a with | mk a => cases b with | mk b => exact congrArg ByteArray.mk (Array.toList_inj.1 h)
theorem str_no {a b : ByteArray} (h : (a.toList == b.toList) = false) : ¬ a = b := by
  rintro rfl
  simp at h

/-- The cells of the table of words. -/
def wordVals : Array Value := (Wd.wordsL.map fun b => Value.string b).toArray
theorem wordVals_size : wordVals.size = 23 := rfl
theorem wordVals_at (k : Nat) (h : k < 23) : wordVals[k]? = some (.string (Wd.at_ k)) := by
  have hl : k < Wd.wordsL.length := h
  simp [wordVals, Wd.at_, List.getD, hl]

end Go.Proofs.Ytbcgooofelnkoaa

/- What the program and the document's answer say of a byte: letter, digit, blank, and what it means that the table of words lies in memory. Conditions: none. -/
import Derived.Test.YtjghgpmkepfdhaaGreatDoorChecked
import Derived.Test.YtjghgpmkepfdhaaGreatDoorZab
import Derived.WalkKit
import Derived.WalkSmall
import Derived.BigQuiet
import Derived.Deep.QuietTactic
import Derived.LoopTactic
import Derived.Lib.Hide
import Derived.IntWalk
import Derived.Laws.Rows
import Derived.Lib.LaidTab
namespace Go.Proofs.YtjghgpmkepfdhaaGreatDoor
open Go.RowKit

theorem ret_b {a b : Bool} (h : a = true ↔ b = true) : Ending.returned (.bool a) = .returned (.bool b) := by rw [Bool.eq_iff_iff.2 h]

theorem letter_any (x : Int) (w : World) : Calls Tryz.prog 84 #[.int .u8 x] w fun e w' => e = .returned (.bool (Wd.isLetter x)) ∧ w = w' := by
  go_enter Tryz.func84, Tryz.ntmps84
  go_wp2
  all_goals
    go_ret
    exact ⟨ret_b (by simp [Wd.isLetter]; omega), rfl⟩
theorem refLetter_any (x : Int) (w : World) : Calls Tryz.prog 98 #[.int .u8 x] w fun e w' => e = .returned (.bool (Wd.isLetter x)) ∧ w = w' := by
  go_enter Tryz.func98, Tryz.ntmps98
  go_wp2
  all_goals
    go_ret
    exact ⟨ret_b (by simp [Wd.isLetter]; omega), rfl⟩
theorem digit_any (x : Int) (w : World) : Calls Tryz.prog 85 #[.int .u8 x] w fun e w' => e = .returned (.bool (Wd.isDigit x)) ∧ w = w' := by
  go_enter Tryz.func85, Tryz.ntmps85
  go_wp2
  all_goals
    go_ret
    exact ⟨ret_b (by simp [Wd.isDigit]; omega), rfl⟩
theorem refDigit_any (x : Int) (w : World) : Calls Tryz.prog 100 #[.int .u8 x] w fun e w' => e = .returned (.bool (Wd.isDigit x)) ∧ w = w' := by
  go_enter Tryz.func100, Tryz.ntmps100
  go_wp2
  all_goals
    go_ret
    exact ⟨ret_b (by simp [Wd.isDigit]; omega), rfl⟩
theorem refBlank_any (x : Int) (w : World) : Calls Tryz.prog 110 #[.int .u8 x] w fun e w' => e = .returned (.bool (Wd.isBlank x)) ∧ w = w' := by
  go_enter Tryz.func110, Tryz.ntmps110
  go_wp2
  all_goals
    go_ret
    exact ⟨ret_b (by simp [Wd.isBlank] <;> omega), rfl⟩

theorem heap_new (w : World) (o : Obj) : (w.alloc o).heap[w.heap.size]? = some o := by
  show (w.heap.push o)[w.heap.size]? = some o
  simp

theorem str_yes {a b : ByteArray} (h : (a.toList == b.toList) = true) : a = b := by
  rw [ByteArray.toList_eq, ByteArray.toList_eq, beq_iff_eq] at h
  cases a with | mk a => cases b with | mk b => exact congrArg ByteArray.mk (Array.toList_inj.1 h)
theorem str_no {a b : ByteArray} (h : (a.toList == b.toList) = false) : ¬ a = b := by
  rintro rfl
  simp at h

/-- The cells of the table of words. -/
def wordVals : Array Value := (Wd.wordsL.map fun b => Value.string b).toArray
theorem wordVals_size : wordVals.size = 23 := rfl
theorem wordVals_at (k : Nat) (h : k < 23) : wordVals[k]? = some (.string (Wd.at_ k)) := by
  have hl : k < Wd.wordsL.length := h
  simp [wordVals, Wd.at_, List.getD, hl]

/-- The table of words lies in memory. -/
def WordsIn (w : World) : Prop := ∃ t fr, w.heap[0]? = some (.cells wordVals t fr)
theorem WordsIn.below {w w' : World} (h : WordsIn w) (hb : Below w.heap.size w w') : WordsIn w' := by
  obtain ⟨t, fr, h0⟩ := h
  have hl : 0 < w.heap.size := by
    rcases Nat.lt_or_ge 0 w.heap.size with g | g
    · exact g
    · rw [Array.getElem?_eq_none g] at h0; cases h0
  exact ⟨t, fr, (hb.block 0 hl).trans h0⟩
theorem WordsIn.cell {w : World} (h : WordsIn w) (k : Nat) (hk : k < 23) : w.cell? ⟨0, k, none⟩ = some (.string (Wd.at_ k)) := by
  obtain ⟨t, fr, h0⟩ := h
  rw [cell_of_row w 0 k wordVals t fr h0, wordVals_at k hk]
theorem WordsIn.load {w : World} (h : WordsIn w) : (loadVar 164 ⟨0, 0, none⟩).run Tryz.prog w = .ok (.agg wordVals) w := by
  obtain ⟨t, fr, h0⟩ := h
  exact run_loadVar_row w 0 t 164 wordVals fr _ h0 Tryz.underlying164 rfl (by kernel_rfl)

/-- The table of powers of ten lies in memory. -/
def PowIn (w : World) : Prop := Lib.TabIs Tryz.prog w "internal/strconv.uint64pow10" .u64 Lib.pow10Tab

theorem PowIn.below {w w' : World} (h : PowIn w) (hb : Below w.heap.size w w') : PowIn w' := by
  unfold PowIn Lib.TabIs at *
  unfold World.var? at h ⊢
  cases hg : Tryz.prog.globalNamed "internal/strconv.uint64pow10" with
  | none => rw [hg] at h; cases h
  | some g =>
    rw [hg] at h
    simp only [Option.bind_some] at h ⊢
    have hl : g < w.heap.size := by
      rcases Nat.lt_or_ge g w.heap.size with k | k
      · exact k
      · rw [Array.getElem?_eq_none k] at h; cases h
    rw [hb.block g hl]
    exact h


end Go.Proofs.YtjghgpmkepfdhaaGreatDoor

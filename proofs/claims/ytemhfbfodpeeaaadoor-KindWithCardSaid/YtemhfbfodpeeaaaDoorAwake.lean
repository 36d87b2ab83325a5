/- The chapter's example is as it says. Conditions: the table of words lies in memory. -/
import Derived.Test.YtemhfbfodpeeaaaDoorTxt
namespace Go.Proofs.YtemhfbfodpeeaaaDoor
open Go.RowKit
set_option linter.unusedVariables false

/-- The type of the example, and its parameter. -/
def exT : Ty := ⟨2, ⟨#[76, 105, 115, 116]⟩, 1, ⟨1, 0⟩, ⟨3, 1⟩, ⟨0, 0⟩, ⟨0, 0⟩⟩
def exP : List ByteArray := [⟨#[100, 97, 116, 97]⟩]
theorem ex_txt : exT.txt exP = [114, 101, 112, 32, 76, 105, 115, 116, 60, 100, 97, 116, 97, 62] := by decide
theorem ex_right1 : exT.right 1 = true := by decide
theorem ex_right0 : exT.right 0 = false := by decide

theorem text_ex (w : World) (g : Nat) (hW : WordsIn w) (h : ∃ t, w.heap[g]? = some (.cells #[.string ⟨#[100, 97, 116, 97]⟩] t (0, 0))) :
    Calls Tryd.prog 9 #[.agg exT.cells, .slice (some ⟨g, 0, none⟩) 1 1] w fun e w' => e = .returned (.string ⟨#[114, 101, 112, 32, 76, 105, 115, 116, 60, 100, 97, 116, 97, 62]⟩) ∧ Below w.heap.size w w' := by
  obtain ⟨t, hh⟩ := h
  have := text_any exT (some ⟨g, 0, none⟩) 1 exP w hW (fun _ => ⟨g, 0, rfl, heap_lt hh, fun i hi => by
    match i, hi with
    | 0, _ => exact cell_of_row w _ 0 _ t (0, 0) hh⟩) (by decide) (by decide) (fun i hi => by
    match i, hi with
    | 0, _ => show (⟨#[100, 97, 116, 97]⟩ : ByteArray).size ≤ 2000000; decide)
  rw [ex_txt] at this
  exact this
theorem right_ex1 (w : World) (hW : WordsIn w) : Calls Tryd.prog 7 #[.agg exT.cells, .int .i64 1] w fun e w' => e = .returned (.bool true) ∧ Below w.heap.size w w' := by
  have := right_any exT 1 w hW
  rw [ex_right1] at this
  exact this
theorem right_ex0 (w : World) (hW : WordsIn w) : Calls Tryd.prog 7 #[.agg exT.cells, .int .i64 0] w fun e w' => e = .returned (.bool false) ∧ Below w.heap.size w w' := by
  have := right_any exT 0 w hW
  rw [ex_right0] at this
  exact this

set_option maxHeartbeats 2000000 in
theorem awake_any (w : World) (hW : WordsIn w) : Calls Tryd.prog 6 #[] w fun e w' => e = .returned (.bool true) ∧ Below w.heap.size w w' := by
  obtain ⟨W0, hW0⟩ : ∃ W0, W0 = (w.alloc (.cells exT.cells 26)).alloc (.cells #[.string ⟨#[100, 97, 116, 97]⟩] 9) := ⟨_, rfl⟩
  have hs1 : (w.alloc (.cells exT.cells 26)).heap.size = w.heap.size + 1 := by simp
  have HB0 : Hid (Below w.heap.size w W0) := Lib.hid (by rw [hW0]; exact below2 w _ _)
  have HT0 : Hid (TyIn W0 w.heap.size exT) := Lib.hid (by rw [hW0]; exact (TyIn.new w exT).below (below1 _ _))
  have HX0 : Hid (∃ t, W0.heap[w.heap.size + 1]? = some (.cells #[.string ⟨#[100, 97, 116, 97]⟩] t (0, 0))) := Lib.hid ⟨9, by
    rw [hW0, ← hs1]
    exact heap_new _ _⟩
  have HW0 : Hid (WordsIn W0) := Lib.hid (hW.below HB0.out)
  unfold Ty.cells exT at hW0
  simp only at hW0
  go_enter Tryd.func6, Tryd.ntmps6
  go_wp2_with fail
  rw [← hW0]
  clear hW0 hs1
  refine (text_ex W0 _ HW0.out HX0.out).mono ?_
  rintro e w1 ⟨rfl, hb1⟩
  have HT1 := Lib.hid (HT0.out.below hb1)
  have HW1 := Lib.hid (HW0.out.below hb1)
  have HB1 := Lib.hid (HB0.out.trans (hb1.mono HB0.out.size))
  clear hb1
  obtain ⟨f0, f1, f2, f3, f4, f5, f6, f7, f8, f9, f10⟩ := HT1.out.eleven
  have hg1 := HT1.out.lt
  unfold exT at f0 f1 f2 f3 f4 f5 f6 f7 f8 f9 f10
  simp only at f0 f1 f2 f3 f4 f5 f6 f7 f8 f9 f10
  go_wp2_with fail
  refine (right_ex1 w1 HW1.out).mono ?_
  rintro e w2 ⟨rfl, hb2⟩
  have HT2 := Lib.hid (HT1.out.below hb2)
  have HW2 := Lib.hid (HW1.out.below hb2)
  have HB2 := Lib.hid (HB1.out.trans (hb2.mono HB1.out.size))
  clear hb2 f0 f1 f2 f3 f4 f5 f6 f7 f8 f9 f10
  obtain ⟨f0, f1, f2, f3, f4, f5, f6, f7, f8, f9, f10⟩ := HT2.out.eleven
  have hg2 := HT2.out.lt
  unfold exT at f0 f1 f2 f3 f4 f5 f6 f7 f8 f9 f10
  simp only at f0 f1 f2 f3 f4 f5 f6 f7 f8 f9 f10
  go_wp2_with fail
  refine (right_ex0 w2 HW2.out).mono ?_
  rintro e w3 ⟨rfl, hb3⟩
  have HB3 := Lib.hid (HB2.out.trans (hb3.mono HB2.out.size))
  clear hb3
  go_wp2
  go_ret
  exact ⟨rfl, HB3.out⟩
end Go.Proofs.YtemhfbfodpeeaaaDoor

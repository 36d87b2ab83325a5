/- What the program and the document's answer say of the words: the number of a text. Conditions: the table of words lies in memory. -/
import Derived.Test.YtjghgpmkepfdhaaGreatDoorZac
namespace Go.Proofs.YtjghgpmkepfdhaaGreatDoor
open Go.RowKit

theorem index70 (k : Nat) (hk : k < 23) (W : World) : (Instr.index 164 (.agg wordVals) (.int .i64 (k : Int))).run Tryz.prog W = .ok (.string (Wd.at_ k)) W := by
  have h := wordVals_at k hk
  have c9 : Tryz.prog.cellsOf 9 = 1 := by kernel_rfl
  simp [Instr.index, run_underlying Tryz.underlying164, go_sem, h]
  omega

theorem finder1_any (s : ByteArray) (b : Nat) (w : World) (hW : WordsIn w) (hb : w.cell? ⟨b, 0, none⟩ = some (.string s)) :
    Calls Tryz.prog 141 #[.pointer (some ⟨b, 0, none⟩)] w fun e w' => e = .returned (.int .i64 (Wd.find s)) ∧ w = w' := by
  obtain ⟨tt, fr, hg1⟩ := hW
  go_enter Tryz.func141, Tryz.ntmps141
  go_wp2_with (refine wpList_load_row rfl 164 _ rfl 0 rfl tt _ fr _ hg1 Tryz.underlying164 rfl (by kernel_rfl) ?_)
  go_loop [5] (fun i => ∃ k : Nat, k ≤ 23 ∧ i = .int .i64 k ∧ Wd.findFrom s k (Wd.wordsL.drop k) = Wd.find s) (fun i => 23 - (intOf i).toNat)
  case atStart => exact ⟨0, by omega, rfl, rfl⟩
  case round =>
    obtain ⟨k, hk, rfl, hr⟩ := hrel
    by_cases hlt : k < 23
    · have hix := index70 k hlt
      have HY := Lib.hid (Wd.find_yes s k hlt hr)
      have HN := Lib.hid (Wd.find_no s k hlt hr)
      clear hr
      go_wp2
      · have h2 : ((Wd.at_ k).toList == s.toList) = true := by assumption
        have HS := Lib.hid (HY.out (str_yes h2))
        go_ret
        exact ⟨by rw [HS.out]; rfl, rfl⟩
      · have h2 : ((Wd.at_ k).toList == s.toList) = false := by assumption
        have HS := Lib.hid (HN.out (str_no h2))
        go_round
        case rel => exact ⟨k + 1, by omega, by go_num, HS.out⟩
        case measure => simp [intOf]; omega
    · have HE := Lib.hid (Wd.find_end s k hlt hr)
      clear hr
      go_wp2
      go_ret
      exact ⟨by rw [HE.out]; rfl, rfl⟩

theorem words_any (w : World) : Calls Tryz.prog 126 #[] w fun e w' => ∃ b, e = .returned (.slice (some ⟨b, 0, none⟩) 23 23) ∧ Below w.heap.size w w' ∧ ∀ k, k < 23 → w'.cell? ⟨b, k, none⟩ = some (.string (Wd.at_ k)) := by
  go_enter Tryz.func126, Tryz.ntmps126
  go_wp2
  go_ret
  refine ⟨w.heap.size, rfl, (Below.refl _ w).alloc (Nat.le_refl _) _, fun k hk => ?_⟩
  have h0 : (w.alloc (.cells wordVals 9)).heap[w.heap.size]? = some (.cells wordVals 9 (0, 0)) := heap_new w _
  have h1 := cell_of_row (w.alloc (.cells wordVals 9)) w.heap.size k wordVals 9 (0, 0) h0
  exact h1.trans (wordVals_at k hk)

theorem finder_any (s : ByteArray) (w : World) : Calls Tryz.prog 115 #[.string s] w fun e w' => ∃ b, e = .returned (.func (.func 141) #[] #[.pointer (some ⟨b, 0, none⟩)]) ∧ Below w.heap.size w w' ∧ w'.cell? ⟨b, 0, none⟩ = some (.string s) := by
  go_enter Tryz.func115, Tryz.ntmps115
  go_wp2
  go_ret
  refine ⟨w.heap.size, rfl, (Below.refl _ w).alloc (Nat.le_refl _) _, ?_⟩
  have h0 : (w.alloc (.cells #[Value.string s] 9)).heap[w.heap.size]? = some (.cells #[Value.string s] 9 (0, 0)) := heap_new w _
  exact cell_of_row (w.alloc (.cells #[Value.string s] 9)) w.heap.size 0 #[Value.string s] 9 (0, 0) h0

theorem find_any (s : ByteArray) (w : World) (hW : WordsIn w) : Calls Tryz.prog 86 #[.string s] w fun e w' => e = .returned (.int .i64 (Wd.find s)) ∧ Below w.heap.size w w' := by
  go_enter Tryz.func86, Tryz.ntmps86
  go_wp2_with fail
  refine (finder_any s _).mono ?_
  rintro e w1 ⟨b, rfl, hb1, hc⟩
  go_wp2_with fail
  refine (finder1_any s b _ (hW.below hb1) hc).mono ?_
  rintro e w2 ⟨rfl, rfl⟩
  go_wp2_with fail
  go_ret
  exact ⟨rfl, hb1⟩

theorem refFind_any (s : ByteArray) (w : World) : Calls Tryz.prog 99 #[.string s] w fun e w' => e = .returned (.int .i64 (Wd.find s)) ∧ Below w.heap.size w w' := by
  go_enter Tryz.func99, Tryz.ntmps99
  go_wp2_with fail
  refine (words_any _).mono ?_
  rintro e w1 ⟨b, rfl, hb1, hc⟩
  go_wp2_with fail
  go_loop [4] (fun i => ∃ k : Nat, k ≤ 23 ∧ i = .int .i64 k ∧ Wd.findFrom s k (Wd.wordsL.drop k) = Wd.find s) (fun i => 23 - (intOf i).toNat)
  case atStart => exact ⟨0, by omega, rfl, rfl⟩
  case round =>
    obtain ⟨k, hk, rfl, hr⟩ := hrel
    by_cases hlt : k < 23
    · have hix := hc k hlt
      have HY := Lib.hid (Wd.find_yes s k hlt hr)
      have HN := Lib.hid (Wd.find_no s k hlt hr)
      clear hr hc
      go_wp2
      · have h2 : ((Wd.at_ k).toList == s.toList) = true := by assumption
        have HS := Lib.hid (HY.out (str_yes h2))
        go_ret
        exact ⟨by rw [HS.out]; rfl, hb1⟩
      · have h2 : ((Wd.at_ k).toList == s.toList) = false := by assumption
        have HS := Lib.hid (HN.out (str_no h2))
        go_round
        case rel => exact ⟨k + 1, by omega, by go_num, HS.out⟩
        case measure => simp [intOf]; omega
    · have HE := Lib.hid (Wd.find_end s k hlt hr)
      clear hr hc
      go_wp2
      go_ret
      exact ⟨by rw [HE.out]; rfl, hb1⟩

end Go.Proofs.YtjghgpmkepfdhaaGreatDoor

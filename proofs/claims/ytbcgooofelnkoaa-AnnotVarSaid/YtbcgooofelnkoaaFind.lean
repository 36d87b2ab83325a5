/- What the program and the document's answer say of the words: the number of a text. Conditions: the table of words lies in memory. -/
import Derived.Test.YtbcgooofelnkoaaBase
namespace Go.Proofs.Ytbcgooofelnkoaa
open Go.RowKit

theorem words_any (w : World) : Calls Try.prog 47 #[] w fun e w' => ∃ b, e = .returned (.slice (some ⟨b, 0, none⟩) 23 23) ∧ Below w.heap.size w w' ∧ ∀ k, k < 23 → w'.cell? ⟨b, k, none⟩ = some (.string (Wd.at_ k)) := by
  go_enter Try.func47, Try.ntmps47
  go_wp2
  go_ret
  refine ⟨w.heap.size, rfl, (Below.refl _ w).alloc (Nat.le_refl _) _, fun k hk => ?_⟩
  have h0 : (w.alloc (.cells wordVals 9)).heap[w.heap.size]? = some (.cells wordVals 9 (0, 0)) := heap_new w _
  have h1 := cell_of_row (w.alloc (.cells wordVals 9)) w.heap.size k wordVals 9 (0, 0) h0
  exact h1.trans (wordVals_at k hk)

theorem refFind_any (s : ByteArray) (w : World) : Calls Try.prog 37 #[.string s] w fun e w' => e = .returned (.int .i64 (Wd.find s)) ∧ Below w.heap.size w w' := by
  go_enter Try.func37, Try.ntmps37
  go_wp2_with fail
  refine (words_any _).mono ?_
  rintro e w1 ⟨b, rfl, hb1, hc⟩
  go_wp2_with fail
  go_loop [4] (fun i => ∃ k : Nat, k ≤ 23 ∧ i = .int .i64 k ∧ Wd.findFrom s k (Wd.wordsL.drop k) = Wd.find s) (fun i => 23 - (intOf i).toNat)
  case atStart => exact ⟨0, by omega, rfl, rfl⟩
  case round =>
    obtain ⟨k, hk, rfl, hr⟩ := hrel
    by_cases hlt : k < 23
    · have hix := hc k hlt
      have HY := Lib.hid (Wd.find_yes s k hlt hr)
      have HN := Lib.hid (Wd.find_no s k hlt hr)
      clear hr hc
      go_wp2
      · have h2 : ((Wd.at_ k).toList == s.toList) = true := by assumption
        have HS := Lib.hid (HY.out (str_yes h2))
        go_ret
        exact ⟨by rw [HS.out]; rfl, hb1⟩
      · have h2 : ((Wd.at_ k).toList == s.toList) = false := by assumption
        have HS := Lib.hid (HN.out (str_no h2))
        go_round
        case rel => exact ⟨k + 1, by omega, by go_num, HS.out⟩
        case measure => simp [intOf]; omega
    · have HE := Lib.hid (Wd.find_end s k hlt hr)
      clear hr hc
      go_wp2
      go_ret
      exact ⟨by rw [HE.out]; rfl, hb1⟩

end Go.Proofs.Ytbcgooofelnkoaa

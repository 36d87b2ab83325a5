/- The three statements' functions return true. Conditions: the tables lie in memory. -/
import Derived.Test.YtenbklkjfebajaaDoorRefName
import Derived.Test.YtenbklkjfebajaaDoorNum
import Derived.Test.YtenbklkjfebajaaDoorDig
namespace Go.Proofs.YtenbklkjfebajaaDoor
open Go.RowKit
open Go.Lib (decDigits itoa)

theorem number_007 (w : World) : Calls Tryd.prog 19 #[.string ⟨#[48, 48, 55]⟩] w fun e w' => e = .returned (.tuple #[.int .i64 0, .bool false]) ∧ w = w' :=
  (number_any ⟨#[48, 48, 55]⟩ w).mono fun e w' ⟨he, hw⟩ => ⟨he.trans (number_loop_no _ (Wd.num_nought _ (by decide) rfl)).symm, hw⟩
theorem find_this (w : World) (hW : WordsIn w) : Calls Tryd.prog 15 #[.string ⟨#[116, 104, 105, 115]⟩] w fun e w' => e = .returned (.int .i64 18) ∧ Below w.heap.size w w' :=
  (find_any ⟨#[116, 104, 105, 115]⟩ w hW).mono fun e w' ⟨he, hw⟩ => ⟨he.trans (by rw [show Wd.find ⟨#[116, 104, 105, 115]⟩ = 18 by decide]; rfl), hw⟩
theorem name_this (w : World) (hW : WordsIn w) : Calls Tryd.prog 13 #[.string ⟨#[116, 104, 105, 115]⟩] w fun e w' => e = .returned (.bool false) ∧ Below w.heap.size w w' :=
  (name_any ⟨#[116, 104, 105, 115]⟩ w hW).mono fun e w' ⟨he, hw⟩ => ⟨he.trans (by rw [show Wd.nameB ⟨#[116, 104, 105, 115]⟩ = false by decide]), hw⟩
theorem name_that (w : World) (hW : WordsIn w) : Calls Tryd.prog 13 #[.string ⟨#[116, 104, 97, 116]⟩] w fun e w' => e = .returned (.bool true) ∧ Below w.heap.size w w' :=
  (name_any ⟨#[116, 104, 97, 116]⟩ w hW).mono fun e w' ⟨he, hw⟩ => ⟨he.trans (by rw [show Wd.nameB ⟨#[116, 104, 97, 116]⟩ = true by decide]), hw⟩

theorem awake_any (w : World) (hW : WordsIn w) : Calls Tryd.prog 6 #[] w fun e w' => e = .returned (.bool true) ∧ Below w.heap.size w w' := by
  go_enter Tryd.func6, Tryd.ntmps6
  go_wp2_with fail
  refine (number_007 _).mono ?_
  rintro e w1 ⟨rfl, rfl⟩
  go_wp2_with fail
  refine (find_this _ hW).mono ?_
  rintro e w1 ⟨rfl, hb1⟩
  go_wp2_with fail
  refine (name_this _ (hW.below hb1)).mono ?_
  rintro e w2 ⟨rfl, hb2⟩
  have hB2 := hb1.trans (hb2.mono hb1.size)
  clear hb2
  go_wp2_with fail
  refine (name_that _ (hW.below hB2)).mono ?_
  rintro e w3 ⟨rfl, hb3⟩
  go_wp2_with fail
  go_ret
  exact ⟨rfl, hB2.trans (hb3.mono hB2.size)⟩

theorem law_tells (x : Int) (s : ByteArray) (n : Int) (w : World) (hW : WordsIn w) :
    Calls Tryd.prog 3 #[.int .u8 x, .string s, .int .i64 n] w fun e w' => e = .returned (.bool true) ∧ Below w.heap.size w w' := by
  by_cases hs : s.size ≤ 100
  · go_enter Tryd.func3, Tryd.ntmps3
    go_wp2_with fail
    refine (letter_any _ _).mono ?_
    rintro e w1 ⟨rfl, rfl⟩
    go_wp2_with fail
    refine (refLetter_any _ _).mono ?_
    rintro e w1 ⟨rfl, rfl⟩
    go_wp2_with fail
    refine (digit_any _ _).mono ?_
    rintro e w1 ⟨rfl, rfl⟩
    go_wp2_with fail
    refine (refDigit_any _ _).mono ?_
    rintro e w1 ⟨rfl, rfl⟩
    go_wp2_with fail
    refine (blank_any _ _).mono ?_
    rintro e w1 ⟨rfl, rfl⟩
    go_wp2_with fail
    refine (refBlank_any _ _).mono ?_
    rintro e w1 ⟨rfl, rfl⟩
    go_wp2_with fail
    refine (name_any s _ hW).mono ?_
    rintro e w1 ⟨rfl, hb1⟩
    go_wp2_with fail
    refine (refName_any s _).mono ?_
    rintro e w2 ⟨rfl, hb2⟩
    have hB2 := hb1.trans (hb2.mono hb1.size)
    clear hb2
    go_wp2_with fail
    refine (find_any s _ (hW.below hB2)).mono ?_
    rintro e w3 ⟨rfl, hb3⟩
    have hB3 := hB2.trans (hb3.mono hB2.size)
    clear hb3
    go_wp2_with fail
    refine (refFind_any s _).mono ?_
    rintro e w4 ⟨rfl, hb4⟩
    have hB4 := hB3.trans (hb4.mono hB3.size)
    clear hb4
    go_wp2_with fail
    refine (word_any n _ (hW.below hB4)).mono ?_
    rintro e w5 ⟨rfl, rfl⟩
    go_wp2_with fail
    refine (refWord_any n _).mono ?_
    rintro e w5 ⟨rfl, hb5⟩
    have hB5 := hB4.trans (hb5.mono hB4.size)
    clear hb5
    go_wp2_with fail
    refine (awake_any _ (hW.below hB5)).mono ?_
    rintro e w6 ⟨rfl, hb6⟩
    have hB6 := hB5.trans (hb6.mono hB5.size)
    clear hb6
    go_wp2_with fail
    go_ret
    exact ⟨rfl, hB6⟩
  · go_enter Tryd.func3, Tryd.ntmps3
    go_wp2_with fail
    refine (awake_any _ hW).mono ?_
    rintro e w1 ⟨rfl, hb1⟩
    go_wp2_with fail
    go_ret
    exact ⟨rfl, hb1⟩

theorem law_number (s : ByteArray) (n : Int) (h0 : -9223372036854775808 ≤ n) (h1 : n ≤ 9223372036854775807) (w : World) (hW : WordsIn w) (hP : PowIn w) :
    Calls Tryd.prog 4 #[.string s, .int .i64 n] w fun e w' => e = .returned (.bool true) ∧ Below w.heap.size w w' := by
  by_cases hs : s.size ≤ 100
  · obtain ⟨i, b, hv⟩ : ∃ (i : Int) (b : Bool), numV s = .tuple #[.int .i64 i, .bool b] := ⟨_, _, rfl⟩
    go_enter Tryd.func4, Tryd.ntmps4
    go_wp2_with fail
    refine (number_any s _).mono ?_
    rintro e w1 ⟨rfl, rfl⟩
    rw [hv]
    go_wp2_with fail
    refine (refNumber_any s _).mono ?_
    rintro e w1 ⟨rfl, rfl⟩
    rw [hv]
    go_wp2_with fail
    refine (digits_any n h0 h1 _ hP).mono ?_
    rintro e w1 ⟨rfl, hb1⟩
    go_wp2_with fail
    refine (refDigits_any n h0 h1 _).mono ?_
    rintro e w2 ⟨rfl, hb2⟩
    have hB2 := hb1.trans (hb2.mono hb1.size)
    clear hb2
    go_wp2_with fail
    refine (awake_any _ (hW.below hB2)).mono ?_
    rintro e w3 ⟨rfl, hb3⟩
    have hB3 := hB2.trans (hb3.mono hB2.size)
    clear hb3
    go_wp2_with fail
    go_ret
    exact ⟨rfl, hB3⟩
  · go_enter Tryd.func4, Tryd.ntmps4
    go_wp2_with fail
    refine (awake_any _ hW).mono ?_
    rintro e w1 ⟨rfl, hb1⟩
    go_wp2_with fail
    go_ret
    exact ⟨rfl, hb1⟩

end Go.Proofs.YtenbklkjfebajaaDoor

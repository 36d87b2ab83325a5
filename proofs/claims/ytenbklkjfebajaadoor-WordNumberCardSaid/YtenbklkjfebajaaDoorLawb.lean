/- The third statement's function returns true. Conditions: the tables lie in memory. -/
import Derived.Test.YtenbklkjfebajaaDoorLaws
namespace Go.Proofs.YtenbklkjfebajaaDoor
open Go.RowKit
open Go.Lib (decDigits itoa)

theorem itoa_nat (u : Nat) : itoa (u : Int) = decDigits u := by
  unfold itoa
  rw [if_neg (by omega), show ((u : Int)).toNat = u by omega]
theorem numV_back (u : Nat) (h : u < 1000000000) : numV ⟨(itoa (u : Int)).toArray⟩ = .tuple #[.int .i64 u, .bool true] := by
  unfold numV
  rw [itoa_nat, Wd.number_dec u h]
  rfl
theorem numV_backI (m : Int) (h0 : 0 ≤ m) (h : m < 1000000000) : numV ⟨(itoa m).toArray⟩ = .tuple #[.int .i64 m, .bool true] := by
  obtain ⟨u, rfl⟩ := Int.eq_ofNat_of_zero_le h0
  exact numV_back u (by omega)
theorem numV_cases (s : ByteArray) : numV s = .tuple #[.int .i64 0, .bool false] ∨ ∃ v : Nat, v ≤ 999999999 ∧ numV s = .tuple #[.int .i64 v, .bool true] ∧ (⟨(itoa (v : Int)).toArray⟩ : ByteArray) = s := by
  unfold numV
  cases h : Wd.number s with
  | none => exact .inl rfl
  | some v =>
    have := Wd.number_back s v h
    exact .inr ⟨v, this.2, rfl, by rw [itoa_nat]; exact this.1⟩

theorem words_good : ∀ k : Fin 23, (Wd.at_ k.val).toList ≠ [] ∧ Wd.find (Wd.at_ k.val) = k.val + 1 ∧ Wd.nameB (Wd.at_ k.val) = false := by decide +kernel

/-- What the statement asks of the word of a number, and of the number of a text: as it stands in the walk. -/
theorem word_facts (n : Int) : (∃ W, Wd.word n = W ∧ (W.toList == []) = true) ∨ (∃ W, Wd.word n = W ∧ (W.toList == []) = false ∧ (Wd.find W : Int) = n ∧ Wd.nameB W = false) := by
  by_cases h : 1 ≤ n ∧ n ≤ 23
  · obtain ⟨k, rfl⟩ : ∃ k : Nat, n = k + 1 := ⟨(n - 1).toNat, by omega⟩
    have hg := words_good ⟨k, by omega⟩
    refine .inr ⟨Wd.at_ k, word_at k (by omega), ?_, ?_, hg.2.2⟩
    · simpa using hg.1
    · have := hg.2.1
      simp only at this
      omega
  · refine .inl ⟨⟨#[]⟩, by unfold Wd.word; rw [if_neg h], by rw [ByteArray.toList_eq]; rfl⟩

set_option maxHeartbeats 1000000 in
theorem law_back (a : Nat) (s : ByteArray) (k : Nat) (hk : k < 256) (w : World) (hW : WordsIn w) (hP : PowIn w) :
    Calls Tryd.prog 5 #[.int .u32 (a : Int), .string s, .int .u8 (k : Int)] w fun e w' => e = .returned (.bool true) ∧ Below w.heap.size w w' := by
  by_cases hs : s.size ≤ 100
  · have HM := Lib.hid (numV_backI ((a : Int) % 1000000000) (by omega) (by omega))
    obtain ⟨x, hx⟩ : ∃ x : Int, x = (Wd.find s : Int) := ⟨_, rfl⟩
    have HX := Lib.hid hx
    have hxs : x = 0 ∨ ((x == 0) = false ∧ Wd.word x = s) := by
      rcases Wd.word_find s with h | h
      · exact .inl (by omega)
      · by_cases e : x = 0
        · exact .inl e
        · exact .inr ⟨by simpa using e, by rw [hx]; exact h⟩
    clear hx
    rcases word_facts ((k : Int) + 1) with ⟨W, hw1, hw2⟩ | ⟨W, hw1, hw2, hw3, hw4⟩
    · have HW := Lib.hid hw1
      clear hw1
      rcases numV_cases s with hv | ⟨v, hv9, hv, hvs⟩
      · have HV := Lib.hid hv
        clear hv
        rcases hxs with rfl | ⟨hx0, hxw⟩
        · go_enter Tryd.func5, Tryd.ntmps5
          go_wp2_with fail
          refine (digits_any _ (by omega) (by omega) _ hP).mono ?_
          rintro e w1 ⟨rfl, hb1⟩
          go_wp2_with fail
          refine (number_any _ _).mono ?_
          rintro e w9 ⟨rfl, rfl⟩
          rw [HM.out]
          go_wp2_with fail
          refine (number_any _ _).mono ?_
          rintro e w9 ⟨rfl, rfl⟩
          rw [HV.out]
          go_wp2_with fail
          refine (word_any _ _ (hW.below hb1)).mono ?_
          rintro e w9 ⟨rfl, rfl⟩
          rw [HW.out]
          go_wp2_with fail
          refine (find_any _ _ (hW.below hb1)).mono ?_
          rintro e w2 ⟨rfl, hc2⟩
          rw [← HX.out]
          have hb2 := hb1.trans (hc2.mono hb1.size)
          clear hc2
          go_wp2_with fail
          refine (awake_any _ (hW.below hb2)).mono ?_
          rintro e w3 ⟨rfl, hc3⟩
          have hb3 := hb2.trans (hc3.mono hb2.size)
          clear hc3
          go_wp2_with fail
          go_ret
          exact ⟨rfl, hb3⟩
        · have HXW := Lib.hid hxw
          clear hxw
          go_enter Tryd.func5, Tryd.ntmps5
          go_wp2_with fail
          refine (digits_any _ (by omega) (by omega) _ hP).mono ?_
          rintro e w1 ⟨rfl, hb1⟩
          go_wp2_with fail
          refine (number_any _ _).mono ?_
          rintro e w9 ⟨rfl, rfl⟩
          rw [HM.out]
          go_wp2_with fail
          refine (number_any _ _).mono ?_
          rintro e w9 ⟨rfl, rfl⟩
          rw [HV.out]
          go_wp2_with fail
          refine (word_any _ _ (hW.below hb1)).mono ?_
          rintro e w9 ⟨rfl, rfl⟩
          rw [HW.out]
          go_wp2_with fail
          refine (find_any _ _ (hW.below hb1)).mono ?_
          rintro e w2 ⟨rfl, hc2⟩
          rw [← HX.out]
          have hb2 := hb1.trans (hc2.mono hb1.size)
          clear hc2
          go_wp2_with fail
          refine (find_any _ _ (hW.below hb2)).mono ?_
          rintro e w3 ⟨rfl, hc3⟩
          rw [← HX.out]
          have hb3 := hb2.trans (hc3.mono hb2.size)
          clear hc3
          go_wp2_with fail
          refine (word_any _ _ (hW.below hb3)).mono ?_
          rintro e w9 ⟨rfl, rfl⟩
          rw [HXW.out]
          go_wp2_with fail
          refine (awake_any _ (hW.below hb3)).mono ?_
          rintro e w4 ⟨rfl, hc4⟩
          have hb4 := hb3.trans (hc4.mono hb3.size)
          clear hc4
          go_wp2_with fail
          go_ret
          exact ⟨rfl, hb4⟩
      · have HV := Lib.hid hv
        clear hv
        have HVS := Lib.hid hvs
        clear hvs
        rcases hxs with rfl | ⟨hx0, hxw⟩
        · go_enter Tryd.func5, Tryd.ntmps5
          go_wp2_with fail
          refine (digits_any _ (by omega) (by omega) _ hP).mono ?_
          rintro e w1 ⟨rfl, hb1⟩
          go_wp2_with fail
          refine (number_any _ _).mono ?_
          rintro e w9 ⟨rfl, rfl⟩
          rw [HM.out]
          go_wp2_with fail
          refine (number_any _ _).mono ?_
          rintro e w9 ⟨rfl, rfl⟩
          rw [HV.out]
          go_wp2_with fail
          refine (word_any _ _ (hW.below hb1)).mono ?_
          rintro e w9 ⟨rfl, rfl⟩
          rw [HW.out]
          go_wp2_with fail
          refine (digits_any _ (by omega) (by omega) _ (hP.below hb1)).mono ?_
          rintro e w2 ⟨rfl, hc2⟩
          rw [HVS.out]
          have hb2 := hb1.trans (hc2.mono hb1.size)
          clear hc2
          go_wp2_with fail
          refine (find_any _ _ (hW.below hb2)).mono ?_
          rintro e w3 ⟨rfl, hc3⟩
          rw [← HX.out]
          have hb3 := hb2.trans (hc3.mono hb2.size)
          clear hc3
          go_wp2_with fail
          refine (awake_any _ (hW.below hb3)).mono ?_
          rintro e w4 ⟨rfl, hc4⟩
          have hb4 := hb3.trans (hc4.mono hb3.size)
          clear hc4
          go_wp2_with fail
          go_ret
          exact ⟨rfl, hb4⟩
        · have HXW := Lib.hid hxw
          clear hxw
          go_enter Tryd.func5, Tryd.ntmps5
          go_wp2_with fail
          refine (digits_any _ (by omega) (by omega) _ hP).mono ?_
          rintro e w1 ⟨rfl, hb1⟩
          go_wp2_with fail
          refine (number_any _ _).mono ?_
          rintro e w9 ⟨rfl, rfl⟩
          rw [HM.out]
          go_wp2_with fail
          refine (number_any _ _).mono ?_
          rintro e w9 ⟨rfl, rfl⟩
          rw [HV.out]
          go_wp2_with fail
          refine (word_any _ _ (hW.below hb1)).mono ?_
          rintro e w9 ⟨rfl, rfl⟩
          rw [HW.out]
          go_wp2_with fail
          refine (digits_any _ (by omega) (by omega) _ (hP.below hb1)).mono ?_
          rintro e w2 ⟨rfl, hc2⟩
          rw [HVS.out]
          have hb2 := hb1.trans (hc2.mono hb1.size)
          clear hc2
          go_wp2_with fail
          refine (find_any _ _ (hW.below hb2)).mono ?_
          rintro e w3 ⟨rfl, hc3⟩
          rw [← HX.out]
          have hb3 := hb2.trans (hc3.mono hb2.size)
          clear hc3
          go_wp2_with fail
          refine (find_any _ _ (hW.below hb3)).mono ?_
          rintro e w4 ⟨rfl, hc4⟩
          rw [← HX.out]
          have hb4 := hb3.trans (hc4.mono hb3.size)
          clear hc4
          go_wp2_with fail
          refine (word_any _ _ (hW.below hb4)).mono ?_
          rintro e w9 ⟨rfl, rfl⟩
          rw [HXW.out]
          go_wp2_with fail
          refine (awake_any _ (hW.below hb4)).mono ?_
          rintro e w5 ⟨rfl, hc5⟩
          have hb5 := hb4.trans (hc5.mono hb4.size)
          clear hc5
          go_wp2_with fail
          go_ret
          exact ⟨rfl, hb5⟩
    · have HW := Lib.hid hw1
      clear hw1
      have HFW := Lib.hid hw3
      have HNW := Lib.hid hw4
      clear hw3 hw4
      rcases numV_cases s with hv | ⟨v, hv9, hv, hvs⟩
      · have HV := Lib.hid hv
        clear hv
        rcases hxs with rfl | ⟨hx0, hxw⟩
        · go_enter Tryd.func5, Tryd.ntmps5
          go_wp2_with fail
          refine (digits_any _ (by omega) (by omega) _ hP).mono ?_
          rintro e w1 ⟨rfl, hb1⟩
          go_wp2_with fail
          refine (number_any _ _).mono ?_
          rintro e w9 ⟨rfl, rfl⟩
          rw [HM.out]
          go_wp2_with fail
          refine (number_any _ _).mono ?_
          rintro e w9 ⟨rfl, rfl⟩
          rw [HV.out]
          go_wp2_with fail
          refine (word_any _ _ (hW.below hb1)).mono ?_
          rintro e w9 ⟨rfl, rfl⟩
          rw [HW.out]
          go_wp2_with fail
          refine (find_any _ _ (hW.below hb1)).mono ?_
          rintro e w2 ⟨rfl, hc2⟩
          rw [HFW.out]
          have hb2 := hb1.trans (hc2.mono hb1.size)
          clear hc2
          go_wp2_with fail
          refine (name_any _ _ (hW.below hb2)).mono ?_
          rintro e w3 ⟨rfl, hc3⟩
          rw [HNW.out]
          have hb3 := hb2.trans (hc3.mono hb2.size)
          clear hc3
          go_wp2_with fail
          refine (find_any _ _ (hW.below hb3)).mono ?_
          rintro e w4 ⟨rfl, hc4⟩
          rw [← HX.out]
          have hb4 := hb3.trans (hc4.mono hb3.size)
          clear hc4
          go_wp2_with fail
          refine (awake_any _ (hW.below hb4)).mono ?_
          rintro e w5 ⟨rfl, hc5⟩
          have hb5 := hb4.trans (hc5.mono hb4.size)
          clear hc5
          go_wp2_with fail
          go_ret
          exact ⟨rfl, hb5⟩
        · have HXW := Lib.hid hxw
          clear hxw
          go_enter Tryd.func5, Tryd.ntmps5
          go_wp2_with fail
          refine (digits_any _ (by omega) (by omega) _ hP).mono ?_
          rintro e w1 ⟨rfl, hb1⟩
          go_wp2_with fail
          refine (number_any _ _).mono ?_
          rintro e w9 ⟨rfl, rfl⟩
          rw [HM.out]
          go_wp2_with fail
          refine (number_any _ _).mono ?_
          rintro e w9 ⟨rfl, rfl⟩
          rw [HV.out]
          go_wp2_with fail
          refine (word_any _ _ (hW.below hb1)).mono ?_
          rintro e w9 ⟨rfl, rfl⟩
          rw [HW.out]
          go_wp2_with fail
          refine (find_any _ _ (hW.below hb1)).mono ?_
          rintro e w2 ⟨rfl, hc2⟩
          rw [HFW.out]
          have hb2 := hb1.trans (hc2.mono hb1.size)
          clear hc2
          go_wp2_with fail
          refine (name_any _ _ (hW.below hb2)).mono ?_
          rintro e w3 ⟨rfl, hc3⟩
          rw [HNW.out]
          have hb3 := hb2.trans (hc3.mono hb2.size)
          clear hc3
          go_wp2_with fail
          refine (find_any _ _ (hW.below hb3)).mono ?_
          rintro e w4 ⟨rfl, hc4⟩
          rw [← HX.out]
          have hb4 := hb3.trans (hc4.mono hb3.size)
          clear hc4
          go_wp2_with fail
          refine (find_any _ _ (hW.below hb4)).mono ?_
          rintro e w5 ⟨rfl, hc5⟩
          rw [← HX.out]
          have hb5 := hb4.trans (hc5.mono hb4.size)
          clear hc5
          go_wp2_with fail
          refine (word_any _ _ (hW.below hb5)).mono ?_
          rintro e w9 ⟨rfl, rfl⟩
          rw [HXW.out]
          go_wp2_with fail
          refine (awake_any _ (hW.below hb5)).mono ?_
          rintro e w6 ⟨rfl, hc6⟩
          have hb6 := hb5.trans (hc6.mono hb5.size)
          clear hc6
          go_wp2_with fail
          go_ret
          exact ⟨rfl, hb6⟩
      · have HV := Lib.hid hv
        clear hv
        have HVS := Lib.hid hvs
        clear hvs
        rcases hxs with rfl | ⟨hx0, hxw⟩
        · go_enter Tryd.func5, Tryd.ntmps5
          go_wp2_with fail
          refine (digits_any _ (by omega) (by omega) _ hP).mono ?_
          rintro e w1 ⟨rfl, hb1⟩
          go_wp2_with fail
          refine (number_any _ _).mono ?_
          rintro e w9 ⟨rfl, rfl⟩
          rw [HM.out]
          go_wp2_with fail
          refine (number_any _ _).mono ?_
          rintro e w9 ⟨rfl, rfl⟩
          rw [HV.out]
          go_wp2_with fail
          refine (word_any _ _ (hW.below hb1)).mono ?_
          rintro e w9 ⟨rfl, rfl⟩
          rw [HW.out]
          go_wp2_with fail
          refine (digits_any _ (by omega) (by omega) _ (hP.below hb1)).mono ?_
          rintro e w2 ⟨rfl, hc2⟩
          rw [HVS.out]
          have hb2 := hb1.trans (hc2.mono hb1.size)
          clear hc2
          go_wp2_with fail
          refine (find_any _ _ (hW.below hb2)).mono ?_
          rintro e w3 ⟨rfl, hc3⟩
          rw [HFW.out]
          have hb3 := hb2.trans (hc3.mono hb2.size)
          clear hc3
          go_wp2_with fail
          refine (name_any _ _ (hW.below hb3)).mono ?_
          rintro e w4 ⟨rfl, hc4⟩
          rw [HNW.out]
          have hb4 := hb3.trans (hc4.mono hb3.size)
          clear hc4
          go_wp2_with fail
          refine (find_any _ _ (hW.below hb4)).mono ?_
          rintro e w5 ⟨rfl, hc5⟩
          rw [← HX.out]
          have hb5 := hb4.trans (hc5.mono hb4.size)
          clear hc5
          go_wp2_with fail
          refine (awake_any _ (hW.below hb5)).mono ?_
          rintro e w6 ⟨rfl, hc6⟩
          have hb6 := hb5.trans (hc6.mono hb5.size)
          clear hc6
          go_wp2_with fail
          go_ret
          exact ⟨rfl, hb6⟩
        · have HXW := Lib.hid hxw
          clear hxw
          go_enter Tryd.func5, Tryd.ntmps5
          go_wp2_with fail
          refine (digits_any _ (by omega) (by omega) _ hP).mono ?_
          rintro e w1 ⟨rfl, hb1⟩
          go_wp2_with fail
          refine (number_any _ _).mono ?_
          rintro e w9 ⟨rfl, rfl⟩
          rw [HM.out]
          go_wp2_with fail
          refine (number_any _ _).mono ?_
          rintro e w9 ⟨rfl, rfl⟩
          rw [HV.out]
          go_wp2_with fail
          refine (word_any _ _ (hW.below hb1)).mono ?_
          rintro e w9 ⟨rfl, rfl⟩
          rw [HW.out]
          go_wp2_with fail
          refine (digits_any _ (by omega) (by omega) _ (hP.below hb1)).mono ?_
          rintro e w2 ⟨rfl, hc2⟩
          rw [HVS.out]
          have hb2 := hb1.trans (hc2.mono hb1.size)
          clear hc2
          go_wp2_with fail
          refine (find_any _ _ (hW.below hb2)).mono ?_
          rintro e w3 ⟨rfl, hc3⟩
          rw [HFW.out]
          have hb3 := hb2.trans (hc3.mono hb2.size)
          clear hc3
          go_wp2_with fail
          refine (name_any _ _ (hW.below hb3)).mono ?_
          rintro e w4 ⟨rfl, hc4⟩
          rw [HNW.out]
          have hb4 := hb3.trans (hc4.mono hb3.size)
          clear hc4
          go_wp2_with fail
          refine (find_any _ _ (hW.below hb4)).mono ?_
          rintro e w5 ⟨rfl, hc5⟩
          rw [← HX.out]
          have hb5 := hb4.trans (hc5.mono hb4.size)
          clear hc5
          go_wp2_with fail
          refine (find_any _ _ (hW.below hb5)).mono ?_
          rintro e w6 ⟨rfl, hc6⟩
          rw [← HX.out]
          have hb6 := hb5.trans (hc6.mono hb5.size)
          clear hc6
          go_wp2_with fail
          refine (word_any _ _ (hW.below hb6)).mono ?_
          rintro e w9 ⟨rfl, rfl⟩
          rw [HXW.out]
          go_wp2_with fail
          refine (awake_any _ (hW.below hb6)).mono ?_
          rintro e w7 ⟨rfl, hc7⟩
          have hb7 := hb6.trans (hc7.mono hb6.size)
          clear hc7
          go_wp2_with fail
          go_ret
          exact ⟨rfl, hb7⟩
  · go_enter Tryd.func5, Tryd.ntmps5
    go_wp2_with fail
    refine (awake_any _ hW).mono ?_
    rintro e w1 ⟨rfl, hb1⟩
    go_wp2_with fail
    go_ret
    exact ⟨rfl, hb1⟩

end Go.Proofs.YtenbklkjfebajaaDoor

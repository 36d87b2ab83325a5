/- What the program and the document's answer say of names and numbers. Conditions: the table of words lies in memory. -/
import Derived.Test.YtjghgpmkepfdhaaGreatDoorZan
namespace Go.Proofs.YtjghgpmkepfdhaaGreatDoor
open Go.RowKit

theorem okB_no {b : UInt8} (h1 : Wd.isLetter (b.toNat : Int) = false) (h2 : Wd.isDigit (b.toNat : Int) = false) : Wd.okB b = false := by
  unfold Wd.okB; rw [h1, h2]; rfl
theorem okB_l {b : UInt8} (h1 : Wd.isLetter (b.toNat : Int) = true) : Wd.okB b = true := by
  unfold Wd.okB; rw [h1]; rfl
theorem okB_d {b : UInt8} (h2 : Wd.isDigit (b.toNat : Int) = true) : Wd.okB b = true := by
  unfold Wd.okB; rw [h2]; simp

set_option maxHeartbeats 400000 in
theorem name_any (s : ByteArray) (w : World) (hW : WordsIn w) : Calls Tryz.prog 48 #[.string s] w fun e w' => e = .returned (.bool (Wd.nameB s)) ∧ Below w.heap.size w w' := by
  by_cases hlen : s.size < 1 ∨ 20 < s.size
  · have HN := Lib.hid (Wd.name_len s hlen)
    rcases hlen with h | h
    · go_enter Tryz.func48, Tryz.ntmps48
      go_wp2
      go_ret
      exact ⟨by rw [HN.out]; rfl, Below.refl _ _⟩
    · go_enter Tryz.func48, Tryz.ntmps48
      go_wp2
      go_ret
      exact ⟨by rw [HN.out]; rfl, Below.refl _ _⟩
  · have h1 : 1 ≤ s.size := by omega
    have h2 : s.size ≤ 20 := by omega
    clear hlen
    by_cases hf : Wd.isLetter (s[0].toNat : Int) = true
    · have HO := Lib.hid (Wd.name_ok s h1 h2 hf)
      have HF := Lib.hid hf
      go_enter Tryz.func48, Tryz.ntmps48
      go_wp2_with fail
      refine (letter_any _ _).mono ?_
      rintro e w1 ⟨rfl, rfl⟩
      rw [HF.out]
      go_wp2_with fail
      go_loop [3] (fun i => ∃ k : Nat, k ≤ s.size ∧ 1 ≤ k ∧ i = .int .i64 k ∧ Hid (∀ j, (h : j < s.size) → j < k → Wd.okB s[j] = true)) (fun i => s.size - (intOf i).toNat)
      case atStart =>
        refine ⟨1, h1, by omega, rfl, fun j hj hj1 => ?_⟩
        obtain rfl : j = 0 := by omega
        exact okB_l HF.out
      case round =>
        obtain ⟨k, hk, hk1, rfl, hr⟩ := hrel
        by_cases hlt : k < s.size
        · by_cases hl : Wd.isLetter (s[k].toNat : Int) = true
          · have HL := Lib.hid hl
            clear hl
            go_wp2_with fail
            refine (letter_any _ _).mono ?_
            rintro e w1 ⟨rfl, rfl⟩
            rw [HL.out]
            go_wp2
            go_round
            case rel =>
              refine ⟨k + 1, by omega, by omega, by go_num, fun j hj hj1 => ?_⟩
              by_cases e : j = k
              · subst e; exact okB_l HL.out
              · exact hr.out j hj (by omega)
            case measure => simp [intOf]; omega
          · have hl0 : Wd.isLetter (s[k].toNat : Int) = false := by simpa using hl
            have HL := Lib.hid hl0
            clear hl hl0
            by_cases hd : Wd.isDigit (s[k].toNat : Int) = true
            · have HD := Lib.hid hd
              clear hd
              go_wp2_with fail
              refine (letter_any _ _).mono ?_
              rintro e w1 ⟨rfl, rfl⟩
              rw [HL.out]
              go_wp2_with fail
              refine (digit_any _ _).mono ?_
              rintro e w1 ⟨rfl, rfl⟩
              rw [HD.out]
              go_wp2
              go_round
              case rel =>
                refine ⟨k + 1, by omega, by omega, by go_num, fun j hj hj1 => ?_⟩
                by_cases e : j = k
                · subst e; exact okB_d HD.out
                · exact hr.out j hj (by omega)
              case measure => simp [intOf]; omega
            · have hd0 : Wd.isDigit (s[k].toNat : Int) = false := by simpa using hd
              have HD := Lib.hid hd0
              clear hd hd0
              have HN := Lib.hid (Wd.name_at s k hlt (okB_no HL.out HD.out))
              go_wp2_with fail
              refine (letter_any _ _).mono ?_
              rintro e w1 ⟨rfl, rfl⟩
              rw [HL.out]
              go_wp2_with fail
              refine (digit_any _ _).mono ?_
              rintro e w1 ⟨rfl, rfl⟩
              rw [HD.out]
              go_wp2
              go_ret
              exact ⟨by rw [HN.out]; rfl, Below.refl _ _⟩
        · have HA := Lib.hid (HO.out (fun j hj => hr.out j hj (by omega)))
          go_wp2_with fail
          refine (find_any s _ hW).mono ?_
          rintro e w1 ⟨rfl, hb1⟩
          go_wp2
          go_ret
          exact ⟨by rw [HA.out]; exact ret_b (by simp), hb1⟩
    · have hf0 : Wd.isLetter (s[0].toNat : Int) = false := by simpa using hf
      have HF := Lib.hid hf0
      clear hf hf0
      have HN := Lib.hid (Wd.name_first s h1 HF.out)
      go_enter Tryz.func48, Tryz.ntmps48
      go_wp2_with fail
      refine (letter_any _ _).mono ?_
      rintro e w1 ⟨rfl, rfl⟩
      rw [HF.out]
      go_wp2
      go_ret
      exact ⟨by rw [HN.out]; rfl, Below.refl _ _⟩

end Go.Proofs.YtjghgpmkepfdhaaGreatDoor

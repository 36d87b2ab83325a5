/- What the document's answer says of names; what the program and the document's answer say of numbers. Conditions: none. -/
import Derived.Test.YtjghgpmkepfdhaaGreatDoorZao
namespace Go.Proofs.YtjghgpmkepfdhaaGreatDoor
open Go.RowKit

theorem find_cast (s : ByteArray) : ∃ x : Int, x = (Wd.find s : Int) := ⟨_, rfl⟩

set_option maxHeartbeats 400000 in
theorem refName_any (s : ByteArray) (w : World) : Calls Tryz.prog 56 #[.string s] w fun e w' => e = .returned (.bool (Wd.nameB s)) ∧ Below w.heap.size w w' := by
  by_cases hlen : s.size < 1 ∨ 20 < s.size
  · have HN := Lib.hid (Wd.name_len s hlen)
    rcases hlen with h | h
    · go_enter Tryz.func56, Tryz.ntmps56
      go_wp2
      go_ret
      exact ⟨by rw [HN.out]; rfl, Below.refl _ _⟩
    · go_enter Tryz.func56, Tryz.ntmps56
      go_wp2
      go_ret
      exact ⟨by rw [HN.out]; rfl, Below.refl _ _⟩
  · have h1 : 1 ≤ s.size := by omega
    have h2 : s.size ≤ 20 := by omega
    clear hlen
    by_cases hf : Wd.isLetter (s[0].toNat : Int) = true
    · have HO := Lib.hid (Wd.name_ok s h1 h2 hf)
      have HF := Lib.hid hf
      clear hf
      obtain ⟨x, hx⟩ := find_cast s
      have HX := Lib.hid hx
      have hx0 : 0 ≤ x := by omega
      clear hx
      by_cases hz : x = 0
      · subst hz
        go_enter Tryz.func56, Tryz.ntmps56
        go_wp2_with fail
        refine (refLetter_any _ _).mono ?_
        rintro e w1 ⟨rfl, rfl⟩
        rw [HF.out]
        go_wp2_with fail
        refine (refFind_any s _).mono ?_
        rintro e w1 ⟨rfl, hb1⟩
        rw [← HX.out]
        go_wp2_with fail
        go_loop [3] (fun i => ∃ k : Nat, k ≤ s.size ∧ i = .int .i64 k ∧ Hid (∀ j, (h : j < s.size) → j < k → Wd.okB s[j] = true)) (fun i => s.size - (intOf i).toNat)
        case atStart => exact ⟨0, by omega, rfl, fun j hj hj1 => by omega⟩
        case round =>
          obtain ⟨k, hk, rfl, hr⟩ := hrel
          by_cases hlt : k < s.size
          · by_cases hl : Wd.isLetter (s[k].toNat : Int) = true
            · have HL := Lib.hid hl
              clear hl
              go_wp2_with fail
              refine (refLetter_any _ _).mono ?_
              rintro e w2 ⟨rfl, rfl⟩
              rw [HL.out]
              go_wp2
              go_round
              case rel =>
                refine ⟨k + 1, by omega, by go_num, fun j hj hj1 => ?_⟩
                by_cases e : j = k
                · subst e; exact okB_l HL.out
                · exact hr.out j hj (by omega)
              case measure => simp [intOf]; omega
            · have hl0 : Wd.isLetter (s[k].toNat : Int) = false := by simpa using hl
              have HL := Lib.hid hl0
              clear hl hl0
              by_cases hd : Wd.isDigit (s[k].toNat : Int) = true
              · have HD := Lib.hid hd
                clear hd
                go_wp2_with fail
                refine (refLetter_any _ _).mono ?_
                rintro e w2 ⟨rfl, rfl⟩
                rw [HL.out]
                go_wp2_with fail
                refine (refDigit_any _ _).mono ?_
                rintro e w2 ⟨rfl, rfl⟩
                rw [HD.out]
                go_wp2
                go_round
                case rel =>
                  refine ⟨k + 1, by omega, by go_num, fun j hj hj1 => ?_⟩
                  by_cases e : j = k
                  · subst e; exact okB_d HD.out
                  · exact hr.out j hj (by omega)
                case measure => simp [intOf]; omega
              · have hd0 : Wd.isDigit (s[k].toNat : Int) = false := by simpa using hd
                have HD := Lib.hid hd0
                clear hd hd0
                have HN := Lib.hid (Wd.name_at s k hlt (okB_no HL.out HD.out))
                go_wp2_with fail
                refine (refLetter_any _ _).mono ?_
                rintro e w2 ⟨rfl, rfl⟩
                rw [HL.out]
                go_wp2_with fail
                refine (refDigit_any _ _).mono ?_
                rintro e w2 ⟨rfl, rfl⟩
                rw [HD.out]
                go_wp2
                go_ret
                exact ⟨by rw [HN.out]; rfl, hb1⟩
          · have HA := Lib.hid (HO.out (fun j hj => hr.out j hj (by omega)))
            go_wp2
            go_ret
            refine ⟨?_, hb1⟩
            have h0 : Wd.find s = 0 := by have := HX.out; omega
            rw [HA.out, h0]; rfl
      · have hxp : 0 < x := by omega
        have HN := Lib.hid (Wd.name_word s (by have := HX.out; omega))
        go_enter Tryz.func56, Tryz.ntmps56
        go_wp2_with fail
        refine (refLetter_any _ _).mono ?_
        rintro e w1 ⟨rfl, rfl⟩
        rw [HF.out]
        go_wp2_with fail
        refine (refFind_any s _).mono ?_
        rintro e w1 ⟨rfl, hb1⟩
        rw [← HX.out]
        go_wp2
        go_ret
        exact ⟨by rw [HN.out]; rfl, hb1⟩
    · have hf0 : Wd.isLetter (s[0].toNat : Int) = false := by simpa using hf
      have HF := Lib.hid hf0
      clear hf hf0
      have HN := Lib.hid (Wd.name_first s h1 HF.out)
      go_enter Tryz.func56, Tryz.ntmps56
      go_wp2_with fail
      refine (refLetter_any _ _).mono ?_
      rintro e w1 ⟨rfl, rfl⟩
      rw [HF.out]
      go_wp2
      go_ret
      exact ⟨by rw [HN.out]; rfl, Below.refl _ _⟩

end Go.Proofs.YtjghgpmkepfdhaaGreatDoor
